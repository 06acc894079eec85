/- Own work: the document's fine and Texts. -/
import Derived.Test.YtabdgocfbmcobaaHunkMem
namespace Go.Proofs.Ytabdgocfbmcobaa
open Go.RowKit

set_option maxHeartbeats 1000000 in
theorem fine_any (s : ByteArray) (w : World) (hs : s.size ≤ maxLen) :
    Calls Try.prog 32 #[.string s] w fun e w' => e = .returned (.bool (isText s)) ∧ w = w' := by
  unfold maxLen at hs
  by_cases h1 : s.size ≤ 256
  · go_enter Try.func32, Try.ntmps32
    go_wp2_with fail
    go_loopw [3] (fun i wr => ∃ k : Nat, k ≤ s.size ∧ i = .int .i64 k ∧ wr = w ∧ (∀ (j : Nat) (hj : j < s.size), j < k → ((s[j]'hj).toNat : Int) ≠ 10)) (fun i _ => s.size - (intOf i).toNat)
    case atStart => exact ⟨0, Nat.zero_le _, rfl, rfl, by intro j _ h; omega⟩
    case round =>
      obtain ⟨k, hk, rfl, rfl, hall⟩ := hrel
      have Hall := Lib.hid hall
      clear hall
      by_cases hlt : k < s.size
      · have hb : (s[k]'hlt).toNat < 256 := (s[k]'hlt).toNat_lt
        by_cases hc : ((s[k]'hlt).toNat : Int) = 10
        · have HC := Lib.hid (isText_at s k hlt hc)
          go_wp2_with fail
          go_ret
          exact ⟨retBool HC.out.symm, rfl⟩
        · have HC := Lib.hid hc
          go_wp2_with fail
          go_roundw
          case rel =>
            refine ⟨k + 1, by omega, by go_num, trivial, fun j hj hjk => ?_⟩
            by_cases e : j = k
            · subst e
              exact HC.out
            · exact Hall.out j hj (by omega)
          case measure => simp [intOf]; omega
      · have HT := Lib.hid (isText_all s fun j hj => Hall.out j hj (by omega))
        go_wp2_with fail
        go_ret
        exact ⟨retBool (by rw [HT.out]; simp [h1]), rfl⟩
  · go_enter Try.func32, Try.ntmps32
    go_wp2_with fail
    go_ret
    exact ⟨retBool (by simp [isText, h1]), rfl⟩
set_option maxRecDepth 100000 in
set_option maxHeartbeats 4000000 in
theorem texts08_any (u v : Value) (a b : List ByteArray) (w : World) (hu : Texts w u a) (hv : Texts w v b) :
    Calls Try.prog 16 #[u, v] w fun e w' => e = .returned (.bool (decide (a = b))) ∧ ∃ q, w' = w.drewN q := by
  by_cases hl : a.length = b.length
  · rcases hu with ⟨ao, cap, rfl, rfl⟩ | ⟨bu, ou, cu, rfl, hpu, huc, hum, hcu⟩
    · have hb0 : b = [] := List.eq_nil_of_length_eq_zero hl.symm
      subst hb0
      rcases hv with ⟨bo, cap', rfl, _⟩ | ⟨bv, ov, cv, rfl, hpv, _⟩
      · go_enter Try.func16, Try.ntmps16
        go_wp2
        go_loop [5] (fun i => i = .int .i64 0) (fun _ => 0)
        case atStart => rfl
        case round =>
          subst hrel
          go_wp2
          go_ret
          exact ⟨retBool (by simp), 0, rfl⟩
      · simp at hpv
    · rcases hv with ⟨bo, cap', rfl, rfl⟩ | ⟨bv, ov, cv, rfl, hpv, hvc, hvm, hcv⟩
      · simp only [List.length_nil] at hl; omega
      · obtain ⟨n, hn⟩ : ∃ n, a.length = n := ⟨_, rfl⟩
        have hn' : b.length = n := by omega
        have Hn := Lib.hid hn
        have Hn' := Lib.hid hn'
        have Hcu := Lib.hid hcu
        have Hcv := Lib.hid hcv
        rw [hn] at hpu huc ⊢
        rw [hn'] at hpv hvc ⊢
        clear hn hn' hcu hcv hl
        unfold maxLen at hum hvm
        go_enter Try.func16, Try.ntmps16
        go_wp2
        go_loopw [5] (fun i wr => ∃ k : Nat, k ≤ n ∧ i = .int .i64 k ∧ (∀ (j : Nat) (ha : j < a.length) (hb : j < b.length), j < k → a[j] = b[j]) ∧ ∃ q, wr = w.drewN q) (fun i _ => n - (intOf i).toNat)
        case atStart => exact ⟨0, Nat.zero_le _, rfl, by intro j _ _ h; omega, 0, rfl⟩
        case round =>
          obtain ⟨k, hk, rfl, hall, q, rfl⟩ := hrel
          have Hall := Lib.hid hall
          clear hall
          by_cases hlt : k < n
          · have hka : k < a.length := by have := Hn.out; omega
            have hkb : k < b.length := by have := Hn'.out; omega
            have c1 : w.cell? ⟨bu, ou + k, none⟩ = some (.string (a[k]'hka)) := Hcu.out k hka
            have c2 : w.cell? ⟨bv, ov + k, none⟩ = some (.string (b[k]'hkb)) := Hcv.out k hkb
            have heq := bytes_eq (a := a[k]'hka) (b := b[k]'hkb)
            have Heq := Lib.hid heq
            clear heq
            obtain ⟨x, hx⟩ : ∃ x, a[k]'hka = x := ⟨_, rfl⟩
            obtain ⟨y, hy⟩ : ∃ y, b[k]'hkb = y := ⟨_, rfl⟩
            have Hx := Lib.hid hx
            have Hy := Lib.hid hy
            rw [hx] at c1
            rw [hy] at c2
            have hi0 : (0 : Int) ≤ (k : Int) := by omega
            have hi1 : (k : Int) < (n : Int) := by omega
            clear hx hy
            go_wp2
            go_quiet (fail)
            go_wp2
            · have h1 : (!x.toList == y.toList) = true := by assumption
              have hne : ¬ a = b := list_ne_at k hka hkb (by rw [Hx.out, Hy.out]; rw [← Hx.out, ← Hy.out, Heq.out, Hx.out, Hy.out] at h1; simpa using h1)
              have HF := Lib.hid (show decide (a = b) = false by simpa using hne)
              clear hne
              go_ret
              exact ⟨retBool HF.out.symm, _, World.drewN_drewN ..⟩
            · have h1 : (!x.toList == y.toList) = false := by assumption
              have he : x = y := by rw [← Hx.out, ← Hy.out, Heq.out, Hx.out, Hy.out] at h1; simpa using h1
              have He := Lib.hid he
              clear he
              go_roundw
              case rel =>
                refine ⟨k + 1, by omega, by go_num, fun j ha hb hjk => ?_, _, rfl⟩
                by_cases e : j = k
                · subst e
                  rw [Hx.out, Hy.out]; exact He.out
                · exact Hall.out j ha hb (by omega)
              case measure => simp [intOf]; omega
          · go_wp2
            go_ret
            exact ⟨retBool (by rw [decide_eq_true (list_eq_all (by rw [Hn.out, Hn'.out]) fun j ha hb => Hall.out j ha hb (by have := Hn.out; omega))]), _, rfl⟩
  · have hne : ¬ a = b := fun e => hl (by rw [e])
    have HF := Lib.hid (show decide (a = b) = false by simpa using hne)
    obtain ⟨m, hm⟩ : ∃ m, a.length = m := ⟨_, rfl⟩
    obtain ⟨n, hn⟩ : ∃ n, b.length = n := ⟨_, rfl⟩
    have hmn : ((m : Int) != (n : Int)) = true := by rw [bne_iff_ne]; omega
    have hu' : ∃ ao cap, u = .slice ao m cap := by
      rcases hu with ⟨ao, cap, rfl, rfl⟩ | ⟨bu, ou, cu, rfl, _⟩
      · simp at hm; subst hm; exact ⟨_, _, rfl⟩
      · rw [hm]; exact ⟨_, _, rfl⟩
    have hv' : ∃ ao cap, v = .slice ao n cap := by
      rcases hv with ⟨ao, cap, rfl, rfl⟩ | ⟨bu, ou, cu, rfl, _⟩
      · simp at hn; subst hn; exact ⟨_, _, rfl⟩
      · rw [hn]; exact ⟨_, _, rfl⟩
    obtain ⟨_, _, rfl⟩ := hu'
    obtain ⟨_, _, rfl⟩ := hv'
    clear hu hv hm hn hl hne
    go_enter Try.func16, Try.ntmps16
    go_wp2
    go_ret
    exact ⟨retBool HF.out.symm, 0, rfl⟩
end Go.Proofs.Ytabdgocfbmcobaa
