import Derived.Test.YtgchcgllpceghaaLabBase
namespace Go.Proofs.Ytgchcgllpceghaa
open Go.RowKit

set_option maxRecDepth 100000 in
set_option maxHeartbeats 4000000 in
theorem sameNumbers_any (u v : Value) (a b : List Int) (w : World) (hu : Nums .i64 w u a) (hv : Nums .i64 w v b) :
    Calls Try.prog 19 #[u, v] w fun e w' => e = .returned (.bool (decide (a = b))) ∧ Below w.heap.size w w' := by
  obtain ⟨uo, uc, ub, uof, rfl, huo, hum, hcu⟩ := hu.form
  obtain ⟨vo, vc, vb, vof, rfl, hvo, hvm, hcv⟩ := hv.form
  have Huo := Lib.hid huo
  have Hvo := Lib.hid hvo
  have Hcu := Lib.hid hcu
  have Hcv := Lib.hid hcv
  clear hu hv huo hvo hcu hcv
  by_cases hl : a.length = b.length
  · obtain ⟨n, hn⟩ : ∃ n, a.length = n := ⟨_, rfl⟩
    have hn' : b.length = n := by omega
    have Hn := Lib.hid hn
    have Hn' := Lib.hid hn'
    rw [hn] at hum ⊢
    rw [hn'] at hvm ⊢
    clear hn hn' hl
    unfold maxLen at hum hvm
    go_enter Try.func19, Try.ntmps19
    go_wp2
    go_loopw [5] (fun i wr => ∃ k : Nat, k ≤ n ∧ i = .int .i64 k ∧ Hid (∀ (j : Nat) (ha : j < a.length) (hb : j < b.length), j < k → a[j] = b[j]) ∧ ∃ q, wr = w.drewN q) (fun i _ => n - (intOf i).toNat)
    case atStart => exact ⟨0, Nat.zero_le _, rfl, fun j _ _ h => by omega, 0, rfl⟩
    case round =>
      obtain ⟨k, hk, rfl, Hall, q, rfl⟩ := hrel
      by_cases hlt : k < n
      · have hka : k < a.length := by have := Hn.out; omega
        have hkb : k < b.length := by have := Hn'.out; omega
        obtain rfl := Huo.out (by omega)
        obtain rfl := Hvo.out (by omega)
        have c1 := Hcu.out k hka
        have c2 := Hcv.out k hkb
        obtain ⟨x, hx⟩ : ∃ x, a[k]'hka = x := ⟨_, rfl⟩
        obtain ⟨y, hy⟩ : ∃ y, b[k]'hkb = y := ⟨_, rfl⟩
        have Hx := Lib.hid hx
        have Hy := Lib.hid hy
        rw [hx] at c1
        rw [hy] at c2
        have hi0 : (0 : Int) ≤ (k : Int) := by omega
        have hi1 : (k : Int) < (n : Int) := by omega
        clear hx hy
        by_cases he : x = y
        · have He : Hid (a[k]'hka = b[k]'hkb) := by show _ = _; rw [Hx.out, Hy.out, he]
          have hne : (x != y) = false := by simp [he]
          clear he
          go_wp2
          go_quiet (fail)
          go_wp2
          go_roundw
          case rel =>
            refine ⟨k + 1, by omega, by go_num, fun j ha hb hjk => ?_, _, rfl⟩
            by_cases e : j = k
            · subst e
              exact He.out
            · exact Hall.out j ha hb (by omega)
          case measure => simp [intOf]; omega
        · have HF := Lib.hid (show decide (a = b) = false by simpa using list_ne_at k hka hkb (by rw [Hx.out, Hy.out]; exact he))
          have hne : (x != y) = true := by simpa using he
          clear he
          go_wp2
          go_quiet (fail)
          go_wp2
          go_ret
          exact ⟨retBool HF.out.symm, below_drewN (below_drewN (Below.refl _ _) _) _⟩
      · go_wp2
        go_ret
        exact ⟨retBool (by rw [decide_eq_true (list_eq_all (by rw [Hn.out, Hn'.out]) fun j ha hb => Hall.out j ha hb (by have := Hn.out; omega))]), below_drewN (Below.refl _ _) _⟩
  · have HF := Lib.hid (show decide (a = b) = false by simpa using fun e : a = b => hl (by rw [e]))
    obtain ⟨m, hm⟩ : ∃ m, a.length = m := ⟨_, rfl⟩
    obtain ⟨n, hn⟩ : ∃ n, b.length = n := ⟨_, rfl⟩
    have hmn : ((m : Int) != (n : Int)) = true := by rw [bne_iff_ne]; omega
    rw [hm, hn]
    clear hm hn hl
    go_enter Try.func19, Try.ntmps19
    go_wp2
    go_ret
    exact ⟨retBool HF.out.symm, Below.refl _ _⟩
end Go.Proofs.Ytgchcgllpceghaa
