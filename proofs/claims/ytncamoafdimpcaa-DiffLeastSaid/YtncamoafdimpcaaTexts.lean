import Derived.Test.YtncamoafdimpcaaBase
import Derived.Lib.SmallJoins
import Derived.Deep.Draws
namespace Go.Proofs.Ytncamoafdimpcaa
open Go.RowKit

/-- v is a slice that holds these texts -/
def Texts (w : World) (v : Value) (ss : List ByteArray) : Prop :=
  (∃ ao cap, v = .slice ao 0 cap ∧ ss = []) ∨
  ∃ b o cap, v = .slice (some ⟨b, o, none⟩) ss.length cap ∧ 0 < ss.length ∧ ss.length ≤ cap ∧ cap ≤ maxLen ∧ ∀ (i : Nat) (h : i < ss.length), w.cell? ⟨b, o + i, none⟩ = some (.string (ss[i]'h))

theorem Texts.form {w : World} {v : Value} {ss : List ByteArray} (h : Texts w v ss) : ∃ ao cap b o, v = .slice ao ss.length cap ∧ (0 < ss.length → ao = some ⟨b, o, none⟩) ∧ ss.length ≤ maxLen ∧ ∀ (i : Nat) (h : i < ss.length), w.cell? ⟨b, o + i, none⟩ = some (.string (ss[i]'h)) := by
  rcases h with ⟨ao, cap, h1, rfl⟩ | ⟨b, o, cap, h1, _, h3, h4, h5⟩
  · exact ⟨ao, cap, 0, 0, h1, fun h => absurd h (by simp), Nat.zero_le _, fun i h => absurd h (by simp)⟩
  · exact ⟨_, cap, b, o, h1, fun _ => rfl, Nat.le_trans h3 h4, h5⟩
theorem Texts.kept {w w' : World} {v : Value} {ss : List ByteArray} (h : Texts w v ss) (hb : Below w.heap.size w w') : Texts w' v ss := by
  rcases h with h | ⟨b, o, cap, h1, h2, h3, h4, h5⟩
  · exact .inl h
  · exact .inr ⟨b, o, cap, h1, h2, h3, h4, fun i hi => cell_kept hb (h5 i hi)⟩
theorem Texts.of_own {w : World} {base : Nat} {e : TypeId} {v : Value} {n : Nat} {ss : List ByteArray} (h : w.ownsRow base e 1 v n (ss.map Value.string)) : Texts w v ss := by
  have hn : ss.length = n := by have := h.1; simpa using this
  by_cases h0 : 0 < n
  · obtain ⟨g, cap, rfl⟩ := Joins.ownsRow_form h h0
    rcases h.2 with ⟨_, hz⟩ | ⟨g', cap', cur, hv, _, _, hnc, hcm, _, _⟩
    · omega
    · cases hv
      refine .inr ⟨g, 0, cap, by rw [hn], by omega, by omega, hcm, fun i hi => ?_⟩
      rw [Nat.zero_add, h.cellAt i (by omega)]
      rw [List.getElem?_map, List.getElem?_eq_getElem hi]
      rfl
  · have hz : ss = [] := List.eq_nil_of_length_eq_zero (by omega)
    rcases Joins.ownsRow_forms h with ⟨hv, _⟩ | ⟨g, cap, hv⟩
    · exact .inl ⟨_, _, hv, hz⟩
    · obtain rfl : n = 0 := by omega
      exact .inl ⟨_, _, hv, hz⟩

theorem bytes_eq {a b : ByteArray} : (a.toList == b.toList) = decide (a = b) := by
  rw [Lib.toList_data, Lib.toList_data, Bool.eq_iff_iff, beq_iff_eq, decide_eq_true_eq]
  constructor
  · intro h
    exact ByteArray.ext (Array.toList_inj.1 h)
  · intro h; rw [h]


set_option maxRecDepth 100000 in
set_option maxHeartbeats 4000000 in
theorem sameTexts_any (u v : Value) (a b : List ByteArray) (w : World) (hu : Texts w u a) (hv : Texts w v b) :
    Calls Try.prog 29 #[u, v] w fun e w' => e = .returned (.bool (decide (a = b))) ∧ Below w.heap.size w w' := by
  by_cases hl : a.length = b.length
  · rcases hu with ⟨ao, cap, rfl, rfl⟩ | ⟨bu, ou, cu, rfl, hpu, huc, hum, hcu⟩
    · have hb0 : b = [] := List.eq_nil_of_length_eq_zero hl.symm
      subst hb0
      rcases hv with ⟨bo, cap', rfl, _⟩ | ⟨bv, ov, cv, rfl, hpv, _⟩
      · go_enter Try.func29, Try.ntmps29
        go_wp2
        go_loop [5] (fun i => i = .int .i64 0) (fun _ => 0)
        case atStart => rfl
        case round =>
          subst hrel
          go_wp2
          go_ret
          exact ⟨retBool (by simp), Below.refl _ _⟩
      · simp at hpv
    · rcases hv with ⟨bo, cap', rfl, rfl⟩ | ⟨bv, ov, cv, rfl, hpv, hvc, hvm, hcv⟩
      · simp only [List.length_nil] at hl; omega
      · obtain ⟨n, hn⟩ : ∃ n, a.length = n := ⟨_, rfl⟩
        have hn' : b.length = n := by omega
        have Hn := Lib.hid hn
        have Hn' := Lib.hid hn'
        have Hcu := Lib.hid hcu
        have Hcv := Lib.hid hcv
        rw [hn] at hpu huc ⊢
        rw [hn'] at hpv hvc ⊢
        clear hn hn' hcu hcv hl
        unfold maxLen at hum hvm
        go_enter Try.func29, Try.ntmps29
        go_wp2
        go_loopw [5] (fun i wr => ∃ k : Nat, k ≤ n ∧ i = .int .i64 k ∧ (∀ (j : Nat) (ha : j < a.length) (hb : j < b.length), j < k → a[j] = b[j]) ∧ ∃ q, wr = w.drewN q) (fun i _ => n - (intOf i).toNat)
        case atStart => exact ⟨0, Nat.zero_le _, rfl, by intro j _ _ h; omega, 0, rfl⟩
        case round =>
          obtain ⟨k, hk, rfl, hall, q, rfl⟩ := hrel
          have Hall := Lib.hid hall
          clear hall
          by_cases hlt : k < n
          · have hka : k < a.length := by have := Hn.out; omega
            have hkb : k < b.length := by have := Hn'.out; omega
            have c1 : w.cell? ⟨bu, ou + k, none⟩ = some (.string (a[k]'hka)) := Hcu.out k hka
            have c2 : w.cell? ⟨bv, ov + k, none⟩ = some (.string (b[k]'hkb)) := Hcv.out k hkb
            have heq := bytes_eq (a := a[k]'hka) (b := b[k]'hkb)
            have Heq := Lib.hid heq
            clear heq
            obtain ⟨x, hx⟩ : ∃ x, a[k]'hka = x := ⟨_, rfl⟩
            obtain ⟨y, hy⟩ : ∃ y, b[k]'hkb = y := ⟨_, rfl⟩
            have Hx := Lib.hid hx
            have Hy := Lib.hid hy
            rw [hx] at c1
            rw [hy] at c2
            have hi0 : (0 : Int) ≤ (k : Int) := by omega
            have hi1 : (k : Int) < (n : Int) := by omega
            clear hx hy
            go_wp2
            go_quiet (fail)
            go_wp2
            · have h1 : (!x.toList == y.toList) = true := by assumption
              have hne : ¬ a = b := list_ne_at k hka hkb (by rw [Hx.out, Hy.out]; rw [← Hx.out, ← Hy.out, Heq.out, Hx.out, Hy.out] at h1; simpa using h1)
              have HF := Lib.hid (show decide (a = b) = false by simpa using hne)
              clear hne
              go_ret
              exact ⟨retBool HF.out.symm, below_drewN (below_drewN (Below.refl _ _) _) _⟩
            · have h1 : (!x.toList == y.toList) = false := by assumption
              have he : x = y := by rw [← Hx.out, ← Hy.out, Heq.out, Hx.out, Hy.out] at h1; simpa using h1
              have He := Lib.hid he
              clear he
              go_roundw
              case rel =>
                refine ⟨k + 1, by omega, by go_num, fun j ha hb hjk => ?_, _, rfl⟩
                by_cases e : j = k
                · subst e
                  rw [Hx.out, Hy.out]; exact He.out
                · exact Hall.out j ha hb (by omega)
              case measure => simp [intOf]; omega
          · go_wp2
            go_ret
            exact ⟨retBool (by rw [decide_eq_true (list_eq_all (by rw [Hn.out, Hn'.out]) fun j ha hb => Hall.out j ha hb (by have := Hn.out; omega))]), below_drewN (Below.refl _ _) _⟩
  · have hne : ¬ a = b := fun e => hl (by rw [e])
    have HF := Lib.hid (show decide (a = b) = false by simpa using hne)
    obtain ⟨m, hm⟩ : ∃ m, a.length = m := ⟨_, rfl⟩
    obtain ⟨n, hn⟩ : ∃ n, b.length = n := ⟨_, rfl⟩
    have hmn : ((m : Int) != (n : Int)) = true := by rw [bne_iff_ne]; omega
    have hu' : ∃ ao cap, u = .slice ao m cap := by
      rcases hu with ⟨ao, cap, rfl, rfl⟩ | ⟨bu, ou, cu, rfl, _⟩
      · simp at hm; subst hm; exact ⟨_, _, rfl⟩
      · rw [hm]; exact ⟨_, _, rfl⟩
    have hv' : ∃ ao cap, v = .slice ao n cap := by
      rcases hv with ⟨ao, cap, rfl, rfl⟩ | ⟨bu, ou, cu, rfl, _⟩
      · simp at hn; subst hn; exact ⟨_, _, rfl⟩
      · rw [hn]; exact ⟨_, _, rfl⟩
    obtain ⟨_, _, rfl⟩ := hu'
    obtain ⟨_, _, rfl⟩ := hv'
    clear hu hv hm hn hl hne
    go_enter Try.func29, Try.ntmps29
    go_wp2
    go_ret
    exact ⟨retBool HF.out.symm, Below.refl _ _⟩
end Go.Proofs.Ytncamoafdimpcaa
