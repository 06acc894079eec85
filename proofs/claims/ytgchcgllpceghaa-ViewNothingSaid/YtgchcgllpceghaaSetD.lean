import Derived.Test.YtgchcgllpceghaaSetC
namespace Go.Proofs.Ytgchcgllpceghaa
open Go.RowKit

theorem three_sets {w2 W : World} {a b : Nat} (h : SetAt W w2.heap.size a ∧ SetAt W (w2.heap.size + 1) b ∧ Below w2.heap.size w2 W) (hs : W.heap.size = w2.heap.size + 2) :
    SetAt (W.alloc (.cells (setV 0) 70)) w2.heap.size a ∧ SetAt (W.alloc (.cells (setV 0) 70)) (w2.heap.size + 1) b ∧ SetAt (W.alloc (.cells (setV 0) 70)) (w2.heap.size + 2) 0 ∧ Below w2.heap.size w2 (W.alloc (.cells (setV 0) 70)) := by
  refine ⟨((heap_alloc_old _ _ (by omega)).trans h.1), ((heap_alloc_old _ _ (by omega)).trans h.2.1), ?_, h.2.2.alloc (by omega) _⟩
  rw [← hs]
  exact SetAt.fresh W
theorem two_size (w : World) (a b : Nat) : ((((w.alloc (.cells (setV 0) 70)).alloc (.cells (setV 0) 70)).setRow w.heap.size (setV a)).setRow (w.heap.size + 1) (setV b)).heap.size = w.heap.size + 2 := by
  simp
theorem grow_bit (x k : Nat) (v : Bool) (hk : x.testBit k = v) (hlt : k < 64) : ∀ j, j < 64 → (x % 2 ^ (k + 1)).testBit j = if j = k then v else (x % 2 ^ k).testBit j := by
  intro j hj
  rw [Nat.testBit_mod_two_pow, Nat.testBit_mod_two_pow]
  by_cases e : j = k
  · subst e; simp [hk]
  · rw [if_neg e]
    by_cases h : j < k
    · simp [h, show j < k + 1 by omega]
    · simp [h, show ¬ j < k + 1 by omega]

set_option maxRecDepth 100000 in
set_option maxHeartbeats 8000000 in
theorem refBoth1_any (a b : Nat) (w : World) (ha : a < 18446744073709551616) (hb : b < 18446744073709551616) :
    Calls Try.prog 33 #[.int .u64 a, .int .u64 b, .int .i64 1] w fun e w' => e = .returned (.int .u64 (a ||| b : Nat)) ∧ Below w.heap.size w w' := by
  have HR : Hid (∀ j, (a ||| b).testBit j = (a.testBit j || b.testBit j)) := by
    intro j
    exact Nat.testBit_or a b j
  have HL : Hid (a ||| b < 18446744073709551616) := by
    show _ < _
    exact Nat.or_lt_two_pow (n := 64) ha hb
  obtain ⟨R, hR⟩ : ∃ R, a ||| b = R := ⟨_, rfl⟩
  rw [hR] at HR HL ⊢
  clear hR
  go_enter Try.func33, Try.ntmps33
  go_wp2_with fail
  refine (refSet_any a _ ha).mono ?_
  rintro e w1 ⟨rfl, hb1⟩
  have Hb1 := Lib.hid hb1
  clear hb1
  go_wp2_with fail
  refine (refSet_any b _ hb).mono ?_
  rintro e w2 ⟨rfl, hb2⟩
  have Hb2 := Lib.hid (below_join Hb1.out hb2)
  clear hb2
  go_wp2_with (first
    | (refine wpList_store_row rfl 70 _ _ rfl w2.heap.size (setV a) rfl rfl 70 (setV 0) (heap_alloc2_old w2 _ _) (by rw [setV_size]; exact sizeSet) (by rw [setV_size, setV_size]) (setV_cells a) ?_)
    | (refine wpList_store_row rfl 70 _ _ rfl (w2.heap.size + 1) (setV b) rfl rfl 70 (setV 0) ((setRow_other _ _ _ _ (Nat.succ_ne_self _)).trans (heap_alloc2_new w2 _ _)) (by rw [setV_size]; exact sizeSet) (by rw [setV_size, setV_size]) (setV_cells b) ?_))
  go_loopw [10] (fun i wr => ∃ k : Nat, k ≤ 64 ∧ i = .int .i64 k ∧ SetAt wr w2.heap.size a ∧ SetAt wr (w2.heap.size + 1) b ∧ SetAt wr (w2.heap.size + 2) (R % 2 ^ k) ∧ Below w.heap.size w wr) (fun i _ => 64 - (intOf i).toNat)
  case atStart =>
    have h3 := three_sets (two_sets w2 a b) (two_size w2 a b)
    exact ⟨0, by omega, rfl, h3.1, h3.2.1, by rw [Nat.pow_zero, Nat.mod_one]; exact h3.2.2.1, below_join Hb2.out h3.2.2.2⟩
  case round =>
    obtain ⟨k, hk, rfl, hs, ht, hu, hbw⟩ := hrel
    have Hs := Lib.hid hs
    have Ht := Lib.hid ht
    have Hu := Lib.hid hu
    have Hb := Lib.hid hbw
    clear hs ht hu hbw
    by_cases hlt : k < 64
    · have c1 := Hs.out.cell k hlt
      have c2 := Ht.out.cell k hlt
      have c3 := Hu.out.cell k hlt
      have f3 := Hu.out.frozen k
      have Hbit := Lib.hid (HR.out k)
      have Hsz := Lib.hid Hb2.out.size
      cases hA : a.testBit k <;> cases hB : b.testBit k
      all_goals
        rw [hA] at c1
        rw [hB] at c2
        have HV := Hbit.out
        rw [hA, hB] at HV
        have Hput := Lib.hid fun (v : Bool) (hv : R.testBit k = v) => Hu.out.put k v (R % 2 ^ (k + 1)) (grow_bit R k v hv hlt)
        have Hv := Lib.hid HV
        clear HV hA hB
        go_wp2_with fail
        go_roundw
        case rel => exact ⟨k + 1, by omega, by go_num, Hs.out.other _ _ (by simp <;> omega), Ht.out.other _ _ (by simp <;> omega), Hput.out _ Hv.out, Hb.out.setCell (by have := Hsz.out; simp; omega) _⟩
        case measure => simp [intOf]; omega
    · obtain rfl : k = 64 := by omega
      have Hu2 : Hid (SetAt wr (w2.heap.size + 2) R) := by
        have := Hu.out
        rw [Nat.mod_eq_of_lt (show R < 2 ^ 64 from HL.out)] at this
        exact this
      go_wp2_with (refine wpList_load_row rfl 70 _ rfl (w2.heap.size + 2) rfl _ _ _ _ Hu2.out Try.underlying70 rfl (by rw [setV_size]; exact sizeSet) ?_)
      refine (refWord_any R _ HL.out).mono ?_
      rintro e w4 ⟨rfl, hb4⟩
      have Hb4 := Lib.hid (below_join Hb.out hb4)
      clear hb4
      go_wp2_with fail
      go_ret
      exact ⟨rfl, Hb4.out⟩

set_option maxRecDepth 100000 in
set_option maxHeartbeats 8000000 in
theorem refBoth2_any (a b : Nat) (w : World) (ha : a < 18446744073709551616) (hb : b < 18446744073709551616) :
    Calls Try.prog 33 #[.int .u64 a, .int .u64 b, .int .i64 2] w fun e w' => e = .returned (.int .u64 (a &&& b : Nat)) ∧ Below w.heap.size w w' := by
  have HR : Hid (∀ j, (a &&& b).testBit j = (a.testBit j && b.testBit j)) := by
    intro j
    exact Nat.testBit_and a b j
  have HL : Hid (a &&& b < 18446744073709551616) := by
    show _ < _
    exact Nat.lt_of_le_of_lt Nat.and_le_left ha
  obtain ⟨R, hR⟩ : ∃ R, a &&& b = R := ⟨_, rfl⟩
  rw [hR] at HR HL ⊢
  clear hR
  go_enter Try.func33, Try.ntmps33
  go_wp2_with fail
  refine (refSet_any a _ ha).mono ?_
  rintro e w1 ⟨rfl, hb1⟩
  have Hb1 := Lib.hid hb1
  clear hb1
  go_wp2_with fail
  refine (refSet_any b _ hb).mono ?_
  rintro e w2 ⟨rfl, hb2⟩
  have Hb2 := Lib.hid (below_join Hb1.out hb2)
  clear hb2
  go_wp2_with (first
    | (refine wpList_store_row rfl 70 _ _ rfl w2.heap.size (setV a) rfl rfl 70 (setV 0) (heap_alloc2_old w2 _ _) (by rw [setV_size]; exact sizeSet) (by rw [setV_size, setV_size]) (setV_cells a) ?_)
    | (refine wpList_store_row rfl 70 _ _ rfl (w2.heap.size + 1) (setV b) rfl rfl 70 (setV 0) ((setRow_other _ _ _ _ (Nat.succ_ne_self _)).trans (heap_alloc2_new w2 _ _)) (by rw [setV_size]; exact sizeSet) (by rw [setV_size, setV_size]) (setV_cells b) ?_))
  go_loopw [10] (fun i wr => ∃ k : Nat, k ≤ 64 ∧ i = .int .i64 k ∧ SetAt wr w2.heap.size a ∧ SetAt wr (w2.heap.size + 1) b ∧ SetAt wr (w2.heap.size + 2) (R % 2 ^ k) ∧ Below w.heap.size w wr) (fun i _ => 64 - (intOf i).toNat)
  case atStart =>
    have h3 := three_sets (two_sets w2 a b) (two_size w2 a b)
    exact ⟨0, by omega, rfl, h3.1, h3.2.1, by rw [Nat.pow_zero, Nat.mod_one]; exact h3.2.2.1, below_join Hb2.out h3.2.2.2⟩
  case round =>
    obtain ⟨k, hk, rfl, hs, ht, hu, hbw⟩ := hrel
    have Hs := Lib.hid hs
    have Ht := Lib.hid ht
    have Hu := Lib.hid hu
    have Hb := Lib.hid hbw
    clear hs ht hu hbw
    by_cases hlt : k < 64
    · have c1 := Hs.out.cell k hlt
      have c2 := Ht.out.cell k hlt
      have c3 := Hu.out.cell k hlt
      have f3 := Hu.out.frozen k
      have Hbit := Lib.hid (HR.out k)
      have Hsz := Lib.hid Hb2.out.size
      cases hA : a.testBit k <;> cases hB : b.testBit k
      all_goals
        rw [hA] at c1
        rw [hB] at c2
        have HV := Hbit.out
        rw [hA, hB] at HV
        have Hput := Lib.hid fun (v : Bool) (hv : R.testBit k = v) => Hu.out.put k v (R % 2 ^ (k + 1)) (grow_bit R k v hv hlt)
        have Hv := Lib.hid HV
        clear HV hA hB
        go_wp2_with fail
        go_roundw
        case rel => exact ⟨k + 1, by omega, by go_num, Hs.out.other _ _ (by simp <;> omega), Ht.out.other _ _ (by simp <;> omega), Hput.out _ Hv.out, Hb.out.setCell (by have := Hsz.out; simp; omega) _⟩
        case measure => simp [intOf]; omega
    · obtain rfl : k = 64 := by omega
      have Hu2 : Hid (SetAt wr (w2.heap.size + 2) R) := by
        have := Hu.out
        rw [Nat.mod_eq_of_lt (show R < 2 ^ 64 from HL.out)] at this
        exact this
      go_wp2_with (refine wpList_load_row rfl 70 _ rfl (w2.heap.size + 2) rfl _ _ _ _ Hu2.out Try.underlying70 rfl (by rw [setV_size]; exact sizeSet) ?_)
      refine (refWord_any R _ HL.out).mono ?_
      rintro e w4 ⟨rfl, hb4⟩
      have Hb4 := Lib.hid (below_join Hb.out hb4)
      clear hb4
      go_wp2_with fail
      go_ret
      exact ⟨rfl, Hb4.out⟩

set_option maxRecDepth 100000 in
set_option maxHeartbeats 8000000 in
theorem refBoth3_any (a b : Nat) (w : World) (ha : a < 18446744073709551616) (hb : b < 18446744073709551616) :
    Calls Try.prog 33 #[.int .u64 a, .int .u64 b, .int .i64 3] w fun e w' => e = .returned (.int .u64 (lessN a b : Nat)) ∧ Below w.heap.size w w' := by
  have HR : Hid (∀ j, (lessN a b).testBit j = (a.testBit j && !b.testBit j)) := by
    intro j
    exact lessN_bit a b j
  have HL : Hid (lessN a b < 18446744073709551616) := by
    show _ < _
    exact lessN_lt a b ha
  obtain ⟨R, hR⟩ : ∃ R, lessN a b = R := ⟨_, rfl⟩
  rw [hR] at HR HL ⊢
  clear hR
  go_enter Try.func33, Try.ntmps33
  go_wp2_with fail
  refine (refSet_any a _ ha).mono ?_
  rintro e w1 ⟨rfl, hb1⟩
  have Hb1 := Lib.hid hb1
  clear hb1
  go_wp2_with fail
  refine (refSet_any b _ hb).mono ?_
  rintro e w2 ⟨rfl, hb2⟩
  have Hb2 := Lib.hid (below_join Hb1.out hb2)
  clear hb2
  go_wp2_with (first
    | (refine wpList_store_row rfl 70 _ _ rfl w2.heap.size (setV a) rfl rfl 70 (setV 0) (heap_alloc2_old w2 _ _) (by rw [setV_size]; exact sizeSet) (by rw [setV_size, setV_size]) (setV_cells a) ?_)
    | (refine wpList_store_row rfl 70 _ _ rfl (w2.heap.size + 1) (setV b) rfl rfl 70 (setV 0) ((setRow_other _ _ _ _ (Nat.succ_ne_self _)).trans (heap_alloc2_new w2 _ _)) (by rw [setV_size]; exact sizeSet) (by rw [setV_size, setV_size]) (setV_cells b) ?_))
  go_loopw [10] (fun i wr => ∃ k : Nat, k ≤ 64 ∧ i = .int .i64 k ∧ SetAt wr w2.heap.size a ∧ SetAt wr (w2.heap.size + 1) b ∧ SetAt wr (w2.heap.size + 2) (R % 2 ^ k) ∧ Below w.heap.size w wr) (fun i _ => 64 - (intOf i).toNat)
  case atStart =>
    have h3 := three_sets (two_sets w2 a b) (two_size w2 a b)
    exact ⟨0, by omega, rfl, h3.1, h3.2.1, by rw [Nat.pow_zero, Nat.mod_one]; exact h3.2.2.1, below_join Hb2.out h3.2.2.2⟩
  case round =>
    obtain ⟨k, hk, rfl, hs, ht, hu, hbw⟩ := hrel
    have Hs := Lib.hid hs
    have Ht := Lib.hid ht
    have Hu := Lib.hid hu
    have Hb := Lib.hid hbw
    clear hs ht hu hbw
    by_cases hlt : k < 64
    · have c1 := Hs.out.cell k hlt
      have c2 := Ht.out.cell k hlt
      have c3 := Hu.out.cell k hlt
      have f3 := Hu.out.frozen k
      have Hbit := Lib.hid (HR.out k)
      have Hsz := Lib.hid Hb2.out.size
      cases hA : a.testBit k <;> cases hB : b.testBit k
      all_goals
        rw [hA] at c1
        rw [hB] at c2
        have HV := Hbit.out
        rw [hA, hB] at HV
        have Hput := Lib.hid fun (v : Bool) (hv : R.testBit k = v) => Hu.out.put k v (R % 2 ^ (k + 1)) (grow_bit R k v hv hlt)
        have Hv := Lib.hid HV
        clear HV hA hB
        go_wp2_with fail
        go_roundw
        case rel => exact ⟨k + 1, by omega, by go_num, Hs.out.other _ _ (by simp <;> omega), Ht.out.other _ _ (by simp <;> omega), Hput.out _ Hv.out, Hb.out.setCell (by have := Hsz.out; simp; omega) _⟩
        case measure => simp [intOf]; omega
    · obtain rfl : k = 64 := by omega
      have Hu2 : Hid (SetAt wr (w2.heap.size + 2) R) := by
        have := Hu.out
        rw [Nat.mod_eq_of_lt (show R < 2 ^ 64 from HL.out)] at this
        exact this
      go_wp2_with (refine wpList_load_row rfl 70 _ rfl (w2.heap.size + 2) rfl _ _ _ _ Hu2.out Try.underlying70 rfl (by rw [setV_size]; exact sizeSet) ?_)
      refine (refWord_any R _ HL.out).mono ?_
      rintro e w4 ⟨rfl, hb4⟩
      have Hb4 := Lib.hid (below_join Hb.out hb4)
      clear hb4
      go_wp2_with fail
      go_ret
      exact ⟨rfl, Hb4.out⟩
end Go.Proofs.Ytgchcgllpceghaa
