import Derived.Test.YtgchcgllpceghaaSetB
namespace Go.Proofs.Ytgchcgllpceghaa
open Go.RowKit

theorem two_sets (w : World) (a b : Nat) : SetAt ((((w.alloc (.cells (setV 0) 70)).alloc (.cells (setV 0) 70)).setRow w.heap.size (setV a)).setRow (w.heap.size + 1) (setV b)) w.heap.size a ∧
    SetAt ((((w.alloc (.cells (setV 0) 70)).alloc (.cells (setV 0) 70)).setRow w.heap.size (setV a)).setRow (w.heap.size + 1) (setV b)) (w.heap.size + 1) b ∧
    Below w.heap.size w ((((w.alloc (.cells (setV 0) 70)).alloc (.cells (setV 0) 70)).setRow w.heap.size (setV a)).setRow (w.heap.size + 1) (setV b)) := by
  refine ⟨?_, ?_, below_setRow (below_setRow (((Below.refl _ _).alloc (Nat.le_refl _) _).alloc (by simp) _) (Nat.le_refl _) _) (Nat.le_succ _) _⟩
  · exact (setRow_other _ _ _ _ (Nat.succ_ne_self _).symm).trans (setRow_heap _ _ _ _ _ _ (heap_alloc2_old w _ _))
  · exact setRow_heap _ _ _ _ _ _ ((setRow_other _ _ _ _ (Nat.succ_ne_self _)).trans (heap_alloc2_new w _ _))

set_option maxRecDepth 100000 in
set_option maxHeartbeats 4000000 in
theorem refBelow_any (a b : Nat) (w : World) (ha : a < 18446744073709551616) (hb : b < 18446744073709551616) :
    Calls Try.prog 34 #[.int .u64 a, .int .u64 b] w fun e w' => e = .returned (.bool (belowN a b)) ∧ Below w.heap.size w w' := by
  go_enter Try.func34, Try.ntmps34
  go_wp2_with fail
  refine (refSet_any a _ ha).mono ?_
  rintro e w1 ⟨rfl, hb1⟩
  have Hb1 := Lib.hid hb1
  clear hb1
  go_wp2_with fail
  refine (refSet_any b _ hb).mono ?_
  rintro e w2 ⟨rfl, hb2⟩
  have Hb2 := Lib.hid (below_join Hb1.out hb2)
  clear hb2
  go_wp2_with (first
    | (refine wpList_store_row rfl 70 _ _ rfl w2.heap.size (setV a) rfl rfl 70 (setV 0) (heap_alloc2_old w2 _ _) (by rw [setV_size]; exact sizeSet) (by rw [setV_size, setV_size]) (setV_cells a) ?_)
    | (refine wpList_store_row rfl 70 _ _ rfl (w2.heap.size + 1) (setV b) rfl rfl 70 (setV 0) ((setRow_other _ _ _ _ (Nat.succ_ne_self _)).trans (heap_alloc2_new w2 _ _)) (by rw [setV_size]; exact sizeSet) (by rw [setV_size, setV_size]) (setV_cells b) ?_))
  go_loopw [7] (fun i wr => ∃ k : Nat, k ≤ 64 ∧ i = .int .i64 k ∧ Hid (∀ j, j < k → a.testBit j = true → b.testBit j = true) ∧ SetAt wr w2.heap.size a ∧ SetAt wr (w2.heap.size + 1) b ∧ Below w.heap.size w wr) (fun i _ => 64 - (intOf i).toNat)
  case atStart => exact ⟨0, by omega, rfl, fun j h => by omega, (two_sets w2 a b).1, (two_sets w2 a b).2.1, below_join Hb2.out (two_sets w2 a b).2.2⟩
  case round =>
    obtain ⟨k, hk, rfl, Hall, hs, ht, hbw⟩ := hrel
    have Hs := Lib.hid hs
    have Ht := Lib.hid ht
    have Hb := Lib.hid hbw
    clear hs ht hbw
    by_cases hlt : k < 64
    · have c1 := Hs.out.cell k hlt
      have c2 := Ht.out.cell k hlt
      cases hA : a.testBit k
      · rw [hA] at c1
        have HA := Lib.hid hA
        clear hA
        go_wp2_with fail
        go_roundw
        case rel => exact ⟨k + 1, by omega, by go_num, fun j h h2 => (Nat.lt_succ_iff_lt_or_eq.1 h).elim (fun h => Hall.out j h h2) (fun e => by subst e; rw [HA.out] at h2; cases h2), Hs.out, Ht.out, Hb.out⟩
        case measure => simp [intOf]; omega
      · cases hB : b.testBit k
        · rw [hA] at c1
          rw [hB] at c2
          have HF := Lib.hid (belowN_not a b k hA hB)
          clear hA hB
          go_wp2_with fail
          go_ret
          exact ⟨retBool HF.out.symm, Hb.out⟩
        · rw [hA] at c1
          rw [hB] at c2
          have HB := Lib.hid hB
          clear hA hB
          go_wp2_with fail
          go_roundw
          case rel => exact ⟨k + 1, by omega, by go_num, fun j h h2 => (Nat.lt_succ_iff_lt_or_eq.1 h).elim (fun h => Hall.out j h h2) (fun e => by subst e; exact HB.out), Hs.out, Ht.out, Hb.out⟩
          case measure => simp [intOf]; omega
    · obtain rfl : k = 64 := by omega
      have HT := Lib.hid ((belowN_iff a b ha).2 Hall.out)
      go_wp2_with fail
      go_ret
      exact ⟨retBool HT.out.symm, Hb.out⟩
end Go.Proofs.Ytgchcgllpceghaa
