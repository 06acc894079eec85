import Derived.Test.YtajjikbigacbaaaDoorOf
namespace Go.Proofs.YtajjikbigacbaaaDoor
open Go.RowKit

set_option maxHeartbeats 8000000 in
set_option maxRecDepth 100000 in
theorem refList_any (a : Nat) (w : World) (ha : a < 18446744073709551616) :
    Calls Tryd.prog 41 #[.int .u64 a] w fun e w' => ∃ v, e = .returned v ∧ w'.ownsRow w.heap.size 3 1 v (countN a) ((intsOf (listN a)).map (Value.int .i64)) ∧ Below w.heap.size w w' := by
  obtain ⟨i0, hi, hz0, hz1, hz2⟩ := info_parts Tryd.info3
  go_enter Tryd.func41, Tryd.ntmps41
  go_wp2_with fail
  refine (refSet_any a _ ha).mono ?_
  rintro e w1 ⟨rfl, hb1⟩
  have Hb1 := Lib.hid hb1
  clear hb1
  go_wp2_with (refine wpList_store_row rfl 91 _ _ rfl w1.heap.size (setV a) rfl rfl 91 (setV 0) (heap_alloc_new w1 _) (by rw [setV_size]; exact sizeSet) (by rw [setV_size, setV_size]) (setV_cells a) ?_)
  go_loopw [3, 5] (fun c i wr => ∃ k : Nat, k ≤ 64 ∧ i = .int .i64 k ∧ wr.ownsRow (w1.heap.size + 1) 3 1 c (listTo a k).length ((intsOf (listTo a k)).map (Value.int .i64)) ∧ SetAt wr w1.heap.size a ∧ Below w.heap.size w wr) (fun _ i _ => 64 - (intOf i).toNat)
  case atStart =>
    refine ⟨0, by omega, rfl, by simp only [listTo, List.range_zero, List.filter_nil, intsOf, List.map_nil, List.length_nil]; exact World.ownsRow_nil _ _ _ _, ?_, ?_⟩
    · exact setRow_heap _ _ _ _ _ _ (heap_alloc_new w1 _)
    · exact below_setRow (Hb1.out.alloc Hb1.out.size _) Hb1.out.size _
  case round =>
    obtain ⟨k, hk, rfl, hown, hs, hbw⟩ := hrel
    have Hown := Lib.hid hown
    have Hs := Lib.hid hs
    have Hbw := Lib.hid hbw
    clear hown hs hbw
    by_cases hlt : k < 64
    · have c1 := Hs.out.cell k hlt
      cases hb : a.testBit k
      · rw [hb] at c1
        have Hl := Lib.hid (listTo_no hb)
        clear hb
        go_wp2_with fail
        go_roundw
        case rel => exact ⟨k + 1, by omega, by go_num, by rw [Hl.out]; exact Hown.out, Hs.out, Hbw.out⟩
        case measure => simp [intOf]; omega
      · rw [hb] at c1
        have Hl := Lib.hid (listTo_yes hb)
        have hll := listTo_len a k
        have hlt1 := Hs.out.lt
        obtain ⟨n, hn⟩ : ∃ n, (listTo a k).length = n := ⟨_, rfl⟩
        have Hn := Lib.hid hn
        have h2 := Hown.out
        rw [hn] at h2 hll
        have Hown2 := Lib.hid h2
        clear hn h2 hb
        go_wp2_with (at_builtin; refine wpList_append_own _ rfl _ _ 74 rfl (w1.heap.size + 1) 3 i0 (.int .i64 0) 1 8 Tryd.underlying74 hi hz0 hz1 hz2 rfl (by decide) _ _ _ rfl (Hown2.out.alloc _) ⟨wr.heap.size, 0, none⟩ 1 1 [.int .i64 k] rfl rfl (one_cell _ _ _) (one_list _ rfl) ?c3 ?c4 ?c5 ?_)
        case c3 => unfold maxLen; omega
        case c4 => omega
        case c5 => simp; omega
        intro v' w2 hown1 hgrow _
        have Hb1 := Lib.hid ((Hbw.out.alloc Hbw.out.size _).grown hgrow (Nat.le_trans Hbw.out.size (by simp)) (fun q hq => by have h1 := (Hown.out.lt q hq).1; have h2 := Hb1.out.size; omega))
        have Hs2 : Hid (SetAt w2 w1.heap.size a) := by
          have hlt2 : w1.heap.size < (wr.alloc (.cells #[.int .i64 (k : Int)] 3)).heap.size := by simp; omega
          show w2.heap[_]? = _
          rw [hgrow.block w1.heap.size hlt2 (fun e => by have h1 := (Hown.out.lt _ e.symm).1; omega), heap_alloc_old _ _ (by omega)]
          exact Hs.out
        have Hown1 := Lib.hid hown1
        clear hown1 hgrow
        go_wp2_with fail
        go_roundw
        case rel =>
          refine ⟨k + 1, by omega, by go_num, ?_, Hs2.out, Hb1.out⟩
          rw [Hl.out, intsOf_snoc, List.map_append, List.length_append, Hn.out]
          exact Hown1.out
        case measure => simp [intOf]; omega
    · obtain rfl : k = 64 := by omega
      have Hown3 : Hid (wr.ownsRow w.heap.size 3 1 _ (countN a) ((intsOf (listN a)).map (Value.int .i64))) := own_base Hown.out (Nat.le_succ_of_le Hb1.out.size)
      go_wp2_with fail
      go_ret
      exact ⟨_, rfl, Hown3.out, Hbw.out⟩
end Go.Proofs.YtajjikbigacbaaaDoor
