/- Own work: label.Text. -/
import Derived.Test.YtajjikbigacbaaaGreatDoorLabMath
import Derived.Test.YtajjikbigacbaaaGreatDoorTz
import Derived.Test.YtajjikbigacbaaaGreatDoorShelf
import Derived.Lib.IndexAny
import Derived.Laws.BytesString
namespace Go.Proofs.YtajjikbigacbaaaGreatDoor
open Go.RowKit

theorem load_fresh (w : World) (cs : List Value) (t : TypeId) : (loadCells ⟨w.heap.size, 0, none⟩ cs.length).run Tryz.prog (w.alloc (.cells cs.toArray t)) = .ok cs.toArray (w.alloc (.cells cs.toArray t)) :=
  run_loadCells_list (P := Tryz.prog) _ ⟨w.heap.size, 0, none⟩ cs (fun j v hv => by
    have hadd : (⟨w.heap.size, 0, none⟩ : Addr).add j = ⟨w.heap.size, j, none⟩ := by unfold Addr.add; split <;> simp_all
    rw [hadd, cell_of_row _ _ _ _ _ _ (heap_alloc_new w _)]
    simpa using hv)
theorem conv1 (w : World) (x : Int) : (convert 66 9 (.slice (some ⟨w.heap.size, 0, none⟩) 1 1)).run Tryz.prog (w.alloc (.cells #[.int .u8 x] 5)) = .ok (.string ⟨#[UInt8.ofNat x.toNat]⟩) (w.alloc (.cells #[.int .u8 x] 5)) := by
  rw [run_convert_bytes_string _ _ _ _ _ _ _ Tryz.underlying66 Tryz.underlying5 Tryz.underlying9]
  exact run_bytesToString _ _ _ _ [x] (load_fresh w [.int .u8 x] 5)
theorem conv2 (w : World) (x y : Int) : (convert 66 9 (.slice (some ⟨w.heap.size, 0, none⟩) 2 2)).run Tryz.prog (w.alloc (.cells #[.int .u8 x, .int .u8 y] 5)) = .ok (.string ⟨#[UInt8.ofNat x.toNat, UInt8.ofNat y.toNat]⟩) (w.alloc (.cells #[.int .u8 x, .int .u8 y] 5)) := by
  rw [run_convert_bytes_string _ _ _ _ _ _ _ Tryz.underlying66 Tryz.underlying5 Tryz.underlying9]
  exact run_bytesToString _ _ _ _ [x, y] (load_fresh w [.int .u8 x, .int .u8 y] 5)

theorem itoa_any (c : Nat) (w : World) (hc : c < 100) : Calls Tryz.prog 120 #[.int .i64 c] w fun e w' => e = .returned (.string (digB c)) ∧ w = w' :=
  (Tryz.strconv_Itoa_small c hc w).mono fun _ _ ⟨h1, h2⟩ => ⟨h1, h2.symm⟩

set_option maxRecDepth 100000 in
set_option maxHeartbeats 4000000 in
theorem labText_any (a : Nat) (w : World) (ha : a < 18446744073709551616) (hT : Deb w) :
    Calls Tryz.prog 81 #[.int .u64 a] w fun e w' => e = .returned (.string (textB a)) ∧ Below w.heap.size w w' := by
  obtain ⟨i0, hi, hz0, hz1, hz2⟩ := info_parts Tryz.info9
  by_cases h0 : a = 0
  · subst h0
    have Hz : Hid (textB 0 = ⟨#[45]⟩) := rfl
    go_enter Tryz.func81, Tryz.ntmps81
    go_wp2_with fail
    go_ret
    exact ⟨retStr Hz.out.symm, Below.refl _ _⟩
  · have Hz : Hid (textB a = plusT ((listN a).map digB)) := by
      show _ = _
      rw [textB, if_neg h0]
    have hp := countN_pos h0 ha
    have hle := countN_le a
    have hne : ((a : Int) == 0) = false := by rw [beq_eq_false_iff_ne]; omega
    go_enter Tryz.func81, Tryz.ntmps81
    go_wp2_with fail
    refine (list_any a _ ha hT).mono ?_
    rintro e w1 ⟨v, rfl, hv, hb⟩
    obtain ⟨ao, cap, b, o, rfl, hao, hm, hc⟩ := (Nums.of_own hv).form
    have hlen : (intsOf (listN a)).length = countN a := intsOf_len _
    rw [hlen] at hao hm ⊢
    obtain ⟨n, hn⟩ : ∃ n, countN a = n := ⟨_, rfl⟩
    rw [hn] at hao hm hp hle ⊢
    have Hn := Lib.hid hn
    have Hlen := Lib.hid hlen
    have Hc := Lib.hid hc
    have Hb := Lib.hid hb
    obtain rfl := hao hp
    unfold maxLen at hm
    clear hao hn hc hb hv hlen h0 hT
    go_wp2_with fail
    go_loopw [3, 11] (fun s i wr => ∃ k : Nat, k ≤ n ∧ i = .int .i64 k ∧ wr.ownsRow w1.heap.size 9 1 s k ((((listN a).map digB).take k).map Value.string) ∧ Below w1.heap.size w1 wr) (fun _ i _ => n - (intOf i).toNat)
    case atStart => exact ⟨0, Nat.zero_le _, rfl, World.ownsRow_nil _ _ _ _, Below.refl _ _⟩
    case round =>
      obtain ⟨k, hk, rfl, hown, hbw⟩ := hrel
      have Hown := Lib.hid hown
      have Hbw := Lib.hid hbw
      clear hown hbw
      by_cases hlt : k < n
      · have hka : k < (intsOf (listN a)).length := by have := Hn.out; have := Hlen.out; omega
        have hkl : k < (listN a).length := by have := Hn.out; unfold countN at this; omega
        have c1 := cell_kept Hbw.out (Hc.out k hka)
        obtain ⟨c, hcx⟩ : ∃ c : Nat, (listN a)[k]'hkl = c := ⟨_, rfl⟩
        have e1 : (intsOf (listN a))[k]'hka = (c : Int) := by simp [intsOf, hcx]
        rw [e1] at c1
        have hc64 : c < 64 := by rw [← hcx]; exact (listTo_mem.1 (List.getElem_mem hkl)).1
        have Htk : Hid ((((listN a).map digB).take (k + 1)).map Value.string = (((listN a).map digB).take k).map Value.string ++ [.string (digB c)]) := by
          show _ = _
          rw [List.take_succ_eq_append_getElem (by rw [List.length_map]; exact hkl), List.getElem_map, hcx, List.map_append]
          rfl
        have hi0 : (0 : Int) ≤ (k : Int) := by omega
        have hi1 : (k : Int) < (n : Int) := by omega
        have Hcx := Lib.hid hcx
        obtain ⟨d, hd⟩ : ∃ d, digB c = d := ⟨_, rfl⟩
        have Hd := Lib.hid hd
        clear hcx e1 hd
        go_wp2_with fail
        refine (itoa_any c _ (by omega)).mono ?_
        rintro e w' ⟨rfl, rfl⟩
        rw [Hd.out]
        go_wp2_with (at_builtin; refine wpList_append_own _ rfl _ _ 40 rfl w1.heap.size 9 i0 (.string ⟨#[]⟩) 1 16 Tryz.underlying40 hi hz0 hz1 hz2 rfl (by decide) _ _ _ rfl (Hown.out.alloc _) ⟨wr.heap.size, 0, none⟩ 1 1 [.string d] rfl rfl (one_cell _ _ _) (one_list _ rfl) ?c3 ?c4 ?c5 ?_)
        case c3 => unfold maxLen; omega
        case c4 => omega
        case c5 => exact Nat.le_trans Hbw.out.size (by simp)
        intro v' w2 hown1 hgrow _
        have Hb1 := Lib.hid ((Hbw.out.alloc Hbw.out.size _).grown hgrow (Nat.le_trans Hbw.out.size (by simp)) (fun q hq => (Hown.out.lt q hq).1))
        have Hown1 := Lib.hid hown1
        clear hown1 hgrow
        go_wp2_with fail
        go_roundw
        case rel => exact ⟨k + 1, by omega, by go_num, by rw [Htk.out, Hd.out]; simpa using Hown1.out, Hb1.out⟩
        case measure => simp [intOf]; omega
      · obtain rfl : k = n := by omega
        have hll : ((listN a).map digB).length = k := by rw [List.length_map]; exact Hn.out
        have Htk : Hid (((listN a).map digB).take k = (listN a).map digB) := by
          show _ = _
          exact List.take_of_length_le (Nat.le_of_eq hll)
        have Hll := Lib.hid hll
        have hj := plusT_join ((listN a).map digB)
        have hjl : (Lib.join (((listN a).map digB).map (·.data.toList)) [43]).length ≤ 140737488355328 := by
          have h1 := plusT_len ((listN a).map digB) (fun x hx => by
            obtain ⟨c, hc, rfl⟩ := List.mem_map.1 hx
            have := (listTo_mem.1 hc).1
            exact (digB_len (by omega)).2)
          have h2 := congrArg Array.size hj
          have h3 : (plusT ((listN a).map digB)).data.size = (plusT ((listN a).map digB)).size := rfl
          rw [h3] at h2
          rw [List.size_toArray] at h2
          omega
        have Hj := Lib.hid hj
        have Hjl := Lib.hid hjl
        obtain ⟨g, gc, rfl⟩ := Joins.ownsRow_form Hown.out hp
        have hgc : k ≤ gc := by
          rcases Hown.out.2 with ⟨_, hz⟩ | ⟨g', cap', cur, hv, _, _, hnc, _⟩
          · omega
          · cases hv; exact hnc
        have Hcells : Hid (∀ (j : Nat) x, ((listN a).map digB)[j]? = some x → wr.cell? ⟨g, 0 + j, none⟩ = some (.string x)) := by
          intro j x hx
          obtain ⟨hj, hx2⟩ := List.getElem?_eq_some_iff.1 hx
          have h1 := Hown.out.cellAt j (by rw [hll] at hj; omega)
          rw [Htk.out, List.getElem?_map, hx] at h1
          rw [Nat.zero_add]
          exact h1
        have Hg := Lib.hid (Hown.out.lt g rfl).2
        clear hll hj hjl
        go_wp2_with fail
        have key := Tryz.strings_Join g 0 gc ((listN a).map digB) ⟨#[43]⟩ wr Hcells.out Hg.out (by rw [Hll.out]; omega) (by rw [Hll.out]; exact hgc) Hjl.out
        rw [Hll.out] at key
        refine key.mono ?_
        clear key
        rintro e w2 ⟨rfl, hb⟩
        have Hb2 := Lib.hid (below_join Hb.out (below_join Hbw.out hb))
        clear hb
        rw [show (⟨(Lib.join (((listN a).map digB).map (·.data.toList)) (⟨#[43]⟩ : ByteArray).data.toList).toArray⟩ : ByteArray) = textB a by rw [Hz.out]; exact congrArg ByteArray.mk Hj.out]
        go_wp2_with fail
        go_ret
        exact ⟨rfl, Hb2.out⟩
end Go.Proofs.YtajjikbigacbaaaGreatDoor
