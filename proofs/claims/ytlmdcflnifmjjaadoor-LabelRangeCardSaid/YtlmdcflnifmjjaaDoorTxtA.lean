import Derived.Test.YtlmdcflnifmjjaaDoorTxtMath
import Derived.Test.YtlmdcflnifmjjaaDoorRefList
import Derived.Test.YtlmdcflnifmjjaaDoorNumbers
import Derived.Test.YtlmdcflnifmjjaaDoorShelf
import Derived.Lib.IndexAny
import Derived.Laws.BytesString
namespace Go.Proofs.YtlmdcflnifmjjaaDoor
open Go.RowKit

theorem retStr {a b : ByteArray} (h : a = b) : Ending.returned (.string a) = .returned (.string b) := by rw [h]

theorem load_fresh (w : World) (cs : List Value) (t : TypeId) : (loadCells ⟨w.heap.size, 0, none⟩ cs.length).run Tryd.prog (w.alloc (.cells cs.toArray t)) = .ok cs.toArray (w.alloc (.cells cs.toArray t)) :=
  run_loadCells_list (P := Tryd.prog) _ ⟨w.heap.size, 0, none⟩ cs (fun j v hv => by
    have hadd : (⟨w.heap.size, 0, none⟩ : Addr).add j = ⟨w.heap.size, j, none⟩ := by unfold Addr.add; split <;> simp_all
    rw [hadd, cell_of_row _ _ _ _ _ _ (heap_alloc_new w _)]
    simpa using hv)
theorem conv1 (w : World) (x : Int) : (convert 73 9 (.slice (some ⟨w.heap.size, 0, none⟩) 1 1)).run Tryd.prog (w.alloc (.cells #[.int .u8 x] 5)) = .ok (.string ⟨#[UInt8.ofNat x.toNat]⟩) (w.alloc (.cells #[.int .u8 x] 5)) := by
  rw [run_convert_bytes_string _ _ _ _ _ _ _ Tryd.underlying73 Tryd.underlying5 Tryd.underlying9]
  exact run_bytesToString _ _ _ _ [x] (load_fresh w [.int .u8 x] 5)
theorem conv2 (w : World) (x y : Int) : (convert 73 9 (.slice (some ⟨w.heap.size, 0, none⟩) 2 2)).run Tryd.prog (w.alloc (.cells #[.int .u8 x, .int .u8 y] 5)) = .ok (.string ⟨#[UInt8.ofNat x.toNat, UInt8.ofNat y.toNat]⟩) (w.alloc (.cells #[.int .u8 x, .int .u8 y] 5)) := by
  rw [run_convert_bytes_string _ _ _ _ _ _ _ Tryd.underlying73 Tryd.underlying5 Tryd.underlying9]
  exact run_bytesToString _ _ _ _ [x, y] (load_fresh w [.int .u8 x, .int .u8 y] 5)

set_option maxRecDepth 100000 in
set_option maxHeartbeats 2000000 in
theorem digits_any (n : Nat) (w : World) (hn : n < 64) :
    Calls Tryd.prog 36 #[.int .i64 n] w fun e w' => e = .returned (.string (digB n)) ∧ Below w.heap.size w w' := by
  have hn1 : (n : Int) ≤ 63 := by omega
  by_cases h10 : n < 10
  · have Hd := Lib.hid (dec_small h10)
    have hc := conv1 w (48 + n)
    go_enter Tryd.func36, Tryd.ntmps36
    go_wp2
    go_ret
    refine ⟨retStr ?_, (Below.refl _ _).alloc (Nat.le_refl _) _⟩
    rw [digB, Hd.out]
  · have Hd := Lib.hid (dec_two (n := n) (by omega) (by omega))
    have hc := conv2 w (48 + (n : Int) / 10) (48 + (n : Int) % 10)
    go_enter Tryd.func36, Tryd.ntmps36
    go_wp2
    go_ret
    refine ⟨retStr ?_, (Below.refl _ _).alloc (Nat.le_refl _) _⟩
    rw [digB, Hd.out]

set_option maxRecDepth 100000 in
set_option maxHeartbeats 4000000 in
theorem refLabText_any (a : Nat) (w : World) (ha : a < 18446744073709551616) :
    Calls Tryd.prog 25 #[.int .u64 a] w fun e w' => e = .returned (.string (textB a)) ∧ Below w.heap.size w w' := by
  by_cases h0 : a = 0
  · subst h0
    have Hz : Hid (textB 0 = ⟨#[45]⟩) := rfl
    go_enter Tryd.func25, Tryd.ntmps25
    go_wp2_with fail
    refine (refList_any 0 _ (by decide)).mono ?_
    rintro e w1 ⟨v, rfl, hv, hb⟩
    obtain ⟨zo, zc, hzs⟩ := (Nums.of_own hv).form.imp fun ao h => h.imp fun cap h => by
      obtain ⟨_, _, h1, _⟩ := h
      rw [intsOf_len, listN_zero] at h1
      exact h1
    subst hzs
    have Hb := Lib.hid hb
    clear hb hv
    go_wp2_with fail
    go_ret
    exact ⟨retStr Hz.out.symm, Hb.out⟩
  · have Hz : Hid (textB a = plusT ((listN a).map digB)) := by
      show _ = _
      rw [textB, if_neg h0]
    have hp := countN_pos h0 ha
    have hle := countN_le a
    go_enter Tryd.func25, Tryd.ntmps25
    go_wp2_with fail
    refine (refList_any a _ ha).mono ?_
    rintro e w1 ⟨v, rfl, hv, hb⟩
    obtain ⟨ao, cap, b, o, rfl, hao, hm, hc⟩ := (Nums.of_own hv).form
    have hlen : (intsOf (listN a)).length = countN a := intsOf_len _
    rw [hlen] at hao hm ⊢
    obtain ⟨n, hn⟩ : ∃ n, countN a = n := ⟨_, rfl⟩
    rw [hn] at hao hm hp hle ⊢
    have Hn := Lib.hid hn
    have Hlen := Lib.hid hlen
    have Hc := Lib.hid hc
    have Hb := Lib.hid hb
    obtain rfl := hao hp
    have hn0 : ((n : Int) == 0) = false := by rw [beq_eq_false_iff_ne]; omega
    unfold maxLen at hm
    clear hao hn hc hb hv hlen
    go_wp2_with fail
    go_loopw [4, 5] (fun s i wr => ∃ (k : Nat) (t : ByteArray), k ≤ n ∧ i = .int .i64 k ∧ s = .string t ∧ t.size ≤ 3 * k ∧ Hid (t = plusT (((listN a).map digB).take k)) ∧ Below w.heap.size w wr ∧ Below w1.heap.size w1 wr) (fun _ i _ => n - (intOf i).toNat)
    case atStart => exact ⟨0, _, Nat.zero_le _, rfl, rfl, Nat.le_refl _, rfl, Hb.out, Below.refl _ _⟩
    case round =>
      obtain ⟨k, t, hk, rfl, rfl, hts, Ht, hbw, hbw1⟩ := hrel
      by_cases hlt : k < n
      · have hka : k < (intsOf (listN a)).length := by have := Hn.out; have := Hlen.out; omega
        have hkl : k < (listN a).length := by have := Hn.out; unfold countN at this; omega
        have c1 := cell_kept hbw1 (Hc.out k hka)
        obtain ⟨c, hcx⟩ : ∃ c : Nat, (listN a)[k]'hkl = c := ⟨_, rfl⟩
        have e1 : (intsOf (listN a))[k]'hka = (c : Int) := by simp [intsOf, hcx]
        rw [e1] at c1
        have hc64 : c < 64 := by rw [← hcx]; exact (listTo_mem.1 (List.getElem_mem hkl)).1
        have hds := (digB_len (n := c) (by omega)).2
        have Htk : Hid (((listN a).map digB).take (k + 1) = ((listN a).map digB).take k ++ [digB c]) := by
          show _ = _
          rw [List.take_succ_eq_append_getElem (by rw [List.length_map]; exact hkl), List.getElem_map, hcx]
        have hi0 : (0 : Int) ≤ (k : Int) := by omega
        have hi1 : (k : Int) < (n : Int) := by omega
        have Hbw := Lib.hid hbw
        have Hbw1 := Lib.hid hbw1
        have Hcx := Lib.hid hcx
        obtain ⟨d, hd⟩ : ∃ d, digB c = d := ⟨_, rfl⟩
        have Hd := Lib.hid hd
        rw [hd] at hds
        clear hcx e1 hd hbw hbw1
        by_cases hk0 : k = 0
        · have hk0' : (k : Int) ≤ 0 := by omega
          have hs1 : t.size + d.size ≤ 200 := by omega
          have Hk0 := Lib.hid hk0
          clear hk0
          go_wp2_with fail
          refine (digits_any c _ hc64).mono ?_
          rintro e w2 ⟨rfl, hb2⟩
          rw [Hd.out]
          have Hb2 := Lib.hid (below_join Hbw.out hb2)
          have Hb3 := Lib.hid (below_join Hbw1.out hb2)
          clear hb2
          go_wp2_with fail
          go_roundw
          case rel =>
            refine ⟨k + 1, t ++ d, by omega, by go_num, rfl, by rw [ByteArray.size_append]; omega, ?_, Hb2.out, Hb3.out⟩
            show _ = _
            rw [Htk.out, Ht.out, Hd.out, Hk0.out]
            exact ByteArray.empty_append
          case measure => simp [intOf]; omega
        · have hkp : 0 < k := by omega
          have hs1 : t.size + 1 ≤ 200 := by omega
          have hs2 : (t ++ ⟨#[43]⟩ : ByteArray).size = t.size + 1 := by rw [ByteArray.size_append]; rfl
          have hs3 : (t ++ ⟨#[43]⟩ : ByteArray).size + d.size ≤ 400 := by omega
          have Hs2 := Lib.hid hs2
          clear hs2
          go_wp2_with fail
          refine (digits_any c _ hc64).mono ?_
          rintro e w2 ⟨rfl, hb2⟩
          rw [Hd.out]
          have Hb2 := Lib.hid (below_join Hbw.out hb2)
          have Hb3 := Lib.hid (below_join Hbw1.out hb2)
          clear hb2
          go_wp2_with fail
          go_roundw
          case rel =>
            refine ⟨k + 1, t ++ ⟨#[43]⟩ ++ d, by omega, by go_num, rfl, by rw [ByteArray.size_append, Hs2.out]; omega, ?_, Hb2.out, Hb3.out⟩
            show _ = _
            rw [Htk.out, Hd.out, plusT_snoc, ← Ht.out]
            intro e
            have := congrArg List.length e
            rw [List.length_take, List.length_map, List.length_nil] at this
            omega
          case measure => simp [intOf]; omega
      · obtain rfl : k = n := by omega
        have Hend : Hid (textB a = t) := by
          show _ = _
          rw [Hz.out, Ht.out, List.take_of_length_le (by rw [List.length_map]; exact Nat.le_of_eq Hn.out)]
        have Hbw := Lib.hid hbw
        clear hbw hbw1
        go_wp2_with fail
        go_ret
        exact ⟨retStr Hend.out.symm, Hbw.out⟩

theorem Tryd.info9 : (Tryd.prog.info? 9).map (fun i => (i.zero, i.size, i.bytes)) = some (some (.string ⟨#[]⟩), 1, 16) := by kernel_rfl

theorem itoa_any (c : Nat) (w : World) (hc : c < 100) : Calls Tryd.prog 34 #[.int .i64 c] w fun e w' => e = .returned (.string (digB c)) ∧ w = w' :=
  (Tryd.strconv_Itoa_small c hc w).mono fun _ _ ⟨h1, h2⟩ => ⟨h1, h2.symm⟩

set_option maxRecDepth 100000 in
set_option maxHeartbeats 4000000 in
theorem labText_any (a : Nat) (w : World) (ha : a < 18446744073709551616) (hT : Deb w) :
    Calls Tryd.prog 24 #[.int .u64 a] w fun e w' => e = .returned (.string (textB a)) ∧ Below w.heap.size w w' := by
  obtain ⟨i0, hi, hz0, hz1, hz2⟩ := info_parts Tryd.info9
  by_cases h0 : a = 0
  · subst h0
    have Hz : Hid (textB 0 = ⟨#[45]⟩) := rfl
    go_enter Tryd.func24, Tryd.ntmps24
    go_wp2_with fail
    go_ret
    exact ⟨retStr Hz.out.symm, Below.refl _ _⟩
  · have Hz : Hid (textB a = plusT ((listN a).map digB)) := by
      show _ = _
      rw [textB, if_neg h0]
    have hp := countN_pos h0 ha
    have hle := countN_le a
    have hne : ((a : Int) == 0) = false := by rw [beq_eq_false_iff_ne]; omega
    go_enter Tryd.func24, Tryd.ntmps24
    go_wp2_with fail
    refine (list_any a _ ha hT).mono ?_
    rintro e w1 ⟨v, rfl, hv, hb⟩
    obtain ⟨ao, cap, b, o, rfl, hao, hm, hc⟩ := (Nums.of_own hv).form
    have hlen : (intsOf (listN a)).length = countN a := intsOf_len _
    rw [hlen] at hao hm ⊢
    obtain ⟨n, hn⟩ : ∃ n, countN a = n := ⟨_, rfl⟩
    rw [hn] at hao hm hp hle ⊢
    have Hn := Lib.hid hn
    have Hlen := Lib.hid hlen
    have Hc := Lib.hid hc
    have Hb := Lib.hid hb
    obtain rfl := hao hp
    unfold maxLen at hm
    clear hao hn hc hb hv hlen h0 hT
    go_wp2_with fail
    go_loopw [3, 11] (fun s i wr => ∃ k : Nat, k ≤ n ∧ i = .int .i64 k ∧ wr.ownsRow w1.heap.size 9 1 s k ((((listN a).map digB).take k).map Value.string) ∧ Below w1.heap.size w1 wr) (fun _ i _ => n - (intOf i).toNat)
    case atStart => exact ⟨0, Nat.zero_le _, rfl, World.ownsRow_nil _ _ _ _, Below.refl _ _⟩
    case round =>
      obtain ⟨k, hk, rfl, hown, hbw⟩ := hrel
      have Hown := Lib.hid hown
      have Hbw := Lib.hid hbw
      clear hown hbw
      by_cases hlt : k < n
      · have hka : k < (intsOf (listN a)).length := by have := Hn.out; have := Hlen.out; omega
        have hkl : k < (listN a).length := by have := Hn.out; unfold countN at this; omega
        have c1 := cell_kept Hbw.out (Hc.out k hka)
        obtain ⟨c, hcx⟩ : ∃ c : Nat, (listN a)[k]'hkl = c := ⟨_, rfl⟩
        have e1 : (intsOf (listN a))[k]'hka = (c : Int) := by simp [intsOf, hcx]
        rw [e1] at c1
        have hc64 : c < 64 := by rw [← hcx]; exact (listTo_mem.1 (List.getElem_mem hkl)).1
        have Htk : Hid ((((listN a).map digB).take (k + 1)).map Value.string = (((listN a).map digB).take k).map Value.string ++ [.string (digB c)]) := by
          show _ = _
          rw [List.take_succ_eq_append_getElem (by rw [List.length_map]; exact hkl), List.getElem_map, hcx, List.map_append]
          rfl
        have hi0 : (0 : Int) ≤ (k : Int) := by omega
        have hi1 : (k : Int) < (n : Int) := by omega
        have Hcx := Lib.hid hcx
        obtain ⟨d, hd⟩ : ∃ d, digB c = d := ⟨_, rfl⟩
        have Hd := Lib.hid hd
        clear hcx e1 hd
        go_wp2_with fail
        refine (itoa_any c _ (by omega)).mono ?_
        rintro e w' ⟨rfl, rfl⟩
        rw [Hd.out]
        go_wp2_with (at_builtin; refine wpList_append_own _ rfl _ _ 59 rfl w1.heap.size 9 i0 (.string ⟨#[]⟩) 1 16 Tryd.underlying59 hi hz0 hz1 hz2 rfl (by decide) _ _ _ rfl (Hown.out.alloc _) ⟨wr.heap.size, 0, none⟩ 1 1 [.string d] rfl rfl (one_cell _ _ _) (one_list _ rfl) ?c3 ?c4 ?c5 ?_)
        case c3 => unfold maxLen; omega
        case c4 => omega
        case c5 => exact Nat.le_trans Hbw.out.size (by simp)
        intro v' w2 hown1 hgrow _
        have Hb1 := Lib.hid ((Hbw.out.alloc Hbw.out.size _).grown hgrow (Nat.le_trans Hbw.out.size (by simp)) (fun q hq => (Hown.out.lt q hq).1))
        have Hown1 := Lib.hid hown1
        clear hown1 hgrow
        go_wp2_with fail
        go_roundw
        case rel => exact ⟨k + 1, by omega, by go_num, by rw [Htk.out, Hd.out]; simpa using Hown1.out, Hb1.out⟩
        case measure => simp [intOf]; omega
      · obtain rfl : k = n := by omega
        have hll : ((listN a).map digB).length = k := by rw [List.length_map]; exact Hn.out
        have Htk : Hid (((listN a).map digB).take k = (listN a).map digB) := by
          show _ = _
          exact List.take_of_length_le (Nat.le_of_eq hll)
        have Hll := Lib.hid hll
        have hj := plusT_join ((listN a).map digB)
        have hjl : (Lib.join (((listN a).map digB).map (·.data.toList)) [43]).length ≤ 140737488355328 := by
          have h1 := plusT_len ((listN a).map digB) (fun x hx => by
            obtain ⟨c, hc, rfl⟩ := List.mem_map.1 hx
            have := (listTo_mem.1 hc).1
            exact (digB_len (by omega)).2)
          have h2 := congrArg Array.size hj
          have h3 : (plusT ((listN a).map digB)).data.size = (plusT ((listN a).map digB)).size := rfl
          rw [h3] at h2
          rw [List.size_toArray] at h2
          omega
        have Hj := Lib.hid hj
        have Hjl := Lib.hid hjl
        obtain ⟨g, gc, rfl⟩ := Joins.ownsRow_form Hown.out hp
        have hgc : k ≤ gc := by
          rcases Hown.out.2 with ⟨_, hz⟩ | ⟨g', cap', cur, hv, _, _, hnc, _⟩
          · omega
          · cases hv; exact hnc
        have Hcells : Hid (∀ (j : Nat) x, ((listN a).map digB)[j]? = some x → wr.cell? ⟨g, 0 + j, none⟩ = some (.string x)) := by
          intro j x hx
          obtain ⟨hj, hx2⟩ := List.getElem?_eq_some_iff.1 hx
          have h1 := Hown.out.cellAt j (by rw [hll] at hj; omega)
          rw [Htk.out, List.getElem?_map, hx] at h1
          rw [Nat.zero_add]
          exact h1
        have Hg := Lib.hid (Hown.out.lt g rfl).2
        clear hll hj hjl
        go_wp2_with fail
        have key := Tryd.strings_Join g 0 gc ((listN a).map digB) ⟨#[43]⟩ wr Hcells.out Hg.out (by rw [Hll.out]; omega) (by rw [Hll.out]; exact hgc) Hjl.out
        rw [Hll.out] at key
        refine key.mono ?_
        clear key
        rintro e w2 ⟨rfl, hb⟩
        have Hb2 := Lib.hid (below_join Hb.out (below_join Hbw.out hb))
        clear hb
        rw [show (⟨(Lib.join (((listN a).map digB).map (·.data.toList)) (⟨#[43]⟩ : ByteArray).data.toList).toArray⟩ : ByteArray) = textB a by rw [Hz.out]; exact congrArg ByteArray.mk Hj.out]
        go_wp2_with fail
        go_ret
        exact ⟨rfl, Hb2.out⟩
end Go.Proofs.YtlmdcflnifmjjaaDoor
