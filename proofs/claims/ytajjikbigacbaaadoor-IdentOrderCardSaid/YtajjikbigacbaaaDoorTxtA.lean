/- Own work: ref's Text. -/
import Derived.Test.YtajjikbigacbaaaDoorTxtB
import Derived.Test.YtajjikbigacbaaaDoorRefList
import Derived.Test.YtajjikbigacbaaaDoorNumbers
namespace Go.Proofs.YtajjikbigacbaaaDoor
open Go.RowKit

set_option maxRecDepth 100000 in
set_option maxHeartbeats 2000000 in
theorem digits_any (n : Nat) (w : World) (hn : n < 64) :
    Calls Tryd.prog 42 #[.int .i64 n] w fun e w' => e = .returned (.string (digB n)) ∧ Below w.heap.size w w' := by
  have hn1 : (n : Int) ≤ 63 := by omega
  by_cases h10 : n < 10
  · have Hd := Lib.hid (dec_small h10)
    have hc := conv1 w (48 + n)
    go_enter Tryd.func42, Tryd.ntmps42
    go_wp2
    go_ret
    refine ⟨retStr ?_, (Below.refl _ _).alloc (Nat.le_refl _) _⟩
    rw [digB, Hd.out]
  · have Hd := Lib.hid (dec_two (n := n) (by omega) (by omega))
    have hc := conv2 w (48 + (n : Int) / 10) (48 + (n : Int) % 10)
    go_enter Tryd.func42, Tryd.ntmps42
    go_wp2
    go_ret
    refine ⟨retStr ?_, (Below.refl _ _).alloc (Nat.le_refl _) _⟩
    rw [digB, Hd.out]

set_option maxRecDepth 100000 in
set_option maxHeartbeats 4000000 in
theorem refLabText_any (a : Nat) (w : World) (ha : a < 18446744073709551616) :
    Calls Tryd.prog 26 #[.int .u64 a] w fun e w' => e = .returned (.string (textB a)) ∧ Below w.heap.size w w' := by
  by_cases h0 : a = 0
  · subst h0
    have Hz : Hid (textB 0 = ⟨#[45]⟩) := rfl
    go_enter Tryd.func26, Tryd.ntmps26
    go_wp2_with fail
    refine (refList_any 0 _ (by decide)).mono ?_
    rintro e w1 ⟨v, rfl, hv, hb⟩
    obtain ⟨zo, zc, hzs⟩ := (Nums.of_own hv).form.imp fun ao h => h.imp fun cap h => by
      obtain ⟨_, _, h1, _⟩ := h
      rw [intsOf_len, listN_zero] at h1
      exact h1
    subst hzs
    have Hb := Lib.hid hb
    clear hb hv
    go_wp2_with fail
    go_ret
    exact ⟨retStr Hz.out.symm, Hb.out⟩
  · have Hz : Hid (textB a = plusT ((listN a).map digB)) := by
      show _ = _
      rw [textB, if_neg h0]
    have hp := countN_pos h0 ha
    have hle := countN_le a
    go_enter Tryd.func26, Tryd.ntmps26
    go_wp2_with fail
    refine (refList_any a _ ha).mono ?_
    rintro e w1 ⟨v, rfl, hv, hb⟩
    obtain ⟨ao, cap, b, o, rfl, hao, hm, hc⟩ := (Nums.of_own hv).form
    have hlen : (intsOf (listN a)).length = countN a := intsOf_len _
    rw [hlen] at hao hm ⊢
    obtain ⟨n, hn⟩ : ∃ n, countN a = n := ⟨_, rfl⟩
    rw [hn] at hao hm hp hle ⊢
    have Hn := Lib.hid hn
    have Hlen := Lib.hid hlen
    have Hc := Lib.hid hc
    have Hb := Lib.hid hb
    obtain rfl := hao hp
    have hn0 : ((n : Int) == 0) = false := by rw [beq_eq_false_iff_ne]; omega
    unfold maxLen at hm
    clear hao hn hc hb hv hlen
    go_wp2_with fail
    go_loopw [4, 5] (fun s i wr => ∃ (k : Nat) (t : ByteArray), k ≤ n ∧ i = .int .i64 k ∧ s = .string t ∧ t.size ≤ 3 * k ∧ Hid (t = plusT (((listN a).map digB).take k)) ∧ Below w.heap.size w wr ∧ Below w1.heap.size w1 wr) (fun _ i _ => n - (intOf i).toNat)
    case atStart => exact ⟨0, _, Nat.zero_le _, rfl, rfl, Nat.le_refl _, rfl, Hb.out, Below.refl _ _⟩
    case round =>
      obtain ⟨k, t, hk, rfl, rfl, hts, Ht, hbw, hbw1⟩ := hrel
      by_cases hlt : k < n
      · have hka : k < (intsOf (listN a)).length := by have := Hn.out; have := Hlen.out; omega
        have hkl : k < (listN a).length := by have := Hn.out; unfold countN at this; omega
        have c1 := cell_kept hbw1 (Hc.out k hka)
        obtain ⟨c, hcx⟩ : ∃ c : Nat, (listN a)[k]'hkl = c := ⟨_, rfl⟩
        have e1 : (intsOf (listN a))[k]'hka = (c : Int) := by simp [intsOf, hcx]
        rw [e1] at c1
        have hc64 : c < 64 := by rw [← hcx]; exact (listTo_mem.1 (List.getElem_mem hkl)).1
        have hds := (digB_len (n := c) (by omega)).2
        have Htk : Hid (((listN a).map digB).take (k + 1) = ((listN a).map digB).take k ++ [digB c]) := by
          show _ = _
          rw [List.take_succ_eq_append_getElem (by rw [List.length_map]; exact hkl), List.getElem_map, hcx]
        have hi0 : (0 : Int) ≤ (k : Int) := by omega
        have hi1 : (k : Int) < (n : Int) := by omega
        have Hbw := Lib.hid hbw
        have Hbw1 := Lib.hid hbw1
        have Hcx := Lib.hid hcx
        obtain ⟨d, hd⟩ : ∃ d, digB c = d := ⟨_, rfl⟩
        have Hd := Lib.hid hd
        rw [hd] at hds
        clear hcx e1 hd hbw hbw1
        by_cases hk0 : k = 0
        · have hk0' : (k : Int) ≤ 0 := by omega
          have hs1 : t.size + d.size ≤ 200 := by omega
          have Hk0 := Lib.hid hk0
          clear hk0
          go_wp2_with fail
          refine (digits_any c _ hc64).mono ?_
          rintro e w2 ⟨rfl, hb2⟩
          rw [Hd.out]
          have Hb2 := Lib.hid (below_join Hbw.out hb2)
          have Hb3 := Lib.hid (below_join Hbw1.out hb2)
          clear hb2
          go_wp2_with fail
          go_roundw
          case rel =>
            refine ⟨k + 1, t ++ d, by omega, by go_num, rfl, by rw [ByteArray.size_append]; omega, ?_, Hb2.out, Hb3.out⟩
            show _ = _
            rw [Htk.out, Ht.out, Hd.out, Hk0.out]
            exact ByteArray.empty_append
          case measure => simp [intOf]; omega
        · have hkp : 0 < k := by omega
          have hs1 : t.size + 1 ≤ 200 := by omega
          have hs2 : (t ++ ⟨#[43]⟩ : ByteArray).size = t.size + 1 := by rw [ByteArray.size_append]; rfl
          have hs3 : (t ++ ⟨#[43]⟩ : ByteArray).size + d.size ≤ 400 := by omega
          have Hs2 := Lib.hid hs2
          clear hs2
          go_wp2_with fail
          refine (digits_any c _ hc64).mono ?_
          rintro e w2 ⟨rfl, hb2⟩
          rw [Hd.out]
          have Hb2 := Lib.hid (below_join Hbw.out hb2)
          have Hb3 := Lib.hid (below_join Hbw1.out hb2)
          clear hb2
          go_wp2_with fail
          go_roundw
          case rel =>
            refine ⟨k + 1, t ++ ⟨#[43]⟩ ++ d, by omega, by go_num, rfl, by rw [ByteArray.size_append, Hs2.out]; omega, ?_, Hb2.out, Hb3.out⟩
            show _ = _
            rw [Htk.out, Hd.out, plusT_snoc, ← Ht.out]
            intro e
            have := congrArg List.length e
            rw [List.length_take, List.length_map, List.length_nil] at this
            omega
          case measure => simp [intOf]; omega
      · obtain rfl : k = n := by omega
        have Hend : Hid (textB a = t) := by
          show _ = _
          rw [Hz.out, Ht.out, List.take_of_length_le (by rw [List.length_map]; exact Nat.le_of_eq Hn.out)]
        have Hbw := Lib.hid hbw
        clear hbw hbw1
        go_wp2_with fail
        go_ret
        exact ⟨retStr Hend.out.symm, Hbw.out⟩
end Go.Proofs.YtajjikbigacbaaaDoor
