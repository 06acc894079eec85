import Derived.Test.YtphepdhppjnfpaaDoorApartA
import Derived.Deep.DeepCutAuto
namespace Go.Proofs.YtphepdhppjnfpaaDoor
open Go.RowKit Num

theorem back_number (n : Int) (h0 : -9223372036854775808 ≤ n) (h1 : n ≤ 9223372036854775807) : readN (Lib.itoa n) = n ∧ readE (Lib.itoa n) = 0 := by
  have h := take_itoa n h0 h1 [] (by intro c hc; cases hc)
  rw [List.append_nil] at h
  rw [readN, readE, h]
  exact ⟨rfl, rfl⟩
theorem back_show (s t : ByteArray) (h : s.size ≤ 4611686018427387904) :
    (⟨(shownT (showB s ++ t).data.toList).toArray⟩ : ByteArray) = s ∧ (⟨(shownR (showB s ++ t).data.toList).toArray⟩ : ByteArray) = t ∧ shownE (showB s ++ t).data.toList = 0 := by
  have e : (showB s ++ t).data.toList = showL s.data.toList ++ t.data.toList := by simp [ByteArray.data_append, showB]
  have h1 := shown_show s.data.toList t.data.toList (by simp; have : s.data.size = s.size := rfl; omega)
  rw [e, shownT, shownR, shownE, h1]
  exact ⟨rfl, rfl, rfl⟩
/-- what Read tells is what would be written -/
theorem read_back {s : ByteArray} (h : readE s.data.toList = 0) : (⟨(Lib.itoa (readN s.data.toList)).toArray⟩ : ByteArray) = s := by
  unfold readE at h
  unfold readN
  cases ht : takeL s.data.toList with
  | none => simp [ht] at h
  | some p =>
    obtain ⟨n, r⟩ := p
    cases r with
    | nil =>
      have := itoa_take ht
      rw [List.append_nil] at this
      apply ByteArray.ext
      apply Array.ext'
      exact this
    | cons c r => simp [ht] at h
theorem take_back {s : ByteArray} (h : takeE s.data.toList = 0) : (⟨(Lib.itoa (takeN s.data.toList)).toArray⟩ : ByteArray) ++ ⟨(takeR s.data.toList).toArray⟩ = s := by
  have := itoa_take (take_some h)
  apply ByteArray.ext
  apply Array.ext'
  rw [ByteArray.data_append, Array.toList_append]
  exact this
theorem shown_some {l : List UInt8} (h : shownE l = 0) : shownL l = some (shownT l, shownR l) := by
  unfold shownE at h
  unfold shownT shownR
  cases hl : shownL l with
  | none => simp [hl] at h
  | some p => rfl
theorem shown_back {s : ByteArray} (h : shownE s.data.toList = 0) : showB ⟨(shownT s.data.toList).toArray⟩ ++ ⟨(shownR s.data.toList).toArray⟩ = s := by
  have := show_shown (shown_some h)
  apply ByteArray.ext
  apply Array.ext'
  rw [ByteArray.data_append, Array.toList_append]
  exact this
theorem cut_back {s : ByteArray} (h : cutE s.data.toList = 0) : joinT (cutT s.data.toList) = s := by
  unfold cutE at h
  cases hc : cutL s.data.toList with
  | none => simp [hc] at h
  | some ls =>
    have h1 := join_cut hc
    apply ByteArray.ext
    apply Array.ext'
    rw [joinT, cutT, hc]
    show (joinL ((ls.map fun x => (⟨x.toArray⟩ : ByteArray)).map fun s => s.data.toList)) = _
    rw [List.map_map]
    have : ls.map ((fun s : ByteArray => s.data.toList) ∘ fun x => (⟨x.toArray⟩ : ByteArray)) = ls := by
      conv => rhs; rw [← List.map_id ls]
      rfl
    rw [this]
    exact h1
theorem cutT_size (s : ByteArray) : joinN (cutT s.data.toList) ≤ s.size := by
  rcases hc : cutL s.data.toList with _ | ls
  · rw [cutT, hc]
    simp [joinN, joinL]
  · have h := cut_back (s := s) (by rw [cutE, hc])
    have h2 := congrArg ByteArray.size h
    rw [joinT, asB, size_mk] at h2
    exact Nat.le_of_eq h2
/-- the texts that may be lines' -/
def wholeL (l : List ByteArray) : List ByteArray := l.filter isText
theorem wholeL_take (l : List ByteArray) (k : Nat) (h : k < l.length) : wholeL (l.take (k + 1)) = wholeL (l.take k) ++ if isText (l[k]'h) = true then [l[k]'h] else [] := by
  rw [wholeL, List.take_succ_eq_append_getElem h, List.filter_append]
  congr 1
  by_cases hx : isText (l[k]'h) = true <;> simp [hx]
theorem wholeL_len (l : List ByteArray) : (wholeL l).length ≤ l.length := List.length_filter_le _ _
theorem wholeL_joinN : ∀ (l : List ByteArray), joinN (wholeL l) ≤ joinN l := by
  intro l
  induction l with
  | nil => exact Nat.le_refl _
  | cons s l ih =>
    have e : ∀ (x : ByteArray) (q : List ByteArray), joinN (x :: q) = x.size + 1 + joinN q := by
      intro x q
      rw [joinN, List.map_cons, joinL_cons, List.length_append, List.length_append]
      simp [joinN]
    rw [wholeL, List.filter_cons]
    split
    · rw [e, e]
      rw [wholeL] at ih
      omega
    · rw [e]
      rw [wholeL] at ih
      omega
theorem wholeL_cut (l : List ByteArray) : cutT (joinT (wholeL l)).data.toList = wholeL l ∧ cutE (joinT (wholeL l)).data.toList = 0 := by
  have h : cutL (joinT (wholeL l)).data.toList = some ((wholeL l).map fun s => s.data.toList) := by
    show cutL (joinL ((wholeL l).map fun s => s.data.toList)) = _
    refine cut_join _ ?_
    intro s hs
    obtain ⟨x, hx, rfl⟩ := List.mem_map.1 hs
    have hx2 : isText x = true := (List.mem_filter.1 hx).2
    rw [isText, Bool.and_eq_true, List.all_eq_true] at hx2
    intro h10
    have := hx2.2 10 h10
    simp at this
  rw [cutT, cutE, h]
  refine ⟨?_, rfl⟩
  show ((wholeL l).map fun s => s.data.toList).map (fun x => (⟨x.toArray⟩ : ByteArray)) = _
  rw [List.map_map]
  conv => rhs; rw [← List.map_id (wholeL l)]
  rfl
theorem showB_ge (s : ByteArray) : s.size ≤ (showB s).size := by
  have e : (showB s).size = (showL s.data.toList).length := size_mk _
  have h : s.data.toList.length = s.size := by simp
  rw [e, showL, List.length_append, List.length_cons]
  omega
theorem readE_cases (l : List UInt8) : readE l = 0 ∨ readE l = 4 := by
  unfold readE
  split
  · exact .inl rfl
  · exact .inr rfl
theorem shownE_cases (l : List UInt8) : shownE l = 0 ∨ shownE l = 4 := by
  unfold shownE
  split
  · exact .inl rfl
  · exact .inr rfl
theorem cutE_cases (l : List UInt8) : cutE l = 0 ∨ cutE l = 4 := by
  unfold cutE
  split
  · exact .inl rfl
  · exact .inr rfl
theorem readN_range (l : List UInt8) : -9223372036854775808 ≤ readN l ∧ readN l ≤ 9223372036854775807 := by
  have h := take_range l
  unfold takeN at h
  unfold readN
  split
  · rename_i n he
    rw [he] at h
    exact h
  · exact ⟨by decide, by decide⟩

set_option maxRecDepth 100000 in
set_option maxHeartbeats 32000000 in
theorem back_walk (n : Int) (s tail : ByteArray) (v : Value) (l : List ByteArray) (w : World) (h0 : -9223372036854775808 ≤ n) (h1 : n ≤ 9223372036854775807) (hs : s.size ≤ 1048576) (ht : tail.size ≤ 1048576)
    (hv : Texts w v l) (hN : joinN l ≤ 1048576) (hI : Inv w w) :
    Calls Tryd.prog 6 #[.int .i64 n, .string s, .string tail, v] w fun e w' => e = .returned (.bool true) ∧ Below w.heap.size w w' := by
  obtain ⟨i0, hi, hz0, hz1, hz2⟩ := info_parts Tryd.info9
  obtain ⟨vo, vcap, vb, vof, rfl, hvo, hvc⟩ := hv.form
  have hll := joinN_len l
  have Hvo := Lib.hid hvo
  have Hvc := Lib.hid hvc
  have HI := Lib.hid hI
  have HN := Lib.hid hN
  have Hn := Lib.hid (back_number n h0 h1)
  have Hsh := Lib.hid (back_show s tail (by omega))
  have hz := showB_size s (by omega)
  obtain ⟨z, hzz⟩ : ∃ z, showB s = z := ⟨_, rfl⟩
  have Hz := Lib.hid hzz
  rw [hzz] at hz
  obtain ⟨il, hil⟩ : ∃ x : ByteArray, (⟨(Lib.itoa n).toArray⟩ : ByteArray) = x := ⟨_, rfl⟩
  have Hil := Lib.hid hil
  have hils : il.size ≤ maxLen := by
    have : (Lib.itoa n).length ≤ 21 := by
      rw [Lib.itoa]
      split
      · have := nDig 19 n.natAbs (Nat.lt_of_lt_of_le (by omega : n.natAbs < 18446744073709551616) (by decide))
        simp
        omega
      · have := nDig 19 n.toNat (Nat.lt_of_lt_of_le (by omega : n.toNat < 18446744073709551616) (by decide))
        omega
    rw [← hil, size_mk]
    unfold maxLen
    omega
  have Hils := Lib.hid hils
  have hmx : maxLen = 9223372036854775807 := rfl
  have Hmx := Lib.hid hmx
  have Hrr := Lib.hid (readN_range s.data.toList)
  have Htr := Lib.hid (take_range s.data.toList)
  clear hv hvo hvc hI hN hzz hil hils hmx
  go_enter Tryd.func6, Tryd.ntmps6
  go_wp2_with fail
  refine (works_any _ HI.out.pow HI.out.maxl).mono ?_
  rintro e w1 ⟨rfl, hb⟩
  have HI1 := Lib.hid (HI.out.step hb)
  clear hb
  go_wp2_with fail
  refine (number_any n h0 h1 _ HI1.out.pow).mono ?_
  rintro e w2 ⟨rfl, hb⟩
  rw [Hil.out]
  have HI2 := Lib.hid (HI1.out.step hb)
  clear hb
  go_wp2_with fail
  refine (read_any il _ Hils.out).mono ?_
  rintro e w3 ⟨rfl, hb⟩
  rw [← Hil.out, show (⟨(Lib.itoa n).toArray⟩ : ByteArray).data.toList = Lib.itoa n from rfl, Hn.out.1, Hn.out.2, Hil.out]
  have HI3 := Lib.hid (HI2.out.step hb)
  clear hb
  go_wp2_with fail
  refine (show_any s _ (by omega) HI3.out.pow).mono ?_
  rintro e w4 ⟨rfl, hb⟩
  rw [Hz.out]
  have HI4 := Lib.hid (HI3.out.step hb)
  clear hb
  go_wp2_with fail
  refine (shown_any _ _ (by rw [ByteArray.size_append, Hmx.out]; omega)).mono ?_
  rintro e w5 ⟨rfl, hb⟩
  rw [← Hz.out, Hsh.out.1, Hsh.out.2.1, Hsh.out.2.2, Hz.out]
  have HI5 := Lib.hid (HI4.out.step hb)
  clear hb
  go_wp2_with fail
  refine (read_any s _ (by rw [Hmx.out]; omega)).mono ?_
  rintro e w6 ⟨rfl, hb⟩
  have HI6 := Lib.hid (HI5.out.step hb)
  obtain ⟨rn, hrn⟩ : ∃ x, readN s.data.toList = x := ⟨_, rfl⟩
  obtain ⟨re, hre⟩ : ∃ x, readE s.data.toList = x := ⟨_, rfl⟩
  have Hrn := Lib.hid hrn
  have Hre := Lib.hid hre
  rw [hrn, hre]
  clear hb hrn hre
  go_upto_region 8 with fail
  go_cut [71] (fun b wx => b = .bool false ∧ Inv w wx)
  case first =>
    rcases readE_cases s.data.toList with he | he
    · have hz0 : re = 0 := by rw [← Hre.out]; exact he
      have hb := read_back he
      rw [Hrn.out] at hb
      have Hb := Lib.hid hb
      obtain ⟨r1, r2⟩ := Hrr.out
      rw [Hrn.out] at r1 r2
      subst hz0
      clear he hb
      go_wp2_with fail
      refine (number_any rn r1 r2 _ HI6.out.pow).mono ?_
      rintro e w7 ⟨rfl, hb⟩
      rw [Hb.out]
      have HI7 := Lib.hid (HI6.out.step hb)
      clear hb
      go_wp2_with fail
      go_meet
      exact ⟨rfl, HI7.out⟩
    · have hz0 : re = 4 := by rw [← Hre.out]; exact he
      subst hz0
      clear he
      go_wp2_with fail
      go_meet
      exact ⟨rfl, HI6.out⟩
  case rest =>
    obtain ⟨rfl, hIc⟩ := hcut
    have HI8 := Lib.hid hIc
    clear hIc
    go_wp2_with fail
    refine (take_any s _ (by rw [Hmx.out]; omega)).mono ?_
    rintro e w9 ⟨rfl, hb⟩
    have HI9 := Lib.hid (HI8.out.step hb)
    obtain ⟨tn, htn⟩ : ∃ x, takeN s.data.toList = x := ⟨_, rfl⟩
    obtain ⟨tr, htr⟩ : ∃ x : ByteArray, (⟨(takeR s.data.toList).toArray⟩ : ByteArray) = x := ⟨_, rfl⟩
    obtain ⟨te, hte⟩ : ∃ x, takeE s.data.toList = x := ⟨_, rfl⟩
    have Htn := Lib.hid htn
    have Htrr := Lib.hid htr
    have Hte := Lib.hid hte
    have htrs : tr.size ≤ s.size := by
      rw [← htr, size_mk]
      have := takeR_len s.data.toList
      simpa using this
    rw [htn, htr, hte]
    clear hb htn htr hte
    go_upto_region 11 with fail
    go_cut [87] (fun b wx => b = .bool false ∧ Inv w wx)
    case first =>
      rcases takeE_cases s.data.toList with he | he
      · have hz0 : te = 0 := by rw [← Hte.out]; exact he
        have hb := take_back he
        rw [Htn.out, Htrr.out] at hb
        obtain ⟨y, hy⟩ : ∃ y : ByteArray, (⟨(Lib.itoa tn).toArray⟩ : ByteArray) = y := ⟨_, rfl⟩
        have Hy := Lib.hid hy
        rw [hy] at hb
        have hys : y.size ≤ s.size := by rw [← hb, ByteArray.size_append]; omega
        have Hb := Lib.hid hb
        obtain ⟨r1, r2⟩ := Htr.out
        rw [Htn.out] at r1 r2
        subst hz0
        clear he hb hy
        go_wp2_with fail
        refine (number_any tn r1 r2 _ HI9.out.pow).mono ?_
        rintro e w7 ⟨rfl, hb⟩
        rw [Hy.out]
        have HI7 := Lib.hid (HI9.out.step hb)
        clear hb
        go_wp2_with fail
        rw [Hb.out]
        go_wp2_with fail
        go_meet
        exact ⟨by simp, HI7.out⟩
      · have hz0 : te = 4 := by rw [← Hte.out]; exact he
        subst hz0
        clear he
        go_wp2_with fail
        go_meet
        exact ⟨rfl, HI9.out⟩
    case rest =>
      obtain ⟨rfl, hIc⟩ := hcut
      have HI10 := Lib.hid hIc
      clear hIc
      go_wp2_with fail
      refine (shown_any s _ (by rw [Hmx.out]; omega)).mono ?_
      rintro e w11 ⟨rfl, hb⟩
      have HI11 := Lib.hid (HI10.out.step hb)
      obtain ⟨st, hst⟩ : ∃ x : ByteArray, (⟨(shownT s.data.toList).toArray⟩ : ByteArray) = x := ⟨_, rfl⟩
      obtain ⟨sr, hsr⟩ : ∃ x : ByteArray, (⟨(shownR s.data.toList).toArray⟩ : ByteArray) = x := ⟨_, rfl⟩
      obtain ⟨se, hse⟩ : ∃ x, shownE s.data.toList = x := ⟨_, rfl⟩
      have Hst := Lib.hid hst
      have Hsr := Lib.hid hsr
      have Hse := Lib.hid hse
      rw [hst, hsr, hse]
      clear hb hst hsr hse
      go_upto_region 14 with fail
      go_cut [103] (fun b wx => b = .bool false ∧ Inv w wx)
      case first =>
        rcases shownE_cases s.data.toList with he | he
        · have hz0 : se = 0 := by rw [← Hse.out]; exact he
          have hb := shown_back he
          rw [Hst.out, Hsr.out] at hb
          obtain ⟨y, hy⟩ : ∃ y : ByteArray, showB st = y := ⟨_, rfl⟩
          have Hy := Lib.hid hy
          rw [hy] at hb
          have hys : y.size ≤ s.size ∧ sr.size ≤ s.size := by rw [← hb, ByteArray.size_append]; omega
          have hst2 : st.size ≤ y.size := by
            rw [← hy]
            exact showB_ge st
          obtain ⟨hys1, hys2⟩ := hys
          have Hb := Lib.hid hb
          subst hz0
          clear he hb hy
          go_wp2_with fail
          refine (show_any st _ (by omega) HI11.out.pow).mono ?_
          rintro e w7 ⟨rfl, hb⟩
          rw [Hy.out]
          have HI7 := Lib.hid (HI11.out.step hb)
          clear hb
          go_wp2_with fail
          rw [Hb.out]
          go_wp2_with fail
          go_meet
          exact ⟨by simp, HI7.out⟩
        · have hz0 : se = 4 := by rw [← Hse.out]; exact he
          subst hz0
          clear he
          go_wp2_with fail
          go_meet
          exact ⟨rfl, HI11.out⟩
      case rest =>
        obtain ⟨rfl, hIc⟩ := hcut
        have HI12 := Lib.hid hIc
        clear hIc
        go_wp2_with fail
        refine (cut_any s _ (by omega) HI12.out.maxl).mono ?_
        rintro e w13 ⟨c, rfl, hmc, hb⟩
        have HI13 := Lib.hid (HI12.out.step hb)
        have Hc := Lib.hid hmc.texts
        obtain ⟨ce, hce⟩ : ∃ x, cutE s.data.toList = x := ⟨_, rfl⟩
        have Hce := Lib.hid hce
        rw [hce]
        clear hb hmc hce
        go_upto_region 17 with fail
        go_cut [116] (fun b wx => b = .bool false ∧ Inv w wx)
        case first =>
          rcases cutE_cases s.data.toList with he | he
          · have hz0 : ce = 0 := by rw [← Hce.out]; exact he
            have Hb := Lib.hid (cut_back he)
            have hjn := cutT_size s
            subst hz0
            clear he
            go_wp2_with fail
            refine (joined_any c _ _ Hc.out (by omega)).mono ?_
            rintro e w7 ⟨rfl, hb⟩
            rw [Hb.out]
            have HI7 := Lib.hid (HI13.out.step hb)
            clear hb
            go_wp2_with fail
            go_meet
            exact ⟨by simp, HI7.out⟩
          · have hz0 : ce = 4 := by rw [← Hce.out]; exact he
            subst hz0
            clear he
            go_wp2_with fail
            go_meet
            exact ⟨rfl, HI13.out⟩
        case rest =>
          obtain ⟨rfl, hIc⟩ := hcut
          have HI14 := Lib.hid hIc
          clear hIc Hc
          go_wp2_with fail
          go_loopw [17, 18] (fun x i wr => ∃ k : Nat, k ≤ l.length ∧ i = .int .i64 k ∧ wr.ownsRow w.heap.size 9 1 x (wholeL (l.take k)).length ((wholeL (l.take k)).map Value.string) ∧ Inv w wr) (fun _ i _ => l.length - (intOf i).toNat)
          case atStart => exact ⟨0, Nat.zero_le _, rfl, World.ownsRow_nil _ _ _ _, HI14.out⟩
          case round =>
            obtain ⟨k, hk, rfl, hown, hIr⟩ := hrel
            have HIr := Lib.hid hIr
            have Hown := Lib.hid hown
            clear hIr hown
            by_cases hlt : k < l.length
            · obtain rfl := Hvo.out (by omega)
              have hbt := World.block_lt_of_cell? w _ (Hvc.out k hlt)
              have c1 : wr.cell? ⟨vb, vof + k, none⟩ = some (.string (l[k]'hlt)) := by
                rw [HIr.out.below.cell hbt]
                exact Hvc.out k hlt
              have Htk := Lib.hid (wholeL_take l k hlt)
              have hjk := joinN_take l k hlt
              have hwl := wholeL_len (l.take k)
              rw [List.length_take] at hwl
              obtain ⟨x, hx⟩ : ∃ x, l[k]'hlt = x := ⟨_, rfl⟩
              have Hx := Lib.hid hx
              rw [hx] at c1 hjk
              have hNN := HN.out
              have hb0 : (0 : Int) ≤ (k : Int) := by omega
              have hb1 : (k : Int) < (l.length : Int) := by omega
              clear hx hbt
              go_wp2_with fail
              refine (text_any x _ (by rw [Hmx.out]; omega)).mono ?_
              rintro e w15 ⟨rfl, rfl⟩
              cases hT : isText x with
              | false =>
                have Hn1 := Lib.hid (show wholeL (l.take (k + 1)) = wholeL (l.take k) by rw [Htk.out, Hx.out, hT]; simp)
                clear hT c1
                go_wp2_with fail
                go_roundw
                case rel => exact ⟨k + 1, by omega, by go_num, by rw [Hn1.out]; exact Hown.out, HIr.out⟩
                case measure => simp [intOf]; omega
              | true =>
                have Hn1 := Lib.hid (show wholeL (l.take (k + 1)) = wholeL (l.take k) ++ [x] by rw [Htk.out, Hx.out, hT]; simp)
                have hbs := HIr.out.size
                have Hbs := Lib.hid hbs
                clear hT hbs
                go_wp2_with (at_builtin; refine wpList_append_own _ rfl _ _ 31 rfl w.heap.size 9 i0 (.string ⟨#[]⟩) 1 16 Tryd.underlying31 hi hz0 hz1 hz2 rfl (by decide) _ _ _ rfl (Hown.out.alloc _) ⟨wr.heap.size, 0, none⟩ 1 1 [.string x] rfl rfl ?c1 ?c2 ?c3 ?c4 ?c5 ?_)
                case c1 =>
                  intro i u hu
                  match i, hu with
                  | 0, hu => simp at hu; subst hu; simp [Addr.add]
                  | i + 1, hu => simp at hu
                case c2 => intro u hu; rw [List.mem_singleton] at hu; subst hu; rfl
                case c3 => rw [Hmx.out]; omega
                case c4 => omega
                case c5 => exact Nat.le_trans Hbs.out (by simp)
                intro v' w16 hown1 hgrow _
                have hb1 : Below w.heap.size w w16 := (HIr.out.below.alloc Hbs.out _).grown hgrow (Nat.le_trans Hbs.out (by simp)) (fun q hq => (Hown.out.lt q hq).1)
                have hI1 : Inv w w16 := HI.out.step hb1
                have hown2 : w16.ownsRow w.heap.size 9 1 v' (wholeL (l.take (k + 1))).length ((wholeL (l.take (k + 1))).map Value.string) := by
                  rw [Hn1.out, List.length_append, List.map_append]
                  exact hown1
                have Hown2 := Lib.hid hown2
                have HI16 := Lib.hid hI1
                clear hown1 hgrow hb1 hI1 hown2 c1
                go_wp2_with fail
                go_roundw
                case rel => exact ⟨k + 1, by omega, by go_num, Hown2.out, HI16.out⟩
                case measure => simp [intOf]; omega
            · have hall : l.take k = l := List.take_of_length_le (by omega)
              have hown := Hown.out
              rw [hall] at hown
              have HW := Lib.hid (Texts.of_own hown)
              have Hcw := Lib.hid (wholeL_cut l)
              have Hjw := Lib.hid (wholeL_joinN l)
              have Hjt : Hid ((joinT (wholeL l)).size = joinN (wholeL l)) := by show _ = _; rw [joinT, asB, size_mk]; rfl
              have hwn := wholeL_len l
              clear hall hown Hown
              go_wp2_with fail
              refine (joined_any _ _ _ HW.out (by have := Hjw.out; have := HN.out; omega)).mono ?_
              rintro e w17 ⟨rfl, hb⟩
              have HI17 := Lib.hid (HIr.out.step hb)
              have HW17 := Lib.hid (HW.out.kept hb)
              clear hb
              go_wp2_with fail
              refine (cut_any _ _ (by rw [Hjt.out]; have := Hjw.out; have := HN.out; omega) HI17.out.maxl).mono ?_
              rintro e w18 ⟨d, rfl, hmd, hb⟩
              rw [Hcw.out.1] at hmd
              rw [Hcw.out.2]
              have HI18 := Lib.hid (HI17.out.step hb)
              have HW18 := Lib.hid (HW17.out.kept hb)
              have HD18 := Lib.hid hmd.texts
              clear hb hmd
              obtain ⟨m, hm⟩ : ∃ m, wholeL l = m := ⟨_, rfl⟩
              have hW2 := HW18.out
              have hD2 := HD18.out
              rw [hm] at hW2 hD2 hwn
              obtain ⟨ao, acap, ab, aof, rfl, hao, hac⟩ := hW2.form
              obtain ⟨bo, bcap, bb, bof, rfl, hbo, hbc⟩ := hD2.form
              have Hao := Lib.hid hao
              have Hbo := Lib.hid hbo
              have Hac := Lib.hid hac
              have Hbc := Lib.hid hbc
              obtain ⟨nm, hnm⟩ : ∃ n, m.length = n := ⟨_, rfl⟩
              have Hnm := Lib.hid hnm
              rw [hnm] at hwn ⊢
              have hjl2 := HN.out
              clear hm hW2 hD2 hao hbo hac hbc hnm HW HW17 HW18 HD18
              go_wp2_with fail
              obtain ⟨wp, hwp⟩ : ∃ wp : World, wp = w18 := ⟨_, rfl⟩
              subst hwp
              go_loopw [20] (fun i wr => ∃ k : Nat, k ≤ nm ∧ i = .int .i64 k ∧ ∃ q, wr = wp.drewN q) (fun i _ => nm - (intOf i).toNat)
              case atStart => exact ⟨0, Nat.zero_le _, rfl, 0, rfl⟩
              case round =>
                obtain ⟨j, hj, rfl, q, rfl⟩ := hrel
                by_cases hjt : j < nm
                · have hjm : j < m.length := by rw [Hnm.out]; exact hjt
                  obtain rfl := Hao.out (by omega)
                  obtain rfl := Hbo.out (by omega)
                  have c1 : wp.cell? ⟨ab, aof + j, none⟩ = some (.string (m[j]'hjm)) := Hac.out j hjm
                  have c2 : wp.cell? ⟨bb, bof + j, none⟩ = some (.string (m[j]'hjm)) := Hbc.out j hjm
                  obtain ⟨x, hx⟩ : ∃ x, m[j]'hjm = x := ⟨_, rfl⟩
                  rw [hx] at c1 c2
                  have hb0 : (0 : Int) ≤ (j : Int) := by omega
                  have hb1 : (j : Int) < (nm : Int) := by omega
                  clear hx
                  go_wp2_with fail
                  go_quiet (fail)
                  go_wp2_with fail
                  go_roundw
                  case rel => exact ⟨j + 1, by omega, by go_num, _, rfl⟩
                  case measure => simp [intOf]; omega
                · go_wp2_with fail
                  go_ret
                  exact ⟨rfl, below_drewN HI18.out.below _⟩
end Go.Proofs.YtphepdhppjnfpaaDoor
