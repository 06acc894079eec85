/- Own work: scrimref03.Label. -/
import Derived.Test.YtajjikbigacbaaaGreatDoorRef3A
import Derived.Test.YtajjikbigacbaaaGreatDoorNumE
import Derived.Test.YtajjikbigacbaaaGreatDoorSeqBox
import Derived.Test.YtajjikbigacbaaaGreatDoorComp
import Derived.Test.YtajjikbigacbaaaGreatDoorRef3E
import Derived.Test.YtajjikbigacbaaaGreatDoorPolText
import Derived.Test.YtajjikbigacbaaaGreatDoorCutB
import Derived.Test.YtajjikbigacbaaaGreatDoorGrown
import Derived.Laws.Cover1
import Derived.Test.YtajjikbigacbaaaGreatDoorPolTellsA
namespace Go.Proofs.YtajjikbigacbaaaGreatDoor
open Go.RowKit Num

theorem val_dig : ∀ c : Fin 64, valL (Lib.decDigits c.val) false = some (c.val : Int) := by decide +kernel
theorem all_dig : ∀ c : Fin 64, ((Lib.decDigits c.val).all isDigB && ((Lib.decDigits c.val)[0]? != some 45) && !(Lib.decDigits c.val).isEmpty) = true := by decide +kernel
/-- what follows a number in a list of them -/
def tailP (cs : List Nat) : List UInt8 := match cs with | [] => [] | _ :: _ => 43 :: joinP (cs.map fun c => (digB c).data.toList)
theorem join_tail (c : Nat) (cs : List Nat) : joinP ((c :: cs).map fun c => (digB c).data.toList) = Lib.decDigits c ++ tailP cs := by
  cases cs with
  | nil => simp [joinP, tailP, digB]
  | cons d r => rw [List.map_cons, joinP_cons _ (by simp), tailP]; rfl
theorem tail_stop (cs : List Nat) : (tailP cs).takeWhile isDigB = [] := by
  cases cs with
  | nil => rfl
  | cons d r => rw [tailP, List.takeWhile_cons_of_neg (by decide)]
theorem take_run {c : Nat} (hc : c < 64) (cs : List Nat) : takeL (joinP ((c :: cs).map fun c => (digB c).data.toList)) = some ((c : Int), tailP cs) := by
  have h1 := val_dig ⟨c, hc⟩
  have h2 := all_dig ⟨c, hc⟩
  simp only [Bool.and_eq_true, Bool.not_eq_true', bne_iff_ne] at h1 h2
  obtain ⟨⟨ha, h0⟩, hn⟩ := h2
  rw [join_tail]
  generalize Lib.decDigits c = l at *
  cases l with
  | nil => cases hn
  | cons x r =>
    have hx : x ≠ 45 := fun e => h0 (by rw [e]; rfl)
    have hm : minusB (x :: r ++ tailP cs) = false := by
      rw [minusB]; simpa using hx
    have hu : unsig (x :: r ++ tailP cs) = x :: r ++ tailP cs := by rw [unsig, hm]; rfl
    have hk : cnt (x :: r ++ tailP cs) = (x :: r).length := by
      rw [cnt, List.takeWhile_append_of_pos (fun a h => List.all_eq_true.1 ha a h), tail_stop, List.append_nil]
    rw [takeL, hm, hu, hk, List.take_left, List.drop_left, h1]
    rfl

/-- where the reading of a list of numbers stands -/
def LabAt (s r : ByteArray) (k a : Nat) : Prop := ∀ cs, Reads s cs → k < cs.length ∧ r.data.toList = joinP ((cs.drop k).map fun c => (digB c).data.toList) ∧ a = bitsA (cs.take k)
theorem labAt_start (s : ByteArray) : LabAt s s 0 0 := fun cs h => by
  have hne := reads_ne h
  refine ⟨by cases cs with | nil => exact absurd rfl hne | cons c r => simp, ?_, rfl⟩
  rw [List.drop_zero, ← h.2, joinP_parts]
theorem labAt_step {s r : ByteArray} {k a : Nat} (h : LabAt s r k a) {cs : List Nat} (hr : Reads s cs) :
    ∃ c : Nat, c < 64 ∧ k < cs.length ∧ takeL r.data.toList = some ((c : Int), tailP (cs.drop (k + 1))) ∧ a ||| 2 ^ c = bitsA (cs.take (k + 1)) := by
  obtain ⟨hk, e, ea⟩ := h cs hr
  refine ⟨cs[k]'hk, hr.1.2 _ (List.getElem_mem hk), hk, ?_, ?_⟩
  · rw [e, List.drop_eq_getElem_cons hk]
    exact take_run (hr.1.2 _ (List.getElem_mem hk)) _
  · rw [List.take_succ_eq_append_getElem hk, bitsA_snoc, ea]
/-- no list of numbers is read -/
theorem lab_no {s : ByteArray} (hd : s ≠ dashB) (h : ¬ ∃ cs, Reads s cs) : ∀ l, l < 18446744073709551616 → textB l ≠ s := fun a ha e => by
  by_cases h0 : a = 0
  · subst h0; exact hd e.symm
  · exact h ⟨_, text_reads h0 ha e⟩
theorem lab_form {s r : ByteArray} {k a : Nat} (h : LabAt s r k a) (he : takeE r.data.toList ≠ 0) : ¬ ∃ cs, Reads s cs := by
  rintro ⟨cs, hr⟩
  obtain ⟨c, _, _, e, _⟩ := labAt_step h hr
  exact he (by rw [takeE, e])
theorem lab_range {s r : ByteArray} {k a : Nat} (h : LabAt s r k a) (he : takeN r.data.toList < 0 ∨ 63 < takeN r.data.toList) : ¬ ∃ cs, Reads s cs := by
  rintro ⟨cs, hr⟩
  obtain ⟨c, hc, _, e, _⟩ := labAt_step h hr
  rw [takeN, e] at he
  simp at he
  omega
theorem lab_last {s r : ByteArray} {k a m : Nat} (h : LabAt s r k a) (hm : takeN r.data.toList = m) (he : takeR r.data.toList = []) {cs : List Nat} (hr : Reads s cs) : textB (a ||| 2 ^ m) = s := by
  obtain ⟨c, hc, hk, e, ea⟩ := labAt_step h hr
  rw [takeR, e] at he
  rw [takeN, e] at hm
  have hcm : c = m := by
    have h9 : (c : Int) = (m : Int) := hm
    omega
  subst hcm
  have hz : cs.drop (k + 1) = [] := by
    cases hh : cs.drop (k + 1) with
    | nil => rfl
    | cons x y => rw [hh] at he; simp [tailP] at he
  have hl : cs.length ≤ k + 1 := by simpa using hz
  rw [ea, List.take_of_length_le hl]
  exact text_bits hr
theorem lab_plus {s r : ByteArray} {k a : Nat} (h : LabAt s r k a) {x : UInt8} {y : List UInt8} (he : takeR r.data.toList = x :: y) (hx : x ≠ 43) : ¬ ∃ cs, Reads s cs := by
  rintro ⟨cs, hr⟩
  obtain ⟨c, hc, hk, e, ea⟩ := labAt_step h hr
  rw [takeR, e] at he
  cases hh : cs.drop (k + 1) with
  | nil => rw [hh] at he; simp [tailP] at he
  | cons c d => rw [hh] at he; simp [tailP] at he; exact hx he.1.symm
theorem labAt_next {s r r' : ByteArray} {k a m : Nat} (h : LabAt s r k a) (hm : takeN r.data.toList = m) {y : List UInt8} (he : takeR r.data.toList = 43 :: y) (hy : r'.data.toList = y) : LabAt s r' (k + 1) (a ||| 2 ^ m) := by
  intro cs hr
  obtain ⟨c, hc, hk, e, ea⟩ := labAt_step h hr
  rw [takeR, e] at he
  rw [takeN, e] at hm
  have hcm : c = m := by
    have h9 : (c : Int) = (m : Int) := hm
    omega
  subst hcm
  cases hh : cs.drop (k + 1) with
  | nil => rw [hh] at he; simp [tailP] at he
  | cons c d =>
    rw [hh] at he
    simp only [tailP, List.cons.injEq, true_and] at he
    refine ⟨?_, by rw [hy, ← he], ea⟩
    have := congrArg List.length hh
    simp at this
    omega
theorem labAt_many {s r : ByteArray} {a : Nat} (h : LabAt s r 64 a) : ¬ ∃ cs, Reads s cs := by
  rintro ⟨cs, hr⟩
  have h1 := (h cs hr).1
  have h2 : cs.length ≤ 64 := by rw [← listN_bits hr.1]; exact countN_le _
  omega

/-- what ref's Label says -/
def RefLabPost (s : ByteArray) (w : World) (e : Ending) (w' : World) : Prop := Below w.heap.size w w' ∧
  ∃ (a : Nat) (b : Bool), e = .returned (.tuple #[.int .u64 (a : Int), .bool b]) ∧ a < 18446744073709551616 ∧ (b = true → textB a = s) ∧ (b = false → ∀ l, l < 18446744073709551616 → textB l ≠ s)
theorem takeR_size (l : List UInt8) : (takeR l).length ≤ l.length := by
  rw [takeR, takeL]
  cases valL ((unsig l).take (cnt (unsig l))) (minusB l) with
  | none => simp
  | some n =>
    simp only [Option.map_some]
    rw [List.length_drop]
    have := unsig_le l
    omega

set_option maxRecDepth 100000 in
set_option maxHeartbeats 16000000 in
theorem refLab_any (s : ByteArray) (w : World) (hs : s.size ≤ 140737488355328) : Calls Tryz.prog 71 #[.string s] w (RefLabPost s w) := by
  have e45 : (⟨#[45]⟩ : ByteArray).toList = [45] := by rw [Lib.toList_data]
  by_cases hd : s = dashB
  · have hne : (s.toList == [45]) = true := by rw [hd, dashB, e45]; rfl
    have Hr : Hid (textB 0 = s) := by show _ = _; rw [hd]; rfl
    clear hd e45
    go_enter Tryz.func71, Tryz.ntmps71
    go_wp2_with fail
    go_ret2
    exact ⟨Below.refl _ _, 0, true, rfl, by omega, fun _ => Hr.out, (fun h => by cases h)⟩
  · have hne : (s.toList == [45]) = false := by rw [← e45, bytes_same]; simpa [dashB] using hd
    have Hno := Lib.hid (lab_no hd)
    clear hd e45
    go_enter Tryz.func71, Tryz.ntmps71
    go_wp2_with fail
    go_loopw [4, 5, 6] (fun a r i wr => ∃ (k x : Nat) (t : ByteArray), k ≤ 64 ∧ i = .int .i64 k ∧ a = .int .u64 x ∧ x < 18446744073709551616 ∧ r = .string t ∧ t.size ≤ 140737488355328 ∧ Hid (LabAt s t k x) ∧ Below w.heap.size w wr) (fun _ _ i _ => 64 - (intOf i).toNat)
    case atStart => exact ⟨0, 0, s, by omega, rfl, rfl, by omega, rfl, hs, labAt_start s, Below.refl _ _⟩
    case round =>
      obtain ⟨k, x, t, hk, rfl, rfl, hx, rfl, ht, HA, hbw⟩ := hrel
      have Hbw := Lib.hid hbw
      clear hbw
      by_cases hlt : k < 64
      · have hki : (k : Int) < 64 := by omega
        go_wp2_with fail
        refine (refTake_any t _ (by unfold maxLen; omega)).mono ?_
        rintro e w2 ⟨rfl, hb2⟩
        have B2 := Lib.hid (below_join Hbw.out hb2)
        clear hb2
        have Hsz := Lib.hid (takeR_size t.data.toList)
        obtain ⟨q, hq⟩ : ∃ q, takeE t.data.toList = q := ⟨_, rfl⟩
        obtain ⟨n, hn⟩ : ∃ n, takeN t.data.toList = n := ⟨_, rfl⟩
        obtain ⟨u, hu⟩ : ∃ u : ByteArray, (⟨(takeR t.data.toList).toArray⟩ : ByteArray) = u := ⟨_, rfl⟩
        rw [hq, hn, hu]
        by_cases h0 : q = 0
        · by_cases hr : n < 0 ∨ 63 < n
          · have HF := Lib.hid (Hno.out (lab_range HA.out (by rw [hn]; exact hr)))
            clear hq hn hu
            subst h0
            by_cases h1 : n < 0
            · clear hr
              go_wp2_with fail
              go_ret2
              exact ⟨B2.out, 0, false, rfl, by omega, (fun h => by cases h), fun _ => HF.out⟩
            · have h2 : 63 < n := by omega
              clear hr
              go_wp2_with fail
              go_ret2
              exact ⟨B2.out, 0, false, rfl, by omega, (fun h => by cases h), fun _ => HF.out⟩
          · obtain ⟨m, rfl⟩ : ∃ m : Nat, n = m := ⟨n.toNat, by omega⟩
            have hm64 : m < 64 := by omega
            have hm63 : (m : Int) ≤ 63 := by omega
            have hm0 : (0 : Int) ≤ (m : Int) := by omega
            have Hm := Lib.hid hn
            have Hu := Lib.hid hu
            have Hsh := Lib.hid (shl_one m hm64)
            have Hp2 := Lib.hid (Nat.pow_lt_pow_right (by decide) hm64 : 2 ^ m < 2 ^ 64)
            have Hor := Lib.hid (bits_or_u64_nat x (2 ^ m) hx Hp2.out)
            have Hlt := Lib.hid (Nat.or_lt_two_pow hx Hp2.out : x ||| 2 ^ m < 2 ^ 64)
            have Hus : Hid (u.size ≤ t.size) := by
              show _ ≤ _
              rw [← hu]
              have := Hsz.out
              have h2 : t.data.size = t.size := rfl
              have h3 : (⟨(takeR t.data.toList).toArray⟩ : ByteArray).size = (takeR t.data.toList).length := by show Array.size _ = _; simp
              simp at this
              omega
            clear hq hn hu hr
            subst h0
            obtain ⟨y, hy⟩ : ∃ y, x ||| 2 ^ m = y := ⟨_, rfl⟩
            have hy64 : y < 18446744073709551616 := by rw [← hy]; exact Hlt.out
            have Hy := Lib.hid hy
            have Hyv : Hid (bits .or .u64 (x : Int) (IntKind.u64.wrap ((2 : Int) ^ m)) = (y : Int)) := by show _ = _; rw [Hsh.out, Hor.out, hy]
            have Hyv2 := Hyv.out
            rw [Hsh.out] at Hyv2
            clear hy
            by_cases hz : u.size = 0
            · obtain rfl : u = ⟨#[]⟩ := by
                cases u with
                | mk d => simp [ByteArray.size] at hz; rw [hz]
              have Hr0 : Hid (takeR t.data.toList = []) := by
                show _ = _
                have := congrArg (fun b : ByteArray => b.data.toList) Hu.out
                simpa using this
              have e0 : (⟨#[]⟩ : ByteArray).toList = [] := by rw [Lib.toList_data]
              clear hz
              go_wp2_with fail
              rw [Hsh.out, Hyv2]
              go_wp2_with fail
              refine (ref3Text_any y _ hy64).mono ?_
              rintro e w3 ⟨rfl, hb3⟩
              have B3 := Lib.hid (below_join B2.out hb3)
              clear hb3
              by_cases hts : textB y = s
              · have hq : ((textB y).toList == s.toList) = true := by rw [bytes_same]; simpa using hts
                have Hts := Lib.hid hts
                clear hts
                go_wp2_with fail
                go_ret2
                exact ⟨B3.out, y, true, rfl, hy64, fun _ => Hts.out, (fun h => by cases h)⟩
              · have hq : ((textB y).toList == s.toList) = false := by rw [bytes_same]; simpa using hts
                have HF := Lib.hid (Hno.out (fun ⟨cs, hr⟩ => hts (by rw [← Hy.out]; exact lab_last HA.out Hm.out Hr0.out hr)))
                clear hts
                go_wp2_with fail
                go_ret2
                exact ⟨B3.out, y, false, rfl, hy64, (fun h => by cases h), fun _ => HF.out⟩
            · have hz0 : 0 < u.size := by omega
              have hu0 : (u.toList == []) = false := by
                have := (bytes_ne u hz0).1
                cases hh : u.toList with
                | nil => rw [hh] at this; cases this
                | cons a b => rfl
              have Hr0 : Hid (takeR t.data.toList = u[0]'hz0 :: (u.extract 1 u.size).data.toList) := by
                show _ = _
                have := congrArg (fun b : ByteArray => b.data.toList) Hu.out
                rw [show takeR t.data.toList = u.data.toList by simpa using this, extract_drop]
                have h2 : 0 < u.data.toList.length := by simpa using hz0
                have h3 := List.drop_eq_getElem_cons h2
                rw [List.drop_zero] at h3
                exact h3
              by_cases h43 : u[0]'hz0 = 43
              · have hh : (((u[0]'hz0).toNat : Int) != 43) = false := by rw [h43]; rfl
                have Hnx := Lib.hid (labAt_next (r' := u.extract 1 u.size) HA.out Hm.out (by rw [Hr0.out, h43]) rfl)
                have Hes := Lib.hid (show (u.extract 1 u.size).size ≤ t.size by have := Hus.out; rw [ByteArray.size_extract]; omega)
                clear h43 hz
                go_wp2_with fail
                rw [Hsh.out, Hyv2]
                go_wp2_with fail
                go_roundw
                case rel => exact ⟨k + 1, y, u.extract 1 u.size, by omega, by go_num, rfl, hy64, rfl, by have := Hes.out; omega, by rw [← Hy.out]; exact Hnx.out, B2.out⟩
                case measure => simp [intOf]; omega
              · have hh : (((u[0]'hz0).toNat : Int) != 43) = true := by
                  rw [bne_iff_ne]
                  intro e
                  exact h43 (UInt8.toNat.inj (by show _ = 43; omega))
                have HF := Lib.hid (Hno.out (lab_plus HA.out Hr0.out h43))
                clear h43 hz
                go_wp2_with fail
                rw [Hsh.out, Hyv2]
                go_wp2_with fail
                go_ret2
                exact ⟨B2.out, 0, false, rfl, by omega, (fun h => by cases h), fun _ => HF.out⟩
        · have HF := Lib.hid (Hno.out (lab_form HA.out (by rw [hq]; exact h0)))
          have h0' : (q != 0) = true := by simpa using h0
          clear hq hn hu
          go_wp2_with fail
          go_ret2
          exact ⟨B2.out, 0, false, rfl, by omega, (fun h => by cases h), fun _ => HF.out⟩
      · obtain rfl : k = 64 := by omega
        have HF := Lib.hid (Hno.out (labAt_many HA.out))
        go_wp2_with fail
        go_ret2
        exact ⟨Hbw.out, 0, false, rfl, by omega, (fun h => by cases h), fun _ => HF.out⟩
end Go.Proofs.YtajjikbigacbaaaGreatDoor
/- Own work: scrimref03.Parse. -/
namespace Go.Proofs.YtajjikbigacbaaaGreatDoor
open Go.RowKit Go.Maps Go.Shelf Num

theorem rising_snoc {us : List Vw} {v : Vw} (h : Rising us) (hl : ∀ (j : Nat) (hj : j < us.length), j + 1 = us.length → (us[j]'hj).key < v.key) : Rising (us ++ [v]) := by
  rw [Rising, List.pairwise_append]
  refine ⟨h, by simp, fun a ha b hb => ?_⟩
  rw [List.mem_singleton] at hb
  subst hb
  obtain ⟨i, hi, rfl⟩ := List.mem_iff_getElem.1 ha
  have hlast := hl (us.length - 1) (by omega) (by omega)
  by_cases e : i = us.length - 1
  · subst e; exact hlast
  · exact lt_tr (List.pairwise_iff_getElem.1 h i (us.length - 1) hi (by omega) (by omega)) hlast
theorem rising_last {us : List Vw} {v : Vw} (h : Rising (us ++ [v])) (j : Nat) (hj : j < us.length) : (us[j]'hj).key < v.key :=
  (List.pairwise_append.1 h).2.2 _ (List.getElem_mem hj) v (by simp)
theorem not_pol_rise {s : ByteArray} {us : List Vw} {k : Nat} (hu : us.map lineB = (cutT s.data.toList).take k) (hp : ∀ v ∈ us, noBlank v ∧ v.lab < 18446744073709551616) (h : ¬ Rising us) : ∀ vs, Rising vs → polOk vs → Fits vs → printT vs ≠ s := by
  rintro vs hr hok hf rfl
  rw [(cutT_print hok).1, ← List.map_take] at hu
  have e := lines_inj hp (fun v hv => pol_blank hok hf v (List.mem_of_mem_take hv)) hu
  exact h (by rw [e]; exact rising_sub (List.take_sublist _ _) hr)
theorem print_cut {s : ByteArray} {us : List Vw} (hE : cutE s.data.toList = 0) (hu : us.map lineB = cutT s.data.toList) : printT us = s := by
  rw [printT, hu, joinT]
  rw [cutE] at hE
  cases hl : cutL s.data.toList with
  | none => rw [hl] at hE; cases hE
  | some ls =>
    rw [cutT, hl]
    refine asB_inj ?_
    rw [List.map_map]
    have e : (ls.map ((fun s : ByteArray => s.data.toList) ∘ fun x => (⟨x.toArray⟩ : ByteArray))) = ls := by
      conv => rhs; rw [← List.map_id ls]
      exact List.map_congr_left fun x _ => by simp
    rw [e, join_cut hl]
    simp [asB]
theorem own_drew {w : World} {base : Nat} {e : TypeId} {size n : Nat} {v : Value} {xs : List Value} (h : w.ownsRow base e size v n xs) (q : Nat) : (w.drewN q).ownsRow base e size v n xs := own_kept h (below_drewN (Below.refl _ _) q)
theorem parted {t : ByteArray} {m : Nat} (hm : m < t.size) (h : t[m]'hm = 32) : t.data.toList = (t.extract 0 m).data.toList ++ 32 :: (t.extract (m + 1) t.size).data.toList := by
  rw [extract_take, extract_drop]
  have h2 : m < t.data.toList.length := by simpa using hm
  conv => lhs; rw [← List.take_append_drop m t.data.toList]
  rw [List.drop_eq_getElem_cons h2]
  congr 2

/-- what ref's Parse says -/
def RefPolPost (s : ByteArray) (w : World) (e : Ending) (w' : World) : Prop :=
  Below w.heap.size w w' ∧ ((∃ vs v, Rising vs ∧ polOk vs ∧ Fits vs ∧ printT vs = s ∧ e = .returned (.tuple #[v, .int .i64 0]) ∧ Vws w' v vs) ∨
    ((∀ vs, Rising vs → polOk vs → Fits vs → printT vs ≠ s) ∧ e = .returned (.tuple #[.slice none 0 0, .int .i64 4])))

set_option maxHeartbeats 16000000 in
set_option maxRecDepth 100000 in
theorem refPolParse_any (s : ByteArray) (w : World) (hs : s.size ≤ 4294967280) : Calls Tryz.prog 20 #[.string s] w (RefPolPost s w) := by
  obtain ⟨i0, hi, hz0, hz1, hz2⟩ := info_parts Tryz.info33
  go_enter Tryz.func20, Tryz.ntmps20
  go_wp2_with fail
  refine (refCut_any s _ hs).mono ?_
  rintro e w1 ⟨tv, rfl, hmade, hb⟩
  have htx := hmade.texts
  obtain ⟨ao, cap, b, o, rfl, hao, hml, hc⟩ := htx.form
  have B1 := Lib.hid hb
  have hcs := cutT_size (s := s)
  have hcl := cutT_len (s := s)
  obtain ⟨ts, hts⟩ : ∃ ts, cutT s.data.toList = ts := ⟨_, rfl⟩
  have Hts := Lib.hid hts
  rw [hts] at hao hml hc hcs hcl ⊢
  obtain ⟨n, hn⟩ : ∃ n, ts.length = n := ⟨_, rfl⟩
  have Hn := Lib.hid hn
  rw [hn] at hao hml hcl ⊢
  have Hao := Lib.hid hao
  have Hc := Lib.hid hc
  unfold maxLen at hml
  clear hmade htx hao hc hb hts hn
  rcases cutE_cases s.data.toList with hce | hce
  · have Hcs := Lib.hid (hcs hce)
    have hcl := hcl hce
    have Hce := Lib.hid hce
    rw [hce]
    clear hcs hce
    go_wp2_with fail
    go_loopw [6, 7] (fun u i wr => ∃ (k : Nat) (us : List Vw), k ≤ n ∧ i = .int .i64 k ∧ us.length = k ∧ Hid (us.map lineB = ts.take k) ∧ Hid (∀ v ∈ us, noBlank v ∧ v.lab < 18446744073709551616) ∧ Hid (Rising us) ∧ wr.ownsRow w1.heap.size 33 2 u us.length (flatV us) ∧ Below w1.heap.size w1 wr) (fun _ i _ => n - (intOf i).toNat)
    case atStart => exact ⟨0, [], Nat.zero_le _, rfl, rfl, rfl, (by intro v hv; cases hv), List.Pairwise.nil, World.ownsRow_nil _ _ _ _, Below.refl _ _⟩
    case round =>
      obtain ⟨k, us, hk, rfl, hul, Hus, Hub, HR, hown, hbw⟩ := hrel
      have Hown := Lib.hid hown
      have Hbw := Lib.hid hbw
      have Hul := Lib.hid hul
      clear hown hbw hul
      by_cases hlt : k < n
      · have hkl : k < ts.length := by rw [Hn.out]; exact hlt
        obtain rfl := Hao.out (by omega)
        have ck := cell_kept Hbw.out (Hc.out k hkl)
        obtain ⟨t, ht⟩ : ∃ t, ts[k]'hkl = t := ⟨_, rfl⟩
        rw [ht] at ck
        have Ht := Lib.hid ht
        have Htc : Hid ((cutT s.data.toList)[k]'(by rw [Hts.out]; exact hkl) = t) := by
          show _ = _
          rw [← Ht.out]; congr 1 <;> exact Hts.out
        have hsz : t.size ≤ 4294967280 := Nat.le_trans (Hcs.out t (by rw [← ht]; exact List.getElem_mem hkl)) hs
        have hi0 : (0 : Int) ≤ (k : Int) := by omega
        have hi1 : (k : Int) < (n : Int) := by omega
        have Bw := Lib.hid (below_join B1.out Hbw.out)
        clear ht
        go_wp2_with fail
        go_loopw [8] (fun j wr2 => ∃ m : Nat, m ≤ t.size ∧ j = .int .i64 m ∧ Hid (∀ b ∈ t.data.toList.take m, b ≠ 32) ∧ ∃ q, wr2 = wr.drewN q) (fun j _ => t.size - (intOf j).toNat)
        case atStart => exact ⟨0, Nat.zero_le _, rfl, (fun y hy => by simp at hy), 0, rfl⟩
        case round =>
          obtain ⟨m, hm, rfl, HM, q0, rfl⟩ := hrel
          by_cases hmt : m < t.size
          · have hj0 : (0 : Int) ≤ (m : Int) := by omega
            have hj1 : (m : Int) < (t.size : Int) := by omega
            have hml2 : m < t.data.toList.length := by simpa using hmt
            by_cases h32 : t[m]'hmt = 32
            · have hb32 : (((t[m]'hmt).toNat : Int) != 32) = false := by rw [h32]; rfl
              have Hpart := Lib.hid (parted hmt h32)
              have Hnb : Hid (∀ b ∈ (t.extract 0 m).data.toList, b ≠ 32) := by
                show ∀ _, _
                rw [extract_take]; exact HM.out
              have hne : ((m : Int) == (t.size : Int)) = false := by rw [beq_eq_false_iff_ne]; omega
              clear h32
              have hsx : (t.extract (m + 1) t.size).size ≤ 140737488355328 := by rw [ByteArray.size_extract]; omega
              go_wp2_with fail
              refine (refLab_any _ _ hsx).mono ?_
              rintro e w2 ⟨hb, a, bo, rfl, ha, hyes, hnot⟩
              have B2 := Lib.hid (Hbw.out.trans (show Below w1.heap.size wr w2 from (by first | exact below_drewN (below_drewN (below_drewN (Below.refl _ _) _) _) _ | exact below_drewN (below_drewN (Below.refl _ _) _) _ | exact below_drewN (Below.refl _ _) _ : Below w1.heap.size wr _).trans (hb.mono Hbw.out.size)))
              have Hy := Lib.hid hyes
              have Hnt := Lib.hid hnot
              have Hb2 := Lib.hid hb
              clear hb hyes hnot
              have ck := cell_kept Hb2.out ck
              cases bo with
              | false =>
                have Hno := Lib.hid (not_pol_line (s := s) (k := k) (by rw [Hts.out]; exact hkl) (fun v h1 h2 => by
                  rw [Htc.out]
                  exact no_line Hpart.out Hnb.out (fun l hl => by rw [show (⟨((t.extract (m + 1) t.size).data.toList).toArray⟩ : ByteArray) = t.extract (m + 1) t.size from asB_inj (by simp)]; exact Hnt.out rfl l hl) v h1 h2))
                have B3 := Lib.hid (below_join B1.out B2.out)
                go_wp2_with fail
                go_big_quiet (fail)
                go_wp2_with fail
                go_ret2
                exact ⟨by first | exact below_drewN (below_drewN B3.out _) _ | exact below_drewN B3.out _ | exact B3.out, .inr ⟨Hno.out, rfl⟩⟩
              | true =>
                have Hl : Hid (lineB ⟨t.extract 0 m, a⟩ = t) := by
                  show _ = _
                  have h1 := line_of Hpart.out (l := a) ((Hy.out rfl).trans (asB_inj (by simp)))
                  exact (congrArg (fun n => lineB ⟨n, a⟩) (asB_inj (by simp))).trans h1
                have Ho2 := Lib.hid (own_kept (by exact Hown.out) Hb2.out)
                by_cases hk0 : k = 0
                · have hk0f : ¬ (0 : Int) < (k : Int) := by omega
                  have hkd : decide (0 < k) = false := decide_eq_false (by omega)
                  have hkn : ¬ 0 < k := by omega
                  have HR2 : Hid (Rising (us ++ [⟨t.extract 0 m, a⟩])) := rising_snoc HR.out (fun j hj _ => by have := Hul.out; omega)
                  clear hk0
                  go_wp2_with fail
                  go_big_quiet (fail)
                  have Ho3 := Lib.hid (own_drew Ho2.out nq)
                  have B3 := Lib.hid (below_drewN B2.out nq)
                  have hul := Hul.out
                  go_wp2_with (at_builtin; refine wpList_append_own _ rfl _ _ 22 rfl w1.heap.size 33 i0 _ 2 24 Tryz.underlying22 hi hz0 hz1 hz2 rfl (by decide) _ _ _ rfl (Ho3.out.alloc _) ⟨w2.heap.size, 0, none⟩ 1 1 (Vw.mk (t.extract 0 m) a).cells rfl rfl (two_cellV (w2.drewN nq) ⟨t.extract 0 m, a⟩ _) (vcells_plain ⟨t.extract 0 m, a⟩) ?d4 ?d5 ?d6 ?_)
                  case d4 => unfold maxLen; omega
                  case d5 => omega
                  case d6 => have := B3.out.size; simp at this ⊢; omega
                  intro v3 w3 hown3 hgrow3 _
                  have B4 := Lib.hid ((B3.out.alloc B3.out.size _).grown hgrow3 (by have := B3.out.size; simp at this ⊢; omega) (fun q hq => (Ho3.out.lt q hq).1))
                  have Ho4 := Lib.hid (show w3.ownsRow w1.heap.size 33 2 v3 (us ++ [(⟨t.extract 0 m, a⟩ : Vw)]).length (flatV (us ++ [(⟨t.extract 0 m, a⟩ : Vw)])) by
                    rw [List.length_append, Hul.out, flatV_append, flatV_one]; exact hown3)
                  clear hown3 hgrow3
                  go_wp2_with fail
                  go_roundw
                  case rel =>
                    refine ⟨k + 1, us ++ [⟨t.extract 0 m, a⟩], by omega, by go_num, by simp [Hul.out], ?_, ?_, HR2, Ho4.out, B4.out⟩
                    · show _ = _
                      rw [List.map_append, Hus.out, List.take_succ_eq_append_getElem hkl, Ht.out, List.map_cons, Hl.out]; rfl
                    · intro x hx
                      rcases List.mem_append.1 hx with hx | hx
                      · exact Hub.out x hx
                      · rw [List.mem_singleton] at hx; subst hx; exact ⟨Hnb.out, ha⟩
                  case measure => simp [intOf]; omega
                · obtain ⟨j, hj⟩ : ∃ j, k = j + 1 := ⟨k - 1, by omega⟩
                  have hk0f : (0 : Int) < (k : Int) := by omega
                  have hkd : decide (0 < k) = true := decide_eq_true (by omega)
                  have hkn : 0 < k := by omega
                  have hjk : (k : Int) - 1 = (j : Int) := by omega
                  have hw : IntKind.i64.wrap ((k : Int) - 1) = (j : Int) := by
                    rw [hjk]; simp only [IntKind.wrap, IntKind.bits, IntKind.signed]; simp; omega
                  have hju : j < us.length := by have := Hul.out; omega
                  have hj0 : (0 : Int) ≤ (j : Int) := by omega
                  have hjz : (j : Int) < (us.length : Int) := by omega
                  obtain ⟨g, cp, rfl⟩ := Joins.ownsRow_form Ho2.out (by omega)
                  have d0 := (Ho2.out.cellAt (j * 2) (by omega)).trans (flatV_get _ j hju).1
                  obtain ⟨y, hy⟩ : ∃ y, (us[j]'hju).nm = y := ⟨_, rfl⟩
                  rw [hy] at d0
                  have Hyk := Lib.hid (show (us[j]'hju).key = y.data.toList by rw [Vw.key, hy])
                  clear hy
                  by_cases hle : y.data.toList < (t.extract 0 m).data.toList
                  · have hb : Op.bytesLess y.toList (t.extract 0 m).toList = true := by rw [Lib.toList_data, Lib.toList_data, bytesLess_eq]; exact decide_eq_true hle
                    have HR2 : Hid (Rising (us ++ [⟨t.extract 0 m, a⟩])) := rising_snoc HR.out (fun i hi h => by
                      have : i = j := by have := Hul.out; omega
                      subst this
                      rw [Hyk.out]; exact hle)
                    clear hle hj
                    go_wp2_with fail
                    go_big_quiet (fail)
                    have Ho3 := Lib.hid (own_drew Ho2.out nq)
                    have B3 := Lib.hid (below_drewN B2.out nq)
                    have hul := Hul.out
                    go_wp2_with (at_builtin; refine wpList_append_own _ rfl _ _ 22 rfl w1.heap.size 33 i0 _ 2 24 Tryz.underlying22 hi hz0 hz1 hz2 rfl (by decide) _ _ _ rfl (Ho3.out.alloc _) ⟨w2.heap.size, 0, none⟩ 1 1 (Vw.mk (t.extract 0 m) a).cells rfl rfl (two_cellV (w2.drewN nq) ⟨t.extract 0 m, a⟩ _) (vcells_plain ⟨t.extract 0 m, a⟩) ?d4 ?d5 ?d6 ?_)
                    case d4 => unfold maxLen; omega
                    case d5 => omega
                    case d6 => have := B3.out.size; simp at this ⊢; omega
                    intro v3 w3 hown3 hgrow3 _
                    have B4 := Lib.hid ((B3.out.alloc B3.out.size _).grown hgrow3 (by have := B3.out.size; simp at this ⊢; omega) (fun q hq => (Ho3.out.lt q hq).1))
                    have Ho4 := Lib.hid (show w3.ownsRow w1.heap.size 33 2 v3 (us ++ [(⟨t.extract 0 m, a⟩ : Vw)]).length (flatV (us ++ [(⟨t.extract 0 m, a⟩ : Vw)])) by
                      rw [List.length_append, Hul.out, flatV_append, flatV_one]; exact hown3)
                    clear hown3 hgrow3
                    go_wp2_with fail
                    go_roundw
                    case rel =>
                      refine ⟨k + 1, us ++ [⟨t.extract 0 m, a⟩], by omega, by go_num, by simp [Hul.out], ?_, ?_, HR2, Ho4.out, B4.out⟩
                      · show _ = _
                        rw [List.map_append, Hus.out, List.take_succ_eq_append_getElem hkl, Ht.out, List.map_cons, Hl.out]; rfl
                      · intro x hx
                        rcases List.mem_append.1 hx with hx | hx
                        · exact Hub.out x hx
                        · rw [List.mem_singleton] at hx; subst hx; exact ⟨Hnb.out, ha⟩
                    case measure => simp [intOf]; omega
                  · have hb : Op.bytesLess y.toList (t.extract 0 m).toList = false := by rw [Lib.toList_data, Lib.toList_data, bytesLess_eq]; exact decide_eq_false hle
                    have Hno := Lib.hid (not_pol_rise (s := s) (us := us ++ [⟨t.extract 0 m, a⟩]) (k := k + 1)
                      (by rw [Hts.out, List.map_append, Hus.out, List.take_succ_eq_append_getElem hkl, Ht.out, List.map_cons, Hl.out]; rfl)
                      (fun x hx => by
                        rcases List.mem_append.1 hx with hx | hx
                        · exact Hub.out x hx
                        · rw [List.mem_singleton] at hx; subst hx; exact ⟨Hnb.out, ha⟩)
                      (fun h => hle (by rw [← Hyk.out]; exact rising_last h j hju)))
                    have B3 := Lib.hid (below_join B1.out B2.out)
                    clear hle hj
                    go_wp2_with fail
                    go_big_quiet (fail)
                    go_wp2_with fail
                    go_ret2
                    exact ⟨by first | exact below_drewN (below_drewN B3.out _) _ | exact below_drewN B3.out _ | exact B3.out, .inr ⟨Hno.out, rfl⟩⟩
            · have hb32 : (((t[m]'hmt).toNat : Int) != 32) = true := by
                rw [bne_iff_ne]
                intro e
                exact h32 (UInt8.toNat.inj (by show _ = 32; omega))
              have HM2 : Hid (∀ b ∈ t.data.toList.take (m + 1), b ≠ 32) := fun b hb => by
                rw [List.take_succ_eq_append_getElem hml2] at hb
                rcases List.mem_append.1 hb with hb | hb
                · exact HM.out b hb
                · rw [List.mem_singleton] at hb; rw [hb]; exact h32
              clear h32
              go_wp2_with fail
              go_roundw
              case rel => exact ⟨m + 1, by omega, by go_num, HM2, _, by first | rfl | rw [World.drewN_drewN]⟩
              case measure => simp [intOf]; omega
          · obtain rfl : m = t.size := by omega
            have hnlt : ¬ (t.size : Int) < (t.size : Int) := by omega
            have Hno := Lib.hid (not_pol_line (s := s) (k := k) (by rw [Hts.out]; exact hkl) (fun v h1 h2 => by
              rw [Htc.out]
              refine no_line2 (fun b hb => HM.out b ?_) v h1 h2
              rw [List.take_of_length_le (by simp)]
              exact hb))
            go_wp2_with fail
            go_ret2
            exact ⟨by first | exact below_drewN (below_drewN (below_drewN Bw.out _) _) _ | exact below_drewN (below_drewN Bw.out _) _ | exact below_drewN Bw.out _, .inr ⟨Hno.out, rfl⟩⟩
      · obtain rfl : k = n := by omega
        have hall : us.map lineB = ts := by rw [Hus.out, List.take_of_length_le (by rw [Hn.out]; exact Nat.le_refl _)]
        have Hall := Lib.hid (hall.trans Hts.out.symm)
        have Hfit := Lib.hid (fits_lines hs Hce.out Hall.out Hub.out)
        have Hv := Lib.hid (Vws.of_own Hown.out)
        have Bw := Lib.hid (below_join B1.out Hbw.out)
        clear hall
        go_wp2_with fail
        refine (ref3New_any _ us _ Hv.out Hfit.out).mono ?_
        rintro e w2 ⟨hb, ⟨hno, rfl⟩ | ⟨hok, v, rfl, ho⟩⟩
        · have B2 := Lib.hid (below_join Bw.out hb)
          have Hno : Hid (∀ vs, Rising vs → polOk vs → Fits vs → printT vs ≠ s) := fun vs _ hok hf e => hno (by rw [pol_lines Hall.out Hub.out hok hf e]; exact hok)
          clear hb hno
          go_wp2_with fail
          go_ret2
          exact ⟨B2.out, .inr ⟨Hno.out, rfl⟩⟩
        · have B2 := Lib.hid (below_join Bw.out hb)
          have Hok := Lib.hid hok
          have Hv2 : Hid (Vws w2 v us) := by
            show Vws _ _ _
            rw [sortV_same HR.out] at ho
            exact Vws.of_own ho
          clear hb hok ho
          go_wp2_with fail
          go_ret2
          exact ⟨B2.out, .inl ⟨us, v, HR.out, Hok.out, Hfit.out, print_cut Hce.out Hall.out, rfl, Hv2.out⟩⟩
  · have Hno := Lib.hid (not_pol_cut hce)
    rw [hce]
    clear hcs hcl hce
    go_wp2_with fail
    go_ret2
    exact ⟨B1.out, .inr ⟨Hno.out, rfl⟩⟩
end Go.Proofs.YtajjikbigacbaaaGreatDoor
/- Own work: PolicyReads' walk. -/
namespace Go.Proofs.YtajjikbigacbaaaGreatDoor
open Go.RowKit Go.Maps Go.Shelf Num

theorem same_pol {s : ByteArray} {vs us : List Vw} (h1 : polOk vs) (h2 : Fits vs) (h3 : printT vs = s) (k1 : polOk us) (k2 : Fits us) (k3 : printT us = s) : vs = us := by
  have e := (cutT_print h1).1
  rw [h3] at e
  exact pol_lines e.symm (pol_blank h1 h2) k1 k2 k3

set_option maxHeartbeats 16000000 in
set_option maxRecDepth 100000 in
theorem reads_walk (s x : ByteArray) (c : Nat) (w : World) (hs : s.size ≤ 4294967280) (hx : x.size ≤ maxLen) (hc : c < 18446744073709551616) (hM : MaxL w) (hE : ErrVars w) (hT : Deb w) :
    Calls Tryz.prog 4 #[.string s, .string x, .int .u64 (c : Int)] w fun e w' => e = .returned (.bool true) ∧ Below w.heap.size w w' := by
  have HM := Lib.hid hM
  have HE := Lib.hid hE
  have HT := Lib.hid hT
  clear hM hE hT
  go_enter Tryz.func4, Tryz.ntmps4
  go_wp2_with fail
  refine (polParse_any s _ hs HM.out HE.out HT.out).mono ?_
  rintro e w1 ⟨hb, ⟨vs, p, hr, hok, hf, hpt, rfl, hp⟩ | ⟨hno, rfl⟩⟩
  · obtain ⟨bp, rfl⟩ := ptrV hp
    have B1 := Lib.hid hb
    have Hp := Lib.hid hp
    have Hr := Lib.hid hr
    have Hok := Lib.hid hok
    have Hf := Lib.hid hf
    have Hpt := Lib.hid hpt
    clear hb hp hr hok hf hpt
    go_wp2_with fail
    refine (refPolParse_any s _ hs).mono ?_
    rintro e w2 ⟨hb, ⟨us, v, hr, hok, hf, hpt, rfl, hv⟩ | ⟨hno, rfl⟩⟩
    · obtain rfl : us = vs := same_pol hok hf hpt Hok.out Hf.out Hpt.out
      have B2 := Lib.hid (below_join B1.out hb)
      have Hp2 := Lib.hid (Hp.out.kept hb)
      have Hv := Lib.hid hv
      clear hb hv hr hok hf hpt
      go_wp2_with fail
      refine (tells3_any _ v _ x c _ Hp2.out Hv.out hx hc (HT.out.kept B2.out)).mono ?_
      rintro e w3 ⟨rfl, hb⟩
      have B3 := Lib.hid (below_join B2.out hb)
      clear hb
      go_wp2_with fail
      go_ret
      exact ⟨rfl, B3.out⟩
    · exact absurd Hpt.out (hno vs Hr.out Hok.out Hf.out)
  · have B1 := Lib.hid hb
    have Hno := Lib.hid hno
    clear hb hno
    go_wp2_with fail
    refine (refPolParse_any s _ hs).mono ?_
    rintro e w2 ⟨hb, ⟨us, v, hr, hok, hf, hpt, rfl, hv⟩ | ⟨hno, rfl⟩⟩
    · exact absurd hpt (Hno.out us hr hok hf)
    · have B2 := Lib.hid (below_join B1.out hb)
      clear hb hno
      go_wp2_with fail
      go_ret
      exact ⟨rfl, B2.out⟩
end Go.Proofs.YtajjikbigacbaaaGreatDoor
