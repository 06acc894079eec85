/- Own work: what each outright statement asks first. -/
import Derived.Test.YtgodmfjcccakbaaGreatDoorPolParse
namespace Go.Proofs.YtgodmfjcccakbaaGreatDoor
open Go.RowKit Go.Maps Go.Shelf Num

def bobV : Vw := ⟨⟨#[98, 111, 98]⟩, 8⟩
def annV : Vw := ⟨⟨#[97, 110, 110]⟩, 0⟩
theorem wk_sort : sortV [bobV, annV] = [annV, bobV] := by
  have h : ¬ bobV.key < annV.key := by decide +kernel
  show insV annV (insV bobV []) = _
  rw [insV, insV, if_neg h]
theorem wk_ok : polOk [bobV, annV] := by
  refine ⟨by simp, ?_, ?_⟩
  · intro v hv
    simp at hv
    rcases hv with rfl | rfl <;> decide +kernel
  · rw [Once]; decide +kernel
theorem wk_fits : Fits [bobV, annV] := by
  intro v hv
  simp at hv
  unfold maxLen
  rcases hv with rfl | rfl
  · exact ⟨by decide, by decide⟩
  · exact ⟨by decide, by decide⟩
theorem wk_text : textB 8 = ⟨#[51]⟩ := by
  have h : listN 8 = [3] := by decide +kernel
  rw [textB, if_neg (by decide), h]
  show plusT [digB 3] = _
  rw [digB, dec_small (by omega)]
  rfl
theorem wk_print : printT [annV, bobV] = ⟨#[97, 110, 110, 32, 45, 10, 98, 111, 98, 32, 51, 10]⟩ := by
  have h0 : lineB annV = ⟨#[97, 110, 110, 32, 45]⟩ := rfl
  have h1 : lineB bobV = ⟨#[98, 111, 98, 32, 51]⟩ := by
    rw [lineB, show bobV.lab = 8 from rfl, wk_text]; rfl
  show joinT [lineB annV, lineB bobV] = _
  rw [h0, h1]
  rfl
theorem wk_above : (aboveV [annV, bobV] 8).length = 1 := by decide +kernel
theorem wk_clr : clrV [annV, bobV] [98, 111, 98] = (8, 0) := by decide +kernel
theorem vws_lit (w : World) (l : List Vw) (t : TypeId) (h0 : 0 < l.length) (hm : l.length ≤ maxLen) : Vws (w.alloc (.cells (flatV l).toArray t)) (.slice (some ⟨w.heap.size, 0, none⟩) l.length l.length) l := by
  refine .inr ⟨w.heap.size, 0, l.length, rfl, h0, Nat.le_refl _, hm, fun i hi => ?_⟩
  obtain ⟨f0, f1⟩ := flatV_get l i hi
  rw [Nat.zero_add, cell_of_row _ _ _ _ _ _ (heap_alloc_new w _), cell_of_row _ _ _ _ _ _ (heap_alloc_new w _)]
  exact ⟨by simpa using f0, by simpa using f1⟩
theorem ptr_of {w : World} {p : Value} {vs : List Vw} (h : Pol w p vs) : ∃ b, p = .pointer (some ⟨b, 0, none⟩) := by
  obtain ⟨b, _, _, _, _, h1, _⟩ := h
  exact ⟨b, h1⟩
/-- Print is told by the viewers, and the viewers by it -/
theorem print_inj {us vs : List Vw} (hu : polOk us) (hv : polOk vs) (hfu : Fits us) (hfv : Fits vs) (h : printT us = printT vs) : us = vs :=
  pol_lines (s := printT us) (cutT_print hu).1.symm (pol_blank hu hfu) hv hfv h.symm

set_option maxHeartbeats 16000000 in
set_option maxRecDepth 100000 in
theorem works_any (w : World) (hM : MaxL w) (hE : ErrVars w) (hT : Deb w) : Calls Tryz.prog 8 #[] w fun e w' => e = .returned (.bool true) ∧ Below w.heap.size w w' := by
  have HM := Lib.hid hM
  have HE := Lib.hid hE
  have HT := Lib.hid hT
  clear hM hE hT
  go_enter Tryz.func8, Tryz.ntmps8
  go_wp2_with fail
  refine (new_any _ [bobV, annV] _ (vws_lit w [bobV, annV] 40 (by decide) (by unfold maxLen; simp)) wk_fits).mono ?_
  rintro e w1 ⟨hb, ⟨hno, _⟩ | ⟨_, p, rfl, hp⟩⟩
  · exact absurd wk_ok hno
  rw [wk_sort] at hp
  obtain ⟨b, rfl⟩ := ptr_of hp
  have B1 := Lib.hid (((Below.refl w.heap.size w).alloc (Nat.le_refl _) (.cells #[.string ⟨#[98, 111, 98]⟩, .int .u64 8, .string ⟨#[97, 110, 110]⟩, .int .u64 0] 40)).trans (hb.mono (by simp)))
  have Hp := Lib.hid hp
  clear hb hp
  go_wp2_with fail
  refine (clearance_any _ _ ⟨#[98, 111, 98]⟩ _ Hp.out (by unfold maxLen; decide)).mono ?_
  rintro e w' ⟨rfl, rfl⟩
  rw [show clrV [annV, bobV] (⟨#[98, 111, 98]⟩ : ByteArray).data.toList = (8, 0) from wk_clr]
  go_wp2_with fail
  refine (printM_any _ _ _ Hp.out (HT.out.kept B1.out)).mono ?_
  rintro e w2 ⟨rfl, hb⟩
  rw [wk_print]
  have B2 := Lib.hid (below_join B1.out hb)
  have Hp2 := Lib.hid (Hp.out.kept hb)
  clear hb
  go_wp2_with fail
  refine (polParse_any _ _ (by decide) (HM.out.kept B2.out) (HE.out.kept B2.out) (HT.out.kept B2.out)).mono ?_
  rintro e w3 ⟨hb, ⟨vs, q, hr, hok, hf, hpr, rfl, hq⟩ | ⟨hno, _⟩⟩
  rotate_left
  · exact absurd wk_print (hno _ Hp.out.facts.1 Hp.out.facts.2.1 Hp.out.facts.2.2)
  have B3 := Lib.hid (below_join B2.out hb)
  have Hp3 := Lib.hid (Hp2.out.kept hb)
  obtain ⟨c, rfl⟩ := ptr_of hq
  have Hq := Lib.hid hq
  have Hpr := Lib.hid hpr
  clear hb hq hpr hr hok hf
  go_wp2_with fail
  refine (viewers_any _ _ _ Hp3.out).mono ?_
  rintro e w4 ⟨u, rfl, hown, hb⟩
  have B4 := Lib.hid (below_join B3.out hb)
  have Hp4 := Lib.hid (Hp3.out.kept hb)
  have Hq4 := Lib.hid (Hq.out.kept hb)
  obtain ⟨uo, uc, rfl⟩ := (Vws.of_own hown).slice
  rw [show [annV, bobV].length = 2 from rfl]
  clear hb hown
  go_wp2_with fail
  refine (aboveM_any _ _ 8 _ Hp4.out (by decide)).mono ?_
  rintro e w5 ⟨u, rfl, htx, hb⟩
  have B5 := Lib.hid (below_join B4.out hb)
  have Hp5 := Lib.hid (Hp4.out.kept hb)
  have Hq5 := Lib.hid (Hq4.out.kept hb)
  obtain ⟨vo, vc, _, _, rfl, _⟩ := htx.form
  rw [List.length_map, wk_above]
  clear hb htx
  go_wp2_with fail
  refine (printM_any _ _ _ Hp5.out (HT.out.kept B5.out)).mono ?_
  rintro e w6 ⟨rfl, hb⟩
  rw [wk_print]
  have B6 := Lib.hid (below_join B5.out hb)
  have Hp6 := Lib.hid (Hp5.out.kept hb)
  have Hq6 := Lib.hid (Hq5.out.kept hb)
  clear hb
  go_wp2_with fail
  refine (printM_any _ _ _ Hq6.out (HT.out.kept B6.out)).mono ?_
  rintro e w7 ⟨rfl, hb⟩
  rw [Hpr.out]
  have B7 := Lib.hid (below_join B6.out hb)
  have Hp7 := Lib.hid (Hp6.out.kept hb)
  clear hb
  go_wp2_with fail
  refine (printM_any _ _ _ Hp7.out (HT.out.kept B7.out)).mono ?_
  rintro e w8 ⟨rfl, hb⟩
  rw [wk_print]
  have B8 := Lib.hid (below_join B7.out hb)
  clear hb
  go_wp2_with fail
  go_ret
  exact ⟨rfl, B8.out⟩
end Go.Proofs.YtgodmfjcccakbaaGreatDoor
