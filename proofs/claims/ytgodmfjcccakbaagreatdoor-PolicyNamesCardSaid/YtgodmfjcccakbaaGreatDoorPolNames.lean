/- Own work: PolicyNames. -/
import Derived.Test.YtgodmfjcccakbaaGreatDoorPolBack
import Derived.Test.YtgodmfjcccakbaaGreatDoorPolNil
import Derived.Test.YtgodmfjcccakbaaGreatDoorCutA
namespace Go.Proofs.YtgodmfjcccakbaaGreatDoor
open Go.RowKit Go.Maps Go.Shelf Num

def bob1V : Vw := ⟨⟨#[98, 111, 98]⟩, 1⟩
theorem nm_two : ¬ polOk [bob1V, bob1V] := fun h => absurd h.2.2 (by rw [Once]; decide +kernel)
theorem nm_twof : Fits [bob1V, bob1V] := by
  intro v hv
  simp at hv
  unfold maxLen
  subst hv
  exact ⟨by decide, by decide⟩
theorem nm_fall : ∀ vs, Rising vs → polOk vs → Fits vs → printT vs ≠ ⟨#[98, 111, 98, 32, 51, 10, 97, 110, 110, 32, 45, 10]⟩ := by
  intro vs hr ho hf h
  have hp : printT [bobV, annV] = ⟨#[98, 111, 98, 32, 51, 10, 97, 110, 110, 32, 45, 10]⟩ := by
    have h0 : lineB annV = ⟨#[97, 110, 110, 32, 45]⟩ := rfl
    have h1 : lineB bobV = ⟨#[98, 111, 98, 32, 51]⟩ := by
      rw [lineB, show bobV.lab = 8 from rfl, wk_text]; rfl
    show joinT [lineB bobV, lineB annV] = _
    rw [h0, h1]
    rfl
  obtain rfl := print_inj wk_ok ho wk_fits hf (hp.trans h.symm)
  have h1 := List.rel_of_pairwise_cons hr (List.mem_singleton.2 rfl)
  exact absurd h1 (by decide +kernel)
theorem nm_same : ∀ vs, Rising vs → polOk vs → Fits vs → printT vs ≠ ⟨#[97, 110, 110, 32, 45, 10, 97, 110, 110, 32, 45, 10]⟩ := by
  intro vs hr ho hf h
  have hu : [annV, annV].map lineB = cutT (⟨#[97, 110, 110, 32, 45, 10, 97, 110, 110, 32, 45, 10]⟩ : ByteArray).data.toList := by
    have h0 : lineB annV = ⟨#[97, 110, 110, 32, 45]⟩ := rfl
    show [lineB annV, lineB annV] = _
    rw [h0]
    decide +kernel
  have hb := pol_blank wk_ok wk_fits annV (by simp)
  have hp : ∀ v ∈ [annV, annV], noBlank v ∧ v.lab < 18446744073709551616 := by
    intro v hv
    simp at hv
    subst hv
    exact hb
  obtain rfl := pol_lines hu hp ho hf h
  have h1 := List.rel_of_pairwise_cons hr (List.mem_singleton.2 rfl)
  exact absurd h1 (by decide +kernel)
theorem nm_none {vs : List Vw} (ho : polOk vs) (hf : Fits vs) (h : printT vs = ⟨#[]⟩) : vs = [] := by
  have h0 : polOk [] := ⟨by simp, by simp, by rw [Once]; simp⟩
  exact (print_inj h0 ho (fun v hv => by cases hv) hf (h.symm ▸ rfl)).symm
def noughts : List Nat := List.replicate 64 0
def zz9V : Vw := ⟨⟨#[122, 122, 57]⟩, 0⟩
theorem nm_more {l : List Vw} (h : l.length = 64) : ¬ polOk (l ++ [zz9V]) := fun hk => by
  have := hk.1
  simp [h] at this
theorem nm_zero : ∀ v ∈ sortV (fitV noughts 64), v.lab = 0 := by
  intro v hv
  obtain ⟨i, hi, rfl⟩ := fit_mem ((sortV_perm _).mem_iff.1 hv)
  show noughts.getD i 0 = 0
  rw [noughts, List.getD_eq_getElem?_getD, List.getElem?_replicate]
  split <;> rfl
theorem nm_below {l : List Vw} (h : ∀ v ∈ l, v.lab = 0) : eraseV l 0 = l := by
  rw [eraseV, List.filter_eq_self]
  intro v hv
  rw [h v hv]
  decide +kernel
theorem nm_cells : madeCells (Value.int .u64 0).cells 64 = ((intsOf noughts).map (Value.int .u64)).toArray := by kernel_rfl
theorem nm_made (w : World) : (Instr.makeSlice 31 (.int .i64 64) (.int .i64 64)).run Tryz.prog w = .ok (.slice (some ⟨w.heap.size, 0, none⟩) 64 64) (w.alloc (.cells ((intsOf noughts).map (Value.int .u64)).toArray 25)) := by
  obtain ⟨i0, hi, hz0, hz1, hz2⟩ := info_parts Tryz.info25
  have := run_make (P := Tryz.prog) w 31 25 i0 (.int .u64 0) Tryz.underlying31 hi hz0 .i64 .i64 64 64 (by omega) (Int.le_refl _) (by rw [hz2]; omega) (by omega)
  rw [hz1] at this
  rw [← nm_cells]
  exact this
theorem nm_nums (w : World) : Nums .u64 (w.alloc (.cells ((intsOf noughts).map (Value.int .u64)).toArray 25)) (.slice (some ⟨w.heap.size, 0, none⟩) 64 64) (intsOf noughts) := by
  have hl : (intsOf noughts).length = 64 := by rw [intsOf_len, noughts, List.length_replicate]
  have h := World.ownsRow_lit (e := 25) (size := 1) w ((intsOf noughts).map (Value.int .u64)).toArray 64 (Nat.le_refl w.heap.size) (by unfold maxLen; omega) (by simp [hl])
  exact Nums.of_own h

set_option maxHeartbeats 16000000 in
set_option maxRecDepth 100000 in
theorem names_walk (w : World) (hM : MaxL w) (hE : ErrVars w) (hT : Deb w) :
    Calls Tryz.prog 3 #[] w fun e w' => e = .returned (.bool true) ∧ Below w.heap.size w w' := by
  obtain ⟨i0, hi, hz0, hz1, hz2⟩ := info_parts Tryz.info40
  have hmk := nm_made
  have HM := Lib.hid hM
  have HE := Lib.hid hE
  have HT := Lib.hid hT
  clear hM hE hT
  go_enter Tryz.func3, Tryz.ntmps3
  go_wp2_with fail
  refine (works_any _ HM.out HE.out HT.out).mono ?_
  rintro e w1 ⟨rfl, hb⟩
  have B1 := Lib.hid hb
  clear hb
  go_wp2_with fail
  refine (clearance_nil _ _).mono ?_
  rintro e w' ⟨rfl, rfl⟩
  go_wp2_with fail
  refine (viewers_nil _).mono ?_
  rintro e w' ⟨rfl, rfl⟩
  go_wp2_with fail
  refine (clearances_nil _).mono ?_
  rintro e w' ⟨rfl, rfl⟩
  go_wp2_with fail
  refine (below_nil _ _).mono ?_
  rintro e w2 ⟨rfl, hb⟩
  have B2 := Lib.hid (below_join B1.out hb)
  clear hb
  go_wp2_with fail
  refine (above_nil _ _).mono ?_
  rintro e w3 ⟨rfl, hb⟩
  have B3 := Lib.hid (below_join B2.out hb)
  clear hb
  go_wp2_with fail
  refine (print_nil _).mono ?_
  rintro e w4 ⟨rfl, hb⟩
  have B4 := Lib.hid (below_join B3.out hb)
  clear hb
  go_wp2_with fail
  refine (erase_nil _ _).mono ?_
  rintro e w5 ⟨rfl, hb⟩
  have B5 := Lib.hid (below_join B4.out hb)
  clear hb
  go_wp2_with fail
  refine (new_any _ [bob1V, bob1V] _ (vws_lit w5 [bob1V, bob1V] 40 (by decide) (by unfold maxLen; simp)) nm_twof).mono ?_
  rintro e w6 ⟨hb, ⟨_, rfl⟩ | ⟨hok, _⟩⟩
  rotate_left
  · exact absurd hok nm_two
  have B6 := Lib.hid (below_join (B5.out.alloc B5.out.size (.cells #[.string ⟨#[98, 111, 98]⟩, .int .u64 1, .string ⟨#[98, 111, 98]⟩, .int .u64 1] 40)) hb)
  clear hb
  go_wp2_with fail
  refine (polParse_any _ _ (by decide) (HM.out.kept B6.out) (HE.out.kept B6.out) (HT.out.kept B6.out)).mono ?_
  rintro e w7 ⟨hb, ⟨vs, q, hr, hok, hf, hpr, rfl, hq⟩ | ⟨_, rfl⟩⟩
  · exact absurd hpr (nm_fall vs hr hok hf)
  have B7 := Lib.hid (below_join B6.out hb)
  clear hb
  go_wp2_with fail
  refine (polParse_any _ _ (by decide) (HM.out.kept B7.out) (HE.out.kept B7.out) (HT.out.kept B7.out)).mono ?_
  rintro e w8 ⟨hb, ⟨vs, q, hr, hok, hf, hpr, rfl, hq⟩ | ⟨_, rfl⟩⟩
  · exact absurd hpr (nm_same vs hr hok hf)
  have B8 := Lib.hid (below_join B7.out hb)
  clear hb
  go_wp2_with fail
  refine (fit_any _ noughts _ (nm_nums w8)).mono ?_
  rintro e w9 ⟨v, k, rfl, hk1, hk2, hk3, hown, hb⟩
  have hnl : noughts.length = 64 := by rw [noughts, List.length_replicate]
  obtain rfl : k = 64 := by omega
  have B9 := Lib.hid (below_join (B8.out.alloc B8.out.size (.cells ((intsOf noughts).map (Value.int .u64)).toArray 25)) hb)
  obtain ⟨vs, hvs⟩ : ∃ vs, fitV noughts 64 = vs := ⟨_, rfl⟩
  have Hok := Lib.hid (show polOk vs by rw [← hvs]; exact fit_ok (by omega))
  have Hfit := Lib.hid (show Fits vs by rw [← hvs]; exact fit_fits (fun x hx => by rw [List.eq_of_mem_replicate hx]; omega))
  have Hlen := Lib.hid (show vs.length = 64 by rw [← hvs]; exact fitV_len noughts 64)
  have Hz := Lib.hid (show ∀ x ∈ sortV vs, x.lab = 0 by rw [← hvs]; exact nm_zero)
  have Hsl := Lib.hid (show (sortV vs).length = 64 by rw [sortV_len]; exact Hlen.out)
  rw [hvs] at hown
  have Hv := Lib.hid (Vws.of_own (by rw [Hlen.out]; exact hown))
  obtain ⟨g, cap, rfl⟩ := Joins.ownsRow_form hown (by omega)
  have Hg := Lib.hid (hown.lt g rfl).2
  have Hown := Lib.hid hown
  have S9 := Lib.hid hb.size
  clear hb hvs hown hk1 hk2 hk3 hnl
  go_wp2_with fail
  refine (new_strong _ vs _ Hv.out Hfit.out).mono ?_
  rintro e w10 ⟨hb, ⟨hno, _⟩ | ⟨_, p, rfl, hp⟩⟩
  · exact absurd Hok.out hno
  obtain ⟨bp, rfl⟩ := ptr_of hp.pol
  have B10 := Lib.hid (below_join B9.out hb)
  have Hp := Lib.hid hp
  have Hown10 := Lib.hid (own_kept Hown.out hb)
  have S10 := Lib.hid hb.size
  clear hb hp
  go_wp2_with (at_builtin; refine wpList_append_own _ rfl _ _ 29 rfl (w8.alloc (.cells ((intsOf noughts).map (Value.int .u64)).toArray 25)).heap.size 40 i0 _ 2 24 Tryz.underlying29 hi hz0 hz1 hz2 rfl (by decide) _ _ _ rfl (Hown10.out.alloc _) ⟨w10.heap.size, 0, none⟩ 1 1 zz9V.cells rfl rfl ?d2 ?d3 ?d4 ?d5 ?d6 ?_)
  case d2 => exact fun j u h => two_cellV w10 zz9V _ j u h
  case d3 => intro y hy; exact flatV_plain [zz9V] y (by rw [flatV_one]; exact hy)
  case d4 => unfold maxLen; omega
  case d5 => omega
  case d6 =>
    simp
    have h1 := S9.out
    have h2 := S10.out
    simp at h1
    omega
  intro v11 w11 hown11 hgrow _
  have B11 := Lib.hid ((B10.out.alloc B10.out.size (.cells zz9V.cells.toArray 40)).grown hgrow (by simp; have := B10.out.size; omega) (fun q hq => by
    have h1 := (Hown10.out.lt q hq).1
    have h2 := B8.out.size
    simp at h1
    omega))
  have Hp11 := Lib.hid ((Hp.out.kept ((Below.refl _ _).alloc (Nat.le_refl _) (.cells zz9V.cells.toArray 40))).grown hgrow Hg.out)
  have Hv11 := Lib.hid (Vws.of_own (ls := vs ++ [zz9V]) (by rw [flatV_append, flatV_one, List.length_append, Hlen.out]; exact hown11))
  have Hfit11 := Lib.hid (show Fits (vs ++ [zz9V]) from fun x hx => by
    rcases List.mem_append.1 hx with hx | hx
    · exact Hfit.out x hx
    · rw [List.mem_singleton.1 hx]; unfold maxLen; exact ⟨by decide, by decide⟩)
  clear hown11 hgrow
  go_wp2_with fail
  refine (new_any _ (vs ++ [zz9V]) _ Hv11.out Hfit11.out).mono ?_
  rintro e w12 ⟨hb, ⟨_, rfl⟩ | ⟨hok, _⟩⟩
  rotate_left
  · exact absurd hok (nm_more Hlen.out)
  have B12 := Lib.hid (below_join B11.out hb)
  have Hp12 := Lib.hid (Hp11.out.pol.kept hb)
  clear hb
  go_wp2_with fail
  refine (polParse_any _ _ (by decide) (HM.out.kept B12.out) (HE.out.kept B12.out) (HT.out.kept B12.out)).mono ?_
  rintro e w13 ⟨hb, ⟨vs2, q, hr, hok, hf, hpr, rfl, hq⟩ | ⟨hno, _⟩⟩
  rotate_left
  · exact absurd rfl (hno [] List.Pairwise.nil ⟨by simp, by simp, by rw [Once]; simp⟩ (fun v hv => by cases hv))
  obtain rfl := nm_none hok hf hpr
  obtain ⟨bq, rfl⟩ := ptr_of hq
  have B13 := Lib.hid (below_join B12.out hb)
  have Hp13 := Lib.hid (Hp12.out.kept hb)
  have Hq13 := Lib.hid hq
  clear hb hq hr hok hf hpr
  go_wp2_with fail
  refine (belowM_any _ _ 0 _ Hp13.out (by decide)).mono ?_
  rintro e w14 ⟨u, rfl, htx, hb⟩
  rw [nm_below Hz.out] at htx
  obtain ⟨uo, uc, _, _, rfl, _⟩ := htx.form
  rw [List.length_map, Hsl.out]
  have B14 := Lib.hid (below_join B13.out hb)
  have Hp14 := Lib.hid (Hp13.out.kept hb)
  have Hq14 := Lib.hid (Hq13.out.kept hb)
  clear hb htx
  go_wp2_with fail
  refine (clearances_zero _ _ _ Hp14.out Hsl.out Hz.out).mono ?_
  rintro e w15 ⟨ca, cc, rfl, hb⟩
  have B15 := Lib.hid (below_join B14.out hb)
  have Hq15 := Lib.hid (Hq14.out.kept hb)
  clear hb
  go_wp2_with fail
  refine (viewers_any _ _ _ Hq15.out).mono ?_
  rintro e w16 ⟨u16, rfl, hown, hb⟩
  obtain ⟨xo, xc, rfl⟩ := (Vws.of_own hown).slice
  have B16 := Lib.hid (below_join B15.out hb)
  clear hb hown
  go_wp2_with fail
  go_ret
  exact ⟨rfl, B16.out⟩
end Go.Proofs.YtgodmfjcccakbaaGreatDoor
