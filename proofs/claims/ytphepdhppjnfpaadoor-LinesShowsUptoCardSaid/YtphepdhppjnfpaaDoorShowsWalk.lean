import Derived.Test.YtphepdhppjnfpaaDoorInv
namespace Go.Proofs.YtphepdhppjnfpaaDoor
open Go.RowKit Num

theorem own_kept {w w1 : World} {base : Nat} {e : TypeId} {size n : Nat} {v : Value} {xs : List Value} (h : w.ownsRow base e size v n xs) (hb : Below w.heap.size w w1) : w1.ownsRow base e size v n xs := by
  obtain ⟨h1, h2⟩ := h
  refine ⟨h1, ?_⟩
  rcases h2 with h2 | ⟨g, cap, cur, a, b, c, d⟩
  · exact .inl h2
  · have hg : g < w.heap.size := by
      by_cases hc : g < w.heap.size
      · exact hc
      · rw [Array.getElem?_eq_none (by omega)] at c; cases c
    exact .inr ⟨g, cap, cur, a, b, by rw [hb.block g hg]; exact c, d⟩
/-- what was made later lies in another block -/
theorem own_apart {w1 w2 : World} {base : Nat} {e e' : TypeId} {size size' n n' : Nat} {v v' : Value} {xs xs' : List Value} (h : w1.ownsRow base e size v n xs) (h' : w2.ownsRow w1.heap.size e' size' v' n' xs') :
    v.ownBlock = none ∨ v.ownBlock ≠ v'.ownBlock := by
  cases hv : v.ownBlock with
  | none => exact .inl rfl
  | some k =>
    right
    intro e
    have h1 := h.lt k hv
    have h2 := h'.lt k e.symm
    omega

set_option maxRecDepth 100000 in
set_option maxHeartbeats 32000000 in
theorem shows_walk (s t : ByteArray) (v : Value) (l : List ByteArray) (w : World) (hs : s.size ≤ 1048576) (ht : t.size ≤ 1048576) (hv : Texts w v l) (hf : SliceForm v) (hN : joinN l ≤ 1073741824) (hl : l.length ≤ 1048576) (hI : Inv w w) :
    Calls Tryd.prog 5 #[.string s, .string t, v] w fun e w' => e = .returned (.bool true) ∧ Below w.heap.size w w' := by
  obtain ⟨i0, hi, hz0, hz1, hz2⟩ := info_parts Tryd.info9
  obtain ⟨a1, e1⟩ : ∃ x : ByteArray, (⟨(shownT s.data.toList).toArray⟩ : ByteArray) = x := ⟨_, rfl⟩
  obtain ⟨a2, e2⟩ : ∃ x : ByteArray, (⟨(shownR s.data.toList).toArray⟩ : ByteArray) = x := ⟨_, rfl⟩
  obtain ⟨a3, e3⟩ : ∃ x, shownE s.data.toList = x := ⟨_, rfl⟩
  obtain ⟨a4, e4⟩ : ∃ x, cutE t.data.toList = x := ⟨_, rfl⟩
  obtain ⟨cs, e5⟩ : ∃ x, cutT t.data.toList = x := ⟨_, rfl⟩
  obtain ⟨a6, e6⟩ : ∃ x, showB s = x := ⟨_, rfl⟩
  obtain ⟨a7, e7⟩ : ∃ x, joinT l = x := ⟨_, rfl⟩
  have E1 := Lib.hid e1
  have E2 := Lib.hid e2
  have E3 := Lib.hid e3
  have E4 := Lib.hid e4
  have E5 := Lib.hid e5
  have E6 := Lib.hid e6
  have E7 := Lib.hid e7
  have HI := Lib.hid hI
  have HV := Lib.hid hv
  have HN := Lib.hid hN
  have HF := Lib.hid hf
  clear e1 e2 e3 e4 e5 e6 e7 hI hv hN hf
  have hmx : maxLen = 9223372036854775807 := rfl
  have Hmx := Lib.hid hmx
  clear hmx
  go_enter Tryd.func5, Tryd.ntmps5
  go_wp2_with fail
  refine (shown_any _ _ (by have := Hmx.out; omega)).mono ?_
  rintro e w1 ⟨rfl, hb⟩
  rw [E1.out, E2.out, E3.out]
  have HI1 := Lib.hid (HI.out.step hb)
  have HV1 := Lib.hid (HV.out.kept hb)
  clear hb
  go_wp2_with fail
  refine (refShown_any _ _ (by have := Hmx.out; omega)).mono ?_
  rintro e w2 ⟨rfl, hb⟩
  rw [E1.out, E2.out, E3.out]
  have HI2 := Lib.hid (HI1.out.step hb)
  have HV2 := Lib.hid (HV1.out.kept hb)
  clear hb
  go_wp2_with fail
  refine (cut_any _ _ (by omega) HI2.out.maxl).mono ?_
  rintro e w3 ⟨c, rfl, hmc, hb⟩
  rw [E4.out]
  rw [E5.out] at hmc
  have HI3 := Lib.hid (HI2.out.step hb)
  have HV3 := Lib.hid (HV2.out.kept hb)
  have Hmc := Lib.hid hmc
  have HbC := Lib.hid hb
  clear hb hmc
  go_wp2_with fail
  refine (refCut_any _ _ (by omega)).mono ?_
  rintro e w4 ⟨d, rfl, hmd, hb⟩
  rw [E4.out]
  rw [E5.out] at hmd
  have HI4 := Lib.hid (HI3.out.step hb)
  have HV4 := Lib.hid (HV3.out.kept hb)
  have Hb4 := Lib.hid hb
  have Hmd := Lib.hid hmd
  clear hb hmd
  have hown0 := World.ownsRow_made (e := 9) (size := 1) w4 #[] 0 (Nat.le_refl w4.heap.size) (by have := Hmx.out; omega) rfl
  have HV5 := Lib.hid (HV4.out.kept ((Below.refl w4.heap.size w4).alloc (Nat.le_refl _) (.cells #[] 9)))
  have Ho := Lib.hid hown0
  clear hown0
  go_wp2_with (at_builtin; refine wpList_append_texts rfl _ _ rfl w4.heap.size _ 0 [] rfl Ho.out v l rfl HV5.out HF.out ?hn ?hb ?_)
  case hn => omega
  case hb => simp
  intro y w5 hown5 hgrow
  have hb5 : Below w4.heap.size w4 w5 := ((Below.refl w4.heap.size w4).alloc (Nat.le_refl _) _).grown hgrow (by simp) (fun q hq => by cases hq; exact Nat.le_refl _)
  have HI5 := Lib.hid (HI4.out.step hb5)
  have HV6 := Lib.hid (HV4.out.kept hb5)
  have Hb5 := Lib.hid hb5
  have Hy := Lib.hid (Texts.of_own hown5)
  clear hown5 hgrow hb5
  go_wp2_with fail
  refine (show_any _ _ (by omega) HI5.out.pow).mono ?_
  rintro e w6 ⟨rfl, hb⟩
  rw [E6.out]
  have HI6 := Lib.hid (HI5.out.step hb)
  have HV7 := Lib.hid (HV6.out.kept hb)
  have Hb6 := Lib.hid (below_join Hb5.out hb)
  have Hy6 := Lib.hid (Hy.out.kept hb)
  clear hb
  go_wp2_with fail
  refine (refShow_any _ _ (by omega)).mono ?_
  rintro e w7 ⟨rfl, hb⟩
  rw [E6.out]
  have HI7 := Lib.hid (HI6.out.step hb)
  have HV8 := Lib.hid (HV7.out.kept hb)
  have Hb7 := Lib.hid (below_join Hb6.out hb)
  have Hy7 := Lib.hid (Hy6.out.kept hb)
  clear hb
  have HC7 := Lib.hid ((((Hmc.out.texts.kept Hb4.out).kept Hb7.out)))
  have HD7 := Lib.hid (Hmd.out.texts.kept Hb7.out)
  go_wp2_with fail
  refine (sameTexts_any _ _ _ _ _ HC7.out HD7.out).mono ?_
  rintro e w8 ⟨rfl, hb⟩
  rw [decide_eq_true rfl]
  have HI8 := Lib.hid (HI7.out.step hb)
  have HV9 := Lib.hid (HV8.out.kept hb)
  have Hb8 := Lib.hid (below_join Hb7.out hb)
  have Hy8 := Lib.hid (Hy7.out.kept hb)
  clear hb
  go_wp2_with fail
  refine (joined_any _ _ _ Hy8.out HN.out).mono ?_
  rintro e w9 ⟨rfl, hb⟩
  rw [E7.out]
  have HI9 := Lib.hid (HI8.out.step hb)
  have HV10 := Lib.hid (HV9.out.kept hb)
  have Hb9 := Lib.hid (below_join Hb8.out hb)
  have Hy9 := Lib.hid (Hy8.out.kept hb)
  clear hb
  go_wp2_with fail
  refine (refJoined_any _ _ _ HV10.out HN.out).mono ?_
  rintro e w10 ⟨rfl, hb⟩
  rw [E7.out]
  have HI10 := Lib.hid (HI9.out.step hb)
  have HV11 := Lib.hid (HV10.out.kept hb)
  have Hb10 := Lib.hid (below_join Hb9.out hb)
  have Hy10 := Lib.hid (Hy9.out.kept hb)
  clear hb
  go_wp2_with fail
  refine (sameTexts_any _ _ _ _ _ Hy10.out HV11.out).mono ?_
  rintro e w11 ⟨rfl, hb⟩
  rw [decide_eq_true rfl]
  have HI11 := Lib.hid (HI10.out.step hb)
  have Hb11 := Lib.hid (below_join Hb10.out hb)
  have Hc11 := Lib.hid (own_kept (own_kept Hmc.out Hb4.out) Hb11.out)
  have Hd11 := Lib.hid (own_kept Hmd.out Hb11.out)
  have hdist := own_apart Hmc.out Hmd.out
  have Hdist := Lib.hid hdist
  clear hb hdist
  have hb211 : Below w2.heap.size w2 w11 := HbC.out.trans (((Hb4.out).mono HbC.out.size).trans (Hb11.out.mono (Nat.le_trans HbC.out.size Hb4.out.size)))
  have Hb2 := Lib.hid hb211
  clear hb211
  obtain ⟨n, hn⟩ : ∃ n, cs.length = n := ⟨_, rfl⟩
  have hcn := Hc11.out
  have hdn := Hd11.out
  rw [hn] at hcn hdn
  have Hcn := Lib.hid hcn
  have Hdn := Lib.hid hdn
  have hnm : n ≤ 9223372036854775807 := by
    rcases hcn.2 with ⟨_, h0⟩ | ⟨g, cap, cur, _, _, _, h1, h2, _⟩
    · omega
    · have := Hmx.out; omega
  rcases Joins.ownsRow_forms hcn with ⟨hv0, hn0⟩ | ⟨g, cap, hv0⟩
  · have Hn := Lib.hid hn
    subst hv0
    clear hcn hdn hn
    go_wp2_with fail
    go_loop [18] (fun i => i = .int .i64 0) (fun _ => 0)
    case atStart => rfl
    case round =>
      subst hrel
      go_wp2_with fail
      refine (cut_any _ _ (by omega) HI11.out.maxl).mono ?_
      rintro e w12 ⟨c2, rfl, hmc2, hb⟩
      rw [E4.out]
      rw [E5.out] at hmc2
      have HI12 := Lib.hid (HI11.out.step hb)
      have Hd12 := Lib.hid (Texts.kept (Texts.of_own Hd11.out) hb)
      have Hc12 := Lib.hid hmc2.texts
      clear hb hmc2
      go_wp2_with fail
      refine (sameTexts_any _ _ _ _ _ Hc12.out Hd12.out).mono ?_
      rintro e w13 ⟨rfl, hb⟩
      rw [decide_eq_true rfl]
      have HI13 := Lib.hid (HI12.out.step hb)
      clear hb
      go_wp2_with fail
      go_ret
      exact ⟨rfl, HI13.out.below⟩
  · have Hn := Lib.hid hn
    subst hv0
    have hdg : d.ownBlock ≠ some g := by
      rcases Hdist.out with h | h
      · cases h
      · exact fun e => h (by rw [e]; rfl)
    have Hdg := Lib.hid hdg
    clear hcn hdn hn hdg
    go_wp2_with fail
    go_loopw [18] (fun i wr => ∃ (k : Nat) (xs : List Value), k ≤ n ∧ i = .int .i64 k ∧ wr.ownsRow w2.heap.size 9 1 (.slice (some ⟨g, 0, none⟩) n cap) n xs ∧ wr.ownsRow w3.heap.size 9 1 d n (cs.map Value.string) ∧ Below w2.heap.size w2 wr) (fun i _ => n - (intOf i).toNat)
    case atStart => exact ⟨0, _, Nat.zero_le _, rfl, Hcn.out, Hdn.out, Hb2.out⟩
    case round =>
      obtain ⟨k, xs, hk, rfl, hxc, hxd, hbw⟩ := hrel
      by_cases hlt : k < n
      · have hxl : xs.length = n := by have := hxc.1; omega
        have c1 := hxc.cellAt k (by omega)
        rw [List.getElem?_eq_getElem (by omega)] at c1
        have f1 := hxc.frozenAt k
        have hst := hxc.stored k (.string ⟨#[63]⟩)
        have hxd2 := ownsRow_setCell_other (a := ⟨g, k, none⟩) hxd Hdg.out (.string ⟨#[63]⟩)
        have hlg := (hxc.lt g rfl).1
        have hbw2 := hbw.setCell (p := ⟨g, k, none⟩) hlg (.string ⟨#[63]⟩)
        have Hst := Lib.hid hst
        have Hxd2 := Lib.hid hxd2
        have Hbw2 := Lib.hid hbw2
        clear hst hxd2 hbw2 hxc hxd hbw
        go_wp2_with fail
        go_roundw
        case rel => exact ⟨k + 1, _, by omega, by go_num, Hst.out.1, Hxd2.out, Hbw2.out⟩
        case measure => simp [intOf]; omega
      · have HIr := Lib.hid (HI2.out.step hbw)
        have Hdr : Hid (Texts wr d cs) := Texts.of_own hxd
        clear hxc hxd
        go_wp2_with fail
        refine (cut_any _ _ (by omega) HIr.out.maxl).mono ?_
        rintro e w12 ⟨c2, rfl, hmc2, hb⟩
        rw [E4.out]
        rw [E5.out] at hmc2
        have HI12 := Lib.hid (HIr.out.step hb)
        have Hd12 := Lib.hid (Texts.kept Hdr.out hb)
        have Hc12 := Lib.hid hmc2.texts
        clear hb hmc2
        go_wp2_with fail
        refine (sameTexts_any _ _ _ _ _ Hc12.out Hd12.out).mono ?_
        rintro e w13 ⟨rfl, hb⟩
        rw [decide_eq_true rfl]
        have HI13 := Lib.hid (HI12.out.step hb)
        clear hb
        go_wp2_with fail
        go_ret
        exact ⟨rfl, HI13.out.below⟩
end Go.Proofs.YtphepdhppjnfpaaDoor
