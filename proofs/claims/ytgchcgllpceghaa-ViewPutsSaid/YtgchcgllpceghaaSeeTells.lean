/- Own work: ViewTells' walk. -/
import Derived.Test.YtgchcgllpceghaaSeeRefs
import Derived.Test.YtgchcgllpceghaaSeeMath
import Derived.Test.YtgchcgllpceghaaPit
namespace Go.Proofs.Ytgchcgllpceghaa
open Go.RowKit Go.Joins

theorem sl_front (g n cap k : Nat) (hk : k ≤ cap) (W : World) : (Instr.slice 22 (.slice (some ⟨g, 0, none⟩) n cap) none (some (.int .i64 (k : Int))) none).run Try.prog W = .ok (.slice (some ⟨g, 0, none⟩) k cap) W := by
  have h1 : (0 : Int) ≤ (k : Int) := by omega
  simp [Instr.slice, Instr.sliceBounds, Instr.sliceBound, asIntOf, run_underlying Try.underlying22, go_sem, h1, hk]
theorem sl_front1 (g n cap k : Nat) (hk : k + 1 ≤ cap) (W : World) : (Instr.slice 22 (.slice (some ⟨g, 0, none⟩) n cap) none (some (.int .i64 ((k : Int) + 1))) none).run Try.prog W = .ok (.slice (some ⟨g, 0, none⟩) (k + 1) cap) W := by
  have h := sl_front g n cap (k + 1) hk W
  rwa [Int.natCast_succ] at h
theorem filter_parts (p : LineV → Bool) : ∀ (l : List LineV), (l.filter p).length + (l.filter fun x => !p x).length = l.length
  | [] => rfl
  | x :: r => by
    have ih := filter_parts p r
    cases hp : p x <;> simp [hp] at ih ⊢ <;> omega
theorem texts_keptBut {S : Nat → Prop} {W0 w : World} {v : Value} {ss : List ByteArray} (h : Texts W0 v ss) (k : KeptBut S W0 w) (hb : ∀ b, v.ownBlock = some b → ¬ S b) : Texts w v ss := by
  rcases h with h | ⟨b, o, cap, h1, h2, h3, h4, h5⟩
  · exact .inl h
  · exact .inr ⟨b, o, cap, h1, h2, h3, h4, fun i hi => k.cell (h5 i hi) (hb b (by rw [h1]; rfl))⟩
set_option maxRecDepth 100000 in
set_option maxHeartbeats 32000000 in
theorem tells_walk (u : Value) (l : List LineV) (c : Nat) (w : World) (hu : Lns w u l) (hform : SliceForm u) (hf : ∀ x ∈ l, x.fine) (hc : c < 18446744073709551616) (hlen : l.length * 40 ≤ 140737488351232) :
    Calls Try.prog 3 #[u, .int .u64 c] w fun e w' => e = .returned (.bool true) ∧ Below w.heap.size w w' := by
  obtain ⟨i0, hi, hz0, hz1, hz2⟩ := info_parts Try.seenInfo26
  obtain ⟨i1, hi1, hy0, hy1, hy2⟩ := info_parts Try.seenInfo3
  obtain ⟨i2, hi2, hx0, hx1, hx2⟩ := info_parts Try.seenInfo9
  have Hu := Lib.hid hu
  have Hform := Lib.hid hform
  obtain ⟨uo, ucap, ub, uof, rfl, _⟩ := hu.form
  have Hf := Lib.hid hf
  have Hc := Lib.hid hc
  have Hlen : Hid (l.length * 40 ≤ 140737488355328) := by show _ ≤ _; omega
  obtain ⟨N, hN⟩ : ∃ N, l.length = N := ⟨_, rfl⟩
  have HN := Lib.hid hN
  rw [hN] at Hu Hform hlen ⊢
  have hal : Below w.heap.size w (w.alloc (.cells #[] 26)) := (Below.refl _ _).alloc (Nat.le_refl _) _
  have HAL := Lib.hid hal
  clear hu hform hf hc hN hal
  go_enter Try.func3, Try.ntmps3
  go_wp2_with (at_builtin; refine wpList_append_lines rfl _ _ rfl w.heap.size _ 0 [] rfl (own_empty4 (heap_alloc_new w _) (Nat.le_refl _)) _ l rfl (Hu.out.kept HAL.out) Hform.out (by have := Hlen.out; omega) (by simp) ?_)
  intro v1 w1 hown1 hg1
  have B1 := Lib.hid (HAL.out.grown hg1 (by simp) (fun q hq => by cases hq; exact Nat.le_refl _))
  try rw [Nat.zero_add, List.nil_append] at hown1
  rw [HN.out] at hown1
  have HO1 := Lib.hid hown1
  have hnew := own_news _ _ _ _ (heap_alloc_new w1 (.cells #[.int .u64 0, .int .i64 7, .int .i64 0, .string ⟨#[]⟩] 26))
  have hs1 := B1.out.size
  clear hown1 hg1
  go_wp2_with (at_builtin; refine wpList_append_own _ rfl _ _ 22 rfl w.heap.size 26 i0 (.agg #[.int .u64 0, .int .i64 0, .int .i64 0, .string ⟨#[]⟩]) 4 40 Try.underlying22 hi hz0 hz1 hz2 rfl (by decide) _ _ _ rfl (HO1.out.alloc _) ⟨w1.heap.size, 0, none⟩ 1 1 [.int .u64 0, .int .i64 7, .int .i64 0, .string ⟨#[]⟩] rfl rfl hnew (by simp [Value.oneCell']) (by unfold maxLen; omega) (by omega) (by simp; omega) ?_)
  intro v2 w2 hown2 hg2 _
  obtain ⟨gi, capi, rfl⟩ := ownsRow_succ hown2
  have B2 := Lib.hid ((B1.out.alloc B1.out.size _).grown hg2 (by simp; omega) (fun q hq => (HO1.out.lt q hq).1))
  have hcapi := (own_cap hown2).1
  have HO2 : Hid (w2.ownsRow w.heap.size 26 4 (.slice (some ⟨gi, 0, none⟩) (N + 1) capi) (N + 1) (flatL (l ++ [⟨0, 7, 0, ⟨#[]⟩⟩]))) := by
    have e : flatL (l ++ [⟨0, 7, 0, ⟨#[]⟩⟩]) = flatL l ++ [.int .u64 0, .int .i64 7, .int .i64 0, .string ⟨#[]⟩] := by simp [flatL, LineV.cells]
    show World.ownsRow _ _ _ _ _ _ _
    rw [e]; exact hown2
  have HIN := Lib.hid (lns_front HO2.out HN.out)
  have hgi := ownsRow_lt HO2.out (k := gi) rfl
  have HGI := Lib.hid hgi
  have c7 : w2.cell? ⟨gi, N * 4 + 1, none⟩ = some (.int .i64 7) := by
    have h := HO2.out.cellAt (N * 4 + 1) (by omega)
    obtain ⟨_, f1, _, _⟩ := flatL_get (l ++ [⟨0, 7, 0, ⟨#[]⟩⟩]) N (by simp [HN.out])
    rw [h, f1]
    have e := HN.out
    simp [← e]
  have C7 := Lib.hid c7
  clear hown2 hg2 hnew hs1 hgi c7
  have hs := fun W => sl_front gi (N + 1) capi N (by omega) W
  go_wp2_with fail
  clear hs
  refine (of_any _ l c _ HIN.out Hf.out Hc.out Hlen.out).mono ?_
  rintro e w3 ⟨va, rfl, ha, hb3⟩
  have HIN := Lib.hid (HIN.out.kept hb3)
  have B3 := Lib.hid (below_join B2.out hb3)
  have C7 := Lib.hid (cell_kept hb3 C7.out)
  have Oa := Lib.hid (show World.ownsRow _ _ _ _ _ _ _ from ha)
  have La := Lib.hid (Lies.of ha)
  have Z3 := Lib.hid hb3.size
  clear ha hb3
  go_wp2_with fail
  refine (of_any _ l c _ HIN.out Hf.out Hc.out Hlen.out).mono ?_
  rintro e w4 ⟨vb, rfl, hb, hb4⟩
  have Oa := Lib.hid (own_kept Oa.out hb4)
  have HIN := Lib.hid (HIN.out.kept hb4)
  have B4 := Lib.hid (below_join B3.out hb4)
  have C7 := Lib.hid (cell_kept hb4 C7.out)
  have Ob := Lib.hid (show World.ownsRow _ _ _ _ _ _ _ from hb)
  have Lb := Lib.hid (Lies.of hb)
  have Z4 := Lib.hid hb4.size
  clear hb hb4
  go_wp2_with fail
  refine (hidden_any _ l c _ HIN.out Hf.out Hc.out Hlen.out).mono ?_
  rintro e w5 ⟨vh, rfl, hh, hb5⟩
  have Oa := Lib.hid (own_kept Oa.out hb5)
  have Ob := Lib.hid (own_kept Ob.out hb5)
  have HIN := Lib.hid (HIN.out.kept hb5)
  have B5 := Lib.hid (below_join B4.out hb5)
  have C7 := Lib.hid (cell_kept hb5 C7.out)
  have Oh := Lib.hid (show World.ownsRow _ _ _ _ _ _ _ from hh)
  have Lh := Lib.hid (Lies.of hh)
  have Z5 := Lib.hid hb5.size
  clear hh hb5
  go_wp2_with fail
  refine (hidden_any _ l c _ HIN.out Hf.out Hc.out Hlen.out).mono ?_
  rintro e w6 ⟨vg, rfl, hg, hb6⟩
  have Oa := Lib.hid (own_kept Oa.out hb6)
  have Ob := Lib.hid (own_kept Ob.out hb6)
  have Oh := Lib.hid (own_kept Oh.out hb6)
  have HIN := Lib.hid (HIN.out.kept hb6)
  have B6 := Lib.hid (below_join B5.out hb6)
  have C7 := Lib.hid (cell_kept hb6 C7.out)
  have Og := Lib.hid (show World.ownsRow _ _ _ _ _ _ _ from hg)
  have Lg := Lib.hid (Lies.of hg)
  have Z6 := Lib.hid hb6.size
  clear hg hb6
  go_wp2_with fail
  refine (places_any _ l c _ HIN.out Hf.out Hc.out Hlen.out).mono ?_
  rintro e w7 ⟨vp, rfl, hp, hb7⟩
  have Oa := Lib.hid (own_kept Oa.out hb7)
  have Ob := Lib.hid (own_kept Ob.out hb7)
  have Oh := Lib.hid (own_kept Oh.out hb7)
  have Og := Lib.hid (own_kept Og.out hb7)
  have HIN := Lib.hid (HIN.out.kept hb7)
  have B7 := Lib.hid (below_join B6.out hb7)
  have C7 := Lib.hid (cell_kept hb7 C7.out)
  have Op := Lib.hid hp
  have Lp := Lib.hid (Lies.of hp)
  have Z7 := Lib.hid hb7.size
  clear hp hb7
  go_wp2_with fail
  refine (places_any _ l c _ HIN.out Hf.out Hc.out Hlen.out).mono ?_
  rintro e w8 ⟨vq, rfl, hq, hb8⟩
  have Oa := Lib.hid (own_kept Oa.out hb8)
  have Ob := Lib.hid (own_kept Ob.out hb8)
  have Oh := Lib.hid (own_kept Oh.out hb8)
  have Og := Lib.hid (own_kept Og.out hb8)
  have Op := Lib.hid (own_kept Op.out hb8)
  have HIN := Lib.hid (HIN.out.kept hb8)
  have B8 := Lib.hid (below_join B7.out hb8)
  have C7 := Lib.hid (cell_kept hb8 C7.out)
  have Oq := Lib.hid hq
  have Lq := Lib.hid (Lies.of hq)
  have Z8 := Lib.hid hb8.size
  clear hq hb8
  go_wp2_with fail
  refine (texts_any va _ _ (Lns.of_own Oa.out) (fine_filter Hf.out) (len_filter Hlen.out)).mono ?_
  rintro e w9 ⟨vs, rfl, hs, hb9⟩
  have Oa := Lib.hid (own_kept Oa.out hb9)
  have Ob := Lib.hid (own_kept Ob.out hb9)
  have Oh := Lib.hid (own_kept Oh.out hb9)
  have Og := Lib.hid (own_kept Og.out hb9)
  have Op := Lib.hid (own_kept Op.out hb9)
  have Oq := Lib.hid (own_kept Oq.out hb9)
  have HIN := Lib.hid (HIN.out.kept hb9)
  have B9 := Lib.hid (below_join B8.out hb9)
  have C7 := Lib.hid (cell_kept hb9 C7.out)
  have Os := Lib.hid hs
  have Ls := Lib.hid (Lies.of hs)
  have Z9 := Lib.hid hb9.size
  clear hs hb9
  go_wp2_with fail
  refine (texts_any vb _ _ (Lns.of_own Ob.out) (fine_filter Hf.out) (len_filter Hlen.out)).mono ?_
  rintro e w10 ⟨vt, rfl, ht, hb10⟩
  have Oa := Lib.hid (own_kept Oa.out hb10)
  have Ob := Lib.hid (own_kept Ob.out hb10)
  have Oh := Lib.hid (own_kept Oh.out hb10)
  have Og := Lib.hid (own_kept Og.out hb10)
  have Op := Lib.hid (own_kept Op.out hb10)
  have Oq := Lib.hid (own_kept Oq.out hb10)
  have Os := Lib.hid (own_kept Os.out hb10)
  have HIN := Lib.hid (HIN.out.kept hb10)
  have B10 := Lib.hid (below_join B9.out hb10)
  have C7 := Lib.hid (cell_kept hb10 C7.out)
  have Ot := Lib.hid ht
  have Lt := Lib.hid (Lies.of ht)
  have Z10 := Lib.hid hb10.size
  clear ht hb10
  go_wp2_with fail
  refine (ref06Of_any _ l c _ (Hu.out.kept B10.out) Hf.out Hc.out Hlen.out).mono ?_
  rintro e w11 ⟨vwant, rfl, hwant, hb11⟩
  rw [pickL_lines, pickL_count] at hwant
  have Oa := Lib.hid (own_kept Oa.out hb11)
  have Ob := Lib.hid (own_kept Ob.out hb11)
  have Oh := Lib.hid (own_kept Oh.out hb11)
  have Og := Lib.hid (own_kept Og.out hb11)
  have Op := Lib.hid (own_kept Op.out hb11)
  have Oq := Lib.hid (own_kept Oq.out hb11)
  have Os := Lib.hid (own_kept Os.out hb11)
  have Ot := Lib.hid (own_kept Ot.out hb11)
  have HIN := Lib.hid (HIN.out.kept hb11)
  have B11 := Lib.hid (below_join B10.out hb11)
  have C7 := Lib.hid (cell_kept hb11 C7.out)
  have Owant := Lib.hid hwant
  have Lwant := Lib.hid (Lies.of hwant)
  have Z11 := Lib.hid hb11.size
  clear hwant hb11
  go_wp2_with fail
  refine (ref06Hidden_any _ l c _ (Hu.out.kept B11.out) Hf.out Hc.out Hlen.out).mono ?_
  rintro e w12 ⟨vhid, rfl, hhid, hb12⟩
  rw [pickL_lines, pickL_count] at hhid
  have Oa := Lib.hid (own_kept Oa.out hb12)
  have Ob := Lib.hid (own_kept Ob.out hb12)
  have Oh := Lib.hid (own_kept Oh.out hb12)
  have Og := Lib.hid (own_kept Og.out hb12)
  have Op := Lib.hid (own_kept Op.out hb12)
  have Oq := Lib.hid (own_kept Oq.out hb12)
  have Os := Lib.hid (own_kept Os.out hb12)
  have Ot := Lib.hid (own_kept Ot.out hb12)
  have Owant := Lib.hid (own_kept Owant.out hb12)
  have HIN := Lib.hid (HIN.out.kept hb12)
  have B12 := Lib.hid (below_join B11.out hb12)
  have C7 := Lib.hid (cell_kept hb12 C7.out)
  have Ohid := Lib.hid hhid
  have Lhid := Lib.hid (Lies.of hhid)
  have Z12 := Lib.hid hb12.size
  clear hhid hb12
  go_wp2_with fail
  refine (ref06Places_any _ l c _ (Hu.out.kept B12.out) Hf.out Hc.out Hlen.out).mono ?_
  rintro e w13 ⟨vat, rfl, hat, hb13⟩
  rw [pickL_count] at hat
  have Oa := Lib.hid (own_kept Oa.out hb13)
  have Ob := Lib.hid (own_kept Ob.out hb13)
  have Oh := Lib.hid (own_kept Oh.out hb13)
  have Og := Lib.hid (own_kept Og.out hb13)
  have Op := Lib.hid (own_kept Op.out hb13)
  have Oq := Lib.hid (own_kept Oq.out hb13)
  have Os := Lib.hid (own_kept Os.out hb13)
  have Ot := Lib.hid (own_kept Ot.out hb13)
  have Owant := Lib.hid (own_kept Owant.out hb13)
  have Ohid := Lib.hid (own_kept Ohid.out hb13)
  have HIN := Lib.hid (HIN.out.kept hb13)
  have B13 := Lib.hid (below_join B12.out hb13)
  have C7 := Lib.hid (cell_kept hb13 C7.out)
  have Oat := Lib.hid (show World.ownsRow _ _ 3 1 vat _ ((placesL (LineV.seen c) l).map (Value.int .i64)) from hat)
  have Lat := Lib.hid (Lies.of hat)
  have Z13 := Lib.hid hb13.size
  clear hat hb13
  go_wp2_with fail
  refine (lines06_any _ _ _ _ _ (Lns.of_own Oa.out) (Lns.of_own Owant.out)).mono ?_
  rintro e w14 ⟨rfl, hb14⟩
  rw [decide_eq_true rfl]
  have Oa := Lib.hid (own_kept Oa.out hb14)
  have Ob := Lib.hid (own_kept Ob.out hb14)
  have Oh := Lib.hid (own_kept Oh.out hb14)
  have Og := Lib.hid (own_kept Og.out hb14)
  have Op := Lib.hid (own_kept Op.out hb14)
  have Oq := Lib.hid (own_kept Oq.out hb14)
  have Os := Lib.hid (own_kept Os.out hb14)
  have Ot := Lib.hid (own_kept Ot.out hb14)
  have Owant := Lib.hid (own_kept Owant.out hb14)
  have Ohid := Lib.hid (own_kept Ohid.out hb14)
  have Oat := Lib.hid (own_kept Oat.out hb14)
  have HIN := Lib.hid (HIN.out.kept hb14)
  have B14 := Lib.hid (below_join B13.out hb14)
  have C7 := Lib.hid (cell_kept hb14 C7.out)
  have Z14 := Lib.hid hb14.size
  clear hb14
  go_wp2_with fail
  refine (lines06_any _ _ _ _ _ (Lns.of_own Oh.out) (Lns.of_own Ohid.out)).mono ?_
  rintro e w15 ⟨rfl, hb15⟩
  rw [decide_eq_true rfl]
  have Oa := Lib.hid (own_kept Oa.out hb15)
  have Ob := Lib.hid (own_kept Ob.out hb15)
  have Oh := Lib.hid (own_kept Oh.out hb15)
  have Og := Lib.hid (own_kept Og.out hb15)
  have Op := Lib.hid (own_kept Op.out hb15)
  have Oq := Lib.hid (own_kept Oq.out hb15)
  have Os := Lib.hid (own_kept Os.out hb15)
  have Ot := Lib.hid (own_kept Ot.out hb15)
  have Owant := Lib.hid (own_kept Owant.out hb15)
  have Ohid := Lib.hid (own_kept Ohid.out hb15)
  have Oat := Lib.hid (own_kept Oat.out hb15)
  have HIN := Lib.hid (HIN.out.kept hb15)
  have B15 := Lib.hid (below_join B14.out hb15)
  have C7 := Lib.hid (cell_kept hb15 C7.out)
  have Z15 := Lib.hid hb15.size
  clear hb15
  go_wp2_with fail
  refine (sameNumbers_any _ _ _ _ _ (Nums.of_own Op.out) (Nums.of_own Oat.out)).mono ?_
  rintro e w16 ⟨rfl, hb16⟩
  rw [decide_eq_true rfl]
  have Oa := Lib.hid (own_kept Oa.out hb16)
  have Ob := Lib.hid (own_kept Ob.out hb16)
  have Oh := Lib.hid (own_kept Oh.out hb16)
  have Og := Lib.hid (own_kept Og.out hb16)
  have Op := Lib.hid (own_kept Op.out hb16)
  have Oq := Lib.hid (own_kept Oq.out hb16)
  have Os := Lib.hid (own_kept Os.out hb16)
  have Ot := Lib.hid (own_kept Ot.out hb16)
  have Owant := Lib.hid (own_kept Owant.out hb16)
  have Ohid := Lib.hid (own_kept Ohid.out hb16)
  have Oat := Lib.hid (own_kept Oat.out hb16)
  have HIN := Lib.hid (HIN.out.kept hb16)
  have B16 := Lib.hid (below_join B15.out hb16)
  have C7 := Lib.hid (cell_kept hb16 C7.out)
  have Z16 := Lib.hid hb16.size
  clear hb16
  go_wp2_with fail
  refine (ref06Texts_any vwant _ _ (Lns.of_own Owant.out) (fine_filter Hf.out) (len_filter Hlen.out)).mono ?_
  rintro e w17 ⟨vwt, rfl, hwt, hb17⟩
  rw [pickL_texts, pickL_full] at hwt
  have Oa := Lib.hid (own_kept Oa.out hb17)
  have Ob := Lib.hid (own_kept Ob.out hb17)
  have Oh := Lib.hid (own_kept Oh.out hb17)
  have Og := Lib.hid (own_kept Og.out hb17)
  have Op := Lib.hid (own_kept Op.out hb17)
  have Oq := Lib.hid (own_kept Oq.out hb17)
  have Os := Lib.hid (own_kept Os.out hb17)
  have Ot := Lib.hid (own_kept Ot.out hb17)
  have Owant := Lib.hid (own_kept Owant.out hb17)
  have Ohid := Lib.hid (own_kept Ohid.out hb17)
  have Oat := Lib.hid (own_kept Oat.out hb17)
  have HIN := Lib.hid (HIN.out.kept hb17)
  have B17 := Lib.hid (below_join B16.out hb17)
  have C7 := Lib.hid (cell_kept hb17 C7.out)
  have Owt := Lib.hid hwt
  have Z17 := Lib.hid hb17.size
  clear hwt hb17
  go_wp2_with fail
  refine (strings06_any _ _ _ _ _ (Texts.of_own Os.out) (Texts.of_own Owt.out)).mono ?_
  rintro e w18 ⟨rfl, hb18⟩
  rw [decide_eq_true rfl]
  have Oa := Lib.hid (own_kept Oa.out hb18)
  have Ob := Lib.hid (own_kept Ob.out hb18)
  have Oh := Lib.hid (own_kept Oh.out hb18)
  have Og := Lib.hid (own_kept Og.out hb18)
  have Op := Lib.hid (own_kept Op.out hb18)
  have Oq := Lib.hid (own_kept Oq.out hb18)
  have Os := Lib.hid (own_kept Os.out hb18)
  have Ot := Lib.hid (own_kept Ot.out hb18)
  have Owant := Lib.hid (own_kept Owant.out hb18)
  have Ohid := Lib.hid (own_kept Ohid.out hb18)
  have Oat := Lib.hid (own_kept Oat.out hb18)
  have HIN := Lib.hid (HIN.out.kept hb18)
  have B18 := Lib.hid (below_join B17.out hb18)
  have C7 := Lib.hid (cell_kept hb18 C7.out)
  have Z18 := Lib.hid hb18.size
  clear hb18
  go_wp2_with fail
  obtain ⟨NA, hNA⟩ : ∃ NA, (l.filter (LineV.seen c)).length = NA := ⟨_, rfl⟩
  obtain ⟨NH, hNH⟩ : ∃ NH, (l.filter (fun x => !x.seen c)).length = NH := ⟨_, rfl⟩
  have hsum := filter_parts (LineV.seen c) l
  rw [hNA, hNH, HN.out] at hsum
  have HNA := Lib.hid hNA
  have HNH := Lib.hid hNH
  obtain ⟨ao, ac, hva, hao⟩ := own_slice Oa.out
  obtain ⟨po, pc, hvp, hpo⟩ := own_slice Op.out
  obtain ⟨so, sc, hvs, hso⟩ := own_slice Os.out
  obtain ⟨ho, hcap, hvh, hho⟩ := own_slice Oh.out
  rw [hNA] at hva hao hvp hpo hvs hso
  rw [hNH] at hvh hho
  have z3 := Z3.out
  have z4 := Z4.out
  have z5 := Z5.out
  have z6 := Z6.out
  have z7 := Z7.out
  have z8 := Z8.out
  have z9 := Z9.out
  have z10 := Z10.out
  have z11 := Z11.out
  have z12 := Z12.out
  have z13 := Z13.out
  have z14 := Z14.out
  have z15 := Z15.out
  have z16 := Z16.out
  have z17 := Z17.out
  have z18 := Z18.out
  have hPit : Pit (fun k => va.ownBlock = some k ∨ vh.ownBlock = some k ∨ vp.ownBlock = some k ∨ vs.ownBlock = some k) w18 w18 [⟨26, 4, va, NA⟩, ⟨26, 4, vh, NH⟩, ⟨3, 1, vp, NA⟩, ⟨9, 1, vs, NA⟩] := by
    refine Pit.start ?_ ?_ ?_
    · intro r hr
      simp only [List.mem_cons, List.not_mem_nil, or_false] at hr
      rcases hr with rfl | rfl | rfl | rfl
      · have h := Oa.out
        rw [hNA] at h
        exact ⟨_, own_base h (Nat.zero_le _)⟩
      · have h := Oh.out
        rw [hNH] at h
        exact ⟨_, own_base h (Nat.zero_le _)⟩
      · have h := Op.out
        rw [hNA] at h
        exact ⟨_, own_base h (Nat.zero_le _)⟩
      · have h := Os.out
        rw [hNA] at h
        exact ⟨_, own_base h (Nat.zero_le _)⟩
    · intro r hr k hk
      simp only [List.mem_cons, List.not_mem_nil, or_false] at hr
      rcases hr with rfl | rfl | rfl | rfl
      · exact .inl hk
      · exact .inr (.inl hk)
      · exact .inr (.inr (.inl hk))
      · exact .inr (.inr (.inr hk))
    · simp only [List.pairwise_cons, List.mem_cons, List.not_mem_nil, or_false, forall_eq_or_imp, forall_eq, List.Pairwise.nil, and_true, false_implies, implies_true]
      refine ⟨⟨fun k h1 h2 => ?_, fun k h1 h2 => ?_, fun k h1 h2 => ?_⟩, ⟨fun k h1 h2 => ?_, fun k h1 h2 => ?_⟩, fun k h1 h2 => ?_⟩
      · have := La.out k h1; have := Lh.out k h2; omega
      · have := La.out k h1; have := Lp.out k h2; omega
      · have := La.out k h1; have := Ls.out k h2; omega
      · have := Lh.out k h1; have := Lp.out k h2; omega
      · have := Lh.out k h1; have := Ls.out k h2; omega
      · have := Lp.out k h1; have := Ls.out k h2; omega
  -- what lies elsewhere
  have hfree : ∀ (v : Value) (a b : Nat), Lies v a b → (b ≤ w2.heap.size ∨ (w3.heap.size ≤ a ∧ b ≤ w4.heap.size) ∨ (w5.heap.size ≤ a ∧ b ≤ w6.heap.size) ∨ (w7.heap.size ≤ a ∧ b ≤ w8.heap.size) ∨ w9.heap.size ≤ a) →
      ∀ k, v.ownBlock = some k → ¬ (va.ownBlock = some k ∨ vh.ownBlock = some k ∨ vp.ownBlock = some k ∨ vs.ownBlock = some k) := by
    intro v a b hl hab k hk hn
    have h0 := hl k hk
    rcases hn with hn | hn | hn | hn
    · have := La.out k hn; omega
    · have := Lh.out k hn; omega
    · have := Lp.out k hn; omega
    · have := Ls.out k hn; omega
  have Fb := Lib.hid (hfree vb _ _ Lb.out (by omega))
  have Fg := Lib.hid (hfree vg _ _ Lg.out (by omega))
  have Fq := Lib.hid (hfree vq _ _ Lq.out (by omega))
  have Ft := Lib.hid (hfree vt _ _ Lt.out (by omega))
  have Fw := Lib.hid (hfree vwant _ _ Lwant.out (by omega))
  have Fh := Lib.hid (hfree vhid _ _ Lhid.out (by omega))
  have Fa := Lib.hid (hfree vat _ _ Lat.out (by omega))
  have Fi := Lib.hid (hfree (.slice (some ⟨gi, 0, none⟩) N capi) 0 w2.heap.size (fun k hk => by cases hk; exact ⟨Nat.zero_le _, HGI.out.2⟩) (by omega))
  have Hmin : Hid (∀ k, (va.ownBlock = some k ∨ vh.ownBlock = some k ∨ vp.ownBlock = some k ∨ vs.ownBlock = some k) → w.heap.size ≤ k) := by
    intro k hn
    have b2 := B2.out.size
    rcases hn with hn | hn | hn | hn
    · have := La.out k hn; omega
    · have := Lh.out k hn; omega
    · have := Lp.out k hn; omega
    · have := Ls.out k hn; omega
  obtain ⟨S, hS⟩ : ∃ S : Nat → Prop, S = fun k => va.ownBlock = some k ∨ vh.ownBlock = some k ∨ vp.ownBlock = some k ∨ vs.ownBlock = some k := ⟨_, rfl⟩
  rw [← hS] at hPit
  have HFb : Hid (∀ k, vb.ownBlock = some k → ¬ S k) := by rw [hS]; exact Fb.out
  have HFg : Hid (∀ k, vg.ownBlock = some k → ¬ S k) := by rw [hS]; exact Fg.out
  have HFq : Hid (∀ k, vq.ownBlock = some k → ¬ S k) := by rw [hS]; exact Fq.out
  have HFt : Hid (∀ k, vt.ownBlock = some k → ¬ S k) := by rw [hS]; exact Ft.out
  have HFw : Hid (∀ k, vwant.ownBlock = some k → ¬ S k) := by rw [hS]; exact Fw.out
  have HFh : Hid (∀ k, vhid.ownBlock = some k → ¬ S k) := by rw [hS]; exact Fh.out
  have HFa : Hid (∀ k, vat.ownBlock = some k → ¬ S k) := by rw [hS]; exact Fa.out
  have HFi : Hid (¬ S gi) := by rw [hS]; exact Fi.out gi rfl
  have HSm : Hid (∀ k, S k → w.heap.size ≤ k) := by rw [hS]; exact Hmin.out
  have HPit := Lib.hid hPit
  have Hao := Lib.hid hao
  have Hpo := Lib.hid hpo
  have Hso := Lib.hid hso
  have Hho := Lib.hid hho
  have Hsum := Lib.hid hsum
  have B18s := Lib.hid (Nat.le_trans B17.out.size z18)
  clear hNA hNH hsum hao hpo hso hho hPit hfree Fb Fg Fq Ft Fw Fh Fa Fi Hmin hS z3 z4 z5 z6 z7 z8 z9 z10 z11 z12 z13 z14 z15 z16 z17 z18 Z3 Z4 Z5 Z6 Z7 Z8 Z9 Z10 Z11 Z12 Z13 Z14 Z15 Z16 Z17 Z18 La Lb Lh Lg Lp Lq Ls Lt Lwant Lhid Lat B1 B2 B3 B4 B5 B6 B7 B8 B9 B10 B11 B12 B13 B14 B15 B16 B17 HO1 HO2 HGI HAL
  subst hva hvp hvs hvh
  go_loopw [19] (fun t wr => ∃ k : Nat, k ≤ NA ∧ t = .int .i64 (k : Int) ∧ Pit S w18 wr [⟨26, 4, .slice ao NA ac, NA⟩, ⟨26, 4, .slice ho NH hcap, NH⟩, ⟨3, 1, .slice po NA pc, NA⟩, ⟨9, 1, .slice so NA sc, NA⟩]) (fun t _ => NA - (intOf t).toNat)
  case atStart => exact ⟨0, Nat.zero_le _, rfl, HPit.out⟩
  case round =>
    obtain ⟨k, hk, rfl, hp⟩ := hrel
    have HP := Lib.hid hp
    clear hp
    have hsm := Hsum.out
    by_cases hlt : k < NA
    · obtain ⟨ga, rfl⟩ := Hao.out (by omega)
      obtain ⟨gp, rfl⟩ := Hpo.out (by omega)
      obtain ⟨gs, rfl⟩ := Hso.out (by omega)
      obtain ⟨_, xa⟩ := HP.out.own _ (List.Mem.head _)
      obtain ⟨_, xp⟩ := HP.out.own _ (List.Mem.tail _ (List.Mem.tail _ (List.Mem.head _)))
      obtain ⟨_, xs⟩ := HP.out.own _ (List.Mem.tail _ (List.Mem.tail _ (List.Mem.tail _ (List.Mem.head _))))
      have fa := own_frozen xa (k * 4 + 3)
      have fp := own_frozen xp k
      have fs := own_frozen xs k
      obtain ⟨ya, ea⟩ := own_some xa (k * 4 + 3) (by show k * 4 + 3 < NA * 4; omega)
      obtain ⟨yp, ep⟩ := own_some xp k (by show k < NA * 1; omega)
      obtain ⟨ys, es⟩ := own_some xs k (by show k < NA * 1; omega)
      have n1 : ¬ gp = ga := fun e => HP.out.apart 2 0 _ _ rfl rfl (by decide) gp rfl (by rw [e]; rfl)
      have n2 : ¬ gs = ga := fun e => HP.out.apart 3 0 _ _ rfl rfl (by decide) gs rfl (by rw [e]; rfl)
      have n3 : ¬ gs = gp := fun e => HP.out.apart 3 2 _ _ rfl rfl (by decide) gs rfl (by rw [e]; rfl)
      have HQ := Lib.hid (((HP.out.set 0 rfl rfl (k * 4 + 3) (.string ⟨#[115, 112, 111, 105, 108, 116]⟩)).set 2 rfl rfl k (.int .i64 (-1))).set 3 rfl rfl k (.string ⟨#[115, 112, 111, 105, 108, 116]⟩))
      have hi0 : (0 : Int) ≤ (k : Int) := by omega
      have hi1 : (k : Int) < (NA : Int) := by omega
      have hNb : NA < 9223372036854775807 := by omega
      clear xa xp xs
      go_wp2_with fail
      have hq := HQ.out
      go_roundw
      case rel => exact ⟨k + 1, by omega, by go_num, hq⟩
      case measure => simp [intOf]; omega
    · obtain rfl : k = NA := by omega
      go_wp2_with fail
      go_loopw [20] (fun t wr => ∃ q : Nat, q ≤ NH ∧ t = .int .i64 (q : Int) ∧ Pit S w18 wr [⟨26, 4, .slice ao k ac, k⟩, ⟨26, 4, .slice ho NH hcap, NH⟩, ⟨3, 1, .slice po k pc, k⟩, ⟨9, 1, .slice so k sc, k⟩]) (fun t _ => NH - (intOf t).toNat)
      case atStart => exact ⟨0, Nat.zero_le _, rfl, HP.out⟩
      case round =>
        obtain ⟨q, hq, rfl, hp⟩ := hrel
        have HP2 := Lib.hid hp
        clear hp
        by_cases hlt2 : q < NH
        · obtain ⟨gh, rfl⟩ := Hho.out (by omega)
          obtain ⟨_, xh⟩ := HP2.out.own _ (List.Mem.tail _ (List.Mem.head _))
          have fh := own_frozen xh (q * 4 + 3)
          obtain ⟨yh, eh⟩ := own_some xh (q * 4 + 3) (by show q * 4 + 3 < NH * 4; omega)
          have HQ := Lib.hid (HP2.out.set 1 rfl rfl (q * 4 + 3) (.string ⟨#[115, 112, 111, 105, 108, 116]⟩))
          have hi0 : (0 : Int) ≤ (q : Int) := by omega
          have hi1 : (q : Int) < (NH : Int) := by omega
          have hNb : NH < 9223372036854775807 := by omega
          clear xh
          go_wp2_with fail
          have hq := HQ.out
          go_roundw
          case rel => exact ⟨q + 1, by omega, by go_num, hq⟩
          case measure => simp [intOf]; omega
        · obtain rfl : q = NH := by omega
          go_wp2_with fail
          go_loopw [8, 10, 12, 14, 21] (fun va vh vp vs t wr => ∃ m : Nat, m ≤ 70 ∧ t = .int .i64 (m : Int) ∧ Pit S w18 wr [⟨26, 4, va, k + m⟩, ⟨26, 4, vh, q + m⟩, ⟨3, 1, vp, k + m⟩, ⟨9, 1, vs, k + m⟩]) (fun _ _ _ _ t _ => 70 - (intOf t).toNat)
          case atStart => exact ⟨0, Nat.zero_le _, rfl, HP2.out⟩
          case round =>
            obtain ⟨m, hm, rfl, hp⟩ := hrel
            have HP3 := Lib.hid hp
            clear hp
            by_cases hlt3 : m < 70
            · have hm1 : (m : Int) < 70 := by omega
              obtain ⟨xsaa, xaa⟩ : ∃ xs, wr.ownsRow 0 26 4 u8 (k + m) xs := HP3.out.own _ (List.Mem.head _)
              have Xaa := Lib.hid (xaa.alloc (.cells #[.int .u64 0, .int .i64 0, .int .i64 0, .string ⟨#[]⟩] 26))
              have hnew := own_news _ _ _ _ (heap_alloc_new wr (.cells #[.int .u64 0, .int .i64 0, .int .i64 0, .string ⟨#[]⟩] 26))
              have HP3a := Lib.hid (HP3.out.alloc (.cells #[.int .u64 0, .int .i64 0, .int .i64 0, .string ⟨#[]⟩] 26))
              clear xaa
              go_wp2_with (at_builtin; refine wpList_append_own_at _ rfl _ _ 22 rfl 0 26 i0 (.agg #[.int .u64 0, .int .i64 0, .int .i64 0, .string ⟨#[]⟩]) 4 40 Try.underlying22 hi hz0 hz1 hz2 rfl (by decide) _ _ _ rfl Xaa.out ⟨wr.heap.size, 0, none⟩ 1 1 [.int .u64 0, .int .i64 0, .int .i64 0, .string ⟨#[]⟩] rfl rfl hnew (by simp [Value.oneCell']) (by unfold maxLen; omega) (by omega) (Nat.zero_le _) ?_)
              intro naa x1 hoaa hgaa _ haaa
              have HP4 := Lib.hid (show Pit S w18 x1 [⟨26, 4, naa, k + m + 1⟩, ⟨26, 4, u10, q + m⟩, ⟨3, 1, u12, k + m⟩, ⟨9, 1, u14, k + m⟩] from HP3a.out.grow 0 rfl hoaa hgaa (by rw [World.size_alloc]; exact haaa))
              clear hoaa hgaa haaa hnew
              obtain ⟨xshh, xhh⟩ : ∃ xs, x1.ownsRow 0 26 4 u10 (q + m) xs := HP4.out.own _ (List.Mem.tail _ (List.Mem.head _))
              have Xhh := Lib.hid (xhh.alloc (.cells #[.int .u64 0, .int .i64 0, .int .i64 0, .string ⟨#[]⟩] 26))
              have hnew := own_news _ _ _ _ (heap_alloc_new x1 (.cells #[.int .u64 0, .int .i64 0, .int .i64 0, .string ⟨#[]⟩] 26))
              have HP4a := Lib.hid (HP4.out.alloc (.cells #[.int .u64 0, .int .i64 0, .int .i64 0, .string ⟨#[]⟩] 26))
              clear xhh
              go_wp2_with (at_builtin; refine wpList_append_own_at _ rfl _ _ 22 rfl 0 26 i0 (.agg #[.int .u64 0, .int .i64 0, .int .i64 0, .string ⟨#[]⟩]) 4 40 Try.underlying22 hi hz0 hz1 hz2 rfl (by decide) _ _ _ rfl Xhh.out ⟨x1.heap.size, 0, none⟩ 1 1 [.int .u64 0, .int .i64 0, .int .i64 0, .string ⟨#[]⟩] rfl rfl hnew (by simp [Value.oneCell']) (by unfold maxLen; omega) (by omega) (Nat.zero_le _) ?_)
              intro nhh x2 hohh hghh _ hahh
              have HP5 := Lib.hid (show Pit S w18 x2 [⟨26, 4, naa, k + m + 1⟩, ⟨26, 4, nhh, q + m + 1⟩, ⟨3, 1, u12, k + m⟩, ⟨9, 1, u14, k + m⟩] from HP4a.out.grow 1 rfl hohh hghh (by rw [World.size_alloc]; exact hahh))
              clear hohh hghh hahh hnew
              obtain ⟨xspp, xpp⟩ : ∃ xs, x2.ownsRow 0 3 1 u12 (k + m) xs := HP5.out.own _ (List.Mem.tail _ (List.Mem.tail _ (List.Mem.head _)))
              have Xpp := Lib.hid (xpp.alloc (.cells #[.int .i64 (-2)] 3))
              have hnew := own_news _ _ _ _ (heap_alloc_new x2 (.cells #[.int .i64 (-2)] 3))
              have HP5a := Lib.hid (HP5.out.alloc (.cells #[.int .i64 (-2)] 3))
              clear xpp
              go_wp2_with (at_builtin; refine wpList_append_own_at _ rfl _ _ 28 rfl 0 3 i1 (.int .i64 0) 1 8 Try.underlying28 hi1 hy0 hy1 hy2 rfl (by decide) _ _ _ rfl Xpp.out ⟨x2.heap.size, 0, none⟩ 1 1 [.int .i64 (-2)] rfl rfl hnew (by simp [Value.oneCell']) (by unfold maxLen; omega) (by omega) (Nat.zero_le _) ?_)
              intro npp x3 hopp hgpp _ happ
              have HP6 := Lib.hid (show Pit S w18 x3 [⟨26, 4, naa, k + m + 1⟩, ⟨26, 4, nhh, q + m + 1⟩, ⟨3, 1, npp, k + m + 1⟩, ⟨9, 1, u14, k + m⟩] from HP5a.out.grow 2 rfl hopp hgpp (by rw [World.size_alloc]; exact happ))
              clear hopp hgpp happ hnew
              obtain ⟨xsss, xss⟩ : ∃ xs, x3.ownsRow 0 9 1 u14 (k + m) xs := HP6.out.own _ (List.Mem.tail _ (List.Mem.tail _ (List.Mem.tail _ (List.Mem.head _))))
              have Xss := Lib.hid (xss.alloc (.cells #[.string ⟨#[98, 101, 104, 105, 110, 100]⟩] 9))
              have hnew := own_news _ _ _ _ (heap_alloc_new x3 (.cells #[.string ⟨#[98, 101, 104, 105, 110, 100]⟩] 9))
              have HP6a := Lib.hid (HP6.out.alloc (.cells #[.string ⟨#[98, 101, 104, 105, 110, 100]⟩] 9))
              clear xss
              go_wp2_with (at_builtin; refine wpList_append_own_at _ rfl _ _ 30 rfl 0 9 i2 (.string ⟨#[]⟩) 1 16 Try.underlying30 hi2 hx0 hx1 hx2 rfl (by decide) _ _ _ rfl Xss.out ⟨x3.heap.size, 0, none⟩ 1 1 [.string ⟨#[98, 101, 104, 105, 110, 100]⟩] rfl rfl hnew (by simp [Value.oneCell']) (by unfold maxLen; omega) (by omega) (Nat.zero_le _) ?_)
              intro nss x4 hoss hgss _ hass
              have HP7 := Lib.hid (show Pit S w18 x4 [⟨26, 4, naa, k + m + 1⟩, ⟨26, 4, nhh, q + m + 1⟩, ⟨3, 1, npp, k + m + 1⟩, ⟨9, 1, nss, k + m + 1⟩] from HP6a.out.grow 3 rfl hoss hgss (by rw [World.size_alloc]; exact hass))
              clear hoss hgss hass hnew
              go_wp2_with fail
              have hq := HP7.out
              go_roundw
              case rel => exact ⟨m + 1, by omega, by go_num, hq⟩
              case measure => simp [intOf]; omega
            · obtain rfl : m = 70 := by omega
              obtain ⟨_, xa⟩ : ∃ xs, wr.ownsRow 0 26 4 u8 (k + 70) xs := HP3.out.own _ (List.Mem.head _)
              obtain ⟨_, xh⟩ : ∃ xs, wr.ownsRow 0 26 4 u10 (q + 70) xs := HP3.out.own _ (List.Mem.tail _ (List.Mem.head _))
              obtain ⟨_, xp⟩ : ∃ xs, wr.ownsRow 0 3 1 u12 (k + 70) xs := HP3.out.own _ (List.Mem.tail _ (List.Mem.tail _ (List.Mem.head _)))
              obtain ⟨_, xs⟩ : ∃ xs, wr.ownsRow 0 9 1 u14 (k + 70) xs := HP3.out.own _ (List.Mem.tail _ (List.Mem.tail _ (List.Mem.tail _ (List.Mem.head _))))
              obtain ⟨a1, a2, rfl, _⟩ := own_slice xa
              obtain ⟨h1, h2, rfl, _⟩ := own_slice xh
              obtain ⟨p1, p2, rfl, _⟩ := own_slice xp
              obtain ⟨s1, s2, rfl, _⟩ := own_slice xs
              have K := Lib.hid HP3.out.kept
              have hK : Below w.heap.size w18 wr := K.out.below HSm.out B18s.out
              have B19 := Lib.hid (B18.out.trans hK)
              have Mb := Lib.hid ((Lns.of_own Ob.out).keptBut K.out (fun b h _ => HFb.out b h))
              have Mg := Lib.hid ((Lns.of_own Og.out).keptBut K.out (fun b h _ => HFg.out b h))
              have Mw := Lib.hid ((Lns.of_own Owant.out).keptBut K.out (fun b h _ => HFw.out b h))
              have Mh := Lib.hid ((Lns.of_own Ohid.out).keptBut K.out (fun b h _ => HFh.out b h))
              have Mq := Lib.hid (show Nums .i64 wr vq _ from Vec.keptBut (Nums.of_own Oq.out) K.out (fun b h _ => HFq.out b h))
              have Ma := Lib.hid (show Nums .i64 wr vat _ from Vec.keptBut (Nums.of_own Oat.out) K.out (fun b h _ => HFa.out b h))
              have Mt := Lib.hid (texts_keptBut (Texts.of_own Ot.out) K.out (fun b h => HFt.out b h))
              have Mi := Lib.hid (HIN.out.keptBut K.out (fun b h _ => by cases h; exact HFi.out))
              have C7 := Lib.hid (K.out.cell C7.out HFi.out)
              have Mu := Lib.hid (Hu.out.kept B19.out)
              have e1 : (((k : Int) + 70 + ((q : Int) + 70)) != (N : Int) + 140) = false := by
                rw [bne_eq_false_iff_eq]; omega
              have e2 : (((k : Int) + 70) != ((k : Int) + 70)) = false := by rw [bne_eq_false_iff_eq]
              have hcap : (N : Int) + 1 ≤ (capi : Int) := by omega
              have hkb : (k : Int) + 70 ≤ 4000000000000 := by omega
              have hqb : (q : Int) + 70 ≤ 4000000000000 := by omega
              have hNb : (N : Int) + 140 ≤ 4000000000000 := by omega
              clear xa xh xp xs hK
              go_wp2_with fail
              refine (lines06_any _ _ _ _ _ Mb.out Mw.out).mono ?_
              rintro e y1 ⟨rfl, hb⟩
              rw [decide_eq_true rfl]
              have B20 := Lib.hid (below_join B19.out hb)
              have X1 := Lib.hid hb
              clear hb
              go_wp2_with fail
              refine (lines06_any _ _ _ _ _ (Mg.out.kept X1.out) (Mh.out.kept X1.out)).mono ?_
              rintro e y2 ⟨rfl, hb⟩
              rw [decide_eq_true rfl]
              have B21 := Lib.hid (below_join B20.out hb)
              have X2 := Lib.hid (below_join X1.out hb)
              clear hb
              go_wp2_with fail
              refine (sameNumbers_any _ _ _ _ _ (Mq.out.kept X2.out) (Ma.out.kept X2.out)).mono ?_
              rintro e y3 ⟨rfl, hb⟩
              rw [decide_eq_true rfl]
              have B22 := Lib.hid (below_join B21.out hb)
              have X3 := Lib.hid (below_join X2.out hb)
              clear hb
              go_wp2_with fail
              refine (ref06Texts_any vwant _ _ (Mw.out.kept X3.out) (fine_filter Hf.out) (len_filter Hlen.out)).mono ?_
              rintro e y4 ⟨vwt2, rfl, hwt, hb⟩
              rw [pickL_texts, pickL_full] at hwt
              have B23 := Lib.hid (below_join B22.out hb)
              have X4 := Lib.hid (below_join X3.out hb)
              have HW2 := Lib.hid (Texts.of_own hwt)
              clear hb hwt
              go_wp2_with fail
              refine (strings06_any _ _ _ _ _ (Mt.out.kept X4.out) HW2.out).mono ?_
              rintro e y5 ⟨rfl, hb⟩
              rw [decide_eq_true rfl]
              have B24 := Lib.hid (below_join B23.out hb)
              have X5 := Lib.hid (below_join X4.out hb)
              clear hb
              go_wp2_with fail
              refine (lines06_any _ _ _ _ _ (Mi.out.kept X5.out) (Mu.out.kept X5.out)).mono ?_
              rintro e y6 ⟨rfl, hb⟩
              rw [decide_eq_true rfl]
              have B25 := Lib.hid (below_join B24.out hb)
              have c7 := cell_kept hb (cell_kept X5.out C7.out)
              have hs := fun W => sl_front1 gi N capi N (by omega) W
              have hn0 : (0 : Int) ≤ (N : Int) := by omega
              have hn1 : (N : Int) < (N : Int) + 1 := by omega
              clear hb
              go_wp2_with fail
              go_ret
              exact ⟨rfl, B25.out⟩
end Go.Proofs.Ytgchcgllpceghaa
