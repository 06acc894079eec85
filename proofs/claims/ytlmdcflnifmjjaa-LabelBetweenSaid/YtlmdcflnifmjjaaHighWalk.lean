import Derived.Test.YtlmdcflnifmjjaaHiC
import Derived.Test.YtlmdcflnifmjjaaOpenNums
import Derived.Maps.AppendAt
import Derived.Deep.DeepCutAuto
namespace Go.Proofs.Ytlmdcflnifmjjaa
open Go.RowKit Go.Shelf Go.Sort

theorem Labs.slice {w : World} {v : Value} {l : List L64} (h : Labs w v l) : ∃ ao cap, v = .slice ao l.length cap := by
  obtain ⟨ao, cap, _, _, h1, _⟩ := h.at
  exact ⟨ao, cap, h1⟩
/-- a row's first part, as a slice -/
theorem own_frontL {w : World} {base g n cap : Nat} {e : TypeId} {l : List L64} {x : Value} (h : w.ownsRow base e 1 (.slice (some ⟨g, 0, none⟩) (n + 1) cap) (n + 1) (valsL l ++ [x])) : Labs w (.slice (some ⟨g, 0, none⟩) n cap) l ∧ w.cell? ⟨g, n, none⟩ = some x ∧ n + 1 ≤ cap ∧ cap ≤ maxLen := by
  have hvl : (valsL l).length = l.length := by simp [valsL]
  have hn : l.length = n := by have := h.1; simp at this; omega
  have hcap : n + 1 ≤ cap ∧ cap ≤ maxLen := by
    rcases h.2 with ⟨h1, _⟩ | ⟨g', cap', cur, hv, _, _, hnc, hcm, _⟩
    · cases h1
    · cases hv; exact ⟨hnc, hcm⟩
  refine ⟨?_, ?_, hcap.1, hcap.2⟩
  · by_cases h0 : 0 < n
    · refine .inr ⟨g, 0, cap, by rw [hvl, hn], by rw [hvl]; omega, by rw [hvl]; omega, hcap.2, fun i hi => ?_⟩
      rw [hvl] at hi
      rw [Nat.zero_add, h.cellAt i (by omega), List.getElem?_append_left (by rw [hvl]; exact hi), List.getElem?_eq_getElem (by rw [hvl]; exact hi)]
    · obtain rfl : n = 0 := by omega
      exact .inl ⟨_, _, rfl, by rw [List.eq_nil_of_length_eq_zero hn]; rfl⟩
  · rw [h.cellAt n (by omega), List.getElem?_append_right (by rw [hvl]; omega), hvl, hn, Nat.sub_self]
    rfl
theorem hs_same {hs ks : List L64} (h : hs.map Subtype.val = ks.map Subtype.val) : hs = ks := by
  induction hs generalizing ks with
  | nil => cases ks with
    | nil => rfl
    | cons k ks => simp at h
  | cons x hs ih => cases ks with
    | nil => simp at h
    | cons k ks =>
      simp only [List.map_cons, List.cons.injEq] at h
      rw [ih h.2, Subtype.ext h.1]
/-- labels out of numbers that are in the word's range -/
theorem to64 (l : List Int) (h : ∀ n ∈ l, (Lit.int .u64 n).wf = true) : ∃ ls : List L64, ints64 ls = l := by
  induction l with
  | nil => exact ⟨[], rfl⟩
  | cons n l ih =>
    obtain ⟨ls, hls⟩ := ih fun x hx => h x (by simp [hx])
    have hn := h n (by simp)
    have hn' : 0 ≤ n ∧ n ≤ 18446744073709551615 := by simpa [Lit.wf, IntKind.min, IntKind.max, IntKind.signed, IntKind.bits] using hn
    refine ⟨⟨n.toNat, by omega⟩ :: ls, ?_⟩
    rw [ints64, List.map_cons, ← ints64, hls]
    congr 1
    show ((n.toNat : Nat) : Int) = n
    omega

set_option maxHeartbeats 16000000 in
set_option maxRecDepth 100000 in
theorem high_walk (u : Value) (l : List L64) (w : World) (hu : Labs w u l) :
    Calls Try.prog 3 #[u] w fun e w' => e = .returned (.bool true) ∧ Below w.heap.size w w' := by
  obtain ⟨i0, hi, hz0, hz1, hz2⟩ := info_parts Try.info25
  obtain ⟨ao, cap, b, o, rfl, hao, hml, hc⟩ := hu.at
  obtain ⟨n, hn⟩ : ∃ n, l.length = n := ⟨_, rfl⟩
  have Hn := Lib.hid hn
  rw [hn] at hao hml hc ⊢
  unfold maxLen at hml
  have Hao := Lib.hid hao
  have Hc := Lib.hid hc
  clear hu hao hc hn
  go_enter Try.func3, Try.ntmps3
  go_wp2_with fail
  go_loopw [3, 4] (fun v i wr => ∃ k : Nat, k ≤ n ∧ k ≤ 200 ∧ i = .int .i64 k ∧ wr.ownsRow w.heap.size 25 1 v k (valsL (l.take k)) ∧ Below w.heap.size w wr) (fun _ i _ => n - (intOf i).toNat)
  case atStart => exact ⟨0, Nat.zero_le _, Nat.zero_le _, rfl, World.ownsRow_nil _ _ _ _, Below.refl _ _⟩
  case round =>
    obtain ⟨k, hk, hk2, rfl, hown, hbw⟩ := hrel
    have Hown := Lib.hid hown
    have Hbw := Lib.hid hbw
    clear hown hbw
    by_cases hlt : k < n ∧ k < 200
    · obtain ⟨hlt, hlt2⟩ := hlt
      obtain rfl := Hao.out (by omega)
      have hkl : k < l.length := by have := Hn.out; omega
      have ck := cell_kept Hbw.out (Hc.out k hlt)
      have hax : atL l k = (l[k]'hkl).1 := by rw [atL, List.getD_eq_getElem?_getD, List.getElem?_eq_getElem hkl]; rfl
      have Htk : Hid (valsL (l.take (k + 1)) = valsL (l.take k) ++ [.int .u64 ((atL l k : Nat) : Int)]) := by
        show _ = _
        rw [hax, List.take_succ_eq_append_getElem hkl, valsL, List.map_append]; rfl
      have hi0 : (0 : Int) ≤ (k : Int) := by omega
      have hi1 : (k : Int) < (n : Int) := by omega
      have hi2 : (k : Int) < 200 := by omega
      obtain ⟨x, hx⟩ : ∃ x, atL l k = x := ⟨_, rfl⟩
      rw [hx] at ck
      have Hx := Lib.hid hx
      clear hx hax
      go_wp2_with (at_builtin; refine wpList_append_own _ rfl _ _ 23 rfl w.heap.size 25 i0 (.int .u64 0) 1 8 Try.underlying23 hi hz0 hz1 hz2 rfl (by decide) _ _ _ rfl (Hown.out.alloc _) ⟨wr.heap.size, 0, none⟩ 1 1 [.int .u64 x] rfl rfl (one_cellL _ _ _) (one_listL _ rfl) ?d3 ?d4 ?d5 ?_)
      case d3 => unfold maxLen; omega
      case d4 => omega
      case d5 => exact Nat.le_trans Hbw.out.size (by simp)
      intro v3 w3 hown3 hgrow3 _
      have B3 := Lib.hid ((Hbw.out.alloc Hbw.out.size _).grown hgrow3 (Nat.le_trans Hbw.out.size (by simp)) (fun q hq => (Hown.out.lt q hq).1))
      have Ho3 := Lib.hid hown3
      clear hown3 hgrow3
      go_wp2_with fail
      go_roundw
      case rel => exact ⟨k + 1, by omega, by omega, by go_num, by rw [Htk.out, Hx.out]; exact Ho3.out, B3.out⟩
      case measure => simp [intOf]; omega
    · obtain ⟨ls, hls⟩ : ∃ ls, l.take k = ls := ⟨_, rfl⟩
      have hll : ls.length = k := by rw [← hls, List.length_take]; have := Hn.out; omega
      have h1 := Hown.out
      rw [hls] at h1
      have Ho := Lib.hid h1
      have Hll := Lib.hid hll
      have Hf := Lib.hid (SliceForm.of_own h1)
      have hstop : (n : Int) ≤ (k : Int) ∨ ((k : Int) < (n : Int) ∧ (200 : Int) ≤ (k : Int)) := by omega
      clear hls hll h1 Hown
      obtain ⟨vo, vc, hvv⟩ : ∃ vo vc, u3 = .slice vo k vc := by
        rcases Joins.ownsRow_forms Ho.out with ⟨hv, h0⟩ | ⟨g', cap', hv⟩
        · exact ⟨none, 0, by rw [hv, h0]⟩
        · exact ⟨_, _, hv⟩
      subst hvv
      have Hem := Lib.hid (World.ownsRow_made (e := 25) (size := 1) wr #[] 0 (Nat.le_refl wr.heap.size) (Nat.zero_le _) rfl)
      have B1 := Lib.hid (Hbw.out.alloc Hbw.out.size (.cells #[] 25))
      have Ho1 := Lib.hid (Ho.out.alloc (.cells #[] 25))
      have Hn1 := Lib.hid (Labs.of_own Ho1.out).nums
      rcases hstop with hs1 | ⟨hs1, hs2⟩
      all_goals
        go_wp2_with (at_builtin; refine wpList_append_nums rfl _ _ Try.underlying23 hi hz0 hz1 hz2 rfl rfl wr.heap.size _ 0 [] rfl Hem.out _ (ints64 ls) rfl Hn1.out Hf.out (by rw [ints64, List.length_map, Hll.out]; omega) (by simp) ?_)
        intro v1 w1 hown1 hgrow1
        have Hw1 := Lib.hid (show w1.ownsRow wr.heap.size 25 1 v1 k (valsL ls) by
          have h := hown1
          rw [← valsL_ints, ints64, List.length_map, Hll.out] at h
          simpa using h)
        have B2 := Lib.hid (B1.out.grown hgrow1 (Nat.le_trans Hbw.out.size (by simp)) (fun q hq => by cases hq; exact Hbw.out.size))
        have Ho2 := Lib.hid (Ho1.out.kept hgrow1 (by
          cases h : (Value.slice vo k vc).ownBlock with
          | none => exact .inl rfl
          | some q =>
            refine .inr fun e => ?_
            have h1 := (Ho.out.lt q h).2
            rw [show (some q : Option Nat) = some wr.heap.size from e] at h
            have h2 := (Ho.out.lt _ h).2
            omega))
        have Hap1 : Hid ((Value.slice vo k vc).ownBlock = none ∨ ∃ q, (Value.slice vo k vc).ownBlock = some q ∧ q < wr.heap.size) := by
          show _ ∨ _
          cases h : (Value.slice vo k vc).ownBlock with
          | none => exact .inl rfl
          | some q => exact .inr ⟨q, rfl, (Ho.out.lt q h).2⟩
        clear hown1 hgrow1
        go_wp2_with (at_builtin; refine wpList_append_own_at _ rfl _ _ 23 rfl w.heap.size 25 i0 (.int .u64 0) 1 8 Try.underlying23 hi hz0 hz1 hz2 rfl (by decide) _ _ _ rfl (Ho2.out.alloc _) ⟨w1.heap.size, 0, none⟩ 1 1 [.int .u64 99] rfl rfl (one_cellL _ _ _) (one_listL _ rfl) (by unfold maxLen; omega) (by omega) (Nat.le_trans B2.out.size (by simp)) ?_)
        intro v2 w2 hown2 hgrow2 _ hat
        have B3 := Lib.hid ((B2.out.alloc B2.out.size (.cells #[.int .u64 99] 25)).grown hgrow2 (Nat.le_trans B2.out.size (by simp)) (fun q hq => (Ho.out.lt q hq).1))
        have Hown3 := Lib.hid ((Hw1.out.alloc (.cells #[.int .u64 99] 25)).kept hgrow2 (by
          cases h : v1.ownBlock with
          | none => exact .inl rfl
          | some q =>
            refine .inr fun e => ?_
            have h1 := (Hw1.out.lt q h).1
            rcases Hap1.out with h2 | ⟨q', h2, h3⟩
            · rw [h2] at e; cases e
            · rw [h2] at e; cases e; omega))
        obtain ⟨g, gc, rfl⟩ := Joins.ownsRow_form hown2 (by omega)
        obtain ⟨hfull, hc99, hgc, hgm⟩ := own_frontL hown2
        have HF2 := Lib.hid hfull
        have H99 := Lib.hid hc99
        have HO2 := Lib.hid (Labs.of_own Hown3.out)
        unfold maxLen at hgm
        have hk0 : (0 : Int) ≤ (k : Int) := by omega
        clear hown2 hgrow2 hat hfull hc99
        go_wp2_with fail
        refine (refHighest_any v1 ls _ HO2.out (by rw [Hll.out]; omega)).mono ?_
        rintro e w4 ⟨wv, hw, rfl, hwv, hwo, hb⟩
        have B4 := Lib.hid (below_join B3.out hb)
        have HF4 := Lib.hid (HF2.out.kept hb)
        have HO4 := Lib.hid (HO2.out.kept hb)
        have C4 := Lib.hid (cell_kept hb H99.out)
        have HW4 := Lib.hid (Labs.of_own hwo)
        have Hwv := Lib.hid hwv
        clear hb hwv hwo
        go_wp2_with fail
        refine (highest_any _ ls _ HF4.out (by rw [Hll.out]; omega)).mono ?_
        rintro e w5 ⟨x, hx, rfl, hxv, hxo, hb⟩
        obtain rfl : hx = hw := hs_same (hxv.trans Hwv.out.symm)
        have B5 := Lib.hid (below_join B4.out hb)
        have B45 := Lib.hid hb
        have HF5 := Lib.hid (HF4.out.kept hb)
        have HO5 := Lib.hid (HO4.out.kept hb)
        have C5 := Lib.hid (cell_kept hb C4.out)
        have HW5 := Lib.hid (HW4.out.kept hb)
        have HX5 := Lib.hid hxo
        have s45 := hb.size
        clear hb hxv hxo
        go_wp2_with fail
        refine (highest_any v1 ls _ HO5.out (by rw [Hll.out]; omega)).mono ?_
        rintro e w6 ⟨y, hy, rfl, hyv, hyo, hb⟩
        obtain rfl : hy = hx := hs_same (hyv.trans Hwv.out.symm)
        have B6 := Lib.hid (below_join B5.out hb)
        have B46 := Lib.hid (below_join B45.out hb)
        have HF6 := Lib.hid (HF5.out.kept hb)
        have HO6 := Lib.hid (HO5.out.kept hb)
        have C6 := Lib.hid (cell_kept hb C5.out)
        have HW6 := Lib.hid (HW5.out.kept hb)
        have HX6 := Lib.hid (own_kept HX5.out hb)
        have HY6 := Lib.hid hyo
        have s56 := hb.size
        have Hap : Hid (y.ownBlock = none ∨ y.ownBlock ≠ x.ownBlock) := by
          show _ ∨ _
          cases h : y.ownBlock with
          | none => exact .inl rfl
          | some q =>
            refine .inr fun e => ?_
            have h1 := (hyo.lt q h).1
            have h2 := (HX5.out.lt q e.symm).2
            omega
        clear hb hyv hyo
        obtain ⟨c, hc⟩ : ∃ c, hy.length = c := ⟨_, rfl⟩
        have Hcl := Lib.hid hc
        have hcle : c ≤ 200 := by
          rw [← hc]
          have h1 := congrArg List.length Hwv.out
          rw [List.length_map] at h1
          rw [h1]
          have h2 := hiProg_len (atL ls) ls.length
          rw [Hll.out] at h2
          rw [Hll.out]
          omega
        have hx6 := HX6.out
        have hy6 := HY6.out
        rw [hc] at hx6 hy6
        have Hx6 := Lib.hid hx6
        have Hy6 := Lib.hid hy6
        obtain ⟨xo, xcap, rfl⟩ : ∃ xo xcap, x = .slice xo c xcap := by
          rcases Joins.ownsRow_forms hx6 with ⟨hv, h0⟩ | ⟨g', cap', hv⟩
          · exact ⟨none, 0, by rw [hv, h0]⟩
          · exact ⟨_, _, hv⟩
        obtain ⟨wo', wcap, hwsl⟩ := HW6.out.slice
        rw [hc] at hwsl
        subst hwsl
        clear hc hx6 hy6
        go_wp2_with fail
        refine (sameLabels_any _ _ _ _ _ (Labs.of_own HX6.out).nums HW6.out.nums).mono ?_
        rintro e w7 ⟨rfl, hb⟩
        rw [decide_eq_true rfl]
        have B7 := Lib.hid (below_join B6.out hb)
        have B47 := Lib.hid (below_join B46.out hb)
        have HF7 := Lib.hid (HF6.out.kept hb)
        have HO7 := Lib.hid (HO6.out.kept hb)
        have C7 := Lib.hid (cell_kept hb C6.out)
        have HW7 := Lib.hid (HW6.out.kept hb)
        have Hx7 := Lib.hid (own_kept Hx6.out hb)
        have Hy7 := Lib.hid (own_kept Hy6.out hb)
        have HY7 := Lib.hid (own_kept HY6.out hb)
        have s67 := hb.size
        clear hb
        go_wp2_with fail
        refine (sameLabels_any _ _ _ _ _ (Labs.of_own HY7.out).nums HW7.out.nums).mono ?_
        rintro e w8 ⟨rfl, hb⟩
        rw [decide_eq_true rfl]
        have B8 := Lib.hid (below_join B7.out hb)
        have B48 := Lib.hid (below_join B47.out hb)
        have HF8 := Lib.hid (HF7.out.kept hb)
        have HO8 := Lib.hid (HO7.out.kept hb)
        have C8 := Lib.hid (cell_kept hb C7.out)
        have HW8 := Lib.hid (HW7.out.kept hb)
        have Hx8 := Lib.hid (own_kept Hx7.out hb)
        have Hy8 := Lib.hid (own_kept Hy7.out hb)
        have s78 := hb.size
        clear hb
        go_wp2_with fail
        refine (sameLabels_any _ _ _ _ _ HF8.out.nums HO8.out.nums).mono ?_
        rintro e w9 ⟨rfl, hb⟩
        rw [decide_eq_true rfl]
        have B9 := Lib.hid (below_join B8.out hb)
        have B49 := Lib.hid (below_join B48.out hb)
        have HF9 := Lib.hid (HF8.out.kept hb)
        have HO9 := Lib.hid (HO8.out.kept hb)
        have HW9 := Lib.hid (HW8.out.kept hb)
        have Hx9 := Lib.hid (own_kept Hx8.out hb)
        have Hy9 := Lib.hid (own_kept Hy8.out hb)
        have c9 := cell_kept hb C8.out
        have s59 : w5.heap.size ≤ w9.heap.size := by have := hb.size; omega
        have hk1 : (k : Int) < (k : Int) + 1 := by omega
        have hgc2 : (k : Int) + 1 ≤ (gc : Int) := by omega
        clear hb
        go_wp2_with fail
        go_loopw [11] (fun i wr => ∃ (j : Nat) (xs : List Value), j ≤ c ∧ i = .int .i64 j ∧ wr.ownsRow w4.heap.size 25 1 (.slice xo c xcap) c xs ∧ wr.ownsRow w5.heap.size 25 1 y c (valsL hy) ∧ Below w4.heap.size w4 wr ∧ w5.heap.size ≤ wr.heap.size) (fun i _ => c - (intOf i).toNat)
        case atStart => exact ⟨0, _, Nat.zero_le _, rfl, Hx9.out, Hy9.out, B49.out, s59⟩
        case round =>
          obtain ⟨j, xs, hj, rfl, hx, hyy, hbw, h5⟩ := hrel
          have Hx := Lib.hid hx
          have Hy := Lib.hid hyy
          have Hbw4 := Lib.hid hbw
          clear hx hyy hbw
          by_cases hjt : j < c
          · obtain ⟨xg, xc, hxf⟩ := Joins.ownsRow_form Hx.out (by omega)
            cases hxf
            have hxl : xs.length = c := by have := Hx.out.1; simpa using this
            have c1 := Hx.out.cellAt j (by omega)
            rw [List.getElem?_eq_getElem (by omega)] at c1
            have f1 := Hx.out.frozenAt j
            have hst := Hx.out.stored j (.int .u64 5)
            have Hst := Lib.hid hst.1
            have Hy2 := Lib.hid (Hy.out.kept hst.2 Hap.out)
            have hxb := (Hx.out.lt xg rfl).1
            have Hb2 := Lib.hid (Hbw4.out.setCell (p := ⟨xg, j, none⟩) hxb (.int .u64 5))
            obtain ⟨xk, hxk⟩ : ∃ v, xs[j]'(by omega) = v := ⟨_, rfl⟩
            rw [hxk] at c1
            clear hst hxk
            go_wp2_with fail
            go_roundw
            case rel => exact ⟨j + 1, _, by omega, by go_num, Hst.out, Hy2.out, Hb2.out, by simp; exact h5⟩
            case measure => simp [intOf]; omega
          · go_wp2_with fail
            obtain ⟨wo, rfl⟩ : ∃ wo : World, wo = wr := ⟨_, rfl⟩
            go_loopw [9, 12] (fun v i wr => ∃ (m : Nat) (zs : List Value), m ≤ 70 ∧ i = .int .i64 m ∧ wr.ownsRow w4.heap.size 25 1 v (c + m) zs ∧ (y.ownBlock = none ∨ y.ownBlock ≠ v.ownBlock) ∧ wr.ownsRow w5.heap.size 25 1 y c (valsL hy) ∧ Below w4.heap.size w4 wr ∧ w5.heap.size ≤ wr.heap.size) (fun _ i _ => 70 - (intOf i).toNat)
            case atStart => exact ⟨0, _, Nat.zero_le _, rfl, Hx.out, Hap.out, Hy.out, Hbw4.out, h5⟩
            case round =>
              obtain ⟨m, zs, hm, rfl, hv, hap, hyy, hbq, h5q⟩ := hrel
              have Hv := Lib.hid hv
              have Hap2 := Lib.hid hap
              have Hyq := Lib.hid hyy
              have Hbq := Lib.hid hbq
              clear hv hap hyy hbq
              by_cases hmt : m < 70
              · have hs45 := s45
                go_wp2_with (at_builtin; refine wpList_append_own_at _ rfl _ _ 23 rfl w4.heap.size 25 i0 (.int .u64 0) 1 8 Try.underlying23 hi hz0 hz1 hz2 rfl (by decide) _ _ _ rfl (Hv.out.alloc _) ⟨wr.heap.size, 0, none⟩ 1 1 [.int .u64 6] rfl rfl (one_cellL _ _ _) (one_listL _ rfl) (by unfold maxLen; omega) (by omega) (by simp; omega) ?_)
                intro v' wz hown hgrow _ hat
                have Hown := Lib.hid hown
                have Hyz := Lib.hid ((Hyq.out.alloc _).kept hgrow Hap2.out)
                have Hbz := Lib.hid ((Hbq.out.alloc Hbq.out.size _).grown hgrow (Nat.le_trans Hbq.out.size (by simp)) (fun q hq => (Hv.out.lt q hq).1))
                have hsz := hgrow.size
                have hsz2 : w5.heap.size ≤ wz.heap.size := by
                  have h2 : (wr.alloc (.cells #[.int .u64 6] 25)).heap.size = wr.heap.size + 1 := World.size_alloc _ _
                  omega
                have Hapz : Hid (y.ownBlock = none ∨ y.ownBlock ≠ v'.ownBlock) := by
                  show _ ∨ _
                  rcases Hap2.out with h | h
                  · exact .inl h
                  · rcases hat with e | e
                    · rw [e]; exact .inr h
                    · refine .inr fun e2 => ?_
                      rw [e] at e2
                      have h1 := (Hyq.out.lt _ e2).2
                      have h2 : (wr.alloc (.cells #[.int .u64 6] 25)).heap.size = wr.heap.size + 1 := World.size_alloc _ _
                      omega
                have Hsz2 := Lib.hid hsz2
                clear hown hgrow hat hsz hsz2
                go_wp2_with fail
                go_roundw
                case rel => exact ⟨m + 1, _, by omega, by go_num, Hown.out, Hapz.out, Hyz.out, Hbz.out, Hsz2.out⟩
                case measure => simp [intOf]; omega
              · obtain rfl : m = 70 := by omega
                obtain ⟨vo', vcap, hvv⟩ : ∃ vo' vcap, _ = Value.slice vo' (c + 70) vcap := by
                  rcases Joins.ownsRow_forms Hv.out with ⟨hv, h0⟩ | ⟨g', cap', hv⟩
                  · omega
                  · exact ⟨_, _, hv⟩
                subst hvv
                have HYq := Lib.hid (show wr.ownsRow w5.heap.size 25 1 y hy.length (valsL hy) by rw [Hcl.out]; exact Hyq.out)
                have HWq := Lib.hid (HW4.out.kept Hbq.out)
                have HOq := Lib.hid (HO4.out.kept Hbq.out)
                have HFq := Lib.hid (HF4.out.kept Hbq.out)
                have Bq := Lib.hid (below_join B4.out Hbq.out)
                go_wp2_with fail
                refine (sameLabels_any _ _ _ _ _ (Labs.of_own HYq.out).nums HWq.out.nums).mono ?_
                rintro e wa ⟨rfl, hb⟩
                rw [decide_eq_true rfl]
                have Ba := Lib.hid (below_join Bq.out hb)
                have HOa := Lib.hid (HOq.out.kept hb)
                have HFa := Lib.hid (HFq.out.kept hb)
                clear hb
                go_wp2_with fail
                refine (sameLabels_any _ _ _ _ _ HOa.out.nums HFa.out.nums).mono ?_
                rintro e wb ⟨rfl, hb⟩
                rw [decide_eq_true rfl]
                have Bb := Lib.hid (below_join Ba.out hb)
                clear hb
                go_wp2_with fail
                go_ret
                exact ⟨rfl, Bb.out⟩
end Go.Proofs.Ytlmdcflnifmjjaa
