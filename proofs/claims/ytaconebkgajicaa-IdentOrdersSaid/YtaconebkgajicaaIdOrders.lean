/- Own work: IdentOrders' walk. -/
import Derived.Test.YtaconebkgajicaaRefSortC
import Derived.Test.YtaconebkgajicaaIdLines
import Derived.Maps.AppendAt
import Derived.BigRegion
namespace Go.Proofs.Ytaconebkgajicaa
open Go.RowKit Go.Sort Go.Shelf

theorem grown_step {A W W' : World} {r q : Option Nat} (h1 : A.grownBy W r) (h2 : W.grownBy W' q) (hq : ∀ x, q = some x → r = some x ∨ A.heap.size ≤ x) : A.grownBy W' r :=
  ⟨h2.os.trans h1.os, h2.tape.trans h1.tape, h2.output.trans h1.output, Nat.le_trans h1.size h2.size, fun k hk hne => (h2.block k (Nat.lt_of_lt_of_le hk h1.size) (fun e => by
    rcases hq k e.symm with h | h
    · exact hne h.symm
    · omega)).trans (h1.block k hk hne)⟩
theorem grown_self (A : World) (r : Option Nat) : A.grownBy A r := ⟨rfl, rfl, rfl, Nat.le_refl _, fun _ _ _ => rfl⟩
theorem grown_alloc (A : World) (o : Obj) (r : Option Nat) : A.grownBy (A.alloc o) r := ⟨rfl, rfl, rfl, by simp, fun k hk _ => heap_alloc_old _ _ hk⟩
theorem grown_setCell (A : World) (g j : Nat) (v : Value) : A.grownBy (A.setCell ⟨g, j, none⟩ v) (some g) := by
  have h := (Below.refl 0 A).setCell (p := ⟨g, j, none⟩) (Nat.zero_le _) v
  refine ⟨h.os, h.tape, h.output, h.size, fun k hk hne => ?_⟩
  have : k ≠ g := fun e => hne (by rw [e])
  rw [setCell_eq]
  unfold mapBlock
  simp [Array.getElem?_modify, Ne.symm this]
theorem own_slice {w : World} {B n s : Nat} {e : TypeId} {v : Value} {xs : List Value} (h : w.ownsRow B e s v n xs) : ∃ vo vc, v = .slice vo n vc ∧ (0 < n → ∃ g, vo = some ⟨g, 0, none⟩) := by
  rcases Joins.ownsRow_forms h with ⟨h1, h2⟩ | ⟨g, cap, h1⟩
  · exact ⟨none, 0, by rw [h1, h2], fun h => absurd h (by omega)⟩
  · exact ⟨_, _, h1, fun _ => ⟨g, rfl⟩⟩

theorem less_grown (x y : LineV) (W : World) : ∀ n os, Calls Try.prog 21 #[x.agg, y.agg] (grow (W.drewN n) os) fun e w' => e = .returned (.bool (lessB x y)) ∧ ∃ q os', w' = grow ((grow (W.drewN n) os).drewN q) os' := fun _ _ =>
  (less_any x y _).mono fun _ _ ⟨he, q, os', hw⟩ => ⟨he, q, os', hw⟩
theorem same_grown (x y : LineV) (W : World) : ∀ n os, Calls Try.prog 19 #[x.agg, y.agg] (grow (W.drewN n) os) fun e w' => e = .returned (.bool (oneId x y)) ∧ ∃ q os', w' = grow ((grow (W.drewN n) os).drewN q) os' := fun _ _ =>
  (same_any x y _).mono fun _ _ ⟨he, q, os', hw⟩ => ⟨he, q, os', hw⟩
theorem refSame_grown (x y : LineV) (W : World) : ∀ n os, Calls Try.prog 20 #[x.agg, y.agg] (grow (W.drewN n) os) fun e w' => e = .returned (.bool (oneId x y)) ∧ ∃ q os', w' = grow ((grow (W.drewN n) os).drewN q) os' := fun _ _ =>
  (refSame_any x y _).mono fun _ _ ⟨he, q, os', hw⟩ => ⟨he, q, os', hw⟩
theorem idx_any (i : Int) (J : Nat) (h0 : 0 < J) (hJ : J < 4000000000000) : ∃ (S : Int) (A : Nat), i.tmod (J : Int) + (J : Int) = S ∧ IntKind.i64.wrap S = S ∧ wrap64 S = S ∧ S.tmod (J : Int) = (A : Int) ∧ A < J := by
  have h1 : i.tmod (J : Int) < (J : Int) := Int.tmod_lt_of_pos _ (by omega)
  have h2 : -(J : Int) < i.tmod (J : Int) := by
    have := Int.tmod_lt_of_pos (-i) (show (0 : Int) < (J : Int) by omega)
    rw [Int.neg_tmod] at this
    omega
  have hw : IntKind.i64.wrap (i.tmod (J : Int) + (J : Int)) = i.tmod (J : Int) + (J : Int) := by simp only [IntKind.wrap, IntKind.bits, IntKind.signed]; simp; omega
  refine ⟨_, ((i.tmod (J : Int) + (J : Int)).tmod (J : Int)).toNat, rfl, hw, ?_, ?_, ?_⟩
  · unfold wrap64; omega
  · have := Int.tmod_nonneg (J : Int) (show 0 ≤ i.tmod (J : Int) + (J : Int) by omega)
    omega
  · have := Int.tmod_lt_of_pos (i.tmod (J : Int) + (J : Int)) (show (0 : Int) < (J : Int) by omega)
    omega
theorem lns_own {w : World} {B n : Nat} {e : TypeId} {v : Value} {L : List LineV} (h : w.ownsRow B e 4 v n (flatL L)) (hn : L.length = n) : Lns w v L := by
  subst hn
  exact Lns.of_own h
set_option maxHeartbeats 32000000 in
set_option maxRecDepth 100000 in
theorem orders_walk (u : Value) (l : List LineV) (i k : Int) (w : World) (hu : Lns w u l) (hf : SliceForm u) (hok : ∀ x ∈ l, x.ok) (hlen : l.length * 40 ≤ 140737488351232) (hi64 : i64 i) (hk64 : i64 k) :
    Calls Try.prog 4 #[u, .int .i64 i, .int .i64 k] w fun e w' => e = .returned (.bool true) ∧ Below w.heap.size w w' := by
  obtain ⟨uo, ucap, ub, uof, hu1, huo, hum, huc⟩ := hu.form
  subst hu1
  have Hu := Lib.hid hu
  have Hf := Lib.hid hf
  have Hok := Lib.hid hok
  have Huo := Lib.hid huo
  have Huc := Lib.hid huc
  have Hi64 := Lib.hid hi64
  have Hk64 := Lib.hid hk64
  obtain ⟨i0, hi, hz0, hz1, hz2⟩ := info_parts Try.info27
  obtain ⟨n, hn⟩ : ∃ n, l.length = n := ⟨_, rfl⟩
  have Hn := Lib.hid hn
  rw [hn] at hlen Hu Hf Huo ⊢
  clear hu hf hok huo huc hn hum hi64 hk64
  have hal : Below w.heap.size w (w.alloc (.cells #[] 27)) := (Below.refl _ _).alloc (Nat.le_refl _) _
  go_enter Try.func4, Try.ntmps4
  go_wp2_with (at_builtin; first
    | (refine wpList_append_lines rfl _ _ rfl w.heap.size _ 0 [] rfl (own_empty4 (heap_alloc_new w _) (Nat.le_refl _)) _ l rfl (Hu.out.kept hal) Hf.out (by rw [Hn.out]; omega) (by simp) ?_
       intro v1 w1 hown1 hg1
       have B1 := Lib.hid (hal.grown hg1 (by simp) (fun q hq => by cases hq; exact Nat.le_refl _)))
    | (refine wpList_append_own _ rfl _ _ 22 rfl w.heap.size 27 i0 _ 4 40 Try.underlying22 hi hz0 hz1 hz2 rfl (by decide) _ _ _ rfl (hown1.alloc _) ⟨w1.heap.size, 0, none⟩ 1 1 x7.cells rfl rfl (four_news w1 x7 _) (cells_plain x7) (by rw [Hn.out]; unfold maxLen; omega) (by rw [Hn.out]; omega) (by have := B1.out.size; simp; omega) ?_
       intro v2 w2 hown2 hg2 _
       simp only [Nat.zero_add, Hn.out, List.nil_append] at hown2
       obtain ⟨g2, cap2, rfl⟩ := Joins.ownsRow_form hown2 (by omega)
       rw [← flatL_one, ← flatL_append] at hown2
       obtain ⟨hcap, hcm⟩ := own_cap hown2
       unfold maxLen at hcm
       have B2 := Lib.hid ((B1.out.alloc B1.out.size _).grown hg2 (by have := B1.out.size; simp; omega) (fun q hq => (hown1.lt q hq).1))
       have Hown2 := Lib.hid hown2
       clear hown2 hg2))
  have Hin2 := Lib.hid (lns_front Hown2.out Hn.out)
  have c7 := (flatL_get (l ++ [x7]) n (by simp [Hn.out])).2.1
  have c7 := (Hown2.out.cellAt (n * 4 + 1) (by omega)).trans c7
  simp only [show (l ++ [x7])[n]'(by simp [Hn.out]) = x7 from by rw [List.getElem_append_right (by rw [Hn.out]; exact Nat.le_refl _)]; simp] at c7
  have C7 := Lib.hid c7
  clear c7
  refine (refSorted_any _ l _ (Hu.out.kept B2.out) (by rw [Hn.out]; exact hlen)).mono ?_
  rintro e w3 ⟨v3, out, rfl, ho3, hs3, hb3⟩
  rw [Hn.out] at ho3
  have K3 := Lib.hid hb3
  have B3 := Lib.hid (below_join B2.out hb3)
  have O3 := Lib.hid ho3
  have S3 := Lib.hid hs3
  have hlo : out.length = n := hs3.length.trans Hn.out
  have HLo := Lib.hid hlo
  clear hb3 ho3 hs3 hlo
  go_wp2_with fail
  refine (sorted_any _ l _ (Hin2.out.kept K3.out) (.inr ⟨_, _, _, rfl⟩) (by rw [Hn.out]; omega)).mono ?_
  rintro e w4 ⟨v4, out4, rfl, ho4, hs4, hb4⟩
  obtain rfl := S3.out.one hs4
  rw [Hn.out] at ho4
  have K4 := Lib.hid (below_join K3.out hb4)
  have J4 := Lib.hid hb4
  have O4 := Lib.hid ho4
  clear hb4 ho4 hs4
  go_wp2_with fail
  refine (sorted_any _ l _ (Hin2.out.kept K4.out) (.inr ⟨_, _, _, rfl⟩) (by rw [Hn.out]; omega)).mono ?_
  rintro e w5 ⟨v5, out5, rfl, ho5, hs5, hb5⟩
  obtain rfl := S3.out.one hs5
  rw [Hn.out] at ho5
  have K5 := Lib.hid (below_join K4.out hb5)
  have J5 := Lib.hid hb5
  have O5 := Lib.hid ho5
  clear hb5 ho5 hs5
  obtain ⟨vo, vc, hv4, hvo⟩ := own_slice O4.out
  subst hv4
  have Hvo := Lib.hid hvo
  have M5 := Lib.hid (below_join J4.out J5.out)
  clear hvo
  go_wp2_with fail
  refine (linesSame_any _ _ out out _ ((lns_own O4.out HLo.out).kept J5.out) ((lns_own O3.out HLo.out).kept M5.out)).mono ?_
  rintro e w6 ⟨rfl, hb6⟩
  simp only [decide_true]
  have N6 := Lib.hid hb6
  clear hb6
  go_wp2_with fail
  refine (linesSame_any _ _ out out _ ((lns_own O5.out HLo.out).kept N6.out) ((lns_own O3.out HLo.out).kept (below_join M5.out N6.out))).mono ?_
  rintro e w7 ⟨rfl, hb7⟩
  simp only [decide_true]
  have N7 := Lib.hid (below_join N6.out hb7)
  clear hb7
  go_wp2_with fail
  refine (linesSame_any _ _ l l _ (Hin2.out.kept (below_join K5.out N7.out)) (Hu.out.kept (below_join B2.out (below_join K5.out N7.out)))).mono ?_
  rintro e w8 ⟨rfl, hb8⟩
  simp only [decide_true]
  have N8 := Lib.hid (below_join N7.out hb8)
  have c78 := cell_kept (below_join K5.out N8.out) C7.out
  have hx7 : x7.num = 7 := rfl
  rw [hx7] at c78
  clear hb8 hx7
  have P4 := Lib.hid (own_same O4.out (W' := w8) fun q hq => (below_join J5.out N8.out).block q (O4.out.lt q hq).2)
  have P5 := Lib.hid (own_same O5.out (W' := w8) fun q hq => N8.out.block q (O5.out.lt q hq).2)
  go_wp2_with fail
  clear c78
  go_loopw [12] (fun j wr => ∃ (J : Nat) (xs : List Value), j = .int .i64 J ∧ J ≤ n ∧ wr.ownsRow w3.heap.size 27 4 (.slice vo n vc) n xs ∧ w8.grownBy wr (Value.slice vo n vc).ownBlock) (fun j _ => n - (intOf j).toNat)
  case atStart => exact ⟨0, _, rfl, Nat.zero_le _, P4.out, grown_self _ _⟩
  case round =>
    obtain ⟨J, xs, rfl, hJ, ho, hg⟩ := hrel
    have HO := Lib.hid ho
    have HG := Lib.hid hg
    clear ho hg
    by_cases hlt : J < n
    · obtain ⟨g, rfl⟩ := Hvo.out (by omega)
      have c1 := (HO.out.cellAt (J * 4 + 1) (by omega)).trans (List.getElem?_eq_getElem (by have := HO.out.1; omega))
      have f1 := own_frozen HO.out (J * 4 + 1)
      have hJ0 : (0 : Int) ≤ (J : Int) := by omega
      have hJ1 : (J : Int) < (n : Int) := by omega
      have HO2 := Lib.hid (own_setCell HO.out (j := J * 4 + 1) (.int .i64 (-5)))
      have HG2 := Lib.hid (grown_step HG.out (grown_setCell wr g (J * 4 + 1) (.int .i64 (-5))) (fun x hx => .inl hx))
      go_wp2_with fail
      go_roundw
      case rel => exact ⟨J + 1, _, by go_num, by omega, HO2.out, HG2.out⟩
      case measure => simp [intOf]; omega
    obtain rfl : J = n := by omega
    go_wp2_with fail
    go_loopw [10, 13] (fun a j wr => ∃ (J2 : Nat) (xo : Option Addr) (xc : Nat) (xs : List Value), a = .slice xo (J + J2) xc ∧ j = .int .i64 J2 ∧ J2 ≤ 70 ∧ wr.ownsRow w3.heap.size 27 4 (.slice xo (J + J2) xc) (J + J2) xs ∧ w8.grownBy wr (Value.slice vo J vc).ownBlock ∧
      Hid (∀ x, (Value.slice xo (J + J2) xc).ownBlock = some x → (Value.slice vo J vc).ownBlock = some x ∨ w8.heap.size ≤ x)) (fun _ j _ => 70 - (intOf j).toNat)
    case atStart => exact ⟨0, vo, vc, xs, rfl, rfl, Nat.zero_le _, HO.out, HG.out, fun x hx => .inl hx⟩
    case round =>
      obtain ⟨J2, xo, xc, xs2, rfl, rfl, hJ2, ho, hg, HQ⟩ := hrel
      have HO2 := Lib.hid ho
      have HG2 := Lib.hid hg
      clear ho hg
      by_cases hlt2 : J2 < 70
      · have hltz : (J2 : Int) < 70 := by omega
        go_wp2_with (at_builtin; first
          | (refine wpList_append_own_at _ rfl _ _ 22 rfl w3.heap.size 27 i0 _ 4 40 Try.underlying22 hi hz0 hz1 hz2 rfl (by decide) _ _ _ rfl (HO2.out.alloc _) ⟨wr.heap.size, 0, none⟩ 1 1 xNone.cells rfl rfl (four_news wr xNone _) (cells_plain xNone) (by unfold maxLen; omega) (by omega) (by have := HG2.out.size; have := N8.out.size; have := M5.out.size; simp; omega) ?_
             intro v9 w9 hown9 hg9 _ hat9
             obtain ⟨g9, cap9, rfl⟩ := Joins.ownsRow_form hown9 (by omega)
             have G9 := Lib.hid (grown_step (grown_step HG2.out (grown_alloc wr _ none) (fun x hx => by cases hx)) hg9 HQ.out)
             have Q9 : Hid (∀ x, (Value.slice (some ⟨g9, 0, none⟩) (J + J2 + 1) cap9).ownBlock = some x → (Value.slice vo J vc).ownBlock = some x ∨ w8.heap.size ≤ x) := fun x hx => by
               rcases hat9 with h | h
               · exact HQ.out x (h.symm.trans hx)
               · rw [hx] at h
                 have := Option.some.inj h
                 have := HG2.out.size
                 simp at *
                 omega
             have O9 := Lib.hid hown9
             clear hown9 hg9 hat9))
        go_roundw
        case rel => exact ⟨J2 + 1, _, cap9, _, rfl, by go_num, by omega, O9.out, G9.out, Q9.out⟩
        case measure => simp [intOf]; omega
      obtain rfl : J2 = 70 := by omega
      have hwn : IntKind.i64.wrap ((J : Int) + 70) = (J : Int) + 70 := by simp [IntKind.wrap, IntKind.bits, IntKind.signed]; omega
      have R := Lib.hid (show Below w3.heap.size w8 wr from (Below.refl _ _).grown HG2.out (by have := M5.out.size; have := N8.out.size; omega) (fun q hq => (O4.out.lt q hq).1))
      have R3 := Lib.hid ((below_join M5.out N8.out).trans R.out)
      have R2 := Lib.hid ((below_join K5.out N8.out).trans (R.out.mono K3.out.size))
      have R0 := Lib.hid (below_join B2.out R2.out)
      have R5 := Lib.hid (own_same P5.out (W' := wr) fun q hq => HG2.out.block q (P5.out.lt q hq).2 (fun e => by
        have h1 := (O4.out.lt q e.symm).2
        have h2 := (O5.out.lt q hq).1
        omega))
      go_wp2_with fail
      refine (linesSame_any _ _ out out _ (lns_own R5.out HLo.out) ((lns_own O3.out HLo.out).kept R3.out)).mono ?_
      rintro e w10 ⟨rfl, hb10⟩
      simp only [decide_true]
      have T10 := Lib.hid hb10
      clear hb10
      go_wp2_with fail
      refine (linesSame_any _ _ l l _ (Hin2.out.kept (below_join R2.out T10.out)) (Hu.out.kept (below_join R0.out T10.out))).mono ?_
      rintro e w11 ⟨rfl, hb11⟩
      simp only [decide_true]
      have T11 := Lib.hid (below_join T10.out hb11)
      clear hb11
      go_wp2_with fail
      refine (twice_any _ l _ (Hin2.out.kept (below_join R2.out T11.out)) Hok.out).mono ?_
      rintro e w12 ⟨rfl, hb12⟩
      have T12 := Lib.hid (below_join T11.out hb12)
      clear hb12
      obtain ⟨⟨t1, t2⟩, ht⟩ : ∃ r, twV l = r := ⟨_, rfl⟩
      rw [ht]
      have HT := Lib.hid ht
      clear ht
      dsimp only
      go_wp2_with fail
      refine (refTwice_any _ l _ (Hu.out.kept (below_join R0.out T12.out)) Hok.out).mono ?_
      rintro e w13 ⟨rfl, hb13⟩
      have T13 := Lib.hid (below_join T12.out hb13)
      clear hb13
      rw [HT.out]
      dsimp only
      have BW := Lib.hid (below_join R0.out T13.out)
      by_cases hJ0 : J = 0
      · have hJz : (J : Int) = 0 := by omega
        go_wp2_with fail
        go_ret
        exact ⟨rfl, BW.out⟩
      have hJz : ¬ (J : Int) = 0 := by omega
      go_wp2_with fail
      obtain rfl := Huo.out (by omega)
      obtain ⟨SA, A, hSA, hwA, hwA2, htA, hA⟩ := idx_any i J (by omega) (by omega)
      obtain ⟨SB, B, hSB, hwB, hwB2, htB, hB⟩ := idx_any k J (by omega) (by omega)
      have hAl : A < l.length := by rw [Hn.out]; exact hA
      have hBl : B < l.length := by rw [Hn.out]; exact hB
      obtain ⟨a0, a1, a2, a3⟩ := Huc.out A hAl
      obtain ⟨b0, b1, b2, b3⟩ := Huc.out B hBl
      obtain ⟨x, hx⟩ : ∃ x, l[A]'hAl = x := ⟨_, rfl⟩
      obtain ⟨y, hy⟩ : ∃ y, l[B]'hBl = y := ⟨_, rfl⟩
      rw [hx] at a0 a1 a2 a3
      rw [hy] at b0 b1 b2 b3
      clear hx hy
      obtain ⟨x1, x2, x3, x4⟩ := x
      obtain ⟨y1, y2, y3, y4⟩ := y
      dsimp only at a0 a1 a2 a3 b0 b1 b2 b3
      have a0 := cell_kept BW.out a0
      have a1 := cell_kept BW.out a1
      have a2 := cell_kept BW.out a2
      have a3 := cell_kept BW.out a3
      have b0 := cell_kept BW.out b0
      have b1 := cell_kept BW.out b1
      have b2 := cell_kept BW.out b2
      have b3 := cell_kept BW.out b3
      have lub : ub < w13.heap.size := cell_lt a0
      have hA0 : (0 : Int) ≤ (A : Int) := by omega
      have hA1 : (A : Int) < (J : Int) := by omega
      have hB0 : (0 : Int) ≤ (B : Int) := by omega
      have hB1 : (B : Int) < (J : Int) := by omega
      have mixed := laysIns.mixed
      go_region
      all_goals clear a0 a1 a2 a3 b0 b1 b2 b3 lub
      · have hat := grw_at w13 x1 x2 x3 x4 y1 y2 y3 y4 27 (W := ((w13.alloc (.cells #[.int .u64 x1, .int .i64 x2, .int .i64 x3, .string x4] 27)).alloc (.cells #[.int .u64 y1, .int .i64 y2, .int .i64 y3, .string y4] 27)).drew) ((Grw.refl _).drewN 1)
        have G0 := Lib.hid (show Grw w13 (((w13.alloc (.cells #[.int .u64 x1, .int .i64 x2, .int .i64 x3, .string x4] 27)).alloc (.cells #[.int .u64 y1, .int .i64 y2, .int .i64 y3, .string y4] 27)).drew) from (((Grw.refl w13).alloc _).alloc _).drewN 1)
        have hsz : (((w13.alloc (.cells #[.int .u64 x1, .int .i64 x2, .int .i64 x3, .string x4] 27)).alloc (.cells #[.int .u64 y1, .int .i64 y2, .int .i64 y3, .string y4] 27)).drew).heap.size = w13.heap.size + 2 := by show ((w13.alloc _).alloc _).heap.size = _; simp
        generalize ((w13.alloc (.cells #[.int .u64 x1, .int .i64 x2, .int .i64 x3, .string x4] 27)).alloc (.cells #[.int .u64 y1, .int .i64 y2, .int .i64 y3, .string y4] 27)).drew = W at hat G0 hsz ⊢
        obtain ⟨⟨c0, c1, c2, c3⟩, d0, d1, d2, d3⟩ := hat
        have lw : w13.heap.size < W.heap.size := by omega
        have lw2 : w13.heap.size + 1 < W.heap.size := by omega
        have c0 := cells_grown lw c0
        have c1 := cells_grown lw c1
        have c2 := cells_grown lw c2
        have c3 := cells_grown lw c3
        have d0 := cells_grown lw2 d0
        have d1 := cells_grown lw2 d1
        have d2 := cells_grown lw2 d2
        have d3 := cells_grown lw2 d3
        have h1 := same_grown ⟨x1, x2, x3, x4⟩ ⟨y1, y2, y3, y4⟩ W
        have h2 := refSame_grown ⟨x1, x2, x3, x4⟩ ⟨y1, y2, y3, y4⟩ W
        have h3 := less_grown ⟨x1, x2, x3, x4⟩ ⟨y1, y2, y3, y4⟩ W
        have h4 := refLess_grown ⟨x1, x2, x3, x4⟩ ⟨y1, y2, y3, y4⟩ W
        simp only [LineV.agg] at h1 h2 h3 h4
        obtain ⟨s, hs⟩ : ∃ s, oneId ⟨x1, x2, x3, x4⟩ ⟨y1, y2, y3, y4⟩ = s := ⟨_, rfl⟩
        obtain ⟨r, hr⟩ : ∃ r, lessB ⟨x1, x2, x3, x4⟩ ⟨y1, y2, y3, y4⟩ = r := ⟨_, rfl⟩
        rw [hs] at h1 h2
        rw [hr] at h3 h4
        have H1 := Lib.hid h1
        have H2 := Lib.hid h2
        have H3 := Lib.hid h3
        have H4 := Lib.hid h4
        clear h1 h2 h3 h4 hs hr hsz
        go_wp2_with fail
        go_quiet_grown (first
          | (go_at_call 19; refine Calls.grown_of (H1.out _ _))
          | (go_at_call 20; refine Calls.grown_of (H2.out _ _))
          | (go_at_call 21; refine Calls.grown_of (H3.out _ _))
          | (go_at_call 22; refine Calls.grown_of (H4.out _ _)))
        go_wp2
        go_ret
        exact ⟨retBool (by simp), below_join BW.out (G0.out.grown _ _).below⟩
      · have hat := grw_at w13 y1 y2 y3 y4 x1 x2 x3 x4 27 (W := ((w13.alloc (.cells #[.int .u64 y1, .int .i64 y2, .int .i64 y3, .string y4] 27)).alloc (.cells #[.int .u64 x1, .int .i64 x2, .int .i64 x3, .string x4] 27)).drew) ((Grw.refl _).drewN 1)
        have G0 := Lib.hid (show Grw w13 (((w13.alloc (.cells #[.int .u64 y1, .int .i64 y2, .int .i64 y3, .string y4] 27)).alloc (.cells #[.int .u64 x1, .int .i64 x2, .int .i64 x3, .string x4] 27)).drew) from (((Grw.refl w13).alloc _).alloc _).drewN 1)
        have hsz : (((w13.alloc (.cells #[.int .u64 y1, .int .i64 y2, .int .i64 y3, .string y4] 27)).alloc (.cells #[.int .u64 x1, .int .i64 x2, .int .i64 x3, .string x4] 27)).drew).heap.size = w13.heap.size + 2 := by show ((w13.alloc _).alloc _).heap.size = _; simp
        generalize ((w13.alloc (.cells #[.int .u64 y1, .int .i64 y2, .int .i64 y3, .string y4] 27)).alloc (.cells #[.int .u64 x1, .int .i64 x2, .int .i64 x3, .string x4] 27)).drew = W at hat G0 hsz ⊢
        obtain ⟨⟨c0, c1, c2, c3⟩, d0, d1, d2, d3⟩ := hat
        have lw : w13.heap.size < W.heap.size := by omega
        have lw2 : w13.heap.size + 1 < W.heap.size := by omega
        have c0 := cells_grown lw c0
        have c1 := cells_grown lw c1
        have c2 := cells_grown lw c2
        have c3 := cells_grown lw c3
        have d0 := cells_grown lw2 d0
        have d1 := cells_grown lw2 d1
        have d2 := cells_grown lw2 d2
        have d3 := cells_grown lw2 d3
        have h1 := same_grown ⟨x1, x2, x3, x4⟩ ⟨y1, y2, y3, y4⟩ W
        have h2 := refSame_grown ⟨x1, x2, x3, x4⟩ ⟨y1, y2, y3, y4⟩ W
        have h3 := less_grown ⟨x1, x2, x3, x4⟩ ⟨y1, y2, y3, y4⟩ W
        have h4 := refLess_grown ⟨x1, x2, x3, x4⟩ ⟨y1, y2, y3, y4⟩ W
        simp only [LineV.agg] at h1 h2 h3 h4
        obtain ⟨s, hs⟩ : ∃ s, oneId ⟨x1, x2, x3, x4⟩ ⟨y1, y2, y3, y4⟩ = s := ⟨_, rfl⟩
        obtain ⟨r, hr⟩ : ∃ r, lessB ⟨x1, x2, x3, x4⟩ ⟨y1, y2, y3, y4⟩ = r := ⟨_, rfl⟩
        rw [hs] at h1 h2
        rw [hr] at h3 h4
        have H1 := Lib.hid h1
        have H2 := Lib.hid h2
        have H3 := Lib.hid h3
        have H4 := Lib.hid h4
        clear h1 h2 h3 h4 hs hr hsz
        go_wp2_with fail
        go_quiet_grown (first
          | (go_at_call 19; refine Calls.grown_of (H1.out _ _))
          | (go_at_call 20; refine Calls.grown_of (H2.out _ _))
          | (go_at_call 21; refine Calls.grown_of (H3.out _ _))
          | (go_at_call 22; refine Calls.grown_of (H4.out _ _)))
        go_wp2
        go_ret
        exact ⟨retBool (by simp), below_join BW.out (G0.out.grown _ _).below⟩
end Go.Proofs.Ytaconebkgajicaa
