/- Own work: what a policy tells, held against the document's answers. -/
import Derived.Test.YtajjikbigacbaaaGreatDoorPolClear
import Derived.Test.YtajjikbigacbaaaGreatDoorRise
import Derived.Test.YtajjikbigacbaaaGreatDoorRef3E
import Derived.Test.YtajjikbigacbaaaGreatDoorPrintA
import Derived.Test.YtajjikbigacbaaaGreatDoorGrown
import Derived.Test.YtajjikbigacbaaaGreatDoorVws
import Derived.SliceStrings
import Derived.SizedLaws
import Derived.ChangeSlices
namespace Go.Proofs.YtajjikbigacbaaaGreatDoor
open Go.RowKit Go.Maps Go.Shelf Num

set_option maxHeartbeats 4000000 in
set_option maxRecDepth 100000 in
theorem belowM_own (p : Value) (vs : List Vw) (c : Nat) (w : World) (hp : Pol w p vs) (hc : c < 18446744073709551616) :
    Calls Tryz.prog 18 #[p, .int .u64 (c : Int)] w fun e w' => ∃ u, e = .returned u ∧ w'.ownsRow w.heap.size 9 1 u (eraseV vs c).length (((eraseV vs c).map Vw.nm).map Value.string) ∧ Below w.heap.size w w' := by
  have hal : Below w.heap.size w (w.alloc (.cells #[.int .u64 (c : Int)] 24)) := (Below.refl _ _).alloc (Nat.le_refl _) _
  have HP := Lib.hid (hp.kept hal)
  have Hal := Lib.hid hal
  have Ha := Lib.hid (asks_one (g := 67) (enc := fun v => .string v.nm) (is := fun v => belowN v.lab c) hp.facts.2.2 (cell_of_row _ _ 0 _ _ _ (heap_alloc_new w (.cells #[.int .u64 (c : Int)] 24))) fun W v h1 _ h3 => below1_any v.nm v.lab c _ W h1 hc h3)
  clear hp hal
  go_enter Tryz.func18, Tryz.ntmps18
  go_wp2_with fail
  refine (toldS_any _ _ (enters_at Tryz.func67 (by kernel_rfl) rfl) (fun v => v.nm) _ p vs _ HP.out Ha.out).mono ?_
  rintro e w1 ⟨u, rfl, hown, hb⟩
  have Hown := Lib.hid (show w1.ownsRow w.heap.size 9 1 u (eraseV vs c).length (((eraseV vs c).map Vw.nm).map Value.string) from own_base (by rw [List.map_map]; exact hown) (by simp))
  clear hown
  go_wp2_with fail
  go_ret
  exact ⟨_, rfl, Hown.out, below_join Hal.out hb⟩


set_option maxHeartbeats 16000000 in
set_option maxRecDepth 100000 in
theorem tells3_any (p u : Value) (vs : List Vw) (s : ByteArray) (c : Nat) (w : World) (hp : Pol w p vs) (hu : Vws w u vs) (hs : s.size ≤ maxLen) (hc : c < 18446744073709551616) (hT : Deb w) :
    Calls Tryz.prog 14 #[p, u, .string s, .int .u64 (c : Int)] w fun e w' => e = .returned (.bool true) ∧ Below w.heap.size w w' := by
  obtain ⟨hr, hok, hf⟩ := hp.facts
  have hl64 := hok.1
  have HP := Lib.hid hp
  have HU := Lib.hid hu
  have HT := Lib.hid hT
  have Hok := Lib.hid hok
  have Hf := Lib.hid hf
  have Hlab := Lib.hid (fun v hv => (hf v hv).1)
  have hel : (eraseV vs c).length ≤ vs.length := List.length_filter_le _ _
  have Hel := Lib.hid hel
  obtain ⟨⟨c1, c2⟩, hcl⟩ : ∃ r, clrV vs s.data.toList = r := ⟨_, rfl⟩
  have Hcl := Lib.hid hcl
  obtain ⟨t, ht⟩ : ∃ t, printT vs = t := ⟨_, rfl⟩
  have Ht := Lib.hid ht
  have htt : (t.toList == t.toList) = true := beq_self_eq_true _
  clear hp hu hT hr hok hf hcl hel ht
  go_enter Tryz.func14, Tryz.ntmps14
  go_wp2_with fail
  refine (clearance_any p vs s _ HP.out hs).mono ?_
  rintro e w' ⟨rfl, rfl⟩
  rw [Hcl.out]
  go_wp2_with fail
  refine (ref3Clearance_any u vs s _ HU.out).mono ?_
  rintro e w' ⟨rfl, rfl⟩
  rw [Hcl.out]
  go_wp2_with fail
  refine (viewers_any p vs _ HP.out).mono ?_
  rintro e w1 ⟨v1, rfl, ho, hb⟩
  have B1 := Lib.hid hb
  have V1 := Lib.hid (Vws.of_own ho)
  clear ho hb
  go_wp2_with fail
  refine (ref3Same_any v1 u vs vs _ V1.out (HU.out.kept B1.out)).mono ?_
  rintro e w2 ⟨rfl, hb⟩
  have B2 := Lib.hid (below_join B1.out hb)
  simp only [decide_true]
  clear hb
  go_wp2_with fail
  refine (clearM_any p vs _ (HP.out.kept B2.out)).mono ?_
  rintro e w3 ⟨v3, m3, o3, rfl, ho, hr, hb⟩
  have B3 := Lib.hid (below_join B2.out hb)
  have N3 := Lib.hid (Nums.of_own ho)
  have R3 := Lib.hid hr
  clear ho hr hb
  go_wp2_with fail
  refine (ref3Clear_any u vs _ (HU.out.kept B3.out) (by omega) Hlab.out).mono ?_
  rintro e w4 ⟨v4, o4, rfl, hn, hr, hb⟩
  obtain rfl := R3.out.one hr
  have B4 := Lib.hid (below_join B3.out hb)
  have N3' := Lib.hid (N3.out.kept hb)
  have N4 := Lib.hid hn
  clear hn hr hb
  go_wp2_with fail
  refine (ref3SameLabels_any v3 v4 o3 o3 _ N3'.out N4.out).mono ?_
  rintro e w5 ⟨rfl, hb⟩
  have B5 := Lib.hid (below_join B4.out hb)
  simp only [decide_true]
  clear hb
  go_wp2_with fail
  refine (belowM_any p vs c _ (HP.out.kept B5.out) hc).mono ?_
  rintro e w6 ⟨v6, rfl, ht, hb⟩
  have B6 := Lib.hid (below_join B5.out hb)
  have T6 := Lib.hid ht
  clear ht hb
  go_wp2_with fail
  refine (ref3Erase_any u vs c _ (HU.out.kept B6.out) (by omega) hc Hlab.out).mono ?_
  rintro e w7 ⟨v7, rfl, hv, hb⟩
  have B7 := Lib.hid (below_join B6.out hb)
  have T7 := Lib.hid (T6.out.kept hb)
  have V7 := Lib.hid hv
  clear hv hb
  go_wp2_with fail
  refine (ref3Names_any v7 (eraseV vs c) _ V7.out (by have := Hel.out; omega)).mono ?_
  rintro e w8 ⟨v8, rfl, ht, hb⟩
  have B8 := Lib.hid (below_join B7.out hb)
  have T8 := Lib.hid (T7.out.kept hb)
  have U8 := Lib.hid ht
  clear ht hb
  go_wp2_with fail
  refine (sameTexts_any v6 v8 _ _ _ T8.out U8.out).mono ?_
  rintro e w9 ⟨rfl, hb⟩
  have B9 := Lib.hid (below_join B8.out hb)
  simp only [decide_true]
  clear hb
  go_wp2_with fail
  refine (aboveM_any p vs c _ (HP.out.kept B9.out) hc).mono ?_
  rintro e w10 ⟨v10, rfl, ht, hb⟩
  have B10 := Lib.hid (below_join B9.out hb)
  have T10 := Lib.hid ht
  clear ht hb
  go_wp2_with fail
  refine (ref3Above_any u vs c _ (HU.out.kept B10.out) (by omega) hc Hlab.out).mono ?_
  rintro e w11 ⟨v11, rfl, ht, hb⟩
  have B11 := Lib.hid (below_join B10.out hb)
  have T11 := Lib.hid (T10.out.kept hb)
  have U11 := Lib.hid ht
  clear ht hb
  go_wp2_with fail
  refine (sameTexts_any v10 v11 _ _ _ T11.out U11.out).mono ?_
  rintro e w12 ⟨rfl, hb⟩
  have B12 := Lib.hid (below_join B11.out hb)
  simp only [decide_true]
  clear hb
  go_wp2_with fail
  refine (printM_any p vs _ (HP.out.kept B12.out) (HT.out.kept B12.out)).mono ?_
  rintro e w13 ⟨rfl, hb⟩
  have B13 := Lib.hid (below_join B12.out hb)
  rw [Ht.out]
  clear hb
  go_wp2_with fail
  refine (ref3Print_any u vs _ (HU.out.kept B13.out) Hok.out Hf.out).mono ?_
  rintro e w14 ⟨rfl, hb⟩
  have B14 := Lib.hid (below_join B13.out hb)
  rw [Ht.out]
  clear hb
  go_wp2_with fail
  go_ret
  exact ⟨rfl, B14.out⟩
end Go.Proofs.YtajjikbigacbaaaGreatDoor
/- Own work: PolicyTells' walk. -/
namespace Go.Proofs.YtajjikbigacbaaaGreatDoor
open Go.RowKit Go.Maps Go.Shelf Num

theorem own_emptyS {W : World} {B H s : Nat} {e : TypeId} (h : W.heap[H]? = some (.cells #[] e (0, 0))) (hB : B ≤ H) : W.ownsRow B e s (.slice (some ⟨H, 0, none⟩) 0 0) 0 [] :=
  ⟨by simp, .inr ⟨H, 0, #[], rfl, hB, h, Nat.le_refl _, Nat.zero_le _, by simp, by simp⟩⟩
theorem ptrV {w : World} {p : Value} {vs : List Vw} (h : Pol w p vs) : ∃ b, p = .pointer (some ⟨b, 0, none⟩) := by
  obtain ⟨b, nv, mb, n, D, h1, _⟩ := h
  exact ⟨b, h1⟩
theorem vws_own {w : World} {B n : Nat} {e : TypeId} {v : Value} {L : List Vw} (h : w.ownsRow B e 2 v n (flatV L)) (hn : L.length = n) : Vws w v L := by
  subst hn
  exact Vws.of_own h

theorem below_noneG {w w' : World} (hg : w.grownBy w' none) : Below w.heap.size w w' := ⟨hg.os, hg.tape, hg.output, hg.size, fun k hk => hg.block k hk (by simp)⟩
theorem polB_grownO {B : Nat} {w w' : World} {p : Value} {vs : List Vw} {ob : Option Nat} (h : PolB B w p vs) (hg : w.grownBy w' ob) (hB : ∀ q, ob = some q → q < B) : PolB B w' p vs := by
  cases ob with
  | none => exact h.kept (below_noneG hg)
  | some g => exact h.grown hg (hB g rfl)
theorem own_grownO {B n s : Nat} {w w' : World} {e : TypeId} {v : Value} {xs : List Value} {ob : Option Nat} (h : w.ownsRow B e s v n xs) (hg : w.grownBy w' ob) (hB : ∀ q, ob = some q → q < B) : w'.ownsRow B e s v n xs := by
  refine ⟨h.1, ?_⟩
  rcases h.2 with h2 | ⟨g, cap, cur, hv, hBg, hcell, hr⟩
  · exact .inl h2
  · exact .inr ⟨g, cap, cur, hv, hBg, (hg.block g (lt_of_block hcell) (fun e => by have := hB g e.symm; omega)).trans hcell, hr⟩

set_option maxHeartbeats 64000000 in
set_option maxRecDepth 100000 in
theorem tells_walk (u : Value) (l : List Vw) (s : ByteArray) (c d : Nat) (w : World) (hu : Vws w u l) (hf : SliceForm u) (hfit : Fits l) (hlen : l.length * 24 ≤ 140737488351232) (hs : s.size ≤ maxLen) (hc : c < 18446744073709551616) (hd : d < 18446744073709551616) (hT : Deb w) :
    Calls Tryz.prog 3 #[u, .string s, .int .u64 (c : Int), .int .u64 (d : Int)] w fun e w' => e = .returned (.bool true) ∧ Below w.heap.size w w' := by
  obtain ⟨uo, ucap, hu1⟩ := hu.slice
  subst hu1
  have Hu := Lib.hid hu
  have Hf := Lib.hid hf
  have Hfit := Lib.hid hfit
  have HT := Lib.hid hT
  obtain ⟨i0, hi, hz0, hz1, hz2⟩ := info_parts Tryz.info33
  obtain ⟨n, hn⟩ : ∃ n, l.length = n := ⟨_, rfl⟩
  have Hn := Lib.hid hn
  rw [hn] at hlen Hu Hf ⊢
  clear hu hf hfit hT hn
  have hal : Below w.heap.size w (w.alloc (.cells #[] 33)) := (Below.refl _ _).alloc (Nat.le_refl _) _
  go_enter Tryz.func3, Tryz.ntmps3
  go_wp2_with (at_builtin; first
    | (refine wpList_append_vws rfl _ _ rfl w.heap.size _ 0 [] rfl (own_emptyS (heap_alloc_new w _) (Nat.le_refl _)) _ l rfl (Hu.out.kept hal) Hf.out (by rw [Hn.out]; omega) (by simp) ?_
       intro v1 w1 hown1 hg1
       have B1 := Lib.hid (hal.grown hg1 (by simp) (fun q hq => by cases hq; exact Nat.le_refl _))
       rw [Nat.zero_add, Hn.out, List.nil_append] at hown1
       obtain ⟨io, ic, rfl⟩ := own_sl hown1
       have O1 := Lib.hid hown1
       clear hown1 hg1))
  have I1 := Lib.hid (vws_own O1.out Hn.out)
  refine (new_strong _ l _ I1.out Hfit.out).mono ?_
  rintro e w2 ⟨hb, h2⟩
  have K2 := Lib.hid hb
  have B2 := Lib.hid (below_join B1.out hb)
  have I2 := Lib.hid (I1.out.kept hb)
  have O2 := Lib.hid (own_kept O1.out hb)
  clear hb
  rcases h2 with ⟨hno, rfl⟩ | ⟨hyes, p, rfl, hp⟩
  · have Hno := Lib.hid hno
    clear hno
    go_wp2_with fail
    refine (ref3New_any _ l _ (Hu.out.kept B2.out) Hfit.out).mono ?_
    rintro e w3 ⟨hb, ⟨_, rfl⟩ | ⟨hyes, _⟩⟩
    rotate_left
    · exact absurd hyes Hno.out
    have B3 := Lib.hid (below_join B2.out hb)
    have I3 := Lib.hid (I2.out.kept hb)
    clear hb
    go_wp2_with fail
    refine (ref3Same_any _ _ l l _ I3.out (Hu.out.kept B3.out)).mono ?_
    rintro e w4 ⟨rfl, hb⟩
    have B4 := Lib.hid (below_join B3.out hb)
    simp only [decide_true]
    clear hb
    go_wp2_with fail
    go_ret
    exact ⟨rfl, B4.out⟩
  obtain ⟨bp, rfl⟩ := ptrV hp.pol
  have HP2 := Lib.hid hp
  have Hyes := Lib.hid hyes
  clear hyes hp
  go_wp2_with fail
  refine (ref3New_any _ l _ (Hu.out.kept B2.out) Hfit.out).mono ?_
  rintro e w3 ⟨hb, ⟨hno, _⟩ | ⟨_, v3, rfl, ho⟩⟩
  · exact absurd Hyes.out hno
  rw [Hn.out] at ho
  have B3 := Lib.hid (below_join B2.out hb)
  have I3 := Lib.hid (I2.out.kept hb)
  have O3 := Lib.hid (own_kept O2.out hb)
  have P3 := Lib.hid (HP2.out.kept hb)
  have K3 := Lib.hid (below_join K2.out hb)
  have V3 := Lib.hid ho
  have J3 := Lib.hid hb
  clear hb ho
  go_wp2_with fail
  refine (ref3Same_any _ _ l l _ I3.out (Hu.out.kept B3.out)).mono ?_
  rintro e w4 ⟨rfl, hb⟩
  have B4 := Lib.hid (below_join B3.out hb)
  have O4 := Lib.hid (own_kept O3.out hb)
  have P4 := Lib.hid (P3.out.kept hb)
  have V4 := Lib.hid (own_kept V3.out hb)
  have hsz2 : w1.heap.size ≤ w2.heap.size := K2.out.size
  simp only [decide_true]
  obtain ⟨vs, hvs⟩ : ∃ vs, sortV l = vs := ⟨_, rfl⟩
  have Hvl := Lib.hid (show vs.length = n by rw [← hvs, sortV_len]; exact Hn.out)
  rw [hvs] at P4 V4
  clear hb hvs P3 V3 O3 I3 J3
  have hn64 : n ≤ 64 := by rw [← Hn.out]; exact Hyes.out.1
  go_wp2_with fail
  go_loopw [14] (fun i wr => ∃ (J : Nat) (xs : List Value), i = .int .i64 J ∧ J ≤ n ∧ wr.ownsRow w.heap.size 33 2 (.slice io n ic) n xs ∧ w4.grownBy wr (Value.slice io n ic).ownBlock) (fun i _ => n - (intOf i).toNat)
  case atStart => exact ⟨0, _, rfl, Nat.zero_le _, O4.out, grown_self _ _⟩
  case round =>
    obtain ⟨J, xs, rfl, hJ, ho, hg⟩ := hrel
    have HO := Lib.hid ho
    have HG := Lib.hid hg
    clear ho hg
    by_cases hlt : J < n
    · obtain ⟨g, ic2, hiv⟩ := Joins.ownsRow_form HO.out (by omega)
      injection hiv with e1 _ e3
      subst e1 e3
      have c0 := (HO.out.cellAt (J * 2) (by omega)).trans (List.getElem?_eq_getElem (by have := HO.out.1; omega))
      have c1 := (HO.out.cellAt (J * 2 + 1) (by omega)).trans (List.getElem?_eq_getElem (by have := HO.out.1; omega))
      have f0 := own_frozen HO.out (J * 2)
      have f1 := own_frozen HO.out (J * 2 + 1)
      have hJ0 : (0 : Int) ≤ (J : Int) := by omega
      have hJ1 : (J : Int) < (n : Int) := by omega
      have HO2 := Lib.hid (own_setCell (own_setCell HO.out (j := J * 2) (.string ⟨#[120]⟩)) (j := J * 2 + 1) (.int .u64 0))
      have HG2 := Lib.hid (grown_step (grown_step HG.out (grown_setCell wr g (J * 2) (.string ⟨#[120]⟩)) (fun x hx => .inl hx)) (grown_setCell _ g (J * 2 + 1) (.int .u64 0)) (fun x hx => .inl hx))
      go_wp2_with fail
      go_roundw
      case rel => exact ⟨J + 1, _, by go_num, by omega, HO2.out, HG2.out⟩
      case measure => simp [intOf]; omega
    obtain rfl : J = n := by omega
    obtain ⟨w5, rfl⟩ : ∃ w5 : World, w5 = wr := ⟨_, rfl⟩
    have hlow : ∀ q, (Value.slice io J ic).ownBlock = some q → q < w1.heap.size := fun q hq => (O1.out.lt q hq).2
    have P5 := Lib.hid (polB_grownO P4.out HG.out hlow).pol
    have V5 := Lib.hid (vws_own (own_grownO V4.out HG.out (fun q hq => Nat.lt_of_lt_of_le (hlow q hq) hsz2)) Hvl.out)
    have B5 := Lib.hid (B4.out.grown HG.out B4.out.size (fun q hq => (O4.out.lt q hq).1))
    have Hlab := Lib.hid (fun v hv => (P5.out.facts.2.2 v hv).1)
    clear hlow HG HO O4 V4 P4 O1 O2 I1 I2 HP2 K2 K3
    go_wp2_with fail
    refine (eraseM_any _ vs c _ P5.out hc).mono ?_
    rintro e w6 ⟨q, rfl, hq, hb⟩
    obtain ⟨bq, rfl⟩ := ptrV hq
    have K6 := Lib.hid hb
    have Q6 := Lib.hid hq
    clear hb hq
    go_wp2_with fail
    refine (tells3_any _ v3 vs s c _ (P5.out.kept K6.out) (V5.out.kept K6.out) hs hc (HT.out.kept (below_join B5.out K6.out))).mono ?_
    rintro e w7 ⟨rfl, hb⟩
    have K7 := Lib.hid (below_join K6.out hb)
    have Q7 := Lib.hid (Q6.out.kept hb)
    clear hb
    go_wp2_with fail
    refine (ref3Erase_any v3 vs c _ (V5.out.kept K7.out) (by have := Hvl.out; omega) hc Hlab.out).mono ?_
    rintro e w8 ⟨v8, rfl, hv8, hb⟩
    have K8 := Lib.hid (below_join K7.out hb)
    have Q8 := Lib.hid (Q7.out.kept hb)
    have V8 := Lib.hid hv8
    clear hb hv8
    go_wp2_with fail
    refine (tells3_any _ v8 (eraseV vs c) s d _ Q8.out V8.out hs hd (HT.out.kept (below_join B5.out K8.out))).mono ?_
    rintro e w9 ⟨rfl, hb⟩
    have K9 := Lib.hid (below_join K8.out hb)
    clear hb
    go_wp2_with fail
    refine (viewers_any _ vs _ (P5.out.kept K9.out)).mono ?_
    rintro e w10 ⟨v10, rfl, ho, hb⟩
    have K10 := Lib.hid (below_join K9.out hb)
    rw [Hvl.out] at ho
    obtain ⟨ao, ac, rfl⟩ := own_sl ho
    have hsz9 : w5.heap.size ≤ w9.heap.size := K9.out.size
    have A10 := Lib.hid ho
    have X10 := Lib.hid (show ∀ j, j < J → ∃ z : Int, (flatV vs)[j * 2 + 1]? = some (.int .u64 z) from fun j hj => ⟨_, (flatV_get vs j (by rw [Hvl.out]; exact hj)).2⟩)
    clear hb ho
    go_wp2_with fail
    go_loopw [17] (fun i wr => ∃ (I : Nat) (xs : List Value), i = .int .i64 I ∧ I ≤ J ∧ wr.ownsRow w9.heap.size 33 2 (.slice ao J ac) J xs ∧ Hid (∀ j, j < J → ∃ z : Int, xs[j * 2 + 1]? = some (.int .u64 z)) ∧ w10.grownBy wr (Value.slice ao J ac).ownBlock) (fun i _ => J - (intOf i).toNat)
    case atStart => exact ⟨0, _, rfl, Nat.zero_le _, A10.out, X10.out, grown_self _ _⟩
    case round =>
      obtain ⟨I, xs, rfl, hI, ho, HX, hg⟩ := hrel
      have HO := Lib.hid ho
      have HG := Lib.hid hg
      clear ho hg
      by_cases hlt : I < J
      · obtain ⟨g, ac2, hiv⟩ := Joins.ownsRow_form HO.out (by omega)
        injection hiv with e1 _ e3
        subst e1 e3
        obtain ⟨z, hz⟩ := HX.out I hlt
        have c1 := (HO.out.cellAt (I * 2 + 1) (by omega)).trans hz
        have f1 := own_frozen HO.out (I * 2 + 1)
        have hJ0 : (0 : Int) ≤ (I : Int) := by omega
        have hJ1 : (I : Int) < (J : Int) := by omega
        have HO2 := Lib.hid (fun y : Int => own_setCell HO.out (j := I * 2 + 1) (.int .u64 y))
        have HX2 := Lib.hid (show ∀ (y : Int) (j : Nat), j < J → ∃ z : Int, (xs.set (I * 2 + 1) (.int .u64 y))[j * 2 + 1]? = some (.int .u64 z) from fun y j hj => by
          by_cases e : j = I
          · subst e
            exact ⟨y, by rw [List.getElem?_set_self (List.getElem?_eq_some_iff.1 hz).1]⟩
          · rw [List.getElem?_set_ne (by omega)]; exact HX.out j hj)
        have HG2 := Lib.hid (fun y : Int => grown_step HG.out (grown_setCell wr g (I * 2 + 1) (.int .u64 y)) (fun x hx => .inl hx))
        clear hz
        go_wp2_with fail
        go_roundw
        case rel => exact ⟨I + 1, _, by go_num, by omega, HO2.out _, HX2.out _, HG2.out _⟩
        case measure => simp [intOf]; omega
      obtain rfl : I = J := by omega
      obtain ⟨w11, rfl⟩ : ∃ w11 : World, w11 = wr := ⟨_, rfl⟩
      have K11 := Lib.hid (show Below w5.heap.size w5 w11 from K10.out.grown HG.out K10.out.size (fun q hq => Nat.le_trans hsz9 (A10.out.lt q hq).1))
      clear HG HO HX A10 X10 K10
      go_wp2_with fail
      refine (clearM_any _ vs _ (P5.out.kept K11.out)).mono ?_
      rintro e w12 ⟨v12, m, out, rfl, ho, _, hb⟩
      have K12 := Lib.hid (below_join K11.out hb)
      obtain ⟨lo, lc, rfl⟩ := own_sl ho
      have hsz11 : w5.heap.size ≤ w11.heap.size := K11.out.size
      have A12 := Lib.hid ho
      clear hb ho
      go_wp2_with fail
      go_loopw [19] (fun i wr => ∃ (t : Nat) (xs : List Value), i = .int .i64 t ∧ t ≤ m ∧ wr.ownsRow w11.heap.size 24 1 (.slice lo m lc) m xs ∧ w12.grownBy wr (Value.slice lo m lc).ownBlock) (fun i _ => m - (intOf i).toNat)
      case atStart => exact ⟨0, _, rfl, Nat.zero_le _, A12.out, grown_self _ _⟩
      case round =>
        obtain ⟨t, xs, rfl, ht, ho, hg⟩ := hrel
        have HO := Lib.hid ho
        have HG := Lib.hid hg
        clear ho hg
        by_cases hlt : t < m
        · obtain ⟨g, lc2, hiv⟩ := Joins.ownsRow_form HO.out (by omega)
          injection hiv with e1 _ e3
          subst e1 e3
          have c1 := (HO.out.cellAt t (by omega)).trans (List.getElem?_eq_getElem (by have := HO.out.1; omega))
          have f1 := own_frozen HO.out t
          have hJ0 : (0 : Int) ≤ (t : Int) := by omega
          have hJ1 : (t : Int) < (m : Int) := by omega
          have hmx : m ≤ 9223372036854775807 := by have hcm := own_capV HO.out; unfold maxLen at hcm; omega
          have HO2 := Lib.hid (own_setCell HO.out (j := t) (.int .u64 77))
          have HG2 := Lib.hid (grown_step HG.out (grown_setCell wr g t (.int .u64 77)) (fun x hx => .inl hx))
          go_wp2_with fail
          go_roundw
          case rel => exact ⟨t + 1, _, by go_num, by omega, HO2.out, HG2.out⟩
          case measure => simp [intOf]; omega
        obtain rfl : t = m := by omega
        obtain ⟨w13, rfl⟩ : ∃ w13 : World, w13 = wr := ⟨_, rfl⟩
        have K13 := Lib.hid (show Below w5.heap.size w5 w13 from K12.out.grown HG.out K12.out.size (fun q hq => Nat.le_trans hsz11 (A12.out.lt q hq).1))
        clear HG HO A12 K12
        go_wp2_with fail
        refine (belowM_own _ vs c _ (P5.out.kept K13.out) hc).mono ?_
        rintro e w14 ⟨v14, rfl, ho, hb⟩
        have K14 := Lib.hid (below_join K13.out hb)
        obtain ⟨m2, hm2⟩ : ∃ m2, (eraseV vs c).length = m2 := ⟨_, rfl⟩
        rw [hm2] at ho
        obtain ⟨no, nc, rfl⟩ := own_sl ho
        have hsz13 : w5.heap.size ≤ w13.heap.size := K13.out.size
        have A14 := Lib.hid ho
        clear hb ho hm2
        go_wp2_with fail
        go_loopw [21] (fun i wr => ∃ (t : Nat) (xs : List Value), i = .int .i64 t ∧ t ≤ m2 ∧ wr.ownsRow w13.heap.size 9 1 (.slice no m2 nc) m2 xs ∧ w14.grownBy wr (Value.slice no m2 nc).ownBlock) (fun i _ => m2 - (intOf i).toNat)
        case atStart => exact ⟨0, _, rfl, Nat.zero_le _, A14.out, grown_self _ _⟩
        case round =>
          obtain ⟨k, xs, rfl, hk, ho, hg⟩ := hrel
          have HO := Lib.hid ho
          have HG := Lib.hid hg
          clear ho hg
          by_cases hlt : k < m2
          · obtain ⟨g, nc2, hiv⟩ := Joins.ownsRow_form HO.out (by omega)
            injection hiv with e1 _ e3
            subst e1 e3
            have c1 := (HO.out.cellAt k (by omega)).trans (List.getElem?_eq_getElem (by have := HO.out.1; omega))
            have f1 := own_frozen HO.out k
            have hJ0 : (0 : Int) ≤ (k : Int) := by omega
            have hJ1 : (k : Int) < (m2 : Int) := by omega
            have hmx : m2 ≤ 9223372036854775807 := by have hcm := own_capV HO.out; unfold maxLen at hcm; omega
            have HO2 := Lib.hid (own_setCell HO.out (j := k) (.string ⟨#[63]⟩))
            have HG2 := Lib.hid (grown_step HG.out (grown_setCell wr g k (.string ⟨#[63]⟩)) (fun x hx => .inl hx))
            go_wp2_with fail
            go_roundw
            case rel => exact ⟨k + 1, _, by go_num, by omega, HO2.out, HG2.out⟩
            case measure => simp [intOf]; omega
          obtain rfl : k = m2 := by omega
          have K15 := Lib.hid (show Below w5.heap.size w5 wr from K14.out.grown HG.out K14.out.size (fun q hq => Nat.le_trans hsz13 (A14.out.lt q hq).1))
          clear HG HO A14 K14
          go_wp2_with fail
          refine (tells3_any _ v3 vs s d _ (P5.out.kept K15.out) (V5.out.kept K15.out) hs hd (HT.out.kept (below_join B5.out K15.out))).mono ?_
          rintro e w16 ⟨rfl, hb⟩
          have B16 := Lib.hid (below_join (below_join B5.out K15.out) hb)
          clear hb
          go_wp2_with fail
          go_ret
          exact ⟨rfl, B16.out⟩
end Go.Proofs.YtajjikbigacbaaaGreatDoor
/- Own work: an argument that is a list of viewers. -/
namespace Go.Proofs.YtajjikbigacbaaaGreatDoor
open Go.RowKit Go.ChangeShapes Go.WideShapes Go.Joins

def vwOf {H : Type} (y : DataW H × List MemPlace) : Vw := match y.1 with
  | .agg [.lit (.string t), .lit (.int _ l)] => ⟨⟨t.toArray⟩, l.toNat⟩
  | _ => ⟨⟨#[]⟩, 0⟩
set_option maxRecDepth 100000 in
theorem open_vw0 {H : Type} {enc : TypeId × Value → H} {W : World} {m : Nat} {cs : List Value} {y : DataW H × List MemPlace}
    (h : DataW.trod enc Tryz.prog W 0 (fun _ => true) true m 33 cs = some y) : cs = (vwOf y).cells ∧ (vwOf y).lab < 18446744073709551616 ∧ (vwOf y).nm.size ≤ maxLen := by
  obtain ⟨y0, y1, n, hx, hl, t0, t1⟩ := trod_struct2 Tryz.underlying33 h
  have hC : Tryz.prog.cellsOf 33 = 2 := by kernel_rfl
  have k24 : Tryz.prog.cellsOf 24 = 1 := by kernel_rfl
  have k3 : Tryz.prog.cellsOf 9 = 1 := by kernel_rfl
  rw [hC] at hl
  match cs, hl with
  | [c0, c1], _ =>
    simp only [k24, k3, List.drop_zero, List.drop_succ_cons, List.take_succ_cons, List.take_zero] at t0 t1
    obtain ⟨s, e0, z0, hs⟩ := DataW.trod_string Tryz.underlying9 t0
    obtain ⟨l, e1, z1, w1⟩ := DataW.trod_int Tryz.underlying24 t1
    cases e0; cases e1
    subst z0; subst z1
    have hw : 0 ≤ l ∧ l ≤ 18446744073709551615 := by simpa [Lit.wf, IntKind.min, IntKind.max, IntKind.signed, IntKind.bits] using w1
    obtain ⟨a, rfl⟩ : ∃ a : Nat, l = a := ⟨l.toNat, by omega⟩
    rw [hx]
    refine ⟨rfl, ?_, hs⟩
    show (a : Int).toNat < _
    omega

set_option maxRecDepth 100000 in
theorem open_vws {H : Type} {enc : TypeId × Value → H} {W : World} {r : Reach} {b0 : Nat} {v : Value} {d : DataW H} {p : List MemPlace}
    (k : Value.okWide Tryz.prog W r b0 22 v) (h : DataW.Trod enc Tryz.prog W 0 (fun _ => true) true 22 v d p) :
    ∃ ls : List Vw, Vws W v ls ∧ SliceForm v ∧ Fits ls ∧ (ls = [] ∨ ∃ elems spare, d = .slice elems spare ∧ elems.length = ls.length) := by
  obtain ⟨a0, len, cap, rfl⟩ := okWide_slice Tryz.underlying22 k
  obtain ⟨fuel, hf⟩ := h
  have hC : Tryz.prog.cellsOf 33 = 2 := by kernel_rfl
  rcases DataW.trod_slice Tryz.underlying22 hf with ⟨hcs, hx⟩ | ⟨a, len', cap', elems, rest, n, _, hcs, hx, hb, hl, hm, hlen, hel, _, _⟩
  · simp [Value.cells] at hcs
    obtain ⟨rfl, rfl, rfl⟩ := hcs
    exact ⟨[], .inl ⟨_, _, rfl, rfl⟩, .inl rfl, (fun x hx => by cases hx), .inl rfl⟩
  · simp [Value.cells] at hcs
    obtain ⟨rfl, rfl, rfl⟩ := hcs
    simp only [Prod.mk.injEq] at hx
    rw [hC] at hel
    refine ⟨elems.map vwOf, ?_, .inr ⟨_, _, _, rfl⟩, ?_, .inr ⟨_, _, hx.1, by simp⟩⟩
    rotate_left
    · intro x hx'
      obtain ⟨y, hy, rfl⟩ := List.mem_map.1 hx'
      obtain ⟨i, hi, rfl⟩ := List.getElem_of_mem hy
      have h1 := hel i (by omega)
      rw [List.getElem?_eq_getElem (by omega), Option.bind_eq_some_iff] at h1
      obtain ⟨cs, hc, ht⟩ := h1
      exact (open_vw0 ht).2
    by_cases h0 : 0 < len
    · have cell : ∀ (i : Nat) (hi : i < len) (j : Nat), j < 2 → W.cell? ((a.add (i * 2)).add j) = (vwOf (elems[i]'(by omega))).cells[j]? := by
        intro i hi j hj
        have h1 := hel i hi
        rw [List.getElem?_eq_getElem (by omega), Option.bind_eq_some_iff] at h1
        obtain ⟨cs, hc, ht⟩ := h1
        obtain ⟨_, _, hat⟩ := World.cells?_some hc
        rw [hat j hj, (open_vw0 ht).1]
      obtain ⟨b, off, spot⟩ := a
      have hspot : spot = none := by
        have h1 := cell 0 h0 0 (by omega)
        have h2 := World.cell?_spot (h1.trans (show _ = some _ from rfl))
        simpa [Addr.add] using h2
      subst hspot
      refine .inr ⟨b, off, cap, by rw [List.length_map, hlen], by rw [List.length_map]; omega, by rw [List.length_map]; omega, hm, fun i hi => ?_⟩
      rw [List.length_map] at hi
      have hc := fun j hj => cell i (by omega) j hj
      simp only [addr_add] at hc
      rw [List.getElem_map]
      exact ⟨hc 0 (by omega), hc 1 (by omega)⟩
    · obtain rfl : len = 0 := by omega
      exact .inl ⟨_, _, rfl, by rw [List.eq_nil_of_length_eq_zero hlen]; rfl⟩
end Go.Proofs.YtajjikbigacbaaaGreatDoor
