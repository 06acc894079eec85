/- Own work: HunkApplies' walk. -/
import Derived.Test.YtabdgocfbmcobaaHunkApR
import Derived.Test.YtabdgocfbmcobaaHunkChecks
import Derived.Test.YtabdgocfbmcobaaHunkUndone
import Derived.Maps.AppendAt
namespace Go.Proofs.Ytabdgocfbmcobaa
open Go.RowKit Go.Sort

def orNil (e : Nat) (l : List ByteArray) : List ByteArray := if e = 0 then l else []
theorem own_orNil {w : World} {B : Nat} {r : Value} {e : Nat} {l : List ByteArray} (h1 : e ≠ 0 → r = .slice none 0 0) (h2 : e = 0 → OwnT w B r l) : OwnT w B r (orNil e l) := by
  unfold orNil
  by_cases h : e = 0
  · rw [if_pos h]; exact h2 h
  · rw [if_neg h, h1 h]; exact ownT_nil _ _
theorem own_ifNil {w : World} {B : Nat} {r : Value} {C : Prop} [Decidable C] {l : List ByteArray} (h1 : ¬ C → r = .slice none 0 0) (h2 : C → OwnT w B r l) : OwnT w B r (if C then l else []) := by
  by_cases h : C
  · rw [if_pos h]; exact h2 h
  · rw [if_neg h, h1 h]; exact ownT_nil _ _
theorem app_len {a : List ByteArray} {l : List HunkI} (h : (fitsL a l).2 = 0) : (appL a l).length ≤ a.length + sumN l := by
  have := (appF_len (fits_all h)).1
  simp only [appL]
  omega
/-- rows that stay beside two that are spoilt -/
structure Rest (w4 : World) (s5 s6 s8 : Nat) (bv ov vv : Value) (lb lo lv : List ByteArray) (W : World) : Prop where
  below : Below w4.heap.size w4 W
  ob : OwnT W s5 bv lb
  oo : OwnT W s6 ov lo
  ov : OwnT W s8 vv lv
theorem Rest.step {w4 W W' : World} {s5 s6 s8 : Nat} {bv ov vv : Value} {lb lo lv : List ByteArray} {q : Option Nat} (h : Rest w4 s5 s6 s8 bv ov vv lb lo lv W) (hg : W.grownBy W' q)
    (h0 : ∀ k, q = some k → w4.heap.size ≤ k) (h1 : ∀ k, q = some k → bv.ownBlock ≠ some k) (h2 : ∀ k, q = some k → ov.ownBlock ≠ some k) (h3 : ∀ k, q = some k → vv.ownBlock ≠ some k) : Rest w4 s5 s6 s8 bv ov vv lb lo lv W' :=
  ⟨h.below.grown hg h.below.size (fun k hk => h0 k hk), own_grown h.ob hg (fun k hk e => h1 k e hk), own_grown h.oo hg (fun k hk e => h2 k e hk), own_grown h.ov hg (fun k hk e => h3 k e hk)⟩
theorem Rest.low {w4 W W' : World} {s5 s6 s8 : Nat} {bv ov vv : Value} {lb lo lv : List ByteArray} (h : Rest w4 s5 s6 s8 bv ov vv lb lo lv W) (hb : Below W.heap.size W W') : Rest w4 s5 s6 s8 bv ov vv lb lo lv W' :=
  ⟨below_join h.below hb, h.ob.below hb, h.oo.below hb, h.ov.below hb⟩
def Span (v : Value) (a b : Nat) : Prop := ∀ k, v.ownBlock = some k → a ≤ k ∧ k < b
theorem Span.of {w : World} {B : Nat} {v : Value} {l : List ByteArray} (h : OwnT w B v l) : Span v B w.heap.size := fun k hk => World.ownsRow.lt h k hk
/-- where a row that is spoilt lies: in its own span, or behind all -/
def Loose (v : Value) (a b t : Nat) : Prop := ∀ k, v.ownBlock = some k → (a ≤ k ∧ k < b) ∨ t ≤ k

/-- append(v, "behind") -/
theorem wpList_append_behind {w : World} {ops : Array Oper} {rest : List Oper} {o : Oper} {a : Act} {Q : Exit → Act → World → Prop} (hgd : o.guard = none) (s x : Operand)
    (ho : o.op = .call { callee := .builtin .append, args := #[s, x], argTypes := #[23, 23] })
    (v : Value) (X : List ByteArray) (y : ByteArray) (hs : a.eval s = v) (hown : OwnT w 0 v X) (hx : a.eval x = .slice (some ⟨w.heap.size, 0, none⟩) 1 1)
    (hn : X.length ≤ 4194304)
    (h : ∀ v' w', OwnT w' 0 v' (X ++ [y]) → (w.alloc (.cells #[.string y] 9)).grownBy w' v.ownBlock → (v'.ownBlock = v.ownBlock ∨ v'.ownBlock = some (w.heap.size + 1)) → wpList Try.prog ops Q rest (a.put o.dst v') w') :
    wpList Try.prog ops Q (o :: rest) a (w.alloc (.cells #[.string y] 9)) := by
  obtain ⟨i0, hi, hz0, hz1, hz2⟩ := info_parts Try.info9
  have hal : Below w.heap.size w (w.alloc (.cells #[.string y] 9)) := (Below.refl _ _).alloc (Nat.le_refl _) _
  refine wpList_append_own_at _ hgd s x 23 ho 0 9 i0 (.string ⟨#[]⟩) 1 16 Try.underlying23 hi hz0 hz1 hz2 rfl (by decide) v X.length (X.map Value.string) hs (hown.below hal) ⟨w.heap.size, 0, none⟩ 1 1 [.string y] hx rfl ?_ ?_ (by unfold maxLen; omega) (by omega) (Nat.zero_le _) ?_
  · intro j u hj
    rw [addr_add, Nat.zero_add, cell_of_row _ _ _ _ _ _ (heap_alloc_new w _)]
    simpa using hj
  · intro u hu
    simp at hu
    subst hu
    rfl
  · intro v' w' h1 h2 _ h4
    refine h v' w' ?_ h2 (h4.imp id (fun e => by rw [e, World.size_alloc]))
    unfold OwnT
    rw [List.length_append, List.map_append]
    exact h1

theorem OwnT.set {w : World} {B g n cap : Nat} {l : List ByteArray} (h : OwnT w B (.slice (some ⟨g, 0, none⟩) n cap) l) (hn : l.length = n) (k : Nat) (y : ByteArray) : OwnT (w.setCell ⟨g, k, none⟩ (.string y)) B (.slice (some ⟨g, 0, none⟩) n cap) (l.set k y) := by
  subst hn
  have h2 := own_setCell (j := k) h (.string y)
  unfold OwnT
  rw [List.length_set, List.map_set]
  exact h2
theorem OwnT.at {w : World} {B g n cap : Nat} {l : List ByteArray} (h : OwnT w B (.slice (some ⟨g, 0, none⟩) n cap) l) (hn : l.length = n) (k : Nat) (hk : k < n) : (∃ z, w.cell? ⟨g, k, none⟩ = some z) ∧ w.frozen? ⟨g, k, none⟩ = false := by
  subst hn
  exact ⟨⟨_, (World.ownsRow.cellAt h k (by omega)).trans (List.getElem?_eq_getElem (by simpa using hk))⟩, own_frozen h k⟩
theorem OwnT.parts {w : World} {B : Nat} {v : Value} {l : List ByteArray} (h : OwnT w B v l) : ∃ ao cap, v = .slice ao l.length cap ∧ (0 < l.length → ∃ g, ao = some ⟨g, 0, none⟩) := by
  obtain ⟨ao, cap, e, hg⟩ := own_slice h
  exact ⟨ao, cap, e, hg⟩

set_option maxRecDepth 100000 in
set_option maxHeartbeats 16000000 in
theorem applies_walk (u v : Value) (l : List HunkV) (a : List ByteArray) (w : World) (hv : Hks w u l) (hf : ∀ m ∈ l, m.Fit) (hu : Texts w v a) (hfu : SliceForm v) (hb : bulks l + a.length ≤ 1048576) :
    Calls Try.prog 4 #[u, v] w fun e w' => e = .returned (.bool true) ∧ Below w.heap.size w w' := by
  have hbs := bulks_sums l
  have Hv := Lib.hid hv
  have Hf := Lib.hid hf
  have Hu := Lib.hid hu
  have Hfu := Lib.hid hfu
  obtain ⟨uo, uc, rfl⟩ := hv.lenForm
  obtain ⟨vo, vc, rfl⟩ := hu.lenForm
  have hl : Hid (l.length * 56 ≤ 140737488351232) := by show _ ≤ _; omega
  have ha : Hid (a.length ≤ 1048576) := by show _ ≤ _; omega
  have hN : Hid (sumN (l.map HunkV.txt) ≤ 1048576) := by show _ ≤ _; omega
  have hO : Hid (sumN (invL (l.map HunkV.txt)) ≤ 1048576) := by show _ ≤ _; rw [invL, (sumN_inv _ _).1]; omega
  obtain ⟨n, hn⟩ : ∃ n, l.length = n := ⟨_, rfl⟩
  obtain ⟨t, ht⟩ : ∃ t, a.length = t := ⟨_, rfl⟩
  have Hn := Lib.hid hn
  have Ht := Lib.hid ht
  have htB : t ≤ 1048576 := by omega
  have hnB : n ≤ 1048576 := by omega
  rw [hn] at Hv ⊢
  rw [ht] at Hu Hfu ⊢
  clear hv hf hu hfu hn ht hbs hb
  have al : ∀ (W : World) (o : Obj), Below W.heap.size W (W.alloc o) := fun W o => (Below.refl _ _).alloc (Nat.le_refl _) o
  have AL := Lib.hid al
  clear al
  go_enter Try.func4, Try.ntmps4
  go_wp2_with fail
  refine (twin_any _ l w Hv.out Hf.out hl.out).mono ?_
  rintro e w1 ⟨r, hs, rfl, ho1, he1, hb1⟩
  have HO1 := Lib.hid ho1.hks
  have HE1 := Lib.hid he1
  have HF1 := Lib.hid (fit_made ho1 he1 Hf.out)
  have B1 := Lib.hid hb1
  have HSn : Hid (hs.length = n) := by show _ = _; have h := congrArg List.length he1; rw [List.length_map, List.length_map] at h; rw [h, Hn.out]
  clear ho1 he1 hb1
  obtain ⟨ro, rc, rfl⟩ := HO1.out.lenForm
  rw [HSn.out] at HO1 ⊢
  go_wp2_with (at_builtin; refine wpList_append_lot rfl _ _ rfl w1.heap.size _ [] rfl (own_empty1 (heap_alloc_new w1 _) (Nat.le_refl _)) _ a rfl (Hu.out.kept (below_join B1.out (AL.out w1 _))) Hfu.out (by rw [Ht.out]; simp; omega) (by simp) ?_)
  intro v2 w2 ho2 hg2
  have B2 := Lib.hid ((AL.out w1 _).grown hg2 (by simp) (fun g hg => by cases hg; exact Nat.le_refl _))
  have HO2 : Hid (OwnT w2 w1.heap.size v2 a) := by show OwnT _ _ _ _; simpa using ho2
  have HL2 := Lib.hid (texts_lit w2 [tx8Mark] 9 (by simp) (by unfold maxLen; simp))
  clear ho2 hg2
  go_wp2_with (at_builtin; refine wpList_append_lot rfl _ _ rfl w1.heap.size v2 a rfl (HO2.out.below (AL.out w2 _)) _ [tx8Mark] rfl HL2.out (.inr ⟨_, _, _, rfl⟩) (by rw [Ht.out]; simp; omega) (by have := B2.out.size; simp; omega) ?_)
  intro v3 w3 ho3 hg3
  have B3 := Lib.hid ((B2.out.trans ((AL.out w2 _).mono B2.out.size)).grown hg3 (Nat.le_trans B2.out.size (AL.out w2 _).size) (fun g hg => (HO2.out.lt g hg).1))
  obtain ⟨g, cap, rfl, hlent⟩ := Lent.of ho3
  have HLt := Lib.hid hlent
  rw [Ht.out] at HLt ⊢
  have hcap := HLt.out.cap
  have hs1 := run_front (some ⟨g, 0, none⟩) (t + 1) cap t (by omega)
  have BW3 := Lib.hid (below_join B1.out B3.out)
  clear ho3 hg3 hlent HL2 HO2
  go_wp2_with fail
  refine (refApply_any _ _ l a w3 (Hu.out.kept BW3.out) (Hv.out.kept BW3.out) Hf.out (by have := hl.out; omega) ha.out hN.out).mono ?_
  rintro e w4 ⟨r4, rfl, hz4, ho4, hb4⟩
  have O4 := Lib.hid (own_orNil hz4 ho4)
  have B34 := Lib.hid hb4
  have BW4 := Lib.hid (below_join BW3.out hb4)
  have B14 := Lib.hid (below_join B3.out hb4)
  obtain ⟨o4, c4, e4⟩ := O4.out.texts.lenForm
  clear hz4 ho4 hb4
  go_wp2_with fail
  refine (apply_any _ _ hs a w4 (HLt.out.texts.kept B34.out) (.inr ⟨_, _, _, rfl⟩) (HO1.out.kept B14.out) HF1.out (by rw [HSn.out]; omega) ha.out (by rw [HE1.out]; exact hN.out)).mono ?_
  rintro e w5 ⟨r5, rfl, hz5, ho5, hb5⟩
  rw [HE1.out] at hz5 ho5 ⊢
  have O5 := Lib.hid (own_orNil hz5 ho5)
  have B45 := Lib.hid hb5
  clear hz5 ho5 hb5
  go_wp2_with fail
  refine (apply_any _ _ hs a w5 (HLt.out.texts.kept (below_join B34.out B45.out)) (.inr ⟨_, _, _, rfl⟩) (HO1.out.kept (below_join B14.out B45.out)) HF1.out (by rw [HSn.out]; omega) ha.out (by rw [HE1.out]; exact hN.out)).mono ?_
  rintro e w6 ⟨r6, rfl, hz6, ho6, hb6⟩
  rw [HE1.out] at hz6 ho6 ⊢
  have O6 := Lib.hid (own_orNil hz6 ho6)
  have B56 := Lib.hid hb6
  have B46 := Lib.hid (below_join B45.out hb6)
  clear hz6 ho6 hb6
  go_wp2_with fail
  refine (refUndo_any _ _ l a w6 (Hu.out.kept (below_join BW4.out B46.out)) (Hv.out.kept (below_join BW4.out B46.out)) Hf.out hl.out ha.out hO.out).mono ?_
  rintro e w7 ⟨r7, rfl, hz7, ho7, hb7⟩
  have O7 := Lib.hid (own_ifNil hz7 ho7)
  have B67 := Lib.hid hb7
  have B47 := Lib.hid (below_join B46.out hb7)
  clear hz7 ho7 hb7
  obtain ⟨ue, hue⟩ : ∃ ue, undoE a (l.map HunkV.txt) = ue := ⟨_, rfl⟩
  go_wp2_with fail
  refine (undo_any _ _ hs a w7 (HLt.out.texts.kept (below_join B34.out B47.out)) (.inr ⟨_, _, _, rfl⟩) (HO1.out.kept (below_join B14.out B47.out)) HF1.out (by rw [HSn.out]; omega) ha.out (by rw [HE1.out]; exact hO.out)).mono ?_
  rintro e w8 ⟨r8, rfl, hz8, ho8, hb8⟩
  rw [HE1.out] at hz8 ho8 ⊢
  have O8 := Lib.hid (own_ifNil hz8 ho8)
  have B78 := Lib.hid hb8
  have B48 := Lib.hid (below_join B47.out hb8)
  clear hz8 ho8 hb8
  go_wp2_with fail
  refine (undo_any _ _ hs a w8 (HLt.out.texts.kept (below_join B34.out B48.out)) (.inr ⟨_, _, _, rfl⟩) (HO1.out.kept (below_join B14.out B48.out)) HF1.out (by rw [HSn.out]; omega) ha.out (by rw [HE1.out]; exact hO.out)).mono ?_
  rintro e w9 ⟨r9, rfl, hz9, ho9, hb9⟩
  rw [HE1.out] at hz9 ho9 ⊢
  have O9 := Lib.hid (own_ifNil hz9 ho9)
  have B89 := Lib.hid hb9
  have B49 := Lib.hid (below_join B48.out hb9)
  clear hz9 ho9 hb9
  have hlu : (if invE (l.map HunkV.txt) = 0 ∧ (fitsL a (invL (l.map HunkV.txt))).2 = 0 then appL a (invL (l.map HunkV.txt)) else []).length ≤ 2097152 := by
    by_cases h : invE (l.map HunkV.txt) = 0 ∧ (fitsL a (invL (l.map HunkV.txt))).2 = 0
    · rw [if_pos h]; have := app_len h.2; have := ha.out; have := hO.out; omega
    · rw [if_neg h]; simp
  have hla : (orNil (fitsL a (l.map HunkV.txt)).2 (appL a (l.map HunkV.txt))).length ≤ 2097152 := by
    unfold orNil
    by_cases h : (fitsL a (l.map HunkV.txt)).2 = 0
    · rw [if_pos h]; have := app_len h; have := ha.out; have := hN.out; omega
    · rw [if_neg h]; simp
  obtain ⟨lu, hlue⟩ : ∃ lu, (if invE (l.map HunkV.txt) = 0 ∧ (fitsL a (invL (l.map HunkV.txt))).2 = 0 then appL a (invL (l.map HunkV.txt)) else []) = lu := ⟨_, rfl⟩
  obtain ⟨la, hlae⟩ : ∃ la, orNil (fitsL a (l.map HunkV.txt)).2 (appL a (l.map HunkV.txt)) = la := ⟨_, rfl⟩
  rw [hlue] at O7 O8 O9 hlu
  subst e4
  rw [hlae] at O4 O5 O6 hla
  rw [hlae, hue]
  obtain ⟨fe, hfe⟩ : ∃ fe, (fitsL a (l.map HunkV.txt)).2 = fe := ⟨_, rfl⟩
  rw [hfe]
  clear hlue hlae hue hfe
  have S5 := Lib.hid (Span.of O5.out)
  have S6 := Lib.hid (Span.of O6.out)
  have S7 := Lib.hid (Span.of O7.out)
  have S8 := Lib.hid (Span.of O8.out)
  have S9 := Lib.hid (Span.of O9.out)
  have HR := Lib.hid (Rest.mk (w4 := w4) (s5 := w5.heap.size) (s6 := w6.heap.size) (s8 := w8.heap.size) (bv := r6) (ov := r7) (vv := r9) (lb := la) (lo := lu) (lv := lu) (W := w9) B49.out (((O6.out.below B67.out).below B78.out).below B89.out) ((O7.out.below B78.out).below B89.out) O9.out)
  have HA := Lib.hid (((((O5.out.below B56.out).below B67.out).below B78.out).below B89.out).base (Nat.zero_le _))
  have HU := Lib.hid ((O8.out.below B89.out).base (Nat.zero_le _))
  have z45 := B45.out.size
  have z56 := B56.out.size
  have z67 := B67.out.size
  have z78 := B78.out.size
  have z89 := B89.out.size
  have HZ := Lib.hid (And.intro z45 (And.intro z56 (And.intro z67 (And.intro z78 z89))))
  obtain ⟨lan, hlan⟩ : ∃ lan, la.length = lan := ⟨_, rfl⟩
  obtain ⟨lun, hlun⟩ : ∃ lun, lu.length = lun := ⟨_, rfl⟩
  have Hlan := Lib.hid hlan
  have Hlun := Lib.hid hlun
  rw [hlan] at hla O4 ⊢
  rw [hlun] at hlu
  clear hlan hlun z45 z56 z67 z78 z89
  obtain ⟨ao, ac, e5, hao⟩ := O5.out.parts
  obtain ⟨bo, bc, e8, hbo⟩ := O8.out.parts
  rw [Hlan.out] at e5 hao
  rw [Hlun.out] at e8 hbo
  subst e5 e8
  have Hao := Lib.hid hao
  have Hbo := Lib.hid hbo
  clear hao hbo
  go_wp2_with fail
  refine (texts08_any _ _ la la w9 HA.out.texts (O4.out.texts.kept B49.out)).mono ?_
  rintro e w10 ⟨he, q, rfl⟩
  rw [decide_eq_true (rfl : la = la)] at he
  subst he
  have b10 := below_drewN (Below.refl w9.heap.size w9) q
  have HR := Lib.hid (HR.out.low b10)
  have HA := Lib.hid (HA.out.below b10)
  have HU := Lib.hid (HU.out.below b10)
  have z10 := b10.size
  obtain ⟨w10, hw10⟩ : ∃ w10, w9.drewN q = w10 := ⟨_, rfl⟩
  rw [hw10] at HR HA HU z10 ⊢
  clear hw10 b10
  go_wp2_with fail
  refine (texts08_any _ _ lu lu w10 HU.out.texts HR.out.oo.texts).mono ?_
  rintro e w11 ⟨he, q2, rfl⟩
  rw [decide_eq_true (rfl : lu = lu)] at he
  subst he
  have b11 := below_drewN (Below.refl w10.heap.size w10) q2
  have HR := Lib.hid (HR.out.low b11)
  have HA := Lib.hid (HA.out.below b11)
  have HU := Lib.hid (HU.out.below b11)
  have z11 := Nat.le_trans z10 b11.size
  obtain ⟨w11, hw11⟩ : ∃ w11, w10.drewN q2 = w11 := ⟨_, rfl⟩
  rw [hw11] at HR HA HU z11 ⊢
  clear hw11 b11 z10
  have HZ9 := Lib.hid z11
  clear z11
  go_wp2_with fail
  go_loopw [20] (fun i wr => ∃ (k : Nat) (X : List ByteArray), k ≤ lan ∧ i = .int .i64 (k : Int) ∧ Hid (X.length = lan) ∧ Hid (OwnT wr 0 (.slice ao lan ac) X) ∧ Hid (OwnT wr 0 (.slice bo lun bc) lu) ∧ Hid (Rest w4 w5.heap.size w6.heap.size w8.heap.size r6 r7 r9 la lu lu wr) ∧ Hid (w9.heap.size ≤ wr.heap.size)) (fun i _ => lan - (intOf i).toNat)
  case atStart => exact ⟨0, la, Nat.zero_le _, rfl, Hlan.out, HA.out, HU.out, HR.out, HZ9.out⟩
  case round =>
    clear HA HU HR HZ9
    obtain ⟨k, X, hk, rfl, HX, HA, HU, HR, HZ9⟩ := hrel
    by_cases hkl : k < lan
    · obtain ⟨ga, rfl⟩ := Hao.out (by omega)
      obtain ⟨⟨z0, hz0⟩, hz1⟩ := HA.out.at HX.out k hkl
      have hsp := S5.out ga rfl
      have hg := grown_setCell wr ga k (.string ⟨#[115, 112, 111, 105, 108, 116]⟩)
      have hzz := HZ.out
      have HA2 := Lib.hid (HA.out.set HX.out k ⟨#[115, 112, 111, 105, 108, 116]⟩)
      have HU2 := Lib.hid (own_grown HU.out hg (fun k2 h1 h2 => by have := S8.out k2 h1; have := Option.some.inj h2; omega))
      have HR2 := Lib.hid (HR.out.step hg (fun k2 h => by have := Option.some.inj h; omega) (fun k2 h e => by have := S6.out k2 e; have := Option.some.inj h; omega) (fun k2 h e => by have := S7.out k2 e; have := Option.some.inj h; omega) (fun k2 h e => by have := S9.out k2 e; have := Option.some.inj h; omega))
      have HZ2 := Lib.hid (Nat.le_trans HZ9.out hg.size)
      have ki0 : (0 : Int) ≤ (k : Int) := by omega
      have ki1 : (k : Int) < (lan : Int) := by omega
      clear hsp hg hzz
      go_wp2_with fail
      go_roundw
      case rel => exact ⟨k + 1, _, by omega, by go_num, (by show _ = _; rw [List.length_set]; exact HX.out), HA2, HU2, HR2, HZ2⟩
      case measure => simp [intOf]; omega
    · obtain rfl : k = lan := by omega
      go_wp2_with fail
      go_loopw [21] (fun i wr => ∃ (j : Nat) (X Y : List ByteArray), j ≤ lun ∧ i = .int .i64 (j : Int) ∧ Hid (X.length = k) ∧ Hid (Y.length = lun) ∧ Hid (OwnT wr 0 (.slice ao k ac) X) ∧ Hid (OwnT wr 0 (.slice bo lun bc) Y) ∧ Hid (Rest w4 w5.heap.size w6.heap.size w8.heap.size r6 r7 r9 la lu lu wr) ∧ Hid (w9.heap.size ≤ wr.heap.size)) (fun i _ => lun - (intOf i).toNat)
      case atStart => exact ⟨0, X, lu, Nat.zero_le _, rfl, HX, Hlun, HA, HU, HR, HZ9⟩
      case round =>
        clear HX HA HU HR HZ9
        obtain ⟨j, X, Y, hj, rfl, HX, HY, HA, HU, HR, HZ9⟩ := hrel
        by_cases hjl : j < lun
        · obtain ⟨gu, rfl⟩ := Hbo.out (by omega)
          obtain ⟨⟨z0, hz0⟩, hz1⟩ := HU.out.at HY.out j hjl
          have hsp := S8.out gu rfl
          have hg := grown_setCell wr gu j (.string ⟨#[115, 112, 111, 105, 108, 116]⟩)
          have hzz := HZ.out
          have HU2 := Lib.hid (HU.out.set HY.out j ⟨#[115, 112, 111, 105, 108, 116]⟩)
          have HA2 := Lib.hid (own_grown HA.out hg (fun k2 h1 h2 => by have := S5.out k2 h1; have := Option.some.inj h2; omega))
          have HR2 := Lib.hid (HR.out.step hg (fun k2 h => by have := Option.some.inj h; omega) (fun k2 h e => by have := S6.out k2 e; have := Option.some.inj h; omega) (fun k2 h e => by have := S7.out k2 e; have := Option.some.inj h; omega) (fun k2 h e => by have := S9.out k2 e; have := Option.some.inj h; omega))
          have HZ2 := Lib.hid (Nat.le_trans HZ9.out hg.size)
          have ki0 : (0 : Int) ≤ (j : Int) := by omega
          have ki1 : (j : Int) < (lun : Int) := by omega
          clear hsp hg hzz
          go_wp2_with fail
          go_roundw
          case rel => exact ⟨j + 1, X, _, by omega, by go_num, HX, (by show _ = _; rw [List.length_set]; exact HY.out), HA2, HU2, HR2, HZ2⟩
          case measure => simp [intOf]; omega
        · obtain rfl : j = lun := by omega
          have HLa : Hid (Loose (.slice ao k ac) w4.heap.size w5.heap.size w9.heap.size) := fun q hq => .inl (S5.out q hq)
          have HLu : Hid (Loose (.slice bo j bc) w7.heap.size w8.heap.size w9.heap.size) := fun q hq => .inl (S8.out q hq)
          have HAp : Hid (apartV (.slice ao k ac) (.slice bo j bc)) := fun q h1 h2 => by have h3 := S5.out q h1; have h4 := S8.out q h2; have := HZ.out; omega
          go_wp2_with fail
          go_loopw [10, 16, 22] (fun av uv i wr => ∃ (c : Nat) (X Y : List ByteArray), c ≤ 70 ∧ i = .int .i64 (c : Int) ∧ Hid (X.length = k + c) ∧ Hid (Y.length = j + c) ∧ Hid (OwnT wr 0 av X) ∧ Hid (OwnT wr 0 uv Y) ∧ Hid (Loose av w4.heap.size w5.heap.size w9.heap.size) ∧ Hid (Loose uv w7.heap.size w8.heap.size w9.heap.size) ∧ Hid (apartV av uv) ∧ Hid (Rest w4 w5.heap.size w6.heap.size w8.heap.size r6 r7 r9 la lu lu wr) ∧ Hid (w9.heap.size ≤ wr.heap.size)) (fun _ _ i _ => 70 - (intOf i).toNat)
          case atStart => exact ⟨0, X, Y, by omega, rfl, HX, HY, HA, HU, HLa, HLu, HAp, HR, HZ9⟩
          case round =>
            clear HX HY HA HU HLa HLu HAp HR HZ9
            obtain ⟨c, X, Y, hc, rfl, HX, HY, HA, HU, HLa, HLu, HAp, HR, HZ9⟩ := hrel
            by_cases hc70 : c < 70
            · have kc : (c : Int) < 70 := by omega
              go_wp2_with (at_builtin; refine wpList_append_behind rfl _ _ rfl u10 X ⟨#[98, 101, 104, 105, 110, 100]⟩ rfl HA.out rfl (by rw [HX.out]; omega) ?_)
              intro av' w2' ho2 hg2 hat2
              have hal := AL.out wr (.cells #[.string ⟨#[98, 101, 104, 105, 110, 100]⟩] 9)
              have hzz := HZ.out
              have hz9 := HZ9.out
              have hU2 := own_grown (own_kept HU.out hal) hg2 (fun q h1 h2 => HAp.out q h2 h1)
              have HR2 := Lib.hid ((HR.out.low hal).step hg2 (fun q h => by rcases HLa.out q h with h3 | h3 <;> omega) (fun q h e => by have := S6.out q e; rcases HLa.out q h with h3 | h3 <;> omega) (fun q h e => by have := S7.out q e; rcases HLa.out q h with h3 | h3 <;> omega) (fun q h e => by have := S9.out q e; rcases HLa.out q h with h3 | h3 <;> omega))
              have HLa2 : Hid (Loose av' w4.heap.size w5.heap.size w9.heap.size) := fun q hq => by
                rcases hat2 with h | h
                · rw [h] at hq; exact HLa.out q hq
                · rw [h] at hq; cases hq; exact .inr (by omega)
              have HAp2 : Hid (apartV av' u16) := fun q h1 h2 => by
                rcases hat2 with h | h
                · rw [h] at h1; exact HAp.out q h1 h2
                · rw [h] at h1
                  cases h1
                  have := (World.ownsRow.lt HU.out _ h2).2
                  omega
              have hs2 : w9.heap.size ≤ w2'.heap.size := Nat.le_trans hz9 (Nat.le_trans hal.size hg2.size)
              have HS2 := Lib.hid hs2
              have HA2 := Lib.hid ho2
              have HU2 : Hid (OwnT w2' 0 u16 Y) := hU2
              clear ho2 hg2 hat2 hal hzz hz9 hU2 hs2
              go_wp2_with (at_builtin; refine wpList_append_behind rfl _ _ rfl u16 Y ⟨#[98, 101, 104, 105, 110, 100]⟩ rfl HU2.out rfl (by rw [HY.out]; omega) ?_)
              intro uv' w3' ho3 hg3 hat3
              have hal := AL.out w2' (.cells #[.string ⟨#[98, 101, 104, 105, 110, 100]⟩] 9)
              have hzz := HZ.out
              have hz9 := HS2.out
              have HA3 : Hid (OwnT w3' 0 av' (X ++ [⟨#[98, 101, 104, 105, 110, 100]⟩])) := own_grown (own_kept HA2.out hal) hg3 (fun q h1 h2 => HAp2.out q h1 h2)
              have HR3 := Lib.hid ((HR2.out.low hal).step hg3 (fun q h => by rcases HLu.out q h with h3 | h3 <;> omega) (fun q h e => by have := S6.out q e; rcases HLu.out q h with h3 | h3 <;> omega) (fun q h e => by have := S7.out q e; rcases HLu.out q h with h3 | h3 <;> omega) (fun q h e => by have := S9.out q e; rcases HLu.out q h with h3 | h3 <;> omega))
              have HLu3 : Hid (Loose uv' w7.heap.size w8.heap.size w9.heap.size) := fun q hq => by
                rcases hat3 with h | h
                · rw [h] at hq; exact HLu.out q hq
                · rw [h] at hq; cases hq; exact .inr (by omega)
              have HAp3 : Hid (apartV av' uv') := fun q h1 h2 => by
                rcases hat3 with h | h
                · rw [h] at h2; exact HAp2.out q h1 h2
                · rw [h] at h2
                  cases h2
                  have := (World.ownsRow.lt HA2.out _ h1).2
                  omega
              have HS3 : Hid (w9.heap.size ≤ w3'.heap.size) := Nat.le_trans hz9 (Nat.le_trans hal.size hg3.size)
              have HU3 := Lib.hid ho3
              clear ho3 hg3 hat3 hal hzz hz9
              go_wp2_with fail
              go_roundw
              case rel => exact ⟨c + 1, _, _, by omega, by go_num, (by show _ = _; rw [List.length_append, HX.out]; rfl), (by show _ = _; rw [List.length_append, HY.out]; rfl), HA3, HU3, HLa2, HLu3, HAp3, HR3, HS3⟩
              case measure => simp [intOf]; omega
            · obtain rfl : c = 70 := by omega
              obtain ⟨ao', ac', ea, _⟩ := HA.out.parts
              obtain ⟨bo', bc', eb, _⟩ := HU.out.parts
              rw [HX.out] at ea
              rw [HY.out] at eb
              subst ea eb
              have BW := Lib.hid (below_join BW4.out HR.out.below)
              obtain ⟨o7, c7, e7⟩ := O7.out.texts.lenForm
              rw [Hlun.out] at e7
              subst e7
              clear HA HU HX HY
              go_wp2_with fail
              refine (texts08_any _ _ la la wr HR.out.ob.texts (O4.out.texts.kept HR.out.below)).mono ?_
              rintro e wa ⟨he, qa, rfl⟩
              rw [decide_eq_true (rfl : la = la)] at he
              subst he
              have HRa := Lib.hid (HR.out.low (below_drewN (Below.refl wr.heap.size wr) qa))
              obtain ⟨wa, hwa⟩ : ∃ wa, wr.drewN qa = wa := ⟨_, rfl⟩
              rw [hwa] at HRa ⊢
              clear hwa
              go_wp2_with fail
              refine (texts08_any _ _ lu lu wa HRa.out.ov.texts HRa.out.oo.texts).mono ?_
              rintro e wb ⟨he, qb, rfl⟩
              rw [decide_eq_true (rfl : lu = lu)] at he
              subst he
              have HRb := Lib.hid (HRa.out.low (below_drewN (Below.refl wa.heap.size wa) qb))
              obtain ⟨wb, hwb⟩ : ∃ wb, wa.drewN qb = wb := ⟨_, rfl⟩
              rw [hwb] at HRb ⊢
              clear hwb
              go_wp2_with fail
              refine (same08_any _ _ hs l wb (HO1.out.kept (below_join B14.out HRb.out.below)) (Hv.out.kept (below_join BW4.out HRb.out.below))).mono ?_
              rintro e wd ⟨he, hbd⟩
              rw [sameK_true HE1.out] at he
              subst he
              have HRd := Lib.hid (HRb.out.low hbd)
              clear hbd
              go_wp2_with fail
              refine (texts08_any _ _ a a wd (HLt.out.texts.kept (below_join B34.out HRd.out.below)) (Hu.out.kept (below_join BW4.out HRd.out.below))).mono ?_
              rintro e we ⟨he, qe, rfl⟩
              rw [decide_eq_true (rfl : a = a)] at he
              subst he
              have HRe := Lib.hid (HRd.out.low (below_drewN (Below.refl wd.heap.size wd) qe))
              obtain ⟨we, hwe⟩ : ∃ we, wd.drewN qe = we := ⟨_, rfl⟩
              rw [hwe] at HRe ⊢
              clear hwe
              have c1 := cell_kept (below_join B34.out HRe.out.below) HLt.out.mark
              have hs2 : ∀ W, (Instr.slice 23 (.slice (some ⟨g, 0, none⟩) t cap) none (some (.int .i64 ((t : Int) + 1))) none).run Try.prog W = .ok (.slice (some ⟨g, 0, none⟩) (t + 1) cap) W := by
                intro W
                rw [show (t : Int) + 1 = ((t + 1 : Nat) : Int) by omega]
                exact run_front (some ⟨g, 0, none⟩) t cap (t + 1) (by omega) W
              have k0 : (0 : Int) ≤ (t : Int) := by omega
              have k1 : (t : Int) < (t : Int) + 1 := by omega
              have hq := bytes_beq (rfl : tx8Mark = tx8Mark)
              simp only [tx8Mark] at c1 hq
              go_wp2_with fail
              go_ret
              exact ⟨by simp, below_join BW4.out HRe.out.below⟩
end Go.Proofs.Ytabdgocfbmcobaa
