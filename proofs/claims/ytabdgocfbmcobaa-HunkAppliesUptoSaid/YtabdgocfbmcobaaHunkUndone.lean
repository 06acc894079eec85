/- Own work: what each statement asks first; HunkUndone's walk. -/
import Derived.Test.YtabdgocfbmcobaaHunkApply
import Derived.Test.YtabdgocfbmcobaaHunkUnM
import Derived.Test.YtabdgocfbmcobaaHunkSame
import Derived.Test.YtabdgocfbmcobaaHunkOpen
namespace Go.Proofs.Ytabdgocfbmcobaa
open Go.RowKit

theorem sumN_inv : ∀ (l : List HunkI) (m : Int), sumN (invF m l) = sumO l ∧ sumO (invF m l) = sumN l
  | [], _ => ⟨rfl, rfl⟩
  | h :: r, m => by
    have ih := sumN_inv r (moreA m h)
    rw [invF, sumN_cons, sumO_cons, sumO_cons, sumN_cons, ih.1, ih.2]
    exact ⟨rfl, rfl⟩
theorem bulks_sums : ∀ (l : List HunkV), sumO (l.map HunkV.txt) + sumN (l.map HunkV.txt) + l.length ≤ bulks l
  | [] => by simp [sumO, sumN, bulks]
  | x :: l => by
    have ih := bulks_sums l
    rw [List.map_cons, sumO_cons, sumN_cons, List.length_cons]
    have e : bulks (x :: l) = x.bulk + bulks l := by simp [bulks]
    rw [e]
    simp only [HunkV.bulk, HunkV.txt]
    omega

theorem texts_row {w : World} {b : Nat} {l : List ByteArray} {t : TypeId} {f : Nat × Nat} (h : w.heap[b]? = some (.cells (l.map Value.string).toArray t f)) (h0 : 0 < l.length) (hm : l.length ≤ maxLen) : Texts w (.slice (some ⟨b, 0, none⟩) l.length l.length) l := by
  refine .inr ⟨b, 0, l.length, rfl, h0, Nat.le_refl _, hm, fun i hi => ?_⟩
  rw [Nat.zero_add, cell_of_row _ _ _ _ _ _ h]
  simp [hi]
theorem four_at (w : World) (o1 o2 o3 o4 : Obj) : ((((w.alloc o1).alloc o2).alloc o3).alloc o4).heap[w.heap.size]? = some o1 ∧ ((((w.alloc o1).alloc o2).alloc o3).alloc o4).heap[w.heap.size + 1]? = some o2 ∧ ((((w.alloc o1).alloc o2).alloc o3).alloc o4).heap[w.heap.size + 1 + 1]? = some o3 ∧ ((((w.alloc o1).alloc o2).alloc o3).alloc o4).heap[w.heap.size + 1 + 1 + 1]? = some o4 := by
  refine ⟨?_, ?_, ?_, ?_⟩
  · rw [heap_alloc_old _ _ (by simp only [World.size_alloc]; omega), heap_alloc_old _ _ (by simp only [World.size_alloc]; omega), heap_alloc_old _ _ (by simp only [World.size_alloc]; omega)]; exact heap_alloc_new w o1
  · rw [heap_alloc_old _ _ (by simp only [World.size_alloc]; omega), heap_alloc_old _ _ (by simp only [World.size_alloc]; omega)]; exact heap_alloc2_new w o1 o2
  · rw [heap_alloc_old _ _ (by simp only [World.size_alloc]; omega)]
    have := heap_alloc_new ((w.alloc o1).alloc o2) o3
    simp only [World.size_alloc] at this
    exact this
  · have := heap_alloc_new (((w.alloc o1).alloc o2).alloc o3) o4
    simp only [World.size_alloc] at this
    exact this
def t8a : ByteArray := ⟨#[97]⟩
def t8b : ByteArray := ⟨#[98]⟩
def t8x : ByteArray := ⟨#[120]⟩
def t8y : ByteArray := ⟨#[121]⟩
theorem awake_fits : fitsL [t8a, t8b] [⟨1, [t8b], [t8x, t8y]⟩] = (0, 0) := by
  refine (fits_back (a := [t8a, t8b]) (l := [⟨1, [t8b], [t8x, t8y]⟩]) ⟨by simp, by simp, by simp, by simp, by simp, rfl, by decide, by decide, by simp [FitsF], fun h2 r2 h => by cases h⟩).2
theorem awake_app : appL [t8a, t8b] [⟨1, [t8b], [t8x, t8y]⟩] = [t8a, t8x, t8y] := rfl

set_option maxRecDepth 100000 in
set_option maxHeartbeats 8000000 in
theorem awake_any (w : World) : Calls Try.prog 31 #[] w fun e w' => e = .returned (.bool true) ∧ Below w.heap.size w w' := by
  obtain ⟨h1, h2, h3, h4⟩ := four_at w (.cells ([t8a, t8b].map Value.string).toArray 9) (.cells ([t8b].map Value.string).toArray 9) (.cells ([t8x, t8y].map Value.string).toArray 9) (.cells #[.int .i64 1, .slice (some ⟨w.heap.size + 1, 0, none⟩) 1 1, .slice (some ⟨w.heap.size + 1 + 1, 0, none⟩) 2 2] 43)
  have al : ∀ (W : World) (o : Obj), Below W.heap.size W (W.alloc o) := fun W o => (Below.refl _ _).alloc (Nat.le_refl _) o
  have B4 := Lib.hid (below_join (below_join (below_join (al w (.cells ([t8a, t8b].map Value.string).toArray 9)) (al _ (.cells ([t8b].map Value.string).toArray 9))) (al _ (.cells ([t8x, t8y].map Value.string).toArray 9))) (al _ (.cells #[.int .i64 1, .slice (some ⟨w.heap.size + 1, 0, none⟩) 1 1, .slice (some ⟨w.heap.size + 1 + 1, 0, none⟩) 2 2] 43)))
  obtain ⟨w4, hw4⟩ : ∃ w4, (((w.alloc (.cells ([t8a, t8b].map Value.string).toArray 9)).alloc (.cells ([t8b].map Value.string).toArray 9)).alloc (.cells ([t8x, t8y].map Value.string).toArray 9)).alloc (.cells #[.int .i64 1, .slice (some ⟨w.heap.size + 1, 0, none⟩) 1 1, .slice (some ⟨w.heap.size + 1 + 1, 0, none⟩) 2 2] 43) = w4 := ⟨_, rfl⟩
  rw [hw4] at h1 h2 h3 h4 B4
  have T1 := Lib.hid (texts_row h1 (by simp) (by unfold maxLen; simp))
  have T2 := texts_row h2 (by simp) (by unfold maxLen; simp)
  have T3 := texts_row h3 (by simp) (by unfold maxLen; simp)
  have HK : Hid (Hks w4 (.slice (some ⟨w.heap.size + 1 + 1 + 1, 0, none⟩) 1 1) [⟨1, .slice (some ⟨w.heap.size + 1, 0, none⟩) 1 1, .slice (some ⟨w.heap.size + 1 + 1, 0, none⟩) 2 2, [t8b], [t8x, t8y]⟩]) := by
    refine ⟨_, 1, w.heap.size + 1 + 1 + 1, 0, rfl, fun _ => rfl, by unfold maxLen; simp, fun i hi => ?_⟩
    obtain rfl : i = 0 := by simp at hi; omega
    exact ⟨cell_of_row _ _ 0 _ _ _ h4, cell_of_row _ _ 1 _ _ _ h4, cell_of_row _ _ 2 _ _ _ h4, T2, T3⟩
  have HA := Lib.hid (apply_any _ _ _ [t8a, t8b] w4 T1.out (.inr ⟨_, _, _, rfl⟩) HK.out (fun m hm => by
    obtain rfl : m = _ := by simpa using hm
    exact ⟨.inr ⟨_, _, _, rfl⟩, .inr ⟨_, _, _, rfl⟩, fun s hs => by simp at hs; subst hs; unfold maxLen; decide, fun s hs => by simp at hs; rcases hs with rfl | rfl <;> (unfold maxLen; decide), by simp, by simp, by simp, by simp⟩) (by simp) (by simp) (by simp [sumN, HunkV.txt]))
  have e1 : ([⟨1, .slice (some ⟨w.heap.size + 1, 0, none⟩) 1 1, .slice (some ⟨w.heap.size + 1 + 1, 0, none⟩) 2 2, [t8b], [t8x, t8y]⟩] : List HunkV).map HunkV.txt = [⟨1, [t8b], [t8x, t8y]⟩] := rfl
  rw [e1, awake_fits, awake_app] at HA
  have HW := Lib.hid hw4
  clear h1 h2 h3 h4 T2 T3 hw4 e1
  go_enter Try.func31, Try.ntmps31
  go_wp2_with fail
  have hw4 := HW.out
  simp only [t8a, t8b, t8x, t8y, List.map_cons, List.map_nil] at hw4
  rw [hw4]
  refine HA.out.mono ?_
  rintro e w5 ⟨r, rfl, _, ho, hb5⟩
  have HO := ho trivial
  have B5 := Lib.hid (below_join B4.out hb5)
  obtain ⟨ro, rc, rb, rof, rfl, hro, _, hcell⟩ := HO.texts.form
  obtain rfl := hro (by simp)
  have c0 := hcell 0 (by simp)
  have c1 := hcell 1 (by simp)
  have c2 := hcell 2 (by simp)
  simp only [List.getElem_cons_zero, List.getElem_cons_succ, Nat.add_zero] at c0 c1 c2
  simp only [t8a, t8x, t8y] at c0 c1 c2
  clear ho hb5 hcell hro HO hw4 HW
  go_wp2_with fail
  go_ret
  exact ⟨by simp, B5.out⟩

theorem fits_nil (a : List ByteArray) : fitsL a [] = (0, 0) ∧ appL a [] = a := ⟨(fits_back (l := []) (Nat.zero_le _)).2, rfl⟩
theorem hks_nil (w : World) : Hks w (.slice none 0 0) [] := ⟨none, 0, 0, 0, rfl, fun h => absurd h (by simp), by simp, fun i h => absurd h (by simp)⟩

set_option maxRecDepth 100000 in
set_option maxHeartbeats 16000000 in
theorem undone_walk (u v : Value) (l : List HunkV) (a : List ByteArray) (w : World) (hv : Hks w u l) (hf : ∀ m ∈ l, m.Fit) (hu : Texts w v a) (hfu : SliceForm v) (hb : bulks l + a.length ≤ 1048576) :
    Calls Try.prog 8 #[u, v] w fun e w' => e = .returned (.bool true) ∧ Below w.heap.size w w' := by
  have hbs := bulks_sums l
  have Hv := Lib.hid hv
  have Hf := Lib.hid hf
  have Hu := Lib.hid hu
  have Hfu := Lib.hid hfu
  obtain ⟨uo, uc, rfl⟩ := hv.lenForm
  obtain ⟨vo, vc, rfl⟩ := hu.lenForm
  have hl : Hid (l.length * 56 ≤ 140737488351232) := by show _ ≤ _; omega
  have ha : Hid (a.length ≤ 1048576) := by show _ ≤ _; omega
  have hN : Hid (sumN (l.map HunkV.txt) ≤ 1048576) := by show _ ≤ _; omega
  have hO : Hid (sumO (l.map HunkV.txt) ≤ 1048576) := by show _ ≤ _; omega
  have hA : Hid (a.length + sumN (l.map HunkV.txt) ≤ 1048576) := by show _ ≤ _; omega
  have HLx : Hid (∀ w1, Hks w1 (.slice uo l.length uc) l → Calls Try.prog 22 #[.slice uo l.length uc] w1 _) := fun w1 h => invert_any _ l w1 h hf (by omega)
  obtain ⟨n, hn⟩ : ∃ n, l.length = n := ⟨_, rfl⟩
  obtain ⟨t, ht⟩ : ∃ t, a.length = t := ⟨_, rfl⟩
  have Hn := Lib.hid hn
  have Ht := Lib.hid ht
  rw [hn] at Hv HLx ⊢
  rw [ht] at Hu Hfu ⊢
  clear hv hf hu hfu hn ht hbs hb
  go_enter Try.func8, Try.ntmps8
  go_wp2_with fail
  refine (awake_any w).mono ?_
  rintro e w1 ⟨rfl, hb1⟩
  have B1 := Lib.hid hb1
  clear hb1
  go_wp2_with fail
  refine (apply_any _ _ [] a w1 (Hu.out.kept B1.out) Hfu.out (hks_nil _) (fun m hm => by cases hm) (by simp) ha.out (by simp [sumN])).mono ?_
  rintro e w2 ⟨r2, rfl, _, ho2, hb2⟩
  have B2 := Lib.hid (below_join B1.out hb2)
  have HO2 := Lib.hid (ho2 (congrArg Prod.snd (fits_nil a).1))
  rw [show fitsL a (List.map HunkV.txt []) = (0, 0) from (fits_nil a).1]
  rw [show appL a (List.map HunkV.txt []) = a from rfl] at HO2
  clear ho2 hb2
  go_wp2_with fail
  refine (texts08_any _ _ a a w2 HO2.out.texts (Hu.out.kept B2.out)).mono ?_
  rintro e w3 ⟨he, q, rfl⟩
  rw [decide_eq_true (rfl : a = a)] at he
  subst he
  have B3 := Lib.hid (below_drewN B2.out q)
  obtain ⟨w3, hw3⟩ : ∃ w3, w2.drewN q = w3 := ⟨_, rfl⟩
  rw [hw3] at B3 ⊢
  clear hw3 HO2
  go_wp2_with fail
  refine (apply_any _ _ l a w3 (Hu.out.kept B3.out) Hfu.out (Hv.out.kept B3.out) Hf.out (by rw [Hn.out]; have := hl.out; rw [Hn.out] at this; omega) ha.out hN.out).mono ?_
  rintro e w4 ⟨r4, rfl, hz4, ho4, hb4⟩
  have B4 := Lib.hid (below_join B3.out hb4)
  by_cases hE : (fitsL a (l.map HunkV.txt)).2 = 0
  rotate_left
  · obtain rfl := hz4 hE
    obtain ⟨y, hy⟩ : ∃ y, (fitsL a (l.map HunkV.txt)).2 = y := ⟨_, rfl⟩
    rw [hy] at hE ⊢
    have q1 : ((y : Int) != 0) = true := by rw [bne_iff_ne]; omega
    clear hz4 ho4 hb4 hE hy
    go_wp2_with fail
    go_ret
    exact ⟨rfl, B4.out⟩
  · have HO4 := Lib.hid (ho4 hE)
    have hlen := appF_len (fits_all hE)
    have hTl : Hid ((appL a (l.map HunkV.txt)).length ≤ 1048576) := by show _ ≤ _; have := hA.out; have h := hlen.1; simp only [appL]; omega
    have HI := Lib.hid (inv_all hE (by have := ha.out; omega) (by have := hTl.out; omega))
    rw [hE]
    obtain ⟨b, hbb⟩ : ∃ b, appL a (l.map HunkV.txt) = b := ⟨_, rfl⟩
    rw [hbb] at HO4 hTl HI
    have F4 : Hid (SliceForm r4) := HO4.out.form
    obtain ⟨o4, c4, rfl⟩ := HO4.out.texts.lenForm
    clear hz4 ho4 hb4 hE hlen hbb
    go_wp2_with fail
    refine (HLx.out w4 (Hv.out.kept B4.out)).mono ?_
    rintro e w5 ⟨r5, rfl, _, ho5, hb5⟩
    obtain ⟨hs, hos, _, hes⟩ := ho5 HI.out.1
    rw [HI.out.1]
    have B5 := Lib.hid (below_join B4.out hb5)
    have B45 := Lib.hid hb5
    have HK5 := Lib.hid hos.hks
    have HE5 := Lib.hid hes
    have HF5 := Lib.hid (fit_inv hos hes Hf.out)
    have hsl : Hid (hs.length * 56 ≤ 140737488351232) := by show _ ≤ _; have h := congrArg List.length hes; rw [List.length_map, invL, invF_len, List.length_map] at h; rw [h]; exact hl.out
    obtain ⟨o5, c5, rfl⟩ := hos.hks.lenForm
    clear ho5 hb5 hos hes
    go_wp2_with fail
    refine (fits_any _ _ hs b w5 HK5.out HF5.out (by have := hsl.out; omega) (HO4.out.texts.kept B45.out) (by have := hTl.out; omega)).mono ?_
    rintro e w6 ⟨rfl, hb6⟩
    rw [HE5.out, HI.out.2.1]
    have B6 := Lib.hid (below_join B5.out hb6)
    have B46 := Lib.hid (below_join B45.out hb6)
    have B56 := Lib.hid hb6
    clear hb6
    go_wp2_with fail
    refine (undo_any _ _ l b w6 (HO4.out.texts.kept B46.out) F4.out (Hv.out.kept B6.out) Hf.out hl.out hTl.out (by rw [invL, (sumN_inv _ _).1]; exact hO.out)).mono ?_
    rintro e w7 ⟨r7, rfl, _, ho7, hb7⟩
    have HO7 := Lib.hid (ho7 ⟨HI.out.1, congrArg Prod.snd HI.out.2.1⟩)
    rw [HI.out.2.2.1] at HO7
    have hU : undoE b (l.map HunkV.txt) = 0 := (if_pos HI.out.1).trans (congrArg Prod.snd HI.out.2.1)
    rw [hU]
    have B7 := Lib.hid (below_join B6.out hb7)
    have B57 := Lib.hid (below_join B56.out hb7)
    obtain ⟨o7, c7, rfl⟩ := HO7.out.texts.lenForm
    clear ho7 hb7 hU
    go_wp2_with fail
    refine (invert_any _ hs w7 (HK5.out.kept B57.out) HF5.out hsl.out).mono ?_
    rintro e w8 ⟨r8, rfl, _, ho8, hb8⟩
    rw [HE5.out] at ho8 ⊢
    obtain ⟨hs8, hos8, _, hes8⟩ := ho8 HI.out.2.2.2.1
    rw [HI.out.2.2.2.1]
    rw [HI.out.2.2.2.2] at hes8
    have B8 := Lib.hid (below_join B7.out hb8)
    have B78 := Lib.hid hb8
    have HK8 := Lib.hid hos8.hks
    have HE8 := Lib.hid hes8
    obtain ⟨o8, c8, rfl⟩ := hos8.hks.lenForm
    clear ho8 hb8 hos8 hes8
    go_wp2_with fail
    refine (texts08_any _ _ a a w8 (HO7.out.texts.kept B78.out) (Hu.out.kept B8.out)).mono ?_
    rintro e w9 ⟨he, q, rfl⟩
    rw [decide_eq_true (rfl : a = a)] at he
    subst he
    have B9 := Lib.hid (below_drewN B8.out q)
    have HK9 := Lib.hid (HK8.out.kept (below_drewN (Below.refl _ _) q))
    obtain ⟨w9, hw9⟩ : ∃ w9, w8.drewN q = w9 := ⟨_, rfl⟩
    rw [hw9] at B9 HK9 ⊢
    clear hw9
    go_wp2_with fail
    refine (same08_any _ _ hs8 l w9 HK9.out (Hv.out.kept B9.out)).mono ?_
    rintro e w10 ⟨he, hb10⟩
    rw [sameK_true HE8.out] at he
    subst he
    go_wp2_with fail
    go_ret
    exact ⟨rfl, below_join B9.out hb10⟩
end Go.Proofs.Ytabdgocfbmcobaa
