/- Own work: HunkChecks' walk. -/
import Derived.Test.YtabdgocfbmcobaaHunkFits
import Derived.Test.YtabdgocfbmcobaaHunkTwin
import Derived.Test.YtabdgocfbmcobaaHunkSame
namespace Go.Proofs.Ytabdgocfbmcobaa
open Go.RowKit

def tx8Mark : ByteArray := ⟨#[109, 97, 114, 107]⟩
/-- a list and a mark behind it: one row, of which the list is the beginning -/
structure Lent (w : World) (B g cap n : Nat) (l : List ByteArray) : Prop where
  own : OwnT w B (.slice (some ⟨g, 0, none⟩) (n + 1) cap) (l ++ [tx8Mark])
  len : l.length = n
  cap : n + 1 ≤ cap
theorem Lent.below {w w' : World} {B g cap n : Nat} {l : List ByteArray} (h : Lent w B g cap n l) (hb : Below w.heap.size w w') : Lent w' B g cap n l := ⟨h.own.below hb, h.len, h.cap⟩
theorem Lent.texts {w : World} {B g cap n : Nat} {l : List ByteArray} (h : Lent w B g cap n l) : Texts w (.slice (some ⟨g, 0, none⟩) n cap) l := by
  have h2 := texts_take h.own.texts n (by omega)
  rw [← h.len] at h2 ⊢
  simpa using h2
theorem Lent.mark {w : World} {B g cap n : Nat} {l : List ByteArray} (h : Lent w B g cap n l) : w.cell? ⟨g, n, none⟩ = some (.string tx8Mark) := by
  have h2 := h.own
  have hl : (l ++ [tx8Mark]).length = n + 1 := by rw [List.length_append, h.len]; rfl
  unfold OwnT at h2
  rw [hl] at h2
  refine (h2.cellAt n (by omega)).trans ?_
  rw [List.map_append, ← h.len]
  simp
theorem Lent.of {w : World} {B : Nat} {v : Value} {l : List ByteArray} (ho : OwnT w B v (l ++ [tx8Mark])) : ∃ g cap, v = .slice (some ⟨g, 0, none⟩) (l.length + 1) cap ∧ Lent w B g cap l.length l := by
  have hlen : (l ++ [tx8Mark]).length = l.length + 1 := by rw [List.length_append]; rfl
  have h := ho
  unfold OwnT at h
  rw [hlen] at h
  obtain ⟨g, cap, rfl⟩ := Joins.ownsRow_form h (by omega)
  refine ⟨g, cap, rfl, ho, rfl, ?_⟩
  have h2 := ho.texts.cap.2
  exact h2

set_option maxRecDepth 100000 in
set_option maxHeartbeats 16000000 in
theorem checks_walk (u v : Value) (l : List HunkV) (a : List ByteArray) (w : World) (hv : Hks w u l) (hf : ∀ m ∈ l, m.Fit) (hl : l.length * 56 ≤ 140737488351232) (hu : Texts w v a) (hfu : SliceForm v) (ha : a.length * 16 ≤ 140737488351232) :
    Calls Try.prog 3 #[u, v] w fun e w' => e = .returned (.bool true) ∧ Below w.heap.size w w' := by
  have Hv := Lib.hid hv
  have Hf := Lib.hid hf
  have Hu := Lib.hid hu
  have Hfu := Lib.hid hfu
  obtain ⟨uo, uc, rfl⟩ := hv.lenForm
  obtain ⟨vo, vc, rfl⟩ := hu.lenForm
  obtain ⟨n, hn⟩ : ∃ n, l.length = n := ⟨_, rfl⟩
  obtain ⟨t, ht⟩ : ∃ t, a.length = t := ⟨_, rfl⟩
  have Hn := Lib.hid hn
  have Ht := Lib.hid ht
  rw [hn] at hl Hv ⊢
  rw [ht] at ha Hu Hfu ⊢
  clear hv hf hu hfu hn ht
  have al : ∀ (W : World) (o : Obj), Below W.heap.size W (W.alloc o) := fun W o => (Below.refl _ _).alloc (Nat.le_refl _) o
  have AL := Lib.hid al
  clear al
  go_enter Try.func3, Try.ntmps3
  go_wp2_with fail
  refine (twin_any _ l w Hv.out Hf.out (by rw [Hn.out]; omega)).mono ?_
  rintro e w1 ⟨r, hs, rfl, ho1, he1, hb1⟩
  have HO1 := Lib.hid ho1.hks
  have HE1 := Lib.hid he1
  have HF1 := Lib.hid (fit_made ho1 he1 Hf.out)
  have B1 := Lib.hid hb1
  have HSn : Hid (hs.length = n) := by show _ = _; have h := congrArg List.length he1; rw [List.length_map, List.length_map] at h; rw [h, Hn.out]
  clear ho1 he1 hb1
  obtain ⟨ro, rc, rfl⟩ := HO1.out.lenForm
  rw [HSn.out] at HO1 ⊢
  go_wp2_with (at_builtin; refine wpList_append_lot rfl _ _ rfl w1.heap.size _ [] rfl (own_empty1 (heap_alloc_new w1 _) (Nat.le_refl _)) _ a rfl (Hu.out.kept (below_join B1.out (AL.out w1 _))) Hfu.out (by rw [Ht.out]; simp; omega) (by simp) ?_)
  intro v2 w2 ho2 hg2
  have B2 := Lib.hid ((AL.out w1 _).grown hg2 (by simp) (fun g hg => by cases hg; exact Nat.le_refl _))
  have HO2 : Hid (OwnT w2 w1.heap.size v2 a) := by show OwnT _ _ _ _; simpa using ho2
  have HL2 := Lib.hid (texts_lit w2 [tx8Mark] 9 (by simp) (by unfold maxLen; simp))
  clear ho2 hg2
  go_wp2_with (at_builtin; refine wpList_append_lot rfl _ _ rfl w1.heap.size v2 a rfl (HO2.out.below (AL.out w2 _)) _ [tx8Mark] rfl HL2.out (.inr ⟨_, _, _, rfl⟩) (by rw [Ht.out]; simp; omega) (by have := B2.out.size; simp; omega) ?_)
  intro v3 w3 ho3 hg3
  have B3 := Lib.hid ((B2.out.trans ((AL.out w2 _).mono B2.out.size)).grown hg3 (Nat.le_trans B2.out.size (AL.out w2 _).size) (fun g hg => (HO2.out.lt g hg).1))
  obtain ⟨g, cap, rfl, hlent⟩ := Lent.of ho3
  have HLt := Lib.hid hlent
  rw [Ht.out] at HLt ⊢
  have hcap := HLt.out.cap
  have hs1 := run_front (some ⟨g, 0, none⟩) (t + 1) cap t (by omega)
  have BW3 := Lib.hid (below_join B1.out B3.out)
  clear ho3 hg3 hlent HL2 HO2
  go_wp2_with fail
  refine (refCheck_any _ l w3 (Hv.out.kept BW3.out) Hf.out (by rw [Hn.out]; omega)).mono ?_
  rintro e w4 ⟨rfl, hb4⟩
  have B4 := Lib.hid (below_join B3.out hb4)
  have BW4 := Lib.hid (below_join BW3.out hb4)
  have B34 := Lib.hid hb4
  clear hb4
  go_wp2_with fail
  refine (check_any _ hs w4 (HO1.out.kept B4.out) HF1.out (by rw [HSn.out]; omega)).mono ?_
  rintro e w5 ⟨rfl, hb5⟩
  rw [HE1.out]
  have B5 := Lib.hid (below_join B4.out hb5)
  have BW5 := Lib.hid (below_join BW4.out hb5)
  have B35 := Lib.hid (below_join B34.out hb5)
  clear hb5
  go_wp2_with fail
  refine (refFits_any _ _ l a w5 (Hv.out.kept BW5.out) Hf.out (by rw [Hn.out]; omega) (Hu.out.kept BW5.out) (by rw [Ht.out]; omega)).mono ?_
  rintro e w6 ⟨rfl, hb6⟩
  have B6 := Lib.hid (below_join B5.out hb6)
  have BW6 := Lib.hid (below_join BW5.out hb6)
  have B36 := Lib.hid (below_join B35.out hb6)
  clear hb6
  go_wp2_with fail
  refine (fits_any _ _ hs a w6 (HO1.out.kept B6.out) HF1.out (by rw [HSn.out]; omega) (HLt.out.texts.kept B36.out) (by rw [Ht.out]; omega)).mono ?_
  rintro e w7 ⟨rfl, hb7⟩
  rw [HE1.out]
  have B7 := Lib.hid (below_join B6.out hb7)
  have BW7 := Lib.hid (below_join BW6.out hb7)
  have B37 := Lib.hid (below_join B36.out hb7)
  clear hb7
  obtain ⟨p1, hp1⟩ : ∃ p, chkL (l.map HunkV.txt) = p := ⟨_, rfl⟩
  obtain ⟨p2, hp2⟩ : ∃ p, fitsL a (l.map HunkV.txt) = p := ⟨_, rfl⟩
  rw [hp1, hp2]
  clear hp1 hp2
  go_wp2_with fail
  refine (same08_any _ _ hs l w7 (HO1.out.kept B7.out) (Hv.out.kept BW7.out)).mono ?_
  rintro e w8 ⟨he, hb8⟩
  rw [sameK_true HE1.out] at he
  subst he
  have BW8 := Lib.hid (below_join BW7.out hb8)
  have B38 := Lib.hid (below_join B37.out hb8)
  clear hb8
  go_wp2_with fail
  refine (texts08_any _ _ a a w8 (HLt.out.texts.kept B38.out) (Hu.out.kept BW8.out)).mono ?_
  rintro e w9 ⟨he, q, rfl⟩
  rw [decide_eq_true (rfl : a = a)] at he
  subst he
  have BW9 := Lib.hid (below_drewN BW8.out q)
  have c1 := cell_kept (below_drewN B38.out q) HLt.out.mark
  have hs2 : ∀ W, (Instr.slice 23 (.slice (some ⟨g, 0, none⟩) t cap) none (some (.int .i64 ((t : Int) + 1))) none).run Try.prog W = .ok (.slice (some ⟨g, 0, none⟩) (t + 1) cap) W := by
    intro W
    rw [show (t : Int) + 1 = ((t + 1 : Nat) : Int) by omega]
    exact run_front (some ⟨g, 0, none⟩) t cap (t + 1) (by omega) W
  have k0 : (0 : Int) ≤ (t : Int) := by omega
  have k1 : (t : Int) < (t : Int) + 1 := by omega
  obtain ⟨wz, hwz⟩ : ∃ wz, w8.drewN q = wz := ⟨_, rfl⟩
  rw [hwz] at BW9 c1 ⊢
  clear hwz
  have hq := bytes_beq (rfl : tx8Mark = tx8Mark)
  simp only [tx8Mark] at c1 hq
  go_wp2_with fail
  go_ret
  exact ⟨by simp, BW9.out⟩
end Go.Proofs.Ytabdgocfbmcobaa
