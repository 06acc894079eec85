/- Own work: the program's Invert. -/
import Derived.Test.YtabdgocfbmcobaaHunkInvM
import Derived.Test.YtabdgocfbmcobaaHunkCheck
namespace Go.Proofs.Ytabdgocfbmcobaa
open Go.RowKit Go.Sort

def zeroK : HunkV := ⟨0, .slice none 0 0, .slice none 0 0, [], []⟩
def zerosK (n : Nat) : Array Value := madeCells (#[.int .i64 0, .slice none 0 0, .slice none 0 0] : Array Value) (n * 3)
theorem run_makeK (n : Nat) (hn : n * 56 ≤ 140737488351232) (w : World) : (Instr.makeSlice 22 (.int .i64 (n : Int)) (.int .i64 (n : Int))).run Try.prog w = .ok (.slice (some ⟨w.heap.size, 0, none⟩) n n) (w.alloc (.cells (zerosK n) 43)) := by
  obtain ⟨i0, hi, hz0, hz1, hz2⟩ := info_parts Try.info43
  have := run_make (P := Try.prog) w 22 43 i0 _ Try.underlying22 hi hz0 .i64 .i64 (n : Int) (n : Int) (by omega) (Int.le_refl _) (by rw [hz2]; omega) (by omega)
  rw [hz1] at this
  simp only [Int.toNat_natCast] at this
  exact this
theorem zeros_flat (n : Nat) : (zerosK n).toList = flatK (List.replicate n zeroK) := by
  refine List.ext_getElem? fun i => ?_
  by_cases hi : i < n * 3
  · have hj : i / 3 < (List.replicate n zeroK).length := by rw [List.length_replicate]; omega
    obtain ⟨f0, f1, f2⟩ := flatK_get (List.replicate n zeroK) (i / 3) hj
    rw [List.getElem_replicate] at f0 f1 f2
    have hm : i % 3 = 0 ∨ i % 3 = 1 ∨ i % 3 = 2 := by omega
    have e : (zerosK n).toList[i]? = some ((#[.int .i64 0, .slice none 0 0, .slice none 0 0] : Array Value)[i % 3]!) := by simp [zerosK, madeCells, hi]
    rw [e]
    rcases hm with hm | hm | hm
    · rw [hm, show i = i / 3 * 3 by omega, f0]; rfl
    · rw [hm, show i = i / 3 * 3 + 1 by omega, f1]; rfl
    · rw [hm, show i = i / 3 * 3 + 2 by omega, f2]; rfl
  · rw [List.getElem?_eq_none (by simp [zerosK, madeCells]; omega), List.getElem?_eq_none (by rw [flatK_len, List.length_replicate]; omega)]
theorem own_zeros (w : World) (n B : Nat) (hB : B ≤ w.heap.size) (hn : n * 56 ≤ 140737488351232) : (w.alloc (.cells (zerosK n) 43)).ownsRow B 43 3 (.slice (some ⟨w.heap.size, 0, none⟩) n n) n (flatK (List.replicate n zeroK)) := by
  rw [← zeros_flat]
  exact World.ownsRow_lit w _ n hB (by unfold maxLen; omega) (by simp [zerosK, madeCells])
theorem flatK_set : ∀ (l : List HunkV) (k : Nat) (m : HunkV), k < l.length → (((flatK l).set (k * 3) (.int .i64 m.at_)).set (k * 3 + 1) m.ov).set (k * 3 + 2) m.nv = flatK (l.set k m)
  | [], _, _, h => absurd h (by simp)
  | x :: l, 0, m, _ => rfl
  | x :: l, k + 1, m, h => by
    have ih := flatK_set l k m (by simpa using h)
    have e : flatK (x :: l) = x.cells ++ flatK l := rfl
    have e2 : flatK ((x :: l).set (k + 1) m) = x.cells ++ flatK (l.set k m) := rfl
    have hl : x.cells.length = 3 := rfl
    rw [e, e2, ← ih, List.set_append_right _ _ (by omega), List.set_append_right _ _ (by omega), List.set_append_right _ _ (by omega), hl]
    congr 4 <;> omega
/-- three cells of a row of hunks stored to -/
def setH (w : World) (g k : Nat) (a b c : Value) : World := ((w.setCell ⟨g, k * 3, none⟩ a).setCell ⟨g, k * 3 + 1, none⟩ b).setCell ⟨g, k * 3 + 2, none⟩ c
theorem setH_grown (w : World) (g k : Nat) (a b c : Value) : w.grownBy (setH w g k a b c) (some g) :=
  grown_step (grown_step (grown_setCell w g (k * 3) a) (grown_setCell _ g (k * 3 + 1) b) (fun _ e => .inl e)) (grown_setCell _ g (k * 3 + 2) c) (fun _ e => .inl e)
theorem setH_own {w : World} {B g n cap k : Nat} {l : List HunkV} (h : w.ownsRow B 43 3 (.slice (some ⟨g, 0, none⟩) n cap) n (flatK l)) (m : HunkV) (hk : k < l.length) :
    (setH w g k (.int .i64 m.at_) m.ov m.nv).ownsRow B 43 3 (.slice (some ⟨g, 0, none⟩) n cap) n (flatK (l.set k m)) := by
  rw [← flatK_set l k m hk]
  exact own_setCell (own_setCell (own_setCell h _) _) _

set_option maxRecDepth 100000 in
set_option maxHeartbeats 16000000 in
theorem invert_any (v : Value) (l : List HunkV) (w : World) (hv : Hks w v l) (hf : ∀ m ∈ l, m.Fit) (hl : l.length * 56 ≤ 140737488351232) :
    Calls Try.prog 22 #[v] w fun e w' => ∃ r, e = .returned (.tuple #[r, .int .i64 ((invE (l.map HunkV.txt) : Nat) : Int)]) ∧ (invE (l.map HunkV.txt) ≠ 0 → r = .slice none 0 0) ∧ (invE (l.map HunkV.txt) = 0 → ∃ hs, OwnK w' w.heap.size r hs ∧ ApartK hs ∧ hs.map HunkV.txt = invL (l.map HunkV.txt)) ∧ Below w.heap.size w w' := by
  have HCk := Lib.hid (check_any v l w hv hf (by omega))
  obtain ⟨ao, cap, b, o, rfl, hao, hm, hc⟩ := hv
  obtain ⟨n, hn⟩ : ∃ n, l.length = n := ⟨_, rfl⟩
  have Hn := Lib.hid hn
  rw [hn] at hao hm hl HCk ⊢
  have Hao := Lib.hid hao
  have Hc := Lib.hid hc
  have Hf := Lib.hid hf
  have HLn : Hid ((l.map HunkV.txt).length = n) := by show _ = _; rw [List.length_map, hn]
  obtain ⟨L, hL⟩ : ∃ L, l.map HunkV.txt = L := ⟨_, rfl⟩
  have HLe := Lib.hid hL
  have HLk : Hid (∀ (k : Nat) (h1 : k < L.length) (h2 : k < l.length), L[k]'h1 = (l[k]'h2).txt) := by intro k h1 h2; subst hL; simp
  rw [hL] at HLn HCk ⊢
  clear hao hc hn hf hL
  unfold maxLen at hm
  go_enter Try.func22, Try.ntmps22
  go_wp2_with fail
  refine HCk.out.mono ?_
  rintro e w1 ⟨rfl, hb1⟩
  have B1 := Lib.hid hb1
  clear hb1 HCk
  rcases chk_cases L with ⟨hc, hok⟩ | ⟨k, hk, hc⟩
  rotate_left
  · have HE : Hid (invE L = 80) := by show _ = _; rw [invE, hc, if_neg (by simp)]
    rw [hc]
    clear hc
    go_wp2_with fail
    go_ret2
    rw [HE.out]
    exact ⟨_, rfl, fun _ => rfl, fun h => absurd h (by simp), B1.out⟩
  have HE : Hid (invE L = (chkL (invL L)).2) := by show _ = _; rw [invE, hc, if_pos rfl]
  rw [hc]
  clear hc hok
  have hmk := fun w => run_makeK n hl w
  have HO0 := Lib.hid (own_zeros w1 n w1.heap.size (Nat.le_refl _) hl)
  have hal : Below w1.heap.size w1 (w1.alloc (.cells (zerosK n) 43)) := (Below.refl _ _).alloc (Nat.le_refl _) _
  have B2 := Lib.hid (below_join B1.out hal)
  have HB1s := Lib.hid B1.out.size
  clear hal
  go_wp2_with fail
  obtain ⟨w2, hw2⟩ : ∃ w2, w1.alloc (.cells (zerosK n) 43) = w2 := ⟨_, rfl⟩
  rw [hw2] at HO0 B2 ⊢
  obtain ⟨g, hg⟩ : ∃ g, w1.heap.size = g := ⟨_, rfl⟩
  rw [hg] at HO0 HB1s ⊢
  clear hw2 hg hmk
  go_loopw [7, 25] (fun mv kv wr => ∃ (k : Nat) (R : List HunkV), k ≤ n ∧ kv = .int .i64 (k : Int) ∧ mv = .int .i64 (moreF 0 (L.take k)) ∧ Hid (R.length = n) ∧ Hid ((R.take k).map HunkV.txt = (invL L).take k) ∧ Hid (wr.ownsRow g 43 3 (.slice (some ⟨g, 0, none⟩) n n) n (flatK R)) ∧ Hid (∀ m ∈ R.take k, OwnT wr w.heap.size m.ov m.old ∧ OwnT wr w.heap.size m.nv m.new) ∧ Hid (ApartK (R.take k)) ∧ Hid (Below w.heap.size w wr)) (fun _ kv _ => n - (intOf kv).toNat)
  case atStart => exact ⟨0, List.replicate n zeroK, Nat.zero_le _, rfl, rfl, List.length_replicate, rfl, HO0.out, (fun m h => by simp at h), List.Pairwise.nil, B2.out⟩
  case round =>
    obtain ⟨k, R, hk, rfl, rfl, HR, HA, HO, HT0, HAp, HB⟩ := hrel
    by_cases hlt : k < n
    · have hkl : k < l.length := by have := Hn.out; omega
      have hkR : k < R.length := by have := HR.out; omega
      have hkL : k < L.length := by have := HLn.out; omega
      obtain rfl := Hao.out (by omega)
      obtain ⟨c0, c1, c2, t1, t2⟩ := Hc.out k hkl
      have HF := Lib.hid (Hf.out _ (List.getElem_mem hkl))
      have HT : Hid ((invL L).take (k + 1) = (invL L).take k ++ [invH (moreF 0 (L.take k)) (l[k]'hkl).txt]) := by
        show _ = _
        rw [inv_take hkL, HLk.out k hkL hkl]
      have HM : Hid (moreF 0 (L.take (k + 1)) = moreA (moreF 0 (L.take k)) (l[k]'hkl).txt) := by
        show _ = _
        rw [more_take hkL, HLk.out k hkL hkl]
      obtain ⟨x, hx⟩ : ∃ x, l[k]'hkl = x := ⟨_, rfl⟩
      rw [hx] at c0 c1 c2 t1 t2 HF HT HM
      obtain ⟨x1, x2, x3, x4, x5⟩ := x
      dsimp only at c0 c1 c2 t1 t2
      obtain ⟨mr, hmr⟩ : ∃ mr, moreF 0 (L.take k) = mr := ⟨_, rfl⟩
      rw [hmr] at HT HM ⊢
      clear hmr
      have T1 := Lib.hid t1
      have T2 := Lib.hid t2
      have F1 : Hid (SliceForm x2) := HF.out.fo
      have F2 : Hid (SliceForm x3) := HF.out.fn
      obtain ⟨o1, p1, rfl⟩ := t1.lenForm
      obtain ⟨o2, p2, rfl⟩ := t2.lenForm
      have hl4 : x4.length * 16 ≤ 140737488355328 := by have := HF.out.lo; simp only at this; omega
      have hl5 : x5.length * 16 ≤ 140737488355328 := by have := HF.out.ln; simp only at this; omega
      obtain ⟨on, hon⟩ : ∃ on, x4.length = on := ⟨_, rfl⟩
      obtain ⟨nn, hnn⟩ : ∃ nn, x5.length = nn := ⟨_, rfl⟩
      have Hon := Lib.hid hon
      have Hnn := Lib.hid hnn
      rw [hon] at c1 T1 F1 hl4
      rw [hnn] at c2 T2 F2 hl5
      clear hx t1 t2 hon hnn
      have c0 := cell_kept HB.out c0
      have c1 := cell_kept HB.out c1
      have c2 := cell_kept HB.out c2
      have ki0 : (0 : Int) ≤ (k : Int) := by omega
      have ki1 : (k : Int) < (n : Int) := by omega
      have hra := heap_alloc_new wr (.cells #[.int .i64 x1, .slice o1 on p1, .slice o2 nn p2] 43)
      have hal : Below wr.heap.size wr (wr.alloc (.cells #[.int .i64 x1, .slice o1 on p1, .slice o2 nn p2] 43)) := (Below.refl _ _).alloc (Nat.le_refl _) _
      have HB3 := Lib.hid (HB.out.trans (hal.mono HB.out.size))
      have HO3 := Lib.hid (own_kept HO.out hal)
      have HT3 : Hid (∀ m ∈ R.take k, OwnT (wr.alloc (.cells #[.int .i64 x1, .slice o1 on p1, .slice o2 nn p2] 43)) w.heap.size m.ov m.old ∧ OwnT (wr.alloc (.cells #[.int .i64 x1, .slice o1 on p1, .slice o2 nn p2] 43)) w.heap.size m.nv m.new) := fun m hm => ⟨(HT0.out m hm).1.below hal, (HT0.out m hm).2.below hal⟩
      have hgl := (World.ownsRow.lt HO.out g rfl).2
      go_upto_region 9 with fail
      obtain ⟨w3, hw3⟩ : ∃ w3, wr.alloc (.cells #[.int .i64 x1, .slice o1 on p1, .slice o2 nn p2] 43) = w3 := ⟨_, rfl⟩
      rw [hw3] at hra HB3 HO3 HT3 ⊢
      obtain ⟨A, hA⟩ : ∃ A, wr.heap.size = A := ⟨_, rfl⟩
      rw [hA] at hra hgl ⊢
      clear c0 c1 c2 hw3 hal hA
      have a0 : w3.cell? ⟨A, 0, none⟩ = some (.int .i64 x1) := cell_of_row _ _ 0 _ _ _ hra
      have a1 : w3.cell? ⟨A, 1, none⟩ = some (.slice o1 on p1) := cell_of_row _ _ 1 _ _ _ hra
      have a2 : w3.cell? ⟨A, 2, none⟩ = some (.slice o2 nn p2) := cell_of_row _ _ 2 _ _ _ hra
      clear hra
      have hwg : w.heap.size ≤ g := HB1s.out
      have hw3s := HB3.out.size
      have keepS : ∀ W, Below w3.heap.size w3 W → (W.cell? ⟨A, 0, none⟩ = some (.int .i64 x1) ∧ W.cell? ⟨A, 1, none⟩ = some (.slice o1 on p1) ∧ W.cell? ⟨A, 2, none⟩ = some (.slice o2 nn p2) ∧ Below w.heap.size w W) := fun W h => ⟨cell_kept h a0, cell_kept h a1, cell_kept h a2, below_join HB3.out h⟩
      have keepT : ∀ (W : World) (u0 u1 u2 : Value), Below w3.heap.size w3 W → ((setH W g k u0 u1 u2).cell? ⟨A, 0, none⟩ = some (.int .i64 x1) ∧ (setH W g k u0 u1 u2).cell? ⟨A, 1, none⟩ = some (.slice o1 on p1) ∧ (setH W g k u0 u1 u2).cell? ⟨A, 2, none⟩ = some (.slice o2 nn p2) ∧ Below w.heap.size w (setH W g k u0 u1 u2)) := fun W u0 u1 u2 h =>
        ⟨cell_stays (cell_kept h a0) (setH_grown W g k u0 u1 u2) (fun e => by have := Option.some.inj e; omega), cell_stays (cell_kept h a1) (setH_grown W g k u0 u1 u2) (fun e => by have := Option.some.inj e; omega), cell_stays (cell_kept h a2) (setH_grown W g k u0 u1 u2) (fun e => by have := Option.some.inj e; omega),
          (below_join HB3.out h).grown (setH_grown W g k u0 u1 u2) (Nat.le_trans hw3s h.size) (fun q hq => by cases hq; exact hwg)⟩
      have keep0 : Below w3.heap.size w3 w3 := Below.refl _ _
      have keepD : ∀ W, Below w3.heap.size w3 W → Below w3.heap.size w3 W.drew := fun W h => h.drew
      have C1 : ∀ W, Below w3.heap.size w3 W → Hid (Calls Try.prog 37 #[.slice o1 on p1] W fun e w' => ∃ r, e = .returned r ∧ OwnT w' W.heap.size r x4 ∧ Below w3.heap.size w3 w' ∧ Below W.heap.size W w') := fun W h =>
        (copied08_any _ x4 W (T1.out.kept (below_join HB3.out h)) F1.out (by rw [Hon.out]; exact hl4)).mono fun e w' ⟨r, he, ho, hb⟩ => ⟨r, he, ho, below_join h hb, hb⟩
      have C2 : ∀ W, Below w3.heap.size w3 W → Hid (Calls Try.prog 37 #[.slice o2 nn p2] W fun e w' => ∃ r, e = .returned r ∧ OwnT w' W.heap.size r x5 ∧ Below w3.heap.size w3 w' ∧ Below W.heap.size W w') := fun W h =>
        (copied08_any _ x5 W (T2.out.kept (below_join HB3.out h)) F2.out (by rw [Hnn.out]; exact hl5)).mono fun e w' ⟨r, he, ho, hb⟩ => ⟨r, he, ho, below_join h hb, hb⟩
      have Z : ∀ (W : World) (j : Nat), j < 3 → Below w3.heap.size w3 W → (∃ z, W.cell? ⟨g, k * 3 + j, none⟩ = some z) ∧ W.frozen? ⟨g, k * 3 + j, none⟩ = false := fun W j hj h => by
        have h2 := own_kept HO3.out h
        exact ⟨⟨_, (h2.cellAt (k * 3 + j) (by omega)).trans (List.getElem?_eq_getElem (by rw [flatK_len, HR.out]; omega))⟩, own_frozen h2 _⟩
      go_wp2_with fail
      go_region_held3 (fun w' => w'.cell? ⟨A, 0, none⟩ = some (.int .i64 x1) ∧ w'.cell? ⟨A, 1, none⟩ = some (.slice o1 on p1) ∧ w'.cell? ⟨A, 2, none⟩ = some (.slice o2 nn p2) ∧ Below w.heap.size w w')
        (first | (refine keepS _ ?_; (repeat (first | assumption | exact keep0 | refine keepD _ ?_)); done) | (refine keepT _ _ _ _ ?_; repeat (first | assumption | exact keep0 | refine keepD _ ?_)))
        (first
          | (go_at_call 37; refine (C1 _ ?_).out.mono ?_; (repeat (first | assumption | exact keep0 | refine keepD _ ?_)); (rintro e w5 ⟨ov, rfl, hov, hb5, hc5⟩); (obtain ⟨oo, oc, hoe, _⟩ := own_slice hov); subst hoe; (have hz0 := (Z _ 0 (by omega) hb5).1); (have hz1 := (Z _ 1 (by omega) hb5).1); (have hz2 := (Z _ 2 (by omega) hb5).1); (have hf0 := (Z _ 0 (by omega) hb5).2); (have hf1 := (Z _ 1 (by omega) hb5).2); (have hf2 := (Z _ 2 (by omega) hb5).2); (obtain ⟨zz0, hz0⟩ := hz0); (obtain ⟨zz1, hz1⟩ := hz1); (obtain ⟨zz2, hz2⟩ := hz2); (simp only [Nat.add_zero] at hz0 hf0))
          | (go_at_call 37; refine (C2 _ ?_).out.mono ?_; (repeat (first | assumption | exact keep0 | refine keepD _ ?_)); (rintro e w6 ⟨nv, rfl, hnv, hb6, hc6⟩); (obtain ⟨no, nc, hne, _⟩ := own_slice hnv); subst hne; (have hz0 := (Z _ 0 (by omega) hb6).1); (have hz1 := (Z _ 1 (by omega) hb6).1); (have hz2 := (Z _ 2 (by omega) hb6).1); (have hf0 := (Z _ 0 (by omega) hb6).2); (have hf1 := (Z _ 1 (by omega) hb6).2); (have hf2 := (Z _ 2 (by omega) hb6).2); (obtain ⟨zz0, hz0⟩ := hz0); (obtain ⟨zz1, hz1⟩ := hz1); (obtain ⟨zz2, hz2⟩ := hz2); (simp only [Nat.add_zero] at hz0 hf0)))
      all_goals
        have HG := setH_grown w5 g k (.int .i64 (IntKind.i64.wrap (x1 + mr))) (.slice no x5.length nc) (.slice oo x4.length oc)
        have HOW := setH_own (own_kept HO3.out hb5) ⟨IntKind.i64.wrap (x1 + mr), .slice no x5.length nc, .slice oo x4.length oc, x5, x4⟩ hkR
        have hs := keepT w5 (.int .i64 (IntKind.i64.wrap (x1 + mr))) (.slice no x5.length nc) (.slice oo x4.length oc) hb5
        obtain ⟨mm, hmm⟩ : ∃ mm : HunkV, (⟨IntKind.i64.wrap (x1 + mr), .slice no x5.length nc, .slice oo x4.length oc, x5, x4⟩ : HunkV) = mm := ⟨_, rfl⟩
        have hm0 : mm.txt = invH mr ⟨x1, x4, x5⟩ := by
          rw [← hmm]
          simp only [HunkV.txt, invH, IntKind.wrap_i64]
          congr 1
          unfold wrap64
          omega
        have hm1 : mm.ov = .slice no x5.length nc ∧ mm.nv = .slice oo x4.length oc ∧ mm.old = x5 ∧ mm.new = x4 := by subst hmm; exact ⟨rfl, rfl, rfl, rfl⟩
        rw [hmm] at HOW
        unfold setH at HG HOW hs
        obtain ⟨W, hW⟩ : ∃ W, (((w5.setCell ⟨g, k * 3, none⟩ (.int .i64 (IntKind.i64.wrap (x1 + mr)))).setCell ⟨g, k * 3 + 1, none⟩ (.slice no x5.length nc)).setCell ⟨g, k * 3 + 2, none⟩ (.slice oo x4.length oc)) = W := ⟨_, rfl⟩
        have HOW2 : W.ownsRow g 43 3 (.slice (some ⟨g, 0, none⟩) n n) n (flatK (R.set k mm)) := by
          rw [← hW]
          have h := HOW
          rw [← hmm] at h ⊢
          exact h
        rw [hW] at HG hs ⊢
        clear HOW hW hmm
        have hK5 := own_kept HO3.out hb5
        have hts : (R.set k mm).take (k + 1) = R.take k ++ [mm] := by
          rw [List.take_succ_eq_append_getElem (by rw [List.length_set]; exact hkR), List.getElem_set_self, List.take_set, List.set_eq_of_length_le (by rw [List.length_take]; omega)]
        have HT4 : Hid (∀ m ∈ (R.set k mm).take (k + 1), OwnT W w.heap.size m.ov m.old ∧ OwnT W w.heap.size m.nv m.new) := by
          intro m hm
          rw [hts] at hm
          rcases List.mem_append.1 hm with hm | hm
          · obtain ⟨h1, h2⟩ := HT3.out m hm
            exact ⟨(h1.below hb5).besideK hK5 HG, (h2.below hb5).besideK hK5 HG⟩
          · obtain rfl : m = mm := by simpa using hm
            rw [hm1.1, hm1.2.1, hm1.2.2.1, hm1.2.2.2]
            exact ⟨((hnv.below hc5).besideK hK5 HG).base hw3s, (hov.besideK hK5 HG).base (Nat.le_trans hw3s hb6.size)⟩
        have HAp2 : Hid (ApartK ((R.set k mm).take (k + 1))) := by
          show ApartK _
          rw [hts]
          refine HAp.out.snoc (fun x hx => ?_) ?_
          · obtain ⟨m, hm, hx2⟩ := valsK_mem hx
            obtain ⟨h1, h2⟩ := HT3.out m hm
            rw [hm1.1, hm1.2.1]
            rcases hx2 with rfl | rfl
            · exact ⟨own_apart h1 hnv (Nat.le_refl _), own_apart h1 hov hb6.size⟩
            · exact ⟨own_apart h2 hnv (Nat.le_refl _), own_apart h2 hov hb6.size⟩
          · rw [hm1.1, hm1.2.1]
            exact own_apart hnv hov (Nat.le_refl _)
        have HA2 : Hid (((R.set k mm).take (k + 1)).map HunkV.txt = (invL L).take (k + 1)) := by
          show _ = _
          rw [hts, List.map_append, HA.out, HT.out, List.map_singleton, hm0]
          rfl
        have HB4 := Lib.hid hs.2.2.2
        have HOX := Lib.hid HOW2
        have e0 := hs.1
        have e1 := hs.2.1
        have e2 := hs.2.2.1
        have HX : Hid (moreF 0 (L.take (k + 1)) = wrap64 (mr + ((nn : Int) - (on : Int)))) := by
          show _ = _
          rw [HM.out, moreA, ← Hon.out, ← Hnn.out]
          rfl
        have HRl : Hid ((R.set k mm).length = n) := by show _ = _; rw [List.length_set]; exact HR.out
        clear hs HG HOW2 hK5 hts hm0 hm1 hz0 hz1 hz2 hf0 hf1 hf2 a0 a1 a2 hov hnv hb5 hb6 hc5 hc6
        go_wp2_with fail
        go_roundw
        case rel => exact ⟨k + 1, R.set k mm, by omega, by go_num, by rw [HX.out], HRl, HA2, HOX, HT4, HAp2, HB4⟩
        case measure => simp [intOf]; omega
    · obtain rfl : k = n := by omega
      have HTk : Hid (R.take k = R) := List.take_of_length_le (by rw [HR.out]; exact Nat.le_refl _)
      rw [HTk.out] at HA HT0 HAp
      have HT : Hid (R.map HunkV.txt = invL L) := by
        show _ = _
        rw [HA.out, List.take_of_length_le (by rw [invL, invF_len, HLn.out]; exact Nat.le_refl _)]
      have HK : Hid (OwnK wr w.heap.size (.slice (some ⟨g, 0, none⟩) k k) R) := ⟨by rw [HR.out]; exact own_base HO.out HB1s.out, HT0.out⟩
      have HFi := Lib.hid (fit_inv HK.out (by rw [HT.out, HLe.out]) Hf.out)
      have HCk := Lib.hid (check_any _ R wr HK.out.hks HFi.out (by rw [HR.out]; omega))
      rw [HT.out] at HCk
      go_wp2_with fail
      refine HCk.out.mono ?_
      rintro e w2 ⟨rfl, hb2⟩
      have B2 := Lib.hid (below_join HB.out hb2)
      have HO2 := Lib.hid (HK.out.below hb2)
      clear hb2 HCk
      rcases chk_cases (invL L) with ⟨hc, _⟩ | ⟨j, hj, hc⟩
      · have HE2 : Hid (invE L = 0) := by show _ = _; rw [HE.out, hc]
        rw [hc]
        clear hc
        go_wp2_with fail
        go_ret2
        rw [HE2.out]
        exact ⟨_, rfl, fun h => absurd rfl h, fun _ => ⟨R, HO2.out, HAp.out, HT.out⟩, B2.out⟩
      · have HE2 : Hid (invE L = 80) := by show _ = _; rw [HE.out, hc]
        rw [hc]
        clear hc
        go_wp2_with fail
        go_ret2
        rw [HE2.out]
        exact ⟨_, rfl, fun _ => rfl, fun h => absurd h (by simp), B2.out⟩
end Go.Proofs.Ytabdgocfbmcobaa
