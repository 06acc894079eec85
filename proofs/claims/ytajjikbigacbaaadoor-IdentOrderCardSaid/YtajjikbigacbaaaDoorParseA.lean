/- Own work: label.Parse. -/
import Derived.Test.YtajjikbigacbaaaDoorParseMath
import Derived.Test.YtajjikbigacbaaaDoorSplitIt
import Derived.Test.YtajjikbigacbaaaDoorTz
import Derived.RangeFuncCalls
import Derived.RegionIn
import Derived.BigRegionIn
namespace Go.Proofs.YtajjikbigacbaaaDoor
open Go.RowKit Go.Shelf

attribute [local go_sem] Oper.semAt_some

theorem res_parse (w : World) (tmps : Array Value) (g : Nat) (u v : Value) (hp : tmps.getD 2 undef = .pointer (some ⟨g, 0, none⟩)) (hq : tmps.getD 3 undef = .pointer (some ⟨g + 1, 0, none⟩)) (hc : w.cell? ⟨g, 0, none⟩ = some u) (hd : w.cell? ⟨g + 1, 0, none⟩ = some v) :
    (results Tryd.f20 tmps).run Tryd.prog w = .ok (.tuple #[u, v]) w := by
  have hp' : tmps[2]?.getD undef = .pointer (some ⟨g, 0, none⟩) := by simpa using hp
  have hq' : tmps[3]?.getD undef = .pointer (some ⟨g + 1, 0, none⟩) := by simpa using hq
  simp [results, Tryd.results20, hp', hq', asAddr, go_sem, hc, hd]

def dashB : ByteArray := ⟨#[45]⟩
def ParsePost (w : World) (s : ByteArray) (e : Ending) (w' : World) : Prop :=
  Below w.heap.size w w' ∧ ((s = dashB ∧ e = .returned (.tuple #[.int .u64 0, .int .i64 0])) ∨
    (s ≠ dashB ∧ ∃ cs, Reads s cs ∧ e = .returned (.tuple #[.int .u64 (bitsA cs : Nat), .int .i64 0])) ∨
    (s ≠ dashB ∧ (¬ ∃ cs, Reads s cs) ∧ e = .returned (.tuple #[.int .u64 0, .int .i64 4])))

theorem ErrVars.kept {w w' : World} (h : ErrVars w) (hb : Below w.heap.size w w') : ErrVars w' := by
  have go : ∀ n cs, w.var? Tryd.prog n = some cs → w'.var? Tryd.prog n = some cs := fun n cs h => by
    cases hg : Tryd.prog.globalNamed n with
    | none => simp [World.var?, hg] at h
    | some g => exact Go.Joins.var_stays hg h hb (Nat.le_refl _)
  obtain ⟨a, b, h1⟩ := h.syn
  obtain ⟨c, d, h2⟩ := h.rng
  exact ⟨⟨a, b, go _ _ h1⟩, ⟨c, d, go _ _ h2⟩⟩
theorem boxed_but {Z : Nat → Prop} {B k : Nat} {A C : World} {row : Option Nat} {t : TypeId} {v : Value} (h : Boxed A k t v) (hg : A.grownBy C row)
    (hr : ∀ r, row = some r → Z r ∨ (B ≤ r ∧ ∃ o : Obj, A.heap[r]? = some o ∧ o.isCells = false)) (hz : ¬ Z k) : Boxed C k t v := by
  refine h.kept hg fun e => ?_
  rcases hr k e.symm with h1 | ⟨_, o, ho, hc⟩
  · exact hz h1
  · rw [show A.heap[k]? = _ from h] at ho; cases ho; cases hc
theorem from_below {B : Nat} {A C : World} (h : Below A.heap.size A C) : KeepsFrom B A C := ⟨h.size, fun k _ _ hk _ => (h.block k (Array.getElem?_eq_some_iff.1 hk).1).trans hk⟩

/-- the two results, what is read so far, and its last compartment lie in their cells -/
def PAt (w : World) (u : Nat) (e : Int) (cs : List Nat) (W : World) : Prop :=
  Boxed W w.heap.size 23 (.int .u64 (u : Int)) ∧ Boxed W (w.heap.size + 1) 26 (.int .i64 e) ∧ Boxed W (w.heap.size + 2) 23 (.int .u64 (bitsA cs : Nat)) ∧
  Boxed W (w.heap.size + 3) 3 (.int .i64 (lastC cs)) ∧ Below w.heap.size w W
theorem PAt.but {w A C : World} {u : Nat} {e : Int} {cs : List Nat} {g B : Nat} {row : Option Nat} (h : PAt w u e cs A) (hg : A.grownBy C row)
    (hr : ∀ r, row = some r → onlyAt g r ∨ (B ≤ r ∧ ∃ o : Obj, A.heap[r]? = some o ∧ o.isCells = false)) (h1 : g = w.heap.size + 4) (h2 : w.heap.size ≤ B) : PAt w u e cs C := by
  obtain ⟨a, b, c, d, hb⟩ := h
  refine ⟨boxed_but a hg hr ?_, boxed_but b hg hr ?_, boxed_but c hg hr ?_, boxed_but d hg hr ?_, hb.grown hg hb.size fun k e => ?_⟩
  iterate 4 (unfold onlyAt; omega)
  rcases hr k e with h | ⟨h, _⟩
  · unfold onlyAt at h; omega
  · omega
theorem PAt.kept {w A C : World} {u : Nat} {e : Int} {cs : List Nat} (h : PAt w u e cs A) (hb : Below A.heap.size A C) : PAt w u e cs C :=
  ⟨Boxed.below h.1 hb h.1.lt, Boxed.below h.2.1 hb h.2.1.lt, Boxed.below h.2.2.1 hb h.2.2.1.lt, Boxed.below h.2.2.2.1 hb h.2.2.2.1.lt, below_join h.2.2.2.2 hb⟩

theorem four_cells (w : World) (u v x y : Value) (t1 t2 t3 t4 : TypeId) : ((((w.alloc (.cells #[u] t1)).alloc (.cells #[v] t2)).alloc (.cells #[x] t3)).alloc (.cells #[y] t4)).heap.size = w.heap.size + 4 ∧
    Below w.heap.size w ((((w.alloc (.cells #[u] t1)).alloc (.cells #[v] t2)).alloc (.cells #[x] t3)).alloc (.cells #[y] t4)) ∧
    Boxed ((((w.alloc (.cells #[u] t1)).alloc (.cells #[v] t2)).alloc (.cells #[x] t3)).alloc (.cells #[y] t4)) w.heap.size t1 u ∧
    Boxed ((((w.alloc (.cells #[u] t1)).alloc (.cells #[v] t2)).alloc (.cells #[x] t3)).alloc (.cells #[y] t4)) (w.heap.size + 1) t2 v ∧
    Boxed ((((w.alloc (.cells #[u] t1)).alloc (.cells #[v] t2)).alloc (.cells #[x] t3)).alloc (.cells #[y] t4)) (w.heap.size + 2) t3 x ∧
    Boxed ((((w.alloc (.cells #[u] t1)).alloc (.cells #[v] t2)).alloc (.cells #[x] t3)).alloc (.cells #[y] t4)) (w.heap.size + 3) t4 y := by
  obtain ⟨h1, h2, h3, h4, h5⟩ := three_cells w u v x t1 t2 t3
  generalize ((w.alloc (.cells #[u] t1)).alloc (.cells #[v] t2)).alloc (.cells #[x] t3) = w3 at *
  refine ⟨by rw [World.size_alloc, h1], h2.alloc (by omega) _, Boxed.alloc h3 _, Boxed.alloc h4 _, Boxed.alloc h5 _, ?_⟩
  have := Boxed.new w3 t4 y
  rwa [h1] at this

theorem PAt.err {w A : World} {cs : List Nat} (h : PAt w 0 0 cs A) (v : Value) (hv : v = .int .i64 4) : PAt w 0 4 cs ((A.setCell ⟨w.heap.size, 0, none⟩ (.int .u64 0)).setCell ⟨w.heap.size + 1, 0, none⟩ v) := by
  subst hv
  obtain ⟨a, b, c, d, hb⟩ := h
  exact ⟨(a.set _).other (by omega) _, (b.other (by omega) _).set _, (c.other (by omega) _).other (by omega) _, (d.other (by omega) _).other (by omega) _,
    (hb.setCell (Nat.le_refl _) _).setCell (Nat.le_succ _) _⟩
theorem keeps3_drew (g : Nat) (A : World) : Keeps3 g A A.drew := fun _ _ _ => rfl
theorem below_drew (B : Nat) (A : World) : Below B A A.drew := ⟨rfl, rfl, rfl, Nat.le_refl _, fun _ _ => rfl⟩
theorem PAt.more {w A : World} {cs : List Nat} (h : PAt w 0 0 cs A) (c : Nat) (v : Value) (hv : v = .int .u64 (bitsA (cs ++ [c]) : Nat)) :
    PAt w 0 0 (cs ++ [c]) (((A.setCell ⟨w.heap.size + 1 + 1, 0, none⟩ v).drew).setCell ⟨w.heap.size + 1 + 1 + 1, 0, none⟩ (.int .i64 (c : Int))) := by
  subst hv
  obtain ⟨a, b, c', d, hb⟩ := h
  have a1 : Boxed (A.setCell ⟨w.heap.size + 1 + 1, 0, none⟩ (.int .u64 (bitsA (cs ++ [c]) : Nat))).drew w.heap.size _ _ := a.other (by omega) _
  have b1 : Boxed (A.setCell ⟨w.heap.size + 1 + 1, 0, none⟩ (.int .u64 (bitsA (cs ++ [c]) : Nat))).drew (w.heap.size + 1) _ _ := b.other (by omega) _
  have c1 : Boxed (A.setCell ⟨w.heap.size + 1 + 1, 0, none⟩ (.int .u64 (bitsA (cs ++ [c]) : Nat))).drew (w.heap.size + 2) _ _ := c'.set _
  have d1 : Boxed (A.setCell ⟨w.heap.size + 1 + 1, 0, none⟩ (.int .u64 (bitsA (cs ++ [c]) : Nat))).drew (w.heap.size + 3) _ _ := d.other (by omega) _
  refine ⟨a1.other (by omega) _, b1.other (by omega) _, c1.other (by omega) _, ?_,
    ((hb.setCell (by show _ ≤ w.heap.size + 2; omega) _).trans (below_drew _ _)).setCell (by show _ ≤ w.heap.size + 3; omega) _⟩
  rw [lastC_snoc]
  exact d1.set _
theorem more_keeps {w A : World} {B : Nat} (u v : Value) :
    KeepsFrom B A (((A.setCell ⟨w.heap.size + 1 + 1, 0, none⟩ u).drew).setCell ⟨w.heap.size + 1 + 1 + 1, 0, none⟩ v) ∧ Keeps3 (w.heap.size + 4) A (((A.setCell ⟨w.heap.size + 1 + 1, 0, none⟩ u).drew).setCell ⟨w.heap.size + 1 + 1 + 1, 0, none⟩ v) :=
  ⟨(((KeepsOthers.setCell _ _ _).trans (KeepsOthers.drew _)).trans (KeepsOthers.setCell _ _ _)).from _,
   keeps3_t (keeps3_set (b := w.heap.size + 1 + 1) A u (by omega)) (keeps3_t (keeps3_drew _ _) (keeps3_set (b := w.heap.size + 1 + 1 + 1) _ v (by omega)))⟩
/-- at the return the block of the rounds' deferred calls is turned once more -/
theorem parse_end {w X : World} {D : Nat} {u v : Value} {t t' : TypeId} (h0 : Boxed X w.heap.size t u) (h1 : Boxed X (w.heap.size + 1) t' v) (hB : Below w.heap.size w X) (hD : w.heap.size + 7 ≤ D) (hK : X.heap[D]? = some (.deferred (some []))) (o : Obj) :
    (X.putObj D o).cell? ⟨w.heap.size, 0, none⟩ = some u ∧ (X.putObj D o).cell? ⟨w.heap.size + 1, 0, none⟩ = some v ∧ Below w.heap.size w (X.putObj D o) := by
  refine ⟨?_, ?_, hB.trans (belowK_b (w := w) (Nat.le_refl _) _ D _ _ (by omega) hK rfl rfl)⟩
  · exact (World.cell?_of_block (World.putObj_heap_other (by show w.heap.size ≠ D; omega))).trans h0.cell
  · exact (World.cell?_of_block (World.putObj_heap_other (by show w.heap.size + 1 ≠ D; omega))).trans h1.cell
theorem two_sets {w A : World} {B : Nat} (i j : Nat) (u v : Value) (hi : i < 4) (hj : j < 4) :
    KeepsFrom B A ((A.setCell ⟨w.heap.size + i, 0, none⟩ u).setCell ⟨w.heap.size + j, 0, none⟩ v) ∧ Keeps3 (w.heap.size + 4) A ((A.setCell ⟨w.heap.size + i, 0, none⟩ u).setCell ⟨w.heap.size + j, 0, none⟩ v) :=
  ⟨((KeepsOthers.setCell _ _ _).trans (KeepsOthers.setCell _ _ _)).from _, keeps3_t (keeps3_set _ _ (by omega)) (keeps3_set _ _ (by omega))⟩

set_option maxRecDepth 100000 in
set_option maxHeartbeats 8000000 in
theorem parse_any (s : ByteArray) (w : World) (hs : s.size ≤ 140737488355328) (hv : ErrVars w) : Calls Tryd.prog 20 #[.string s] w (ParsePost w s) := by
  have HV := Lib.hid hv
  clear hv
  refine (callsIn_wide (n := 5)).1 ?_
  refine callsIn_of_wp_marks Tryd.func20 rfl trivial ?_ rfl
  simp only [Tryd.ntmps20, List.size_toArray, List.length_cons, List.length_nil, Nat.reduceAdd, Nat.reduceSub, Array.replicate_succ, Array.replicate_zero, List.push_toArray, List.append_toArray, List.nil_append, List.cons_append]
  have e45 : (⟨#[45]⟩ : ByteArray).toList = [45] := by rw [Lib.toList_data]
  by_cases hd : s = dashB
  · have hne : (s.toList == [45]) = true := by rw [hd, dashB, e45]; rfl
    have Hd := Lib.hid hd
    clear hd e45
    gi_wp2_with fail
    obtain ⟨s2, b2, r2, r3⟩ := two_cells w (.int .u64 0) (.int .i64 0) 23 26
    exact ⟨_, res_parse _ _ w.heap.size _ _ rfl rfl (cell_of_one r2) (cell_of_one r3), b2, .inl ⟨Hd.out, rfl⟩⟩
  · have hne : (s.toList == [45]) = false := by rw [← e45, bytes_same]; simpa [dashB] using hd
    clear e45
    gi_wp2_with fail
    refine ⟨trivial, (callsIn_wide.2 (split_any s 43 _)).mono ?_⟩
    obtain ⟨s4, b4, r0, r1, r2, r3⟩ := four_cells w (.int .u64 0) (.int .i64 0) (.int .u64 0) (.int .i64 (-1)) 23 26 23 3
    obtain ⟨w4, hw4⟩ : ∃ w4, ((((w.alloc (.cells #[.int .u64 0] 23)).alloc (.cells #[.int .i64 0] 26)).alloc (.cells #[.int .u64 0] 23)).alloc (.cells #[.int .i64 (-1)] 3)) = w4 := ⟨_, rfl⟩
    rw [hw4] at s4 b4 r0 r1 r2 r3 ⊢
    clear hw4
    rintro e w5 ⟨rfl, s5, b5, x0, x1, x2⟩
    have P5 : PAt w 0 0 [] w5 := PAt.kept ⟨r0, r1, r2, r3, b4⟩ b5
    have hg5 : w5.heap.size = w.heap.size + 7 := by omega
    rw [s4] at x0 x1 x2 ⊢
    clear r0 r1 r2 r3 hne s5 b5 b4 s4
    gi_wp2_with fail
    refine' wpIn_rangeFunc_box rfl (by decide) (gf := 64) (lb := #[.pointer (some ⟨w.heap.size + 4 + 1, 0, none⟩), .pointer (some ⟨w.heap.size + 4, 0, none⟩), .pointer (some ⟨w.heap.size + 4 + 2, 0, none⟩)]) rfl trivial (enters_of Tryd.func64 (by kernel_rfl) rfl)
      (split_seq 4 (by decide) (w.heap.size + 4) 43 s hs w5 x0 x1 x2) ?hZ keeps3_t (keeps3_b (by omega)) (Below.refl _ _) (fun _ => rfl)
      (fun pre W => ∃ cs, Hid (Rise cs ∧ pre.map (fun y : BS => y.1.data.toList) = cs.map fun c => (digB c).data.toList) ∧ w.heap.size + 4 + 2 < W.heap.size ∧ PAt w 0 0 cs W)
      (fun c pre W => c = .ret ∧ Hid (¬ ∃ cs, Rise cs ∧ pre.map (fun y : BS => y.1.data.toList) = cs.map fun c => (digB c).data.toList) ∧ ∃ cs, PAt w 0 4 cs W) ?hI ?hIx ?h0 _ ?assign ?body ?done ?stop
    case hZ => intro r hr; unfold onlyAt at hr; omega
    case assign =>
      intro l x W K hK
      gi_wp2
      exact hK
    case hI =>
      rintro _ A C row ⟨cs, h1, hsz, h2⟩ hg hr
      exact ⟨cs, h1, Nat.lt_of_lt_of_le hsz hg.size, h2.but hg hr (by omega) (by omega)⟩
    case hIx =>
      rintro c _ A C row ⟨h0, h1, cs, h2⟩ hg hr
      exact ⟨h0, h1, cs, h2.but hg hr (by omega) (by omega)⟩
    case h0 => exact ⟨[], ⟨rise_nil, rfl⟩, by omega, P5⟩
    case body =>
      rintro l pre ⟨x, hx⟩ W ⟨cs, Hc, hsz, hp⟩ hlt
      have HV2 := Lib.hid (HV.out.kept hp.2.2.2.2)
      have hmap : (pre ++ [(⟨x, hx⟩ : BS)]).map (fun y : BS => y.1.data.toList) = pre.map (fun y : BS => y.1.data.toList) ++ [x.data.toList] := by rw [List.map_append]; rfl
      have Hmap := Lib.hid hmap
      have Hl := Lib.hid (lastC_lt Hc.out.1)
      have HG := Lib.hid hsz
      clear hlt hmap hsz
      by_cases hex : ∃ c : Nat, c < 64 ∧ digB c = x
      · obtain ⟨c, hc, hcx⟩ := hex
        have Hcx := Lib.hid hcx
        subst hcx
        by_cases hle : (c : Int) ≤ lastC cs
        · have Hno : Hid (¬ ∃ ds, Rise ds ∧ (pre ++ [(⟨digB c, hx⟩ : BS)]).map (fun y : BS => y.1.data.toList) = ds.map fun c => (digB c).data.toList) := by
            show ¬ _
            rw [Hmap.out]
            exact more_no Hc.out.1 Hc.out.2 fun d hd he => by have := digB_inj hd hc he; subst this; omega
          obtain ⟨q, hq⟩ : ∃ q, lastC cs = q := ⟨_, rfl⟩
          gi_wp2_with fail
          refine ⟨trivial, (CallsIn.inRound l (callsIn_wide.2 (comp_yes c hc _))).mono ?_⟩
          rintro e W2 ⟨rfl, hb2⟩
          have hp2 := hp.kept hb2
          have HP2 := Lib.hid hp2
          obtain ⟨p0, p1, p2, p3, pb⟩ := hp2
          rw [hq] at p3 hle
          have c0 := p0.cell
          have c1 := p1.cell
          have c3 : W2.cell? ⟨w.heap.size + 1 + 1 + 1, 0, none⟩ = some (.int .i64 q) := p3.cell
          have f0 := p0.frozen
          have f1 := p1.frozen
          clear p0 p1 p2 p3 pb hp hq
          gi_wp2_with fail
          exact ⟨(from_below hb2).trans (two_sets 0 1 _ _ (by omega) (by omega)).1, rfl, Hno, cs, HP2.out.err _ rfl⟩
        · have Hyes := Lib.hid (more_yes Hc.out.1 Hc.out.2 hc (by omega))
          have Hsn := Lib.hid (bitsA_snoc cs c)
          have hlt := bitsA_lt Hc.out.1
          have Hsh := Lib.hid (shl_one c hc)
          have Hp2 := Lib.hid (Nat.pow_lt_pow_right (by decide) hc : 2 ^ c < 2 ^ 64)
          have Hor := Lib.hid (bits_or_u64_nat (bitsA cs) (2 ^ c) hlt Hp2.out)
          have hle2 : lastC cs < (c : Int) := by omega
          obtain ⟨q, hq⟩ : ∃ q, lastC cs = q := ⟨_, rfl⟩
          gi_wp2_with fail
          refine ⟨trivial, (CallsIn.inRound l (callsIn_wide.2 (comp_yes c hc _))).mono ?_⟩
          rintro e W2 ⟨rfl, hb2⟩
          have hp2 := hp.kept hb2
          have HP2 := Lib.hid hp2
          obtain ⟨p0, p1, p2, p3, pb⟩ := hp2
          rw [hq] at p3 hle hle2
          obtain ⟨m, hm⟩ : ∃ m, bitsA cs = m := ⟨_, rfl⟩
          rw [hm] at p2 hlt Hor Hsn
          have c2 : W2.cell? ⟨w.heap.size + 1 + 1, 0, none⟩ = some (.int .u64 (m : Int)) := p2.cell
          have f2 : W2.frozen? ⟨w.heap.size + 1 + 1, 0, none⟩ = false := p2.frozen
          have c3 : W2.cell? ⟨w.heap.size + 1 + 1 + 1, 0, none⟩ = some (.int .i64 q) := p3.cell
          have f3 : W2.frozen? ⟨w.heap.size + 1 + 1 + 1, 0, none⟩ = false := p3.frozen
          clear p0 p1 p2 p3 pb hp hq hm
          have hc0 : (0 : Int) ≤ (c : Int) := by omega
          gi_wp2_with fail
          gi_region
          all_goals
            gi_wp2_with fail
            refine ⟨(from_below hb2).trans (more_keeps _ _).1, keeps3_t (keeps3_below hb2 HG.out) (more_keeps (B := 0) _ _).2, cs ++ [c], by rw [Hmap.out]; exact Hyes.out, Nat.lt_of_lt_of_le HG.out (((from_below (B := 0) hb2).trans (more_keeps _ _).1).size), HP2.out.more c _ ?_⟩
            rw [Hsn.out, Hsh.out, Hor.out]
      · have Hno : Hid (¬ ∃ ds, Rise ds ∧ (pre ++ [(⟨x, hx⟩ : BS)]).map (fun y : BS => y.1.data.toList) = ds.map fun c => (digB c).data.toList) := by
          show ¬ _
          rw [Hmap.out]
          exact more_no Hc.out.1 Hc.out.2 fun d hd he => absurd ⟨d, hd, he⟩ hex
        gi_wp2_with fail
        refine ⟨trivial, (CallsIn.inRound l (callsIn_wide.2 (comp_no x _ hx HV2.out fun d hd he => hex ⟨d, hd, he⟩))).mono ?_⟩
        rintro e W2 ⟨rfl, hb2⟩
        have hp2 := hp.kept hb2
        have HP2 := Lib.hid hp2
        obtain ⟨p0, p1, p2, p3, pb⟩ := hp2
        have c0 := p0.cell
        have c1 := p1.cell
        have f0 := p0.frozen
        have f1 := p1.frozen
        clear p0 p1 p2 p3 pb hp
        gi_wp2_with fail
        exact ⟨(from_below hb2).trans (two_sets 0 1 _ _ (by omega) (by omega)).1, rfl, Hno, cs, HP2.out.err _ rfl⟩
    case done =>
      rintro D ys W hD hS ⟨cs, Hc, _, hp⟩ hK
      have Hr : Hid (Reads s cs) := ⟨Hc.out.1, hS.symm.trans Hc.out.2⟩
      have HP := Lib.hid hp
      obtain ⟨p0, p1, p2, p3, pb⟩ := hp
      have HK := Lib.hid hK
      have HD := Lib.hid hD
      obtain ⟨m, hm⟩ : ∃ m, bitsA cs = m := ⟨_, rfl⟩
      rw [hm] at p2
      have c0 := p0.cell
      have c1 := p1.cell
      have c2 : W.cell? ⟨w.heap.size + 1 + 1, 0, none⟩ = some (.int .u64 (m : Int)) := p2.cell
      have f0 := p0.frozen
      have f1 := p1.frozen
      clear p0 p1 p2 p3 pb hK hD hS
      gi_wp2_with fail
      have y0 := (HP.out.1.set (.int .u64 (m : Int))).other (show w.heap.size ≠ w.heap.size + 1 by omega) (.int .i64 0)
      have y1 := (HP.out.2.1.other (show w.heap.size + 1 ≠ w.heap.size by omega) (.int .u64 (m : Int))).set (.int .i64 0)
      have yb : Below w.heap.size w ((W.setCell ⟨w.heap.size, 0, none⟩ (.int .u64 (m : Int))).setCell ⟨w.heap.size + 1, 0, none⟩ (.int .i64 0)) := (HP.out.2.2.2.2.setCell (Nat.le_refl _) _).setCell (Nat.le_succ _) _
      have hD7 : w.heap.size + 7 ≤ D := by have := HD.out; omega
      have yk : ((W.setCell ⟨w.heap.size, 0, none⟩ (.int .u64 (m : Int))).setCell ⟨w.heap.size + 1, 0, none⟩ (.int .i64 0)).heap[D]? = some (.deferred (some [])) := by
        rw [heap_setCell_other _ _ _ _ (show D ≠ w.heap.size + 1 by omega), heap_setCell_other _ _ _ _ (show D ≠ w.heap.size by omega)]; exact HK.out
      obtain ⟨z0, z1, zb⟩ := parse_end y0 y1 yb hD7 yk (.deferred none)
      refine ⟨by simp, .inl ⟨_, _, rfl, run_takeDeferred yk, ?_⟩⟩
      exact ⟨_, res_parse _ _ w.heap.size _ _ rfl rfl z0 z1, zb, .inr (.inl ⟨hd, cs, Hr.out, by rw [hm]⟩)⟩
    case stop =>
      rintro D c pre W hD hSp ⟨rfl, Hno, cs, hp⟩ hK
      have Hbad := Lib.hid (reads_not hSp Hno.out)
      gi_wp2_with fail
      obtain ⟨z0, z1, zb⟩ := parse_end hp.1 hp.2.1 hp.2.2.2.2 (by omega) hK (.deferred none)
      refine ⟨by simp, .inl ⟨_, _, rfl, run_takeDeferred hK, ?_⟩⟩
      exact ⟨_, res_parse _ _ w.heap.size _ _ rfl rfl z0 z1, zb, .inr (.inr ⟨hd, Hbad.out, rfl⟩)⟩
end Go.Proofs.YtajjikbigacbaaaDoor
