/- Own work: a range over a function whose iterator keeps its place in a captured box that it writes itself between two rounds (as the iterator of strings.SplitSeq does). The kit's contract of an iterator is closed under the turns of walks alone; here the blocks Z (laid ahead of the loop) may be turned too. -/
import Derived.RangeFuncWrites
import Derived.RangeFuncNested
import Derived.RangeFuncLeaves
import Derived.Shelf.Abstract
import Derived.WalkKit
import Derived.OwnWalkIn
import Derived.TacticsInMore
import Derived.LoopNIn
import Derived.LoopIn
import Derived.Test.YtajjikbigacbaaaGreatDoorShelf
import Derived.Test.YtajjikbigacbaaaGreatDoorNumMath
import Derived.Test.YtajjikbigacbaaaGreatDoorLabBase
import Derived.Test.YtajjikbigacbaaaGreatDoorParseMath
import Derived.Test.YtajjikbigacbaaaGreatDoorTz
import Derived.RangeFuncCalls
import Derived.RegionIn
import Derived.BigRegionIn
namespace Go
open Go.RowKit
variable {F : Fence} {n : Nat} {P : Program}

/-- An invariant that outlives the turn of a block of Z, and of what is no cells and lies at or beyond B. -/
def OwnBut {β : Type} (Z : Nat → Prop) (B : Nat) (I : β → World → Prop) : Prop :=
  ∀ s A C row, I s A → A.grownBy C row → (∀ r, row = some r → Z r ∨ (B ≤ r ∧ ∃ o : Obj, A.heap[r]? = some o ∧ o.isCells = false)) → I s C

/-- An invariant that outlives what such an iterator does: it turns a block of Z, or a walk laid since block B. -/
def BoxAbides {β : Type} (Z : Nat → Prop) (B : Nat) (J : β → World → Prop) : Prop :=
  ∀ s A C row, J s A → A.grownBy C row → (∀ r, row = some r → Z r ∨ (B ≤ r ∧ ∃ o : Obj, A.heap[r]? = some o ∧ o.isWalk = true)) → J s C

theorem OwnBut.from {β : Type} {Z : Nat → Prop} {B : Nat} {I : β → World → Prop} (h : OwnBut Z B I) : OwnFrom B I :=
  fun s A C row hs hg hr => h s A C row hs hg (fun r e => .inr (hr r e))

theorem OwnBut.and {β : Type} {Z : Nat → Prop} {B : Nat} {I K : β → World → Prop} (h : OwnBut Z B I) (k : OwnBut Z B K) : OwnBut Z B (fun s W => I s W ∧ K s W) :=
  fun s A C row hs hg hr => ⟨h s A C row hs.1 hg hr, k s A C row hs.2 hg hr⟩

/-- The contract of such an iterator. -/
def SeqBox {α : Type} (F : Fence) (n : Nat) (P : Program) (g : Nat) (lb : Array Value) (encs : α → Array Value) (Z : Nat → Prop) (Kp : World → World → Prop) (S Sp : List α → Prop) (N : Nat) (w : World) : Prop :=
  ∀ (l : Nat) (J Jx : List α → World → Prop) (W : World), Below w.heap.size w W → BoxAbides Z W.heap.size J → BoxAbides Z W.heap.size Jx →
    (∀ pre x A, J pre A → pre.length < N → YieldAt F (n - 1) P l (encs x) A fun e C =>
      (e = .returned (.bool true) ∧ J (pre ++ [x]) C ∧ Kp A C) ∨ (e = .returned (.bool false) ∧ Jx (pre ++ [x]) C)) →
    J [] W →
    CallsIn F n P g (#[.func (.yield l) #[] #[]] ++ lb) W fun e C => (∃ v, e = .returned v) ∧ ((∃ xs, S xs ∧ J xs C) ∨ (∃ pre, Sp pre ∧ Jx pre C))

/-- What is no walk and no block of Z lies as it lay. -/
theorem box_keeps {Z : Nat → Prop} {B : Nat} {A C : World} {row : Option Nat} {k : Nat} {o : Obj} (hg : A.grownBy C row)
    (hr : ∀ r, row = some r → Z r ∨ (B ≤ r ∧ ∃ o : Obj, A.heap[r]? = some o ∧ o.isWalk = true)) (hk : A.heap[k]? = some o) (hz : ¬ Z k) (ho : o.isWalk = false) : C.heap[k]? = some o := by
  refine (hg.block k (Array.getElem?_eq_some_iff.1 hk).1 (fun e => ?_)).trans hk
  rcases hr k e.symm with h | ⟨_, o', h', hw⟩
  · exact hz h
  · rw [hk] at h'; cases h'; rw [ho] at hw; cases hw

theorem wpIn_rangeFunc_box {α : Type} {g : Operand} {ps : Array Tmp} {assign body : Code} {Q : Exit → Act → World → Prop} {a : Act} {w : World}
    (hro : F.round = none) (h1 : 1 ≤ n) {gf : Nat} {lb : Array Value} (hg : a.eval g = .func (.func gf) #[] lb) (hFg : F.fn gf) (eg : ∀ args w, (callFunc gf args).run P w = .ok (.enter gf args) w)
    {encs : α → Array Value} {Z : Nat → Prop} {Kp : World → World → Prop} {S Sp : List α → Prop} {N : Nat} {w0 : World} (hseq : SeqBox F (n - 1) P gf lb encs Z Kp S Sp N w0)
    (hZ : ∀ r, Z r → r < w.heap.size)
    (hKt : ∀ {A B C : World}, Kp A B → Kp B C → Kp A C)
    (hKb : ∀ (W : World) (l : Nat) (o o' : Obj), w.heap.size ≤ l → W.heap[l]? = some o → o.isCells = false → o.isWalk = false → Kp W (W.putObj l o'))
    (hb0 : Below w0.heap.size w0 w) (hps : ∀ x, (encs x).size = ps.size)
    (I : List α → World → Prop) (Ix : Code → List α → World → Prop) (hI : OwnBut Z w.heap.size I) (hIx : ∀ c, OwnBut Z w.heap.size (Ix c)) (h0 : I [] w) (a₁ : α → Act)
    (hassign : ∀ (l : Nat) (x : α) (W : World) (K : Act → World → Prop), K (a₁ x) W →
      assign.wpIn (F.inRound l) (n - 1 - 1) P (Exit.then K (fun _ _ _ => False)) { tmps := (ps.zip (encs x)).foldl (fun t (p, v) => t.setIfInBounds p v) a.tmps, defers := [] } W)
    (hbody : ∀ (l : Nat) (pre : List α) (x : α) (W : World), I pre W → pre.length < N → body.wpIn (F.inRound l) (n - 1 - 1) P (ownPostG w.heap.size Kp I Ix (pre ++ [x]) W) (a₁ x) W)
    (hdone : ∀ (D : Nat) (xs : List α) (W : World), w.heap.size ≤ D → S xs → I xs W → W.heap[D]? = some (.deferred (some [])) → Q .normal { a with defers := { target := .collected D, args := #[] } :: a.defers } W)
    (hstop : ∀ (D : Nat) (c : Code) (pre : List α) (W : World), w.heap.size ≤ D → Sp pre → Ix c pre W → W.heap[D]? = some (.deferred (some [])) → c.wpIn F n P Q { a with defers := { target := .collected D, args := #[] } :: a.defers } W) :
    (Code.rangeFunc g ps assign body).wpIn F n P Q a w := by
  refine wpIn_rangeFunc fun fn hfn => ?_
  rw [hro]
  -- D the block of the rounds' deferred calls, L the record; both are laid by the statement itself
  generalize hD : w.heap.size = D at *
  obtain ⟨L, hL⟩ : ∃ L, L = D + 1 := ⟨_, rfl⟩
  let rec' : LoopState → Option Code → Loop := fun st pe => { state := st, pending := pe, fn, tmps := a.tmps, params := ps, assign, body, defers := D }
  let Wd := w.alloc (.deferred (some []))
  let W1 := Wd.alloc (.loop (rec' .ready none))
  have sWd : Wd.heap.size = D + 1 := by show (w.alloc _).heap.size = _; simp [hD]
  have sW1 : W1.heap.size = D + 2 := by show (Wd.alloc _).heap.size = _; simp [sWd]
  have zD : ¬ Z D := fun h => absurd (hZ _ h) (Nat.lt_irrefl _)
  have zL : ¬ Z L := fun h => by have := hZ _ h; omega
  have r1 : W1.heap[L]? = some (.loop (rec' .ready none)) := by
    have := World.alloc_heap_new Wd (.loop (rec' .ready none)); rw [sWd] at this; rw [hL]; exact this
  have d1 : W1.heap[D]? = some (.deferred (some [])) := by
    have h2 : Wd.heap[D]? = some (.deferred (some [])) := by have := World.alloc_heap_new w (.deferred (some [])); rwa [hD] at this
    exact (Below.heap_alloc _ _ _ (by rw [sWd]; omega)).trans h2
  have i1 : I [] W1 := hI.from.alloc _ (hI.from.alloc _ h0)
  have b1 : Below w0.heap.size w0 W1 := by
    have b2 : Below w0.heap.size w Wd := ((Below.refl _ w).alloc (Nat.le_refl _) _).mono hb0.size
    have b3 : Below w0.heap.size Wd W1 := ((Below.refl _ Wd).alloc (Nat.le_refl _) _).mono (by have := hb0.size; rw [sWd]; omega)
    exact (hb0.trans b2).trans b3
  refine ⟨L, [{ target := .collected D, args := #[] }], W1, { target := .fn (.func gf) lb, args := #[.func (.yield L) #[] #[]] }, W1, gf,
    #[.func (.yield L) #[] #[]] ++ lb, W1, ?_, ?_, ?_, ?_, fun _ => h1, ?_⟩
  · have := run_enterLoop_outer (P := P) fn a.tmps ps assign body (w := w); rw [hD, ← hL] at this; exact this
  · simp only [resolve, hg]; simp [go_sem]
  · intro f' hf'; simp [Target.leads] at hf'; subst hf'; exact hFg
  · simp [invoke, go_sem, eg]
  -- the record r and the block d beside the caller's invariant
  have keep : ∀ {A C : World} {row : Option Nat} {st : LoopState} {pe : Option Code}, A.grownBy C row →
      (∀ r, row = some r → Z r ∨ (W1.heap.size ≤ r ∧ ∃ o : Obj, A.heap[r]? = some o ∧ o.isWalk = true)) →
      A.heap[L]? = some (.loop (rec' st pe)) ∧ A.heap[D]? = some (.deferred (some [])) → C.heap[L]? = some (.loop (rec' st pe)) ∧ C.heap[D]? = some (.deferred (some [])) :=
    fun hg hr h => ⟨box_keeps hg hr h.1 zL rfl, box_keeps hg hr h.2 zD rfl⟩
  have wide : ∀ {A : World} {row : Option Nat}, (∀ r, row = some r → Z r ∨ (W1.heap.size ≤ r ∧ ∃ o : Obj, A.heap[r]? = some o ∧ o.isWalk = true)) →
      ∀ r, row = some r → Z r ∨ (D ≤ r ∧ ∃ o : Obj, A.heap[r]? = some o ∧ o.isCells = false) := fun hr r e => by
    rcases hr r e with h | ⟨hB, o, ho, hw⟩
    · exact .inl h
    · exact .inr ⟨by omega, o, ho, Obj.not_cells_of_walk hw⟩
  refine (hseq L (fun pre W => I pre W ∧ W.heap[L]? = some (.loop (rec' .ready none)) ∧ W.heap[D]? = some (.deferred (some [])))
    (fun pre W => ∃ c, Ix c pre W ∧ W.heap[L]? = some (.loop (rec' .done (some c))) ∧ W.heap[D]? = some (.deferred (some []))) W1 b1
    (fun s A C row hs hg' hr => ⟨hI s A C row hs.1 hg' (wide hr), keep hg' hr hs.2⟩)
    (fun s A C row ⟨c, hc, hk⟩ hg' hr => ⟨c, hIx c s A C row hc hg' (wide hr), keep hg' hr hk⟩) ?_ ⟨i1, r1, d1⟩).mono ?_
  · -- one round
    rintro pre x A ⟨hi, hl, hd⟩ hlen
    have ltL : L < A.heap.size := (Array.getElem?_eq_some_iff.1 hl).1
    let B := A.putObj L (.loop { rec' .ready none with state := .busy })
    have bl : B.heap[L]? = some (.loop { rec' .ready none with state := .busy }) := World.putObj_heap_same ltL
    have bd : B.heap[D]? = some (.deferred (some [])) := (World.putObj_heap_other (by omega)).trans hd
    have kAB : Kp A B := hKb A L _ _ (by omega) hl rfl rfl
    refine ⟨fn, _, assign, body, run_yield (P := P) (args := encs x) hl (hps x), roundIn_of_wpIn hfn (hassign _ x A _ ⟨B, run_beginRound hl rfl, ?_⟩)⟩
    refine wpIn_mono (hbody L pre x B (hI.from.putObj _ hi (by omega) hl rfl) hlen) ?_
    have close : ∀ (j : Option Code) (C : World), KeepsFrom D B C → ∃ C', C' = C.putObj L (.loop (rec' (if j.isNone then .ready else .done) j)) ∧
        C.heap[L]? = some (.loop { rec' .ready none with state := .busy }) ∧ (Instr.endRound L j).run P C = .ok (.bool j.isNone) C' ∧
        C'.heap[L]? = some (.loop (rec' (if j.isNone then .ready else .done) j)) ∧ C'.heap[D]? = some (.deferred (some [])) := fun j C hk => by
      have cl := hk.same _ _ (by omega) bl rfl
      exact ⟨_, rfl, cl, run_endRound (P := P) j cl, World.putObj_heap_same (Array.getElem?_eq_some_iff.1 cl).1, (World.putObj_heap_other (by omega)).trans (hk.same _ _ (Nat.le_refl _) bd rfl)⟩
    have left : ∀ (c : Code) (C : World), KeepsFrom D B C → Ix c (pre ++ [x]) C → ∃ v w', (Instr.endRound L (some c)).run P C = .ok v w' ∧
        ((Ending.returned v = .returned (.bool true) ∧ (I (pre ++ [x]) w' ∧ w'.heap[L]? = some (.loop (rec' .ready none)) ∧ w'.heap[D]? = some (.deferred (some []))) ∧ Kp A w') ∨
         (Ending.returned v = .returned (.bool false) ∧ ∃ c, Ix c (pre ++ [x]) w' ∧ w'.heap[L]? = some (.loop (rec' .done (some c))) ∧ w'.heap[D]? = some (.deferred (some [])))) := fun c C hk hx => by
      obtain ⟨_, rfl, cl, hr, cl', cd'⟩ := close (some c) C hk
      exact ⟨_, _, hr, .inr ⟨rfl, c, (hIx c).from.putObj _ hx (by omega) cl rfl, cl', cd'⟩⟩
    rintro e a3 C hp
    cases e with
    | normal =>
      obtain ⟨hk, kBC, hi'⟩ := hp
      obtain ⟨_, rfl, cl, hr, cl', cd'⟩ := close none C hk
      exact ⟨_, _, hr, .inl ⟨rfl, ⟨hI.from.putObj _ hi' (by omega) cl rfl, cl', cd'⟩, hKt (hKt kAB kBC) (hKb C L _ _ (by omega) cl rfl rfl)⟩⟩
    | ret => exact left _ C hp.1 hp.2
    | exit id => exact left _ C hp.1 hp.2
    | goto t => exact left _ C hp.1 hp.2
    | panic ch => exact hp.elim
    | outgrown => exact hp.elim
  · -- behind the iterator
    rintro e C ⟨⟨v, rfl⟩, (⟨xs, hS, hi, hl, hd⟩ | ⟨pre, hSp, c, hi, hl, hd⟩)⟩
    · exact ⟨none, _, run_endLoop (P := P) hl (by simp [rec']), hdone D xs _ (Nat.le_refl _) hS (hI.from.putObj _ hi (by omega) hl rfl) ((World.putObj_heap_other (by omega)).trans hd)⟩
    · exact ⟨some c, _, run_endLoop (P := P) hl (by simp [rec']), hstop D c pre _ (Nat.le_refl _) hSp ((hIx c).from.putObj _ hi (by omega) hl rfl) ((World.putObj_heap_other (by omega)).trans hd)⟩

end Go
/- Own work: strings.splitSeq's closure as an iterator that writes its own box. -/
namespace Go.Proofs.YtajjikbigacbaaaGreatDoor
open Go.RowKit Go.Shelf

attribute [local go_sem] Oper.semAt_some

def restOf (W : World) (g : Nat) : Nat := match W.cell? ⟨g, 0, none⟩ with | some (.string s) => s.size | _ => 0
theorem restOf_eq {W : World} {g : Nat} {t : TypeId} {s : ByteArray} (h : Boxed W g t (.string s)) : restOf W g = s.size := by rw [restOf, h.cell]

/-- the three boxes lie as they lay -/
def Keeps3 (g : Nat) (A B : World) : Prop := ∀ k, g ≤ k → k ≤ g + 2 → B.heap[k]? = A.heap[k]?
theorem keeps3_t {g : Nat} {A B C : World} (h : Keeps3 g A B) (k : Keeps3 g B C) : Keeps3 g A C := fun i h1 h2 => (k i h1 h2).trans (h i h1 h2)
theorem keeps3_b {g : Nat} {w : World} (hg : g + 2 < w.heap.size) (W : World) (l : Nat) (o o' : Obj) (hl : w.heap.size ≤ l) (_ : W.heap[l]? = some o) (_ : o.isCells = false) (_ : o.isWalk = false) : Keeps3 g W (W.putObj l o') :=
  fun k _ h2 => World.putObj_heap_other (by omega)
theorem keeps3_set {g b : Nat} (A : World) (v : Value) (h : b < g) : Keeps3 g A (A.setCell ⟨b, 0, none⟩ v) := fun k h1 _ => heap_setCell_other _ _ _ _ (show k ≠ b by omega)
theorem keeps3_below {g : Nat} {A B : World} (h : Below A.heap.size A B) (hg : g + 2 < A.heap.size) : Keeps3 g A B := fun k _ h2 => h.block k (by omega)
theorem Boxed.keep3 {g k : Nat} {A B : World} {t : TypeId} {v : Value} (h : Boxed A k t v) (hb : Keeps3 g A B) (h1 : g ≤ k) (h2 : k ≤ g + 2) : Boxed B k t v := (hb k h1 h2).trans h
/-- a text that is not too long -/
abbrev BS := { x : ByteArray // x.size ≤ 140737488355328 }
def onlyAt (g : Nat) : Nat → Prop := fun r => r = g

theorem Boxed.below {n₀ : Nat} {A B : World} {g : Nat} {t : TypeId} {v : Value} (h : Boxed A g t v) (hb : Below n₀ A B) (hg : g < n₀) : Boxed B g t v := (hb.block g hg).trans h

set_option maxRecDepth 100000 in
set_option maxHeartbeats 2000000 in
theorem split_in (n : Nat) (hn : 1 ≤ n) (l g B : Nat) (c : UInt8) (s0 : ByteArray) (hs0 : s0.size ≤ 140737488355328) (J Jx : List BS → World → Prop) (hJ : BoxAbides (onlyAt g) B J)
    (hY : ∀ pre x W, J pre W → pre.length < (parts c s0.data.toList).length → YieldAt Fence.wide (n - 1) Tryz.prog l #[.string (x : BS).1] W fun e W' =>
      (e = .returned (.bool true) ∧ J (pre ++ [x]) W' ∧ Keeps3 g W W') ∨ (e = .returned (.bool false) ∧ Jx (pre ++ [x]) W'))
    (W : World) (h1 : Boxed W g 9 (.string s0)) (h2 : Boxed W (g + 1) 9 (.string ⟨#[c]⟩)) (h3 : Boxed W (g + 2) 3 (.int .i64 0)) (h0 : J [] W) :
    CallsIn Fence.wide n Tryz.prog 196 #[.func (.yield l) #[] #[], .pointer (some ⟨g + 1, 0, none⟩), .pointer (some ⟨g, 0, none⟩), .pointer (some ⟨g + 2, 0, none⟩)] W fun e W' => (∃ v, e = .returned v) ∧
      ((∃ ys : List BS, ys.map (fun y : BS => y.1.data.toList) = parts c s0.data.toList ∧ J ys W') ∨ (∃ pre : List BS, pre.map (fun y : BS => y.1.data.toList) <+: parts c s0.data.toList ∧ Jx pre W')) := by
  refine callsIn_of_wp Tryz.func196 rfl trivial ?_ rfl
  simp only [Tryz.ntmps196, List.size_toArray, List.length_cons, List.length_nil, Nat.reduceAdd, Nat.reduceSub, Array.replicate_succ, Array.replicate_zero, List.push_toArray, List.append_toArray, List.nil_append, List.cons_append]
  have k2 := h2.cell
  have H1 := Lib.hid h1
  have H2 := Lib.hid h2
  have H3 := Lib.hid h3
  clear h1 h2 h3
  gi_wp2
  clear k2
  gi_loopw [7] (fun _ wr => ∃ (pre : List BS) (rest : ByteArray), rest.size ≤ s0.size ∧ Hid (pre.map (fun y : BS => y.1.data.toList) ++ parts c rest.data.toList = parts c s0.data.toList) ∧ J pre wr ∧
    Boxed wr g 9 (.string rest) ∧ Boxed wr (g + 1) 9 (.string ⟨#[c]⟩) ∧ Boxed wr (g + 2) 3 (.int .i64 0)) (fun _ wr => restOf wr g)
  case atStart => exact ⟨[], s0, Nat.le_refl _, rfl, h0, H1.out, H2.out, H3.out⟩
  case round =>
    obtain ⟨pre, rest, hle, Hp, hj, b1, b2, b3⟩ := hrel
    have c1 := b1.cell
    have c2 := b2.cell
    have c3 := b3.cell
    have Hlen : Hid (pre.length + (parts c rest.data.toList).length = (parts c s0.data.toList).length) := by
      have h := congrArg List.length Hp.out
      rw [List.length_append, List.length_map] at h
      exact h
    by_cases h : Lib.indexByte rest.data.toList c = -1
    · have hpr := parts_miss h
      have hplen : pre.length < (parts c s0.data.toList).length := by have := Hlen.out; rw [hpr] at this; simp at this; omega
      obtain ⟨fn, tmps, assign, body, hy, hR⟩ := hY pre ⟨rest, by omega⟩ wr hj hplen
      have HR := Lib.hid hR
      clear hR b1 b2 b3 hj hplen
      gi_wp2_with (refine ⟨trivial, ?_⟩; gi_at_call 150; refine (callsIn_wide.2 (Tryz.strings_Index_one rest c _)).mono ?_; rintro e w' ⟨rfl, rfl⟩; rw [h])
      refine HR.out.mono ?_
      have Hall : Hid ((pre ++ [(⟨rest, by have := hle; omega⟩ : BS)]).map (fun y : BS => y.1.data.toList) = parts c s0.data.toList) := by
        show _ = _
        rw [List.map_append, ← Hp.out, hpr]; rfl
      clear hpr
      rintro e W3 (⟨rfl, hJ3, hk3⟩ | ⟨rfl, hJx3⟩)
      · clear hk3 hy
        gi_wp2
        go_end0
        exact ⟨⟨_, rfl⟩, .inl ⟨pre ++ [⟨rest, by omega⟩], Hall.out, hJ3⟩⟩
      · clear hy
        gi_wp2
        go_end0
        exact ⟨⟨_, rfl⟩, .inr ⟨pre ++ [⟨rest, by omega⟩], by rw [Hall.out]; exact List.prefix_rfl, hJx3⟩⟩
    · obtain ⟨i, hi⟩ : ∃ i : Nat, Lib.indexByte rest.data.toList c = i := ⟨(Lib.indexByte rest.data.toList c).toNat, by have := Lib.indexByte_ge rest.data.toList c; omega⟩
      obtain ⟨hil, hpr⟩ := parts_hit hi
      have hil2 : i < rest.size := by simpa using hil
      have hxs : (rest.extract 0 i).size ≤ 140737488355328 := by rw [ByteArray.size_extract]; omega
      have hplen : pre.length < (parts c s0.data.toList).length := by have := Hlen.out; rw [hpr] at this; simp at this; omega
      obtain ⟨fn, tmps, assign, body, hy, hR⟩ := hY pre ⟨rest.extract 0 i, hxs⟩ wr hj hplen
      have HR := Lib.hid hR
      have Hpr := Lib.hid hpr
      clear hR hj hplen h hil hpr
      have hw0 : IntKind.i64.wrap ((i : Int) + 0) = (i : Int) := by rw [Int.add_zero]; simp only [IntKind.wrap, IntKind.bits, IntKind.signed]; simp; omega
      have hlt : ((i : Int) < 0) = False := by simp
      gi_wp2_with (refine ⟨trivial, ?_⟩; gi_at_call 150; refine (callsIn_wide.2 (Tryz.strings_Index_one rest c _)).mono ?_; rintro e w' ⟨rfl, rfl⟩; rw [hi])
      refine HR.out.mono ?_
      have e0 : (rest.extract 0 i).data.toList = rest.data.toList.take i := by rw [Lib.extract_data]; simp
      have e1 : (rest.extract (i + 1) rest.size).data.toList = rest.data.toList.drop (i + 1) := by
        rw [Lib.extract_data]; exact List.take_of_length_le (by simp)
      have Hnext : Hid ((pre ++ [(⟨rest.extract 0 i, hxs⟩ : BS)]).map (fun y : BS => y.1.data.toList) ++ parts c (rest.extract (i + 1) rest.size).data.toList = parts c s0.data.toList) := by
        show _ = _
        rw [← Hp.out, Hpr.out, List.map_append, e1, ← e0, List.append_assoc]; rfl
      clear e0 e1
      rintro e W3 (⟨rfl, hJ3, hk3⟩ | ⟨rfl, hJx3⟩)
      · have B1 := Lib.hid (Boxed.keep3 b1 hk3 (by omega) (by omega))
        have B2 := Lib.hid (Boxed.keep3 b2 hk3 (by omega) (by omega))
        have B3 := Lib.hid (Boxed.keep3 b3 hk3 (by omega) (by omega))
        have Hold := Lib.hid (restOf_eq b1)
        clear b1 b2 b3 c1 c2 c3 hk3 hy
        have c1 := B1.out.cell
        have c2 := B2.out.cell
        have c3 := B3.out.cell
        have f1 := B1.out.frozen
        have hw1 : IntKind.i64.wrap ((i : Int) + 1) = (i : Int) + 1 := by simp only [IntKind.wrap, IntKind.bits, IntKind.signed]; simp; omega
        gi_wp2
        go_roundw
        case rel =>
          refine ⟨pre ++ [(⟨rest.extract 0 i, hxs⟩ : BS)], rest.extract (i + 1) rest.size, by rw [ByteArray.size_extract]; omega, Hnext, ?_, B1.out.set _, B2.out.other (by omega) _, B3.out.other (by omega) _⟩
          exact hJ _ W3 _ (some g) hJ3 (grownBy_setCell' W3 g _) (fun r e => .inl (by cases e; rfl))
        case measure =>
          rw [Hold.out, restOf_eq (B1.out.set _), ByteArray.size_extract]; omega
      · clear hy
        gi_wp2
        (try simp only [Exit.inBlock, Exit.then])
        refine bodyPost_ret (results_none rfl _ _ _) rfl ?_
        refine ⟨⟨_, rfl⟩, .inr ⟨pre ++ [(⟨rest.extract 0 i, hxs⟩ : BS)], ?_, hJx3⟩⟩
        rw [← Hnext.out]; exact List.prefix_append _ _

/-- the parts come one by one, in their order -/
theorem split_seq (n : Nat) (hn : 1 ≤ n) (g : Nat) (c : UInt8) (s0 : ByteArray) (hs0 : s0.size ≤ 140737488355328) (w : World)
    (h1 : Boxed w g 9 (.string s0)) (h2 : Boxed w (g + 1) 9 (.string ⟨#[c]⟩)) (h3 : Boxed w (g + 2) 3 (.int .i64 0)) :
    SeqBox Fence.wide n Tryz.prog 196 #[.pointer (some ⟨g + 1, 0, none⟩), .pointer (some ⟨g, 0, none⟩), .pointer (some ⟨g + 2, 0, none⟩)] (fun x : BS => #[Value.string x.1]) (onlyAt g) (Keeps3 g)
      (fun ys => ys.map (fun y : BS => y.1.data.toList) = parts c s0.data.toList) (fun pre => pre.map (fun y : BS => y.1.data.toList) <+: parts c s0.data.toList) (parts c s0.data.toList).length w := fun l J Jx W hW hJ _ hY h0 =>
  split_in n hn l g W.heap.size c s0 hs0 J Jx hJ hY W (Boxed.below h1 hW h1.lt) (Boxed.below h2 hW h2.lt) (Boxed.below h3 hW h3.lt) h0

end Go.Proofs.YtajjikbigacbaaaGreatDoor
/- Own work: strings.SplitSeq at a separator of one byte. -/
namespace Go.Proofs.YtajjikbigacbaaaGreatDoor
open Go.RowKit

/-- the closure over three new boxes: the text, the separator, nothing saved of it -/
def SplitPost (w : World) (s : ByteArray) (c : UInt8) (e : Ending) (w' : World) : Prop :=
  e = .returned (.func (.func 196) #[] #[.pointer (some ⟨w.heap.size + 1, 0, none⟩), .pointer (some ⟨w.heap.size, 0, none⟩), .pointer (some ⟨w.heap.size + 2, 0, none⟩)]) ∧
  w'.heap.size = w.heap.size + 3 ∧ Below w.heap.size w w' ∧ Boxed w' w.heap.size 9 (.string s) ∧ Boxed w' (w.heap.size + 1) 9 (.string ⟨#[c]⟩) ∧ Boxed w' (w.heap.size + 2) 3 (.int .i64 0)

set_option maxRecDepth 100000 in
set_option maxHeartbeats 2000000 in
theorem splitSeq_boxes (s : ByteArray) (c : UInt8) (w : World) : Calls Tryz.prog 175 #[.string s, .string ⟨#[c]⟩, .int .i64 0] w (SplitPost w s c) := by
  go_enter Tryz.func175, Tryz.ntmps175
  go_wp2_with fail
  go_ret
  obtain ⟨h1, h2, h3, h4, h5⟩ := three_cells w (.string s) (.string ⟨#[c]⟩) (.int .i64 0) 9 9 3
  exact ⟨rfl, h1, h2, h3, h4, h5⟩

set_option maxRecDepth 100000 in
set_option maxHeartbeats 2000000 in
theorem split_any (s : ByteArray) (c : UInt8) (w : World) : Calls Tryz.prog 146 #[.string s, .string ⟨#[c]⟩] w (SplitPost w s c) := by
  go_enter Tryz.func146, Tryz.ntmps146
  go_wp2_with fail
  refine (splitSeq_boxes s c w).mono ?_
  rintro e w' ⟨rfl, h1, h2, h3, h4, h5⟩
  go_wp2_with fail
  go_ret
  exact ⟨rfl, h1, h2, h3, h4, h5⟩
end Go.Proofs.YtajjikbigacbaaaGreatDoor
/- Own work: label.Parse. -/
namespace Go.Proofs.YtajjikbigacbaaaGreatDoor
open Go.RowKit Go.Shelf

attribute [local go_sem] Oper.semAt_some

theorem res_parse (w : World) (tmps : Array Value) (g : Nat) (u v : Value) (hp : tmps.getD 2 undef = .pointer (some ⟨g, 0, none⟩)) (hq : tmps.getD 3 undef = .pointer (some ⟨g + 1, 0, none⟩)) (hc : w.cell? ⟨g, 0, none⟩ = some u) (hd : w.cell? ⟨g + 1, 0, none⟩ = some v) :
    (results Tryz.f110 tmps).run Tryz.prog w = .ok (.tuple #[u, v]) w := by
  have hp' : tmps[2]?.getD undef = .pointer (some ⟨g, 0, none⟩) := by simpa using hp
  have hq' : tmps[3]?.getD undef = .pointer (some ⟨g + 1, 0, none⟩) := by simpa using hq
  simp [results, Tryz.results110, hp', hq', asAddr, go_sem, hc, hd]

def dashB : ByteArray := ⟨#[45]⟩
def ParsePost (w : World) (s : ByteArray) (e : Ending) (w' : World) : Prop :=
  Below w.heap.size w w' ∧ ((s = dashB ∧ e = .returned (.tuple #[.int .u64 0, .int .i64 0])) ∨
    (s ≠ dashB ∧ ∃ cs, Reads s cs ∧ e = .returned (.tuple #[.int .u64 (bitsA cs : Nat), .int .i64 0])) ∨
    (s ≠ dashB ∧ (¬ ∃ cs, Reads s cs) ∧ e = .returned (.tuple #[.int .u64 0, .int .i64 4])))

theorem ErrVars.kept {w w' : World} (h : ErrVars w) (hb : Below w.heap.size w w') : ErrVars w' := by
  have go : ∀ n cs, w.var? Tryz.prog n = some cs → w'.var? Tryz.prog n = some cs := fun n cs h => by
    cases hg : Tryz.prog.globalNamed n with
    | none => simp [World.var?, hg] at h
    | some g => exact Go.Joins.var_stays hg h hb (Nat.le_refl _)
  obtain ⟨a, b, h1⟩ := h.syn
  obtain ⟨c, d, h2⟩ := h.rng
  exact ⟨⟨a, b, go _ _ h1⟩, ⟨c, d, go _ _ h2⟩⟩
theorem boxed_but {Z : Nat → Prop} {B k : Nat} {A C : World} {row : Option Nat} {t : TypeId} {v : Value} (h : Boxed A k t v) (hg : A.grownBy C row)
    (hr : ∀ r, row = some r → Z r ∨ (B ≤ r ∧ ∃ o : Obj, A.heap[r]? = some o ∧ o.isCells = false)) (hz : ¬ Z k) : Boxed C k t v := by
  refine h.kept hg fun e => ?_
  rcases hr k e.symm with h1 | ⟨_, o, ho, hc⟩
  · exact hz h1
  · rw [show A.heap[k]? = _ from h] at ho; cases ho; cases hc
theorem from_below {B : Nat} {A C : World} (h : Below A.heap.size A C) : KeepsFrom B A C := ⟨h.size, fun k _ _ hk _ => (h.block k (Array.getElem?_eq_some_iff.1 hk).1).trans hk⟩

/-- the two results, what is read so far, and its last compartment lie in their cells -/
def PAt (w : World) (u : Nat) (e : Int) (cs : List Nat) (W : World) : Prop :=
  Boxed W w.heap.size 24 (.int .u64 (u : Int)) ∧ Boxed W (w.heap.size + 1) 26 (.int .i64 e) ∧ Boxed W (w.heap.size + 2) 24 (.int .u64 (bitsA cs : Nat)) ∧
  Boxed W (w.heap.size + 3) 3 (.int .i64 (lastC cs)) ∧ Below w.heap.size w W
theorem PAt.but {w A C : World} {u : Nat} {e : Int} {cs : List Nat} {g B : Nat} {row : Option Nat} (h : PAt w u e cs A) (hg : A.grownBy C row)
    (hr : ∀ r, row = some r → onlyAt g r ∨ (B ≤ r ∧ ∃ o : Obj, A.heap[r]? = some o ∧ o.isCells = false)) (h1 : g = w.heap.size + 4) (h2 : w.heap.size ≤ B) : PAt w u e cs C := by
  obtain ⟨a, b, c, d, hb⟩ := h
  refine ⟨boxed_but a hg hr ?_, boxed_but b hg hr ?_, boxed_but c hg hr ?_, boxed_but d hg hr ?_, hb.grown hg hb.size fun k e => ?_⟩
  iterate 4 (unfold onlyAt; omega)
  rcases hr k e with h | ⟨h, _⟩
  · unfold onlyAt at h; omega
  · omega
theorem PAt.kept {w A C : World} {u : Nat} {e : Int} {cs : List Nat} (h : PAt w u e cs A) (hb : Below A.heap.size A C) : PAt w u e cs C :=
  ⟨Boxed.below h.1 hb h.1.lt, Boxed.below h.2.1 hb h.2.1.lt, Boxed.below h.2.2.1 hb h.2.2.1.lt, Boxed.below h.2.2.2.1 hb h.2.2.2.1.lt, below_join h.2.2.2.2 hb⟩

theorem four_cells (w : World) (u v x y : Value) (t1 t2 t3 t4 : TypeId) : ((((w.alloc (.cells #[u] t1)).alloc (.cells #[v] t2)).alloc (.cells #[x] t3)).alloc (.cells #[y] t4)).heap.size = w.heap.size + 4 ∧
    Below w.heap.size w ((((w.alloc (.cells #[u] t1)).alloc (.cells #[v] t2)).alloc (.cells #[x] t3)).alloc (.cells #[y] t4)) ∧
    Boxed ((((w.alloc (.cells #[u] t1)).alloc (.cells #[v] t2)).alloc (.cells #[x] t3)).alloc (.cells #[y] t4)) w.heap.size t1 u ∧
    Boxed ((((w.alloc (.cells #[u] t1)).alloc (.cells #[v] t2)).alloc (.cells #[x] t3)).alloc (.cells #[y] t4)) (w.heap.size + 1) t2 v ∧
    Boxed ((((w.alloc (.cells #[u] t1)).alloc (.cells #[v] t2)).alloc (.cells #[x] t3)).alloc (.cells #[y] t4)) (w.heap.size + 2) t3 x ∧
    Boxed ((((w.alloc (.cells #[u] t1)).alloc (.cells #[v] t2)).alloc (.cells #[x] t3)).alloc (.cells #[y] t4)) (w.heap.size + 3) t4 y := by
  obtain ⟨h1, h2, h3, h4, h5⟩ := three_cells w u v x t1 t2 t3
  generalize ((w.alloc (.cells #[u] t1)).alloc (.cells #[v] t2)).alloc (.cells #[x] t3) = w3 at *
  refine ⟨by rw [World.size_alloc, h1], h2.alloc (by omega) _, Boxed.alloc h3 _, Boxed.alloc h4 _, Boxed.alloc h5 _, ?_⟩
  have := Boxed.new w3 t4 y
  rwa [h1] at this

theorem PAt.err {w A : World} {cs : List Nat} (h : PAt w 0 0 cs A) (v : Value) (hv : v = .int .i64 4) : PAt w 0 4 cs ((A.setCell ⟨w.heap.size, 0, none⟩ (.int .u64 0)).setCell ⟨w.heap.size + 1, 0, none⟩ v) := by
  subst hv
  obtain ⟨a, b, c, d, hb⟩ := h
  exact ⟨(a.set _).other (by omega) _, (b.other (by omega) _).set _, (c.other (by omega) _).other (by omega) _, (d.other (by omega) _).other (by omega) _,
    (hb.setCell (Nat.le_refl _) _).setCell (Nat.le_succ _) _⟩
theorem keeps3_drew (g : Nat) (A : World) : Keeps3 g A A.drew := fun _ _ _ => rfl
theorem below_drew (B : Nat) (A : World) : Below B A A.drew := ⟨rfl, rfl, rfl, Nat.le_refl _, fun _ _ => rfl⟩
theorem PAt.more {w A : World} {cs : List Nat} (h : PAt w 0 0 cs A) (c : Nat) (v : Value) (hv : v = .int .u64 (bitsA (cs ++ [c]) : Nat)) :
    PAt w 0 0 (cs ++ [c]) (((A.setCell ⟨w.heap.size + 1 + 1, 0, none⟩ v).drew).setCell ⟨w.heap.size + 1 + 1 + 1, 0, none⟩ (.int .i64 (c : Int))) := by
  subst hv
  obtain ⟨a, b, c', d, hb⟩ := h
  have a1 : Boxed (A.setCell ⟨w.heap.size + 1 + 1, 0, none⟩ (.int .u64 (bitsA (cs ++ [c]) : Nat))).drew w.heap.size _ _ := a.other (by omega) _
  have b1 : Boxed (A.setCell ⟨w.heap.size + 1 + 1, 0, none⟩ (.int .u64 (bitsA (cs ++ [c]) : Nat))).drew (w.heap.size + 1) _ _ := b.other (by omega) _
  have c1 : Boxed (A.setCell ⟨w.heap.size + 1 + 1, 0, none⟩ (.int .u64 (bitsA (cs ++ [c]) : Nat))).drew (w.heap.size + 2) _ _ := c'.set _
  have d1 : Boxed (A.setCell ⟨w.heap.size + 1 + 1, 0, none⟩ (.int .u64 (bitsA (cs ++ [c]) : Nat))).drew (w.heap.size + 3) _ _ := d.other (by omega) _
  refine ⟨a1.other (by omega) _, b1.other (by omega) _, c1.other (by omega) _, ?_,
    ((hb.setCell (by show _ ≤ w.heap.size + 2; omega) _).trans (below_drew _ _)).setCell (by show _ ≤ w.heap.size + 3; omega) _⟩
  rw [lastC_snoc]
  exact d1.set _
theorem more_keeps {w A : World} {B : Nat} (u v : Value) :
    KeepsFrom B A (((A.setCell ⟨w.heap.size + 1 + 1, 0, none⟩ u).drew).setCell ⟨w.heap.size + 1 + 1 + 1, 0, none⟩ v) ∧ Keeps3 (w.heap.size + 4) A (((A.setCell ⟨w.heap.size + 1 + 1, 0, none⟩ u).drew).setCell ⟨w.heap.size + 1 + 1 + 1, 0, none⟩ v) :=
  ⟨(((KeepsOthers.setCell _ _ _).trans (KeepsOthers.drew _)).trans (KeepsOthers.setCell _ _ _)).from _,
   keeps3_t (keeps3_set (b := w.heap.size + 1 + 1) A u (by omega)) (keeps3_t (keeps3_drew _ _) (keeps3_set (b := w.heap.size + 1 + 1 + 1) _ v (by omega)))⟩
/-- at the return the block of the rounds' deferred calls is turned once more -/
theorem parse_end {w X : World} {D : Nat} {u v : Value} {t t' : TypeId} (h0 : Boxed X w.heap.size t u) (h1 : Boxed X (w.heap.size + 1) t' v) (hB : Below w.heap.size w X) (hD : w.heap.size + 7 ≤ D) (hK : X.heap[D]? = some (.deferred (some []))) (o : Obj) :
    (X.putObj D o).cell? ⟨w.heap.size, 0, none⟩ = some u ∧ (X.putObj D o).cell? ⟨w.heap.size + 1, 0, none⟩ = some v ∧ Below w.heap.size w (X.putObj D o) := by
  refine ⟨?_, ?_, hB.trans (belowK_b (w := w) (Nat.le_refl _) _ D _ _ (by omega) hK rfl rfl)⟩
  · exact (World.cell?_of_block (World.putObj_heap_other (by show w.heap.size ≠ D; omega))).trans h0.cell
  · exact (World.cell?_of_block (World.putObj_heap_other (by show w.heap.size + 1 ≠ D; omega))).trans h1.cell
theorem two_sets {w A : World} {B : Nat} (i j : Nat) (u v : Value) (hi : i < 4) (hj : j < 4) :
    KeepsFrom B A ((A.setCell ⟨w.heap.size + i, 0, none⟩ u).setCell ⟨w.heap.size + j, 0, none⟩ v) ∧ Keeps3 (w.heap.size + 4) A ((A.setCell ⟨w.heap.size + i, 0, none⟩ u).setCell ⟨w.heap.size + j, 0, none⟩ v) :=
  ⟨((KeepsOthers.setCell _ _ _).trans (KeepsOthers.setCell _ _ _)).from _, keeps3_t (keeps3_set _ _ (by omega)) (keeps3_set _ _ (by omega))⟩

set_option maxRecDepth 100000 in
set_option maxHeartbeats 8000000 in
theorem parse_any (s : ByteArray) (w : World) (hs : s.size ≤ 140737488355328) (hv : ErrVars w) : Calls Tryz.prog 110 #[.string s] w (ParsePost w s) := by
  have HV := Lib.hid hv
  clear hv
  refine (callsIn_wide (n := 5)).1 ?_
  refine callsIn_of_wp_marks Tryz.func110 rfl trivial ?_ rfl
  simp only [Tryz.ntmps110, List.size_toArray, List.length_cons, List.length_nil, Nat.reduceAdd, Nat.reduceSub, Array.replicate_succ, Array.replicate_zero, List.push_toArray, List.append_toArray, List.nil_append, List.cons_append]
  have e45 : (⟨#[45]⟩ : ByteArray).toList = [45] := by rw [Lib.toList_data]
  by_cases hd : s = dashB
  · have hne : (s.toList == [45]) = true := by rw [hd, dashB, e45]; rfl
    have Hd := Lib.hid hd
    clear hd e45
    gi_wp2_with fail
    obtain ⟨s2, b2, r2, r3⟩ := two_cells w (.int .u64 0) (.int .i64 0) 24 26
    exact ⟨_, res_parse _ _ w.heap.size _ _ rfl rfl (cell_of_one r2) (cell_of_one r3), b2, .inl ⟨Hd.out, rfl⟩⟩
  · have hne : (s.toList == [45]) = false := by rw [← e45, bytes_same]; simpa [dashB] using hd
    clear e45
    gi_wp2_with fail
    refine ⟨trivial, (callsIn_wide.2 (split_any s 43 _)).mono ?_⟩
    obtain ⟨s4, b4, r0, r1, r2, r3⟩ := four_cells w (.int .u64 0) (.int .i64 0) (.int .u64 0) (.int .i64 (-1)) 24 26 24 3
    obtain ⟨w4, hw4⟩ : ∃ w4, ((((w.alloc (.cells #[.int .u64 0] 24)).alloc (.cells #[.int .i64 0] 26)).alloc (.cells #[.int .u64 0] 24)).alloc (.cells #[.int .i64 (-1)] 3)) = w4 := ⟨_, rfl⟩
    rw [hw4] at s4 b4 r0 r1 r2 r3 ⊢
    clear hw4
    rintro e w5 ⟨rfl, s5, b5, x0, x1, x2⟩
    have P5 : PAt w 0 0 [] w5 := PAt.kept ⟨r0, r1, r2, r3, b4⟩ b5
    have hg5 : w5.heap.size = w.heap.size + 7 := by omega
    rw [s4] at x0 x1 x2 ⊢
    clear r0 r1 r2 r3 hne s5 b5 b4 s4
    gi_wp2_with fail
    refine' wpIn_rangeFunc_box rfl (by decide) (gf := 196) (lb := #[.pointer (some ⟨w.heap.size + 4 + 1, 0, none⟩), .pointer (some ⟨w.heap.size + 4, 0, none⟩), .pointer (some ⟨w.heap.size + 4 + 2, 0, none⟩)]) rfl trivial (enters_of Tryz.func196 (by kernel_rfl) rfl)
      (split_seq 4 (by decide) (w.heap.size + 4) 43 s hs w5 x0 x1 x2) ?hZ keeps3_t (keeps3_b (by omega)) (Below.refl _ _) (fun _ => rfl)
      (fun pre W => ∃ cs, Hid (Rise cs ∧ pre.map (fun y : BS => y.1.data.toList) = cs.map fun c => (digB c).data.toList) ∧ w.heap.size + 4 + 2 < W.heap.size ∧ PAt w 0 0 cs W)
      (fun c pre W => c = .ret ∧ Hid (¬ ∃ cs, Rise cs ∧ pre.map (fun y : BS => y.1.data.toList) = cs.map fun c => (digB c).data.toList) ∧ ∃ cs, PAt w 0 4 cs W) ?hI ?hIx ?h0 _ ?assign ?body ?done ?stop
    case hZ => intro r hr; unfold onlyAt at hr; omega
    case assign =>
      intro l x W K hK
      gi_wp2
      exact hK
    case hI =>
      rintro _ A C row ⟨cs, h1, hsz, h2⟩ hg hr
      exact ⟨cs, h1, Nat.lt_of_lt_of_le hsz hg.size, h2.but hg hr (by omega) (by omega)⟩
    case hIx =>
      rintro c _ A C row ⟨h0, h1, cs, h2⟩ hg hr
      exact ⟨h0, h1, cs, h2.but hg hr (by omega) (by omega)⟩
    case h0 => exact ⟨[], ⟨rise_nil, rfl⟩, by omega, P5⟩
    case body =>
      rintro l pre ⟨x, hx⟩ W ⟨cs, Hc, hsz, hp⟩ hlt
      have HV2 := Lib.hid (HV.out.kept hp.2.2.2.2)
      have hmap : (pre ++ [(⟨x, hx⟩ : BS)]).map (fun y : BS => y.1.data.toList) = pre.map (fun y : BS => y.1.data.toList) ++ [x.data.toList] := by rw [List.map_append]; rfl
      have Hmap := Lib.hid hmap
      have Hl := Lib.hid (lastC_lt Hc.out.1)
      have HG := Lib.hid hsz
      clear hlt hmap hsz
      by_cases hex : ∃ c : Nat, c < 64 ∧ digB c = x
      · obtain ⟨c, hc, hcx⟩ := hex
        have Hcx := Lib.hid hcx
        subst hcx
        by_cases hle : (c : Int) ≤ lastC cs
        · have Hno : Hid (¬ ∃ ds, Rise ds ∧ (pre ++ [(⟨digB c, hx⟩ : BS)]).map (fun y : BS => y.1.data.toList) = ds.map fun c => (digB c).data.toList) := by
            show ¬ _
            rw [Hmap.out]
            exact more_no Hc.out.1 Hc.out.2 fun d hd he => by have := digB_inj hd hc he; subst this; omega
          obtain ⟨q, hq⟩ : ∃ q, lastC cs = q := ⟨_, rfl⟩
          gi_wp2_with fail
          refine ⟨trivial, (CallsIn.inRound l (callsIn_wide.2 (comp_yes c hc _))).mono ?_⟩
          rintro e W2 ⟨rfl, hb2⟩
          have hp2 := hp.kept hb2
          have HP2 := Lib.hid hp2
          obtain ⟨p0, p1, p2, p3, pb⟩ := hp2
          rw [hq] at p3 hle
          have c0 := p0.cell
          have c1 := p1.cell
          have c3 : W2.cell? ⟨w.heap.size + 1 + 1 + 1, 0, none⟩ = some (.int .i64 q) := p3.cell
          have f0 := p0.frozen
          have f1 := p1.frozen
          clear p0 p1 p2 p3 pb hp hq
          gi_wp2_with fail
          exact ⟨(from_below hb2).trans (two_sets 0 1 _ _ (by omega) (by omega)).1, rfl, Hno, cs, HP2.out.err _ rfl⟩
        · have Hyes := Lib.hid (more_yes Hc.out.1 Hc.out.2 hc (by omega))
          have Hsn := Lib.hid (bitsA_snoc cs c)
          have hlt := bitsA_lt Hc.out.1
          have Hsh := Lib.hid (shl_one c hc)
          have Hp2 := Lib.hid (Nat.pow_lt_pow_right (by decide) hc : 2 ^ c < 2 ^ 64)
          have Hor := Lib.hid (bits_or_u64_nat (bitsA cs) (2 ^ c) hlt Hp2.out)
          have hle2 : lastC cs < (c : Int) := by omega
          obtain ⟨q, hq⟩ : ∃ q, lastC cs = q := ⟨_, rfl⟩
          gi_wp2_with fail
          refine ⟨trivial, (CallsIn.inRound l (callsIn_wide.2 (comp_yes c hc _))).mono ?_⟩
          rintro e W2 ⟨rfl, hb2⟩
          have hp2 := hp.kept hb2
          have HP2 := Lib.hid hp2
          obtain ⟨p0, p1, p2, p3, pb⟩ := hp2
          rw [hq] at p3 hle hle2
          obtain ⟨m, hm⟩ : ∃ m, bitsA cs = m := ⟨_, rfl⟩
          rw [hm] at p2 hlt Hor Hsn
          have c2 : W2.cell? ⟨w.heap.size + 1 + 1, 0, none⟩ = some (.int .u64 (m : Int)) := p2.cell
          have f2 : W2.frozen? ⟨w.heap.size + 1 + 1, 0, none⟩ = false := p2.frozen
          have c3 : W2.cell? ⟨w.heap.size + 1 + 1 + 1, 0, none⟩ = some (.int .i64 q) := p3.cell
          have f3 : W2.frozen? ⟨w.heap.size + 1 + 1 + 1, 0, none⟩ = false := p3.frozen
          clear p0 p1 p2 p3 pb hp hq hm
          have hc0 : (0 : Int) ≤ (c : Int) := by omega
          gi_wp2_with fail
          gi_region
          all_goals
            gi_wp2_with fail
            refine ⟨(from_below hb2).trans (more_keeps _ _).1, keeps3_t (keeps3_below hb2 HG.out) (more_keeps (B := 0) _ _).2, cs ++ [c], by rw [Hmap.out]; exact Hyes.out, Nat.lt_of_lt_of_le HG.out (((from_below (B := 0) hb2).trans (more_keeps _ _).1).size), HP2.out.more c _ ?_⟩
            rw [Hsn.out, Hsh.out, Hor.out]
      · have Hno : Hid (¬ ∃ ds, Rise ds ∧ (pre ++ [(⟨x, hx⟩ : BS)]).map (fun y : BS => y.1.data.toList) = ds.map fun c => (digB c).data.toList) := by
          show ¬ _
          rw [Hmap.out]
          exact more_no Hc.out.1 Hc.out.2 fun d hd he => absurd ⟨d, hd, he⟩ hex
        gi_wp2_with fail
        refine ⟨trivial, (CallsIn.inRound l (callsIn_wide.2 (comp_no x _ hx HV2.out fun d hd he => hex ⟨d, hd, he⟩))).mono ?_⟩
        rintro e W2 ⟨rfl, hb2⟩
        have hp2 := hp.kept hb2
        have HP2 := Lib.hid hp2
        obtain ⟨p0, p1, p2, p3, pb⟩ := hp2
        have c0 := p0.cell
        have c1 := p1.cell
        have f0 := p0.frozen
        have f1 := p1.frozen
        clear p0 p1 p2 p3 pb hp
        gi_wp2_with fail
        exact ⟨(from_below hb2).trans (two_sets 0 1 _ _ (by omega) (by omega)).1, rfl, Hno, cs, HP2.out.err _ rfl⟩
    case done =>
      rintro D ys W hD hS ⟨cs, Hc, _, hp⟩ hK
      have Hr : Hid (Reads s cs) := ⟨Hc.out.1, hS.symm.trans Hc.out.2⟩
      have HP := Lib.hid hp
      obtain ⟨p0, p1, p2, p3, pb⟩ := hp
      have HK := Lib.hid hK
      have HD := Lib.hid hD
      obtain ⟨m, hm⟩ : ∃ m, bitsA cs = m := ⟨_, rfl⟩
      rw [hm] at p2
      have c0 := p0.cell
      have c1 := p1.cell
      have c2 : W.cell? ⟨w.heap.size + 1 + 1, 0, none⟩ = some (.int .u64 (m : Int)) := p2.cell
      have f0 := p0.frozen
      have f1 := p1.frozen
      clear p0 p1 p2 p3 pb hK hD hS
      gi_wp2_with fail
      have y0 := (HP.out.1.set (.int .u64 (m : Int))).other (show w.heap.size ≠ w.heap.size + 1 by omega) (.int .i64 0)
      have y1 := (HP.out.2.1.other (show w.heap.size + 1 ≠ w.heap.size by omega) (.int .u64 (m : Int))).set (.int .i64 0)
      have yb : Below w.heap.size w ((W.setCell ⟨w.heap.size, 0, none⟩ (.int .u64 (m : Int))).setCell ⟨w.heap.size + 1, 0, none⟩ (.int .i64 0)) := (HP.out.2.2.2.2.setCell (Nat.le_refl _) _).setCell (Nat.le_succ _) _
      have hD7 : w.heap.size + 7 ≤ D := by have := HD.out; omega
      have yk : ((W.setCell ⟨w.heap.size, 0, none⟩ (.int .u64 (m : Int))).setCell ⟨w.heap.size + 1, 0, none⟩ (.int .i64 0)).heap[D]? = some (.deferred (some [])) := by
        rw [heap_setCell_other _ _ _ _ (show D ≠ w.heap.size + 1 by omega), heap_setCell_other _ _ _ _ (show D ≠ w.heap.size by omega)]; exact HK.out
      obtain ⟨z0, z1, zb⟩ := parse_end y0 y1 yb hD7 yk (.deferred none)
      refine ⟨by simp, .inl ⟨_, _, rfl, run_takeDeferred yk, ?_⟩⟩
      exact ⟨_, res_parse _ _ w.heap.size _ _ rfl rfl z0 z1, zb, .inr (.inl ⟨hd, cs, Hr.out, by rw [hm]⟩)⟩
    case stop =>
      rintro D c pre W hD hSp ⟨rfl, Hno, cs, hp⟩ hK
      have Hbad := Lib.hid (reads_not hSp Hno.out)
      gi_wp2_with fail
      obtain ⟨z0, z1, zb⟩ := parse_end hp.1 hp.2.1 hp.2.2.2.2 (by omega) hK (.deferred none)
      refine ⟨by simp, .inl ⟨_, _, rfl, run_takeDeferred hK, ?_⟩⟩
      exact ⟨_, res_parse _ _ w.heap.size _ _ rfl rfl z0 z1, zb, .inr (.inr ⟨hd, Hbad.out, rfl⟩)⟩
end Go.Proofs.YtajjikbigacbaaaGreatDoor
