/- Own work: a range over a function whose iterator keeps its place in a captured box that it writes itself between two rounds (as the iterator of strings.SplitSeq does). The kit's contract of an iterator is closed under the turns of walks alone; here the blocks Z (laid ahead of the loop) may be turned too. -/
import Derived.RangeFuncWrites
namespace Go
open Go.RowKit
variable {F : Fence} {n : Nat} {P : Program}

/-- An invariant that outlives the turn of a block of Z, and of what is no cells and lies at or beyond B. -/
def OwnBut {β : Type} (Z : Nat → Prop) (B : Nat) (I : β → World → Prop) : Prop :=
  ∀ s A C row, I s A → A.grownBy C row → (∀ r, row = some r → Z r ∨ (B ≤ r ∧ ∃ o : Obj, A.heap[r]? = some o ∧ o.isCells = false)) → I s C

/-- An invariant that outlives what such an iterator does: it turns a block of Z, or a walk laid since block B. -/
def BoxAbides {β : Type} (Z : Nat → Prop) (B : Nat) (J : β → World → Prop) : Prop :=
  ∀ s A C row, J s A → A.grownBy C row → (∀ r, row = some r → Z r ∨ (B ≤ r ∧ ∃ o : Obj, A.heap[r]? = some o ∧ o.isWalk = true)) → J s C

theorem OwnBut.from {β : Type} {Z : Nat → Prop} {B : Nat} {I : β → World → Prop} (h : OwnBut Z B I) : OwnFrom B I :=
  fun s A C row hs hg hr => h s A C row hs hg (fun r e => .inr (hr r e))

theorem OwnBut.and {β : Type} {Z : Nat → Prop} {B : Nat} {I K : β → World → Prop} (h : OwnBut Z B I) (k : OwnBut Z B K) : OwnBut Z B (fun s W => I s W ∧ K s W) :=
  fun s A C row hs hg hr => ⟨h s A C row hs.1 hg hr, k s A C row hs.2 hg hr⟩

/-- The contract of such an iterator. -/
def SeqBox {α : Type} (F : Fence) (n : Nat) (P : Program) (g : Nat) (lb : Array Value) (encs : α → Array Value) (Z : Nat → Prop) (Kp : World → World → Prop) (S Sp : List α → Prop) (N : Nat) (w : World) : Prop :=
  ∀ (l : Nat) (J Jx : List α → World → Prop) (W : World), Below w.heap.size w W → BoxAbides Z W.heap.size J → BoxAbides Z W.heap.size Jx →
    (∀ pre x A, J pre A → pre.length < N → YieldAt F (n - 1) P l (encs x) A fun e C =>
      (e = .returned (.bool true) ∧ J (pre ++ [x]) C ∧ Kp A C) ∨ (e = .returned (.bool false) ∧ Jx (pre ++ [x]) C)) →
    J [] W →
    CallsIn F n P g (#[.func (.yield l) #[] #[]] ++ lb) W fun e C => (∃ v, e = .returned v) ∧ ((∃ xs, S xs ∧ J xs C) ∨ (∃ pre, Sp pre ∧ Jx pre C))

/-- What is no walk and no block of Z lies as it lay. -/
theorem box_keeps {Z : Nat → Prop} {B : Nat} {A C : World} {row : Option Nat} {k : Nat} {o : Obj} (hg : A.grownBy C row)
    (hr : ∀ r, row = some r → Z r ∨ (B ≤ r ∧ ∃ o : Obj, A.heap[r]? = some o ∧ o.isWalk = true)) (hk : A.heap[k]? = some o) (hz : ¬ Z k) (ho : o.isWalk = false) : C.heap[k]? = some o := by
  refine (hg.block k (Array.getElem?_eq_some_iff.1 hk).1 (fun e => ?_)).trans hk
  rcases hr k e.symm with h | ⟨_, o', h', hw⟩
  · exact hz h
  · rw [hk] at h'; cases h'; rw [ho] at hw; cases hw

theorem wpIn_rangeFunc_box {α : Type} {g : Operand} {ps : Array Tmp} {assign body : Code} {Q : Exit → Act → World → Prop} {a : Act} {w : World}
    (hro : F.round = none) (h1 : 1 ≤ n) {gf : Nat} {lb : Array Value} (hg : a.eval g = .func (.func gf) #[] lb) (hFg : F.fn gf) (eg : ∀ args w, (callFunc gf args).run P w = .ok (.enter gf args) w)
    {encs : α → Array Value} {Z : Nat → Prop} {Kp : World → World → Prop} {S Sp : List α → Prop} {N : Nat} {w0 : World} (hseq : SeqBox F (n - 1) P gf lb encs Z Kp S Sp N w0)
    (hZ : ∀ r, Z r → r < w.heap.size)
    (hKt : ∀ {A B C : World}, Kp A B → Kp B C → Kp A C)
    (hKb : ∀ (W : World) (l : Nat) (o o' : Obj), w.heap.size ≤ l → W.heap[l]? = some o → o.isCells = false → o.isWalk = false → Kp W (W.putObj l o'))
    (hb0 : Below w0.heap.size w0 w) (hps : ∀ x, (encs x).size = ps.size)
    (I : List α → World → Prop) (Ix : Code → List α → World → Prop) (hI : OwnBut Z w.heap.size I) (hIx : ∀ c, OwnBut Z w.heap.size (Ix c)) (h0 : I [] w) (a₁ : α → Act)
    (hassign : ∀ (l : Nat) (x : α) (W : World) (K : Act → World → Prop), K (a₁ x) W →
      assign.wpIn (F.inRound l) (n - 1 - 1) P (Exit.then K (fun _ _ _ => False)) { tmps := (ps.zip (encs x)).foldl (fun t (p, v) => t.setIfInBounds p v) a.tmps, defers := [] } W)
    (hbody : ∀ (l : Nat) (pre : List α) (x : α) (W : World), I pre W → pre.length < N → body.wpIn (F.inRound l) (n - 1 - 1) P (ownPostG w.heap.size Kp I Ix (pre ++ [x]) W) (a₁ x) W)
    (hdone : ∀ (D : Nat) (xs : List α) (W : World), w.heap.size ≤ D → S xs → I xs W → W.heap[D]? = some (.deferred (some [])) → Q .normal { a with defers := { target := .collected D, args := #[] } :: a.defers } W)
    (hstop : ∀ (D : Nat) (c : Code) (pre : List α) (W : World), w.heap.size ≤ D → Sp pre → Ix c pre W → W.heap[D]? = some (.deferred (some [])) → c.wpIn F n P Q { a with defers := { target := .collected D, args := #[] } :: a.defers } W) :
    (Code.rangeFunc g ps assign body).wpIn F n P Q a w := by
  refine wpIn_rangeFunc fun fn hfn => ?_
  rw [hro]
  -- D the block of the rounds' deferred calls, L the record; both are laid by the statement itself
  generalize hD : w.heap.size = D at *
  obtain ⟨L, hL⟩ : ∃ L, L = D + 1 := ⟨_, rfl⟩
  let rec' : LoopState → Option Code → Loop := fun st pe => { state := st, pending := pe, fn, tmps := a.tmps, params := ps, assign, body, defers := D }
  let Wd := w.alloc (.deferred (some []))
  let W1 := Wd.alloc (.loop (rec' .ready none))
  have sWd : Wd.heap.size = D + 1 := by show (w.alloc _).heap.size = _; simp [hD]
  have sW1 : W1.heap.size = D + 2 := by show (Wd.alloc _).heap.size = _; simp [sWd]
  have zD : ¬ Z D := fun h => absurd (hZ _ h) (Nat.lt_irrefl _)
  have zL : ¬ Z L := fun h => by have := hZ _ h; omega
  have r1 : W1.heap[L]? = some (.loop (rec' .ready none)) := by
    have := World.alloc_heap_new Wd (.loop (rec' .ready none)); rw [sWd] at this; rw [hL]; exact this
  have d1 : W1.heap[D]? = some (.deferred (some [])) := by
    have h2 : Wd.heap[D]? = some (.deferred (some [])) := by have := World.alloc_heap_new w (.deferred (some [])); rwa [hD] at this
    exact (Below.heap_alloc _ _ _ (by rw [sWd]; omega)).trans h2
  have i1 : I [] W1 := hI.from.alloc _ (hI.from.alloc _ h0)
  have b1 : Below w0.heap.size w0 W1 := by
    have b2 : Below w0.heap.size w Wd := ((Below.refl _ w).alloc (Nat.le_refl _) _).mono hb0.size
    have b3 : Below w0.heap.size Wd W1 := ((Below.refl _ Wd).alloc (Nat.le_refl _) _).mono (by have := hb0.size; rw [sWd]; omega)
    exact (hb0.trans b2).trans b3
  refine ⟨L, [{ target := .collected D, args := #[] }], W1, { target := .fn (.func gf) lb, args := #[.func (.yield L) #[] #[]] }, W1, gf,
    #[.func (.yield L) #[] #[]] ++ lb, W1, ?_, ?_, ?_, ?_, fun _ => h1, ?_⟩
  · have := run_enterLoop_outer (P := P) fn a.tmps ps assign body (w := w); rw [hD, ← hL] at this; exact this
  · simp only [resolve, hg]; simp [go_sem]
  · intro f' hf'; simp [Target.leads] at hf'; subst hf'; exact hFg
  · simp [invoke, go_sem, eg]
  -- the record r and the block d beside the caller's invariant
  have keep : ∀ {A C : World} {row : Option Nat} {st : LoopState} {pe : Option Code}, A.grownBy C row →
      (∀ r, row = some r → Z r ∨ (W1.heap.size ≤ r ∧ ∃ o : Obj, A.heap[r]? = some o ∧ o.isWalk = true)) →
      A.heap[L]? = some (.loop (rec' st pe)) ∧ A.heap[D]? = some (.deferred (some [])) → C.heap[L]? = some (.loop (rec' st pe)) ∧ C.heap[D]? = some (.deferred (some [])) :=
    fun hg hr h => ⟨box_keeps hg hr h.1 zL rfl, box_keeps hg hr h.2 zD rfl⟩
  have wide : ∀ {A : World} {row : Option Nat}, (∀ r, row = some r → Z r ∨ (W1.heap.size ≤ r ∧ ∃ o : Obj, A.heap[r]? = some o ∧ o.isWalk = true)) →
      ∀ r, row = some r → Z r ∨ (D ≤ r ∧ ∃ o : Obj, A.heap[r]? = some o ∧ o.isCells = false) := fun hr r e => by
    rcases hr r e with h | ⟨hB, o, ho, hw⟩
    · exact .inl h
    · exact .inr ⟨by omega, o, ho, Obj.not_cells_of_walk hw⟩
  refine (hseq L (fun pre W => I pre W ∧ W.heap[L]? = some (.loop (rec' .ready none)) ∧ W.heap[D]? = some (.deferred (some [])))
    (fun pre W => ∃ c, Ix c pre W ∧ W.heap[L]? = some (.loop (rec' .done (some c))) ∧ W.heap[D]? = some (.deferred (some []))) W1 b1
    (fun s A C row hs hg' hr => ⟨hI s A C row hs.1 hg' (wide hr), keep hg' hr hs.2⟩)
    (fun s A C row ⟨c, hc, hk⟩ hg' hr => ⟨c, hIx c s A C row hc hg' (wide hr), keep hg' hr hk⟩) ?_ ⟨i1, r1, d1⟩).mono ?_
  · -- one round
    rintro pre x A ⟨hi, hl, hd⟩ hlen
    have ltL : L < A.heap.size := (Array.getElem?_eq_some_iff.1 hl).1
    let B := A.putObj L (.loop { rec' .ready none with state := .busy })
    have bl : B.heap[L]? = some (.loop { rec' .ready none with state := .busy }) := World.putObj_heap_same ltL
    have bd : B.heap[D]? = some (.deferred (some [])) := (World.putObj_heap_other (by omega)).trans hd
    have kAB : Kp A B := hKb A L _ _ (by omega) hl rfl rfl
    refine ⟨fn, _, assign, body, run_yield (P := P) (args := encs x) hl (hps x), roundIn_of_wpIn hfn (hassign _ x A _ ⟨B, run_beginRound hl rfl, ?_⟩)⟩
    refine wpIn_mono (hbody L pre x B (hI.from.putObj _ hi (by omega) hl rfl) hlen) ?_
    have close : ∀ (j : Option Code) (C : World), KeepsFrom D B C → ∃ C', C' = C.putObj L (.loop (rec' (if j.isNone then .ready else .done) j)) ∧
        C.heap[L]? = some (.loop { rec' .ready none with state := .busy }) ∧ (Instr.endRound L j).run P C = .ok (.bool j.isNone) C' ∧
        C'.heap[L]? = some (.loop (rec' (if j.isNone then .ready else .done) j)) ∧ C'.heap[D]? = some (.deferred (some [])) := fun j C hk => by
      have cl := hk.same _ _ (by omega) bl rfl
      exact ⟨_, rfl, cl, run_endRound (P := P) j cl, World.putObj_heap_same (Array.getElem?_eq_some_iff.1 cl).1, (World.putObj_heap_other (by omega)).trans (hk.same _ _ (Nat.le_refl _) bd rfl)⟩
    have left : ∀ (c : Code) (C : World), KeepsFrom D B C → Ix c (pre ++ [x]) C → ∃ v w', (Instr.endRound L (some c)).run P C = .ok v w' ∧
        ((Ending.returned v = .returned (.bool true) ∧ (I (pre ++ [x]) w' ∧ w'.heap[L]? = some (.loop (rec' .ready none)) ∧ w'.heap[D]? = some (.deferred (some []))) ∧ Kp A w') ∨
         (Ending.returned v = .returned (.bool false) ∧ ∃ c, Ix c (pre ++ [x]) w' ∧ w'.heap[L]? = some (.loop (rec' .done (some c))) ∧ w'.heap[D]? = some (.deferred (some [])))) := fun c C hk hx => by
      obtain ⟨_, rfl, cl, hr, cl', cd'⟩ := close (some c) C hk
      exact ⟨_, _, hr, .inr ⟨rfl, c, (hIx c).from.putObj _ hx (by omega) cl rfl, cl', cd'⟩⟩
    rintro e a3 C hp
    cases e with
    | normal =>
      obtain ⟨hk, kBC, hi'⟩ := hp
      obtain ⟨_, rfl, cl, hr, cl', cd'⟩ := close none C hk
      exact ⟨_, _, hr, .inl ⟨rfl, ⟨hI.from.putObj _ hi' (by omega) cl rfl, cl', cd'⟩, hKt (hKt kAB kBC) (hKb C L _ _ (by omega) cl rfl rfl)⟩⟩
    | ret => exact left _ C hp.1 hp.2
    | exit id => exact left _ C hp.1 hp.2
    | goto t => exact left _ C hp.1 hp.2
    | panic ch => exact hp.elim
    | outgrown => exact hp.elim
  · -- behind the iterator
    rintro e C ⟨⟨v, rfl⟩, (⟨xs, hS, hi, hl, hd⟩ | ⟨pre, hSp, c, hi, hl, hd⟩)⟩
    · exact ⟨none, _, run_endLoop (P := P) hl (by simp [rec']), hdone D xs _ (Nat.le_refl _) hS (hI.from.putObj _ hi (by omega) hl rfl) ((World.putObj_heap_other (by omega)).trans hd)⟩
    · exact ⟨some c, _, run_endLoop (P := P) hl (by simp [rec']), hstop D c pre _ (Nat.le_refl _) hSp ((hIx c).from.putObj _ hi (by omega) hl rfl) ((World.putObj_heap_other (by omega)).trans hd)⟩

end Go
