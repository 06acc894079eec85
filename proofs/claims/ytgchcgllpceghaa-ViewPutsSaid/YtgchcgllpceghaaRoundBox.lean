/- Own work: a range over a function whose loop variable lies in a box of its own, made anew at each round (a struct: 'for i, l := range seq'). The law is the library's fourth (RangeFuncWrites), with the assignment allowed one new block. -/
import Derived.RangeFuncWrites
import Derived.RangeFuncCalls
namespace Go.Proofs.Ytgchcgllpceghaa.Round
open Go.RowKit

theorem rangeBoxed {P : Program} {n : Nat} {α : Type} {g : Operand} {ps : Array Tmp} {assign body : Code} {Q : Exit → Act → World → Prop} {a : Act} {w : World}
    (h1 : 1 ≤ n) {gf : Nat} {lb : Array Value} (hg : a.eval g = .func (.func gf) #[] lb) (eg : ∀ args w, (callFunc gf args).run P w = .ok (.enter gf args) w)
    {encs : α → Array Value} {n₀ : Nat} {S Sp : List α → Prop} {N : Nat} {w0 : World} (hseq : SeqStopsK Fence.wide (n - 1) P gf lb encs (Below n₀) S Sp N w0)
    (hn₀ : n₀ ≤ w.heap.size) (hb0 : Below w0.heap.size w0 w) (hps : ∀ x, (encs x).size = ps.size)
    (I : List α → World → Prop) (Ix : Code → List α → World → Prop) (hI : OwnFrom w.heap.size I) (hIx : ∀ c, OwnFrom w.heap.size (Ix c)) (h0 : I [] w)
    (obj : α → Obj) (a₁ : α → Nat → Act)
    (hassign : ∀ (l : Nat) (x : α) (W : World) (K : Act → World → Prop), K (a₁ x W.heap.size) (W.alloc (obj x)) →
      assign.wpIn (Fence.wide.inRound l) (n - 1 - 1) P (Exit.then K (fun _ _ _ => False)) { tmps := (ps.zip (encs x)).foldl (fun t (p, v) => t.setIfInBounds p v) a.tmps, defers := [] } W)
    (hbody : ∀ (l : Nat) (pre : List α) (x : α) (W : World) (b : Nat), I pre W → pre.length < N → w.heap.size ≤ b → W.heap[b]? = some (obj x) →
      body.wpIn (Fence.wide.inRound l) (n - 1 - 1) P (ownPostG w.heap.size (Below n₀) I Ix (pre ++ [x]) W) (a₁ x b) W)
    (hdone : ∀ (D : Nat) (xs : List α) (W : World), w.heap.size ≤ D → S xs → I xs W → W.heap[D]? = some (.deferred (some [])) → Q .normal { a with defers := { target := .collected D, args := #[] } :: a.defers } W)
    (hstop : ∀ (D : Nat) (c : Code) (pre : List α) (W : World), w.heap.size ≤ D → Sp pre → Ix c pre W → W.heap[D]? = some (.deferred (some [])) → c.wpIn Fence.wide n P Q { a with defers := { target := .collected D, args := #[] } :: a.defers } W) :
    (Code.rangeFunc g ps assign body).wpIn Fence.wide n P Q a w := by
  have turn : ∀ (W : World) (l : Nat) (o o' : Obj), w.heap.size ≤ l → W.heap[l]? = some o → o.isCells = false → o.isWalk = false → Below n₀ W (W.putObj l o') := belowK_b hn₀
  refine wpIn_rangeFunc ?_
  intro fn hfn
  -- the record of the loop, and where it lies
  obtain ⟨rec, hrec⟩ : ∃ rec : LoopState → Option Code → Loop, rec = fun st pe => { state := st, pending := pe, fn, tmps := a.tmps, params := ps, assign, body, defers := w.heap.size } := ⟨_, rfl⟩
  obtain ⟨L, hL⟩ : ∃ L, w.heap.size + 1 = L := ⟨_, rfl⟩
  have hwL : w.heap.size ≤ L := by omega
  have hneL : w.heap.size ≠ L := by omega
  obtain ⟨V, hV⟩ : ∃ V, (w.alloc (.deferred (some []))).alloc (.loop (rec .ready none)) = V := ⟨_, rfl⟩
  have hVs : V.heap.size = w.heap.size + 2 := by rw [← hV]; simp
  have hVL : V.heap[L]? = some (.loop (rec .ready none)) := by
    rw [← hV, ← hL]; have := World.alloc_heap_new (w.alloc (.deferred (some []))) (.loop (rec .ready none)); rwa [World.size_alloc] at this
  have hVD : V.heap[w.heap.size]? = some (.deferred (some [])) := by
    rw [← hV]; exact (Below.heap_alloc _ _ _ (by simp)).trans (World.alloc_heap_new w _)
  have hVI : I [] V := by rw [← hV]; exact hI.alloc _ (hI.alloc _ h0)
  have hVb : Below w0.heap.size w0 V := by
    rw [← hV]; exact hb0.trans ((((Below.refl _ w).alloc (Nat.le_refl _) _).alloc (by simp) _).mono hb0.size)
  have abide : ∀ {A B : World} {row : Option Nat}, A.grownBy B row → (∀ r, row = some r → V.heap.size ≤ r ∧ ∃ o : Obj, A.heap[r]? = some o ∧ o.isWalk = true) →
      (∀ r, row = some r → w.heap.size ≤ r ∧ ∃ o : Obj, A.heap[r]? = some o ∧ o.isCells = false) ∧ ∀ (k : Nat) (o : Obj), A.heap[k]? = some o → o.isWalk = false → B.heap[k]? = some o := by
    intro A B row hgr hr
    refine ⟨fun r e => ?_, fun k o hk ho => (grownBy_keeps hgr (fun r e => (hr r e).2) hk ho).trans hk⟩
    obtain ⟨hB, o, ho, hw⟩ := hr r e
    exact ⟨by omega, o, ho, Obj.not_cells_of_walk hw⟩
  refine ⟨L, [{ target := .collected w.heap.size, args := #[] }], V, { target := .fn (.func gf) lb, args := #[.func (.yield L) #[] #[]] }, V, gf, #[.func (.yield L) #[] #[]] ++ lb, V, ?_, ?_, ?_, ?_, fun _ => h1, ?_⟩
  · rw [← hV, hrec, ← hL]; exact run_enterLoop_outer _ _ _ _ _
  · simp only [resolve, hg]
    simp [go_sem]
  · intro f' _; exact trivial
  · simp [invoke, go_sem, eg]
  refine (hseq L (fun pre W => I pre W ∧ W.heap[L]? = some (.loop (rec .ready none)) ∧ W.heap[w.heap.size]? = some (.deferred (some [])))
    (fun pre W => ∃ c, Ix c pre W ∧ W.heap[L]? = some (.loop (rec .done (some c))) ∧ W.heap[w.heap.size]? = some (.deferred (some []))) V hVb ?_ ?_ ?_ ⟨hVI, hVL, hVD⟩).mono ?_
  · rintro s A B row ⟨hs, hl, hd⟩ hgr hr
    obtain ⟨q1, q2⟩ := abide hgr hr
    exact ⟨hI s A B row hs hgr q1, q2 _ _ hl rfl, q2 _ _ hd rfl⟩
  · rintro s A B row ⟨c, hs, hl, hd⟩ hgr hr
    obtain ⟨q1, q2⟩ := abide hgr hr
    exact ⟨c, hIx c s A B row hs hgr q1, q2 _ _ hl rfl, q2 _ _ hd rfl⟩
  · -- one round
    rintro pre x W ⟨hi, hl, hd⟩ hlen
    have hlt : L < W.heap.size := (Array.getElem?_eq_some_iff.1 hl).1
    have hy := run_yield (P := P) (args := encs x) hl (by rw [hrec]; exact hps x)
    rw [hrec] at hy
    have hlA : (W.alloc (obj x)).heap[L]? = some (.loop (rec .ready none)) := (Below.heap_alloc _ _ _ hlt).trans hl
    have hdA : (W.alloc (obj x)).heap[w.heap.size]? = some (.deferred (some [])) := (Below.heap_alloc _ _ _ (by omega)).trans hd
    refine ⟨fn, _, assign, body, hy, roundIn_of_wpIn hfn (hassign _ x W _ ⟨_, run_beginRound hlA (by rw [hrec]), ?_⟩)⟩
    obtain ⟨U, hU⟩ : ∃ U, (W.alloc (obj x)).putObj L (.loop { rec .ready none with state := .busy }) = U := ⟨_, rfl⟩
    have hUL : U.heap[L]? = some (.loop { rec .ready none with state := .busy }) := by rw [← hU]; exact World.putObj_heap_same (by simp; omega)
    have hUD : U.heap[w.heap.size]? = some (.deferred (some [])) := by rw [← hU]; exact (World.putObj_heap_other hneL).trans hdA
    have hUx : U.heap[W.heap.size]? = some (obj x) := by
      rw [← hU]; exact (World.putObj_heap_other (by omega)).trans (World.alloc_heap_new W _)
    have hUI : I pre U := by rw [← hU]; exact hI.putObj _ (hI.alloc _ hi) hwL hlA rfl
    have hUb : Below n₀ W U := by
      rw [← hU]; exact ((Below.refl n₀ W).alloc (by omega) _).trans (turn _ _ _ _ hwL hlA rfl rfl)
    rw [hU]
    refine wpIn_mono (hbody _ pre x U W.heap.size hUI hlen (by omega) hUx) ?_
    have fin : ∀ (jump : Option Code) (X : World), KeepsFrom w.heap.size U X →
        (Instr.endRound L jump).run P X = .ok (.bool jump.isNone) (X.putObj L (.loop (rec (if jump.isNone then .ready else .done) jump))) ∧
        X.heap[L]? = some (.loop { rec .ready none with state := .busy }) ∧
        (X.putObj L (.loop (rec (if jump.isNone then .ready else .done) jump))).heap[L]? = some (.loop (rec (if jump.isNone then .ready else .done) jump)) ∧
        (X.putObj L (.loop (rec (if jump.isNone then .ready else .done) jump))).heap[w.heap.size]? = some (.deferred (some [])) := fun jump X hX => by
      have hXL := hX.same _ _ hwL hUL rfl
      have := run_endRound (P := P) jump hXL
      rw [hrec] at this ⊢
      exact ⟨this, by rw [hrec] at hXL; exact hXL, World.putObj_heap_same (Array.getElem?_eq_some_iff.1 hXL).1, (World.putObj_heap_other hneL).trans (hX.same _ _ (Nat.le_refl _) hUD rfl)⟩
    rintro e a3 X hp
    cases e with
    | normal =>
      obtain ⟨hk, hkp, hXI⟩ := hp
      obtain ⟨hr, f1, f2, f3⟩ := fin none X hk
      exact ⟨_, _, hr, .inl ⟨rfl, ⟨hI.putObj _ hXI hwL f1 rfl, f2, f3⟩, (hUb.trans hkp).trans (turn _ _ _ _ hwL f1 rfl rfl)⟩⟩
    | ret =>
      obtain ⟨hk, hXI⟩ := hp
      obtain ⟨hr, f1, f2, f3⟩ := fin (some .ret) X hk
      exact ⟨_, _, hr, .inr ⟨rfl, .ret, (hIx _).putObj _ hXI hwL f1 rfl, f2, f3⟩⟩
    | exit id =>
      obtain ⟨hk, hXI⟩ := hp
      obtain ⟨hr, f1, f2, f3⟩ := fin (some (.exit id)) X hk
      exact ⟨_, _, hr, .inr ⟨rfl, .exit id, (hIx _).putObj _ hXI hwL f1 rfl, f2, f3⟩⟩
    | goto t =>
      obtain ⟨hk, hXI⟩ := hp
      obtain ⟨hr, f1, f2, f3⟩ := fin (some (.goto t)) X hk
      exact ⟨_, _, hr, .inr ⟨rfl, .goto t, (hIx _).putObj _ hXI hwL f1 rfl, f2, f3⟩⟩
    | panic ch => exact hp.elim
    | outgrown => exact hp.elim
  · rintro e X ⟨⟨v, rfl⟩, (⟨xs, hS, hi, hl, hd⟩ | ⟨pre, hSp, c, hi, hl, hd⟩)⟩
    · exact ⟨none, _, by have := run_endLoop (P := P) hl (by rw [hrec]; simp); rw [hrec] at this; exact this, hdone _ xs _ (Nat.le_refl _) hS (hI.putObj _ hi hwL hl rfl) ((World.putObj_heap_other hneL).trans hd)⟩
    · exact ⟨some c, _, by have := run_endLoop (P := P) hl (by rw [hrec]; simp); rw [hrec] at this; exact this, hstop _ c pre _ (Nat.le_refl _) hSp ((hIx c).putObj _ hi hwL hl rfl) ((World.putObj_heap_other hneL).trans hd)⟩
end Go.Proofs.Ytgchcgllpceghaa.Round
