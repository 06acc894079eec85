/- Own work: rows of the call's own that are spoilt and grown, beside others that stay as they are. -/
import Derived.Test.YtgchcgllpceghaaLnv
import Derived.Test.YtgchcgllpceghaaGrown
import Derived.Maps.AppendAt
namespace Go.Proofs.Ytgchcgllpceghaa
open Go.RowKit Go.Sort

/-- w is as W0 was but for the blocks of which S is so, and what is new -/
structure KeptBut (S : Nat → Prop) (W0 w : World) : Prop where
  os : w.os = W0.os
  tape : w.tape = W0.tape
  output : w.output = W0.output
  size : W0.heap.size ≤ w.heap.size
  block : ∀ k, k < W0.heap.size → ¬ S k → w.heap[k]? = W0.heap[k]?
theorem KeptBut.refl (S : Nat → Prop) (w : World) : KeptBut S w w := ⟨rfl, rfl, rfl, Nat.le_refl _, fun _ _ _ => rfl⟩
theorem KeptBut.grown {S : Nat → Prop} {W0 w w' : World} {row : Option Nat} (h : KeptBut S W0 w) (g : w.grownBy w' row) (hr : ∀ k, row = some k → S k ∨ W0.heap.size ≤ k) : KeptBut S W0 w' :=
  ⟨g.os.trans h.os, g.tape.trans h.tape, g.output.trans h.output, Nat.le_trans h.size g.size, fun k hk hs => (g.block k (Nat.lt_of_lt_of_le hk h.size) (fun e => by
    rcases hr k e.symm with h1 | h1
    · exact hs h1
    · omega)).trans (h.block k hk hs)⟩
theorem KeptBut.below {S : Nat → Prop} {B : Nat} {W0 w : World} (h : KeptBut S W0 w) (hB : ∀ k, S k → B ≤ k) (hW : B ≤ W0.heap.size) : Below B W0 w :=
  ⟨h.os, h.tape, h.output, h.size, fun k hk => h.block k (by omega) (fun hs => by have := hB k hs; omega)⟩
theorem KeptBut.cell {S : Nat → Prop} {W0 w : World} (h : KeptBut S W0 w) {b o : Nat} {v : Value} (hc : W0.cell? ⟨b, o, none⟩ = some v) (hs : ¬ S b) : w.cell? ⟨b, o, none⟩ = some v := by
  have hb := World.block_lt_of_cell? W0 _ hc
  unfold World.cell? at hc ⊢
  rw [h.block b hb hs]
  exact hc
theorem Lns.keptBut {S : Nat → Prop} {W0 w : World} {v : Value} {l : List LineV} (h : Lns W0 v l) (k : KeptBut S W0 w) (hb : ∀ b, v.ownBlock = some b → 0 < l.length → ¬ S b) : Lns w v l := by
  rcases h with h | ⟨b, o, cap, h1, h2, h3, h4, h5⟩
  · exact .inl h
  · have hs : ¬ S b := hb b (by rw [h1]; rfl) h2
    refine .inr ⟨b, o, cap, h1, h2, h3, h4, fun i hi => ?_⟩
    obtain ⟨c0, c1, c2, c3⟩ := h5 i hi
    exact ⟨k.cell c0 hs, k.cell c1 hs, k.cell c2 hs, k.cell c3 hs⟩
theorem Vec.keptBut {S : Nat → Prop} {W0 w : World} {v : Value} {l : List Value} (h : Vec W0 v l) (k : KeptBut S W0 w) (hb : ∀ b, v.ownBlock = some b → 0 < l.length → ¬ S b) : Vec w v l := by
  rcases h with h | ⟨b, o, cap, h1, h2, h3, h4, h5⟩
  · exact .inl h
  · have hs : ¬ S b := hb b (by rw [h1]; rfl) h2
    exact .inr ⟨b, o, cap, h1, h2, h3, h4, fun i hi => k.cell (h5 i hi) hs⟩

theorem own_some {w : World} {B g n cap s : Nat} {e : TypeId} {xs : List Value} (h : w.ownsRow B e s (.slice (some ⟨g, 0, none⟩) n cap) n xs) (j : Nat) (hj : j < n * s) : ∃ z, w.cell? ⟨g, j, none⟩ = some z := by
  have hl : j < xs.length := by have := h.1; omega
  exact ⟨_, (h.cellAt j hj).trans (List.getElem?_eq_getElem hl)⟩
/-- a row of the call's own: its elements' type, their cells, its value, how many there are -/
structure PRow where
  e : TypeId
  size : Nat
  v : Value
  n : Nat
/-- these rows, each alone in its block, whatever they hold -/
structure Pit (S : Nat → Prop) (W0 w : World) (rows : List PRow) : Prop where
  own : ∀ r ∈ rows, ∃ xs, w.ownsRow 0 r.e r.size r.v r.n xs
  mine : ∀ r ∈ rows, ∀ k, r.v.ownBlock = some k → S k ∨ W0.heap.size ≤ k
  apart : ∀ (i j : Nat) (x y : PRow), rows[i]? = some x → rows[j]? = some y → i ≠ j → ∀ k, x.v.ownBlock = some k → ¬ y.v.ownBlock = some k
  kept : KeptBut S W0 w
theorem ownsRow_lt {w : World} {B : Nat} {e : TypeId} {s n : Nat} {v : Value} {xs : List Value} (h : w.ownsRow B e s v n xs) {k : Nat} (hk : v.ownBlock = some k) : B ≤ k ∧ k < w.heap.size := h.lt k hk
/-- where a row of the call's own lies -/
def Lies (v : Value) (a b : Nat) : Prop := ∀ k, v.ownBlock = some k → a ≤ k ∧ k < b
theorem Lies.of {w : World} {B : Nat} {e : TypeId} {s n : Nat} {v : Value} {xs : List Value} (h : w.ownsRow B e s v n xs) : Lies v B w.heap.size := fun _ hk => ownsRow_lt h hk
theorem Pit.lt {S : Nat → Prop} {W0 w : World} {rows : List PRow} (h : Pit S W0 w rows) {r : PRow} (hr : r ∈ rows) {k : Nat} (hk : r.v.ownBlock = some k) : k < w.heap.size := by
  obtain ⟨xs, hx⟩ := h.own r hr
  exact (hx.lt k hk).2
theorem Pit.alloc {S : Nat → Prop} {W0 w : World} {rows : List PRow} (h : Pit S W0 w rows) (o : Obj) : Pit S W0 (w.alloc o) rows :=
  ⟨fun r hr => by obtain ⟨xs, hx⟩ := h.own r hr; exact ⟨xs, hx.alloc o⟩, h.mine, h.apart, h.kept.grown (World.grownBy_alloc w o none) (fun k e => by cases e)⟩
theorem Pit.below {S : Nat → Prop} {W0 w w' : World} {rows : List PRow} (h : Pit S W0 w rows) (hb : Below w.heap.size w w') : Pit S W0 w' rows :=
  ⟨fun r hr => by obtain ⟨xs, hx⟩ := h.own r hr; exact ⟨xs, own_kept hx hb⟩, h.mine, h.apart, h.kept.grown (row := none) ⟨hb.os, hb.tape, hb.output, hb.size, fun k hk _ => hb.block k hk⟩ (fun k e => by cases e)⟩
theorem Pit.drew {S : Nat → Prop} {W0 w : World} {rows : List PRow} (h : Pit S W0 w rows) (q : Nat) : Pit S W0 (w.drewN q) rows := h.below (below_drewN (Below.refl _ _) q)
theorem Pit.start {S : Nat → Prop} {w : World} {rows : List PRow} (ho : ∀ r ∈ rows, ∃ xs, w.ownsRow 0 r.e r.size r.v r.n xs) (hm : ∀ r ∈ rows, ∀ k, r.v.ownBlock = some k → S k)
    (ha : rows.Pairwise fun x y => ∀ k, x.v.ownBlock = some k → ¬ y.v.ownBlock = some k) : Pit S w w rows := by
  refine ⟨ho, fun r hr k hk => .inl (hm r hr k hk), fun i j x y hx hy hij k h1 h2 => ?_, KeptBut.refl S w⟩
  obtain ⟨hi, rfl⟩ := List.getElem?_eq_some_iff.1 hx
  obtain ⟨hj, rfl⟩ := List.getElem?_eq_some_iff.1 hy
  rw [List.pairwise_iff_getElem] at ha
  rcases Nat.lt_or_gt_of_ne hij with h | h
  · exact ha i j hi hj h k h1 h2
  · exact ha j i hj hi h k h2 h1
/-- a cell of one of the rows is stored to -/
theorem Pit.set {S : Nat → Prop} {W0 w : World} {rows : List PRow} (h : Pit S W0 w rows) (i : Nat) {r : PRow} (hi : rows[i]? = some r) {g n cap : Nat} (hv : r.v = .slice (some ⟨g, 0, none⟩) n cap) (j : Nat) (u : Value) : Pit S W0 (w.setCell ⟨g, j, none⟩ u) rows := by
  have hmem : r ∈ rows := List.mem_of_getElem? hi
  have hg : r.v.ownBlock = some g := by rw [hv]; rfl
  refine ⟨fun x hx => ?_, h.mine, h.apart, h.kept.grown (grown_setCell w g j u) (fun k e => by cases e; exact h.mine r hmem g hg)⟩
  obtain ⟨xs, hxs⟩ := h.own x hx
  obtain ⟨q, hq, hqx⟩ := List.getElem_of_mem hx
  have hq2 : rows[q]? = some x := by rw [List.getElem?_eq_getElem hq, hqx]
  by_cases e : q = i
  · subst e
    rw [hi] at hq2
    cases hq2
    have hn : r.n = n := by
      rcases hxs.2 with ⟨e, _⟩ | ⟨g', cap', cur, e, _⟩
      · rw [hv] at e; cases e
      · rw [hv] at e; cases e; rfl
    rw [hv, hn] at hxs ⊢
    exact ⟨_, own_setCell hxs u⟩
  · refine ⟨xs, hxs.kept (grown_setCell w g j u) ?_⟩
    cases ho : x.v.ownBlock with
    | none => exact .inl rfl
    | some k => exact .inr (fun e2 => h.apart q i x r hq2 hi e k ho (by rw [← e2] at hg; exact hg))
/-- one of the rows grows -/
theorem Pit.grow {S : Nat → Prop} {W0 w w' : World} {rows : List PRow} (h : Pit S W0 w rows) (i : Nat) {r : PRow} (hi : rows[i]? = some r) {B : Nat} {v' : Value} {m : Nat} {ys : List Value} (hown : w'.ownsRow B r.e r.size v' m ys)
    (hg : w.grownBy w' r.v.ownBlock) (hat : v'.ownBlock = r.v.ownBlock ∨ v'.ownBlock = some w.heap.size) : Pit S W0 w' (rows.set i ⟨r.e, r.size, v', m⟩) := by
  have hmem : r ∈ rows := List.mem_of_getElem? hi
  have hil : i < rows.length := (List.getElem?_eq_some_iff.1 hi).1
  have hget : ∀ (q : Nat) (x : PRow), (rows.set i ⟨r.e, r.size, v', m⟩)[q]? = some x → (q = i ∧ x = ⟨r.e, r.size, v', m⟩) ∨ (q ≠ i ∧ rows[q]? = some x) := by
    intro q x hx
    rw [List.getElem?_set] at hx
    by_cases e : i = q
    · subst e
      rw [if_pos rfl, if_pos hil] at hx
      exact .inl ⟨rfl, by cases hx; rfl⟩
    · rw [if_neg e] at hx
      exact .inr ⟨fun e2 => e e2.symm, hx⟩
  have hmine : ∀ k, v'.ownBlock = some k → S k ∨ W0.heap.size ≤ k := by
    intro k hk
    rcases hat with e | e
    · rw [e] at hk; exact h.mine r hmem k hk
    · rw [e] at hk; cases hk; exact .inr h.kept.size
  refine ⟨fun x hx => ?_, fun x hx => ?_, fun a b x y hx hy hab => ?_, h.kept.grown hg (fun k e => h.mine r hmem k e)⟩
  · obtain ⟨q, hq, hqx⟩ := List.getElem_of_mem hx
    rcases hget q x (by rw [List.getElem?_eq_getElem hq, hqx]) with ⟨_, rfl⟩ | ⟨hne, hx2⟩
    · exact ⟨ys, own_base hown (Nat.zero_le _)⟩
    · obtain ⟨xs, hxs⟩ := h.own x (List.mem_of_getElem? hx2)
      refine ⟨xs, hxs.kept hg ?_⟩
      cases ho : x.v.ownBlock with
      | none => exact .inl rfl
      | some k => exact .inr (fun e2 => h.apart q i x r hx2 hi hne k ho e2.symm)
  · obtain ⟨q, hq, hqx⟩ := List.getElem_of_mem hx
    rcases hget q x (by rw [List.getElem?_eq_getElem hq, hqx]) with ⟨_, rfl⟩ | ⟨_, hx2⟩
    · exact hmine
    · exact h.mine x (List.mem_of_getElem? hx2)
  · intro k hk hk2
    rcases hget a x hx with ⟨e1, rfl⟩ | ⟨e1, hx2⟩
    · rcases hget b y hy with ⟨e2, _⟩ | ⟨e2, hy2⟩
      · omega
      · rcases hat with e | e
        · rw [e] at hk
          exact h.apart i b r y hi hy2 (fun e => e2 e.symm) k hk hk2
        · rw [e] at hk
          cases hk
          have := h.lt (List.mem_of_getElem? hy2) hk2
          omega
    · rcases hget b y hy with ⟨e2, rfl⟩ | ⟨e2, hy2⟩
      · rcases hat with e | e
        · rw [e] at hk2
          exact h.apart a i x r hx2 hi e1 k hk hk2
        · rw [e] at hk2
          cases hk2
          have := h.lt (List.mem_of_getElem? hx2) hk
          omega
      · exact h.apart a b x y hx2 hy2 hab k hk hk2
end Go.Proofs.Ytgchcgllpceghaa
