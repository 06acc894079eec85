/- Own work: worlds that grow but for a row; a cell of an own row stored to. -/
import Derived.Test.YtabdgocfbmcobaaLabBase
import Derived.Sort.Grow
namespace Go.Proofs.Ytabdgocfbmcobaa
open Go.RowKit Go.Sort

theorem grown_step {A W W' : World} {r q : Option Nat} (h1 : A.grownBy W r) (h2 : W.grownBy W' q) (hq : ∀ x, q = some x → r = some x ∨ A.heap.size ≤ x) : A.grownBy W' r :=
  ⟨h2.os.trans h1.os, h2.tape.trans h1.tape, h2.output.trans h1.output, Nat.le_trans h1.size h2.size, fun k hk hne => (h2.block k (Nat.lt_of_lt_of_le hk h1.size) (fun e => by
    rcases hq k e.symm with h | h
    · exact hne h.symm
    · omega)).trans (h1.block k hk hne)⟩
theorem grown_self (A : World) (r : Option Nat) : A.grownBy A r := ⟨rfl, rfl, rfl, Nat.le_refl _, fun _ _ _ => rfl⟩
theorem grown_alloc (A : World) (o : Obj) (r : Option Nat) : A.grownBy (A.alloc o) r := ⟨rfl, rfl, rfl, by simp, fun k hk _ => heap_alloc_old _ _ hk⟩
theorem grown_setCell (A : World) (g j : Nat) (v : Value) : A.grownBy (A.setCell ⟨g, j, none⟩ v) (some g) := by
  have h := (Below.refl 0 A).setCell (p := ⟨g, j, none⟩) (Nat.zero_le _) v
  refine ⟨h.os, h.tape, h.output, h.size, fun k hk hne => ?_⟩
  have : k ≠ g := fun e => hne (by rw [e])
  rw [setCell_eq]
  unfold mapBlock
  simp [Array.getElem?_modify, Ne.symm this]
theorem own_slice {w : World} {B n s : Nat} {e : TypeId} {v : Value} {xs : List Value} (h : w.ownsRow B e s v n xs) : ∃ vo vc, v = .slice vo n vc ∧ (0 < n → ∃ g, vo = some ⟨g, 0, none⟩) := by
  rcases Joins.ownsRow_forms h with ⟨h1, h2⟩ | ⟨g, cap, h1⟩
  · exact ⟨none, 0, by rw [h1, h2], fun h => absurd h (by omega)⟩
  · exact ⟨_, _, h1, fun _ => ⟨g, rfl⟩⟩
theorem own_setCell {w : World} {B g n cap s j : Nat} {e : TypeId} {xs : List Value} (h : w.ownsRow B e s (.slice (some ⟨g, 0, none⟩) n cap) n xs) (u : Value) : (w.setCell ⟨g, j, none⟩ u).ownsRow B e s (.slice (some ⟨g, 0, none⟩) n cap) n (xs.set j u) := by
  rcases h.2 with ⟨e, _⟩ | ⟨g', cap', cur, hv, hB, hg, hnc, hcm, hsz, htake⟩
  · cases e
  · cases hv
    refine ⟨by rw [List.length_set]; exact h.1, .inr ⟨g, cap, cur.setIfInBounds j u, rfl, hB, ?_, hnc, hcm, by simpa using hsz, ?_⟩⟩
    · rw [setCell_eq_setRow w g j cur e (0, 0) u hg]
      exact setRow_heap w g cur _ e _ hg
    · rw [Array.toList_setIfInBounds, List.take_set, htake]
theorem own_frozen {w : World} {B g n cap s : Nat} {e : TypeId} {xs : List Value} (h : w.ownsRow B e s (.slice (some ⟨g, 0, none⟩) n cap) n xs) (j : Nat) : w.frozen? ⟨g, j, none⟩ = false := by
  rcases h.2 with ⟨e, _⟩ | ⟨g', cap', cur, hv, _, hg, _⟩
  · cases e
  · cases hv
    simp [World.frozen?, hg]
end Go.Proofs.Ytabdgocfbmcobaa
