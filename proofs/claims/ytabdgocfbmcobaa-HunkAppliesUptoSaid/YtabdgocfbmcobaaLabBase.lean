/- What the walks of the label layer share. -/
import Derived.Test.YtabdgocfbmcobaaBase
import Derived.Deep.RegionHeld3
import Derived.RegionTactic
import Derived.Outline
import Derived.OneCell
import Derived.Laws.CopyOwn
import Derived.Deep.Draws

/- Own work: new blocks of one cell each. -/
namespace Go.Proofs.Ytabdgocfbmcobaa
open Go.RowKit

/-- three new blocks of one cell each -/
theorem three_cells (w : World) (u v x : Value) (t1 t2 t3 : TypeId) : (((w.alloc (.cells #[u] t1)).alloc (.cells #[v] t2)).alloc (.cells #[x] t3)).heap.size = w.heap.size + 3 ∧
    Below w.heap.size w (((w.alloc (.cells #[u] t1)).alloc (.cells #[v] t2)).alloc (.cells #[x] t3)) ∧
    (((w.alloc (.cells #[u] t1)).alloc (.cells #[v] t2)).alloc (.cells #[x] t3)).heap[w.heap.size]? = some (.cells #[u] t1 (0, 0)) ∧
    (((w.alloc (.cells #[u] t1)).alloc (.cells #[v] t2)).alloc (.cells #[x] t3)).heap[w.heap.size + 1]? = some (.cells #[v] t2 (0, 0)) ∧
    (((w.alloc (.cells #[u] t1)).alloc (.cells #[v] t2)).alloc (.cells #[x] t3)).heap[w.heap.size + 2]? = some (.cells #[x] t3 (0, 0)) := by
  refine ⟨by simp, (((Below.refl _ _).alloc (Nat.le_refl _) _).alloc (by simp) _).alloc (by simp; omega) _, ?_, ?_, ?_⟩
  · rw [heap_alloc_old _ _ (by simp; omega), heap_alloc_old _ _ (by simp)]; exact heap_alloc_new w _
  · rw [heap_alloc_old _ _ (by simp)]; exact heap_alloc2_new w _ _
  · have := heap_alloc_new ((w.alloc (.cells #[u] t1)).alloc (.cells #[v] t2)) (.cells #[x] t3)
    rw [World.size_alloc, World.size_alloc] at this
    exact this
/-- two new blocks of one cell each -/
theorem two_cells (w : World) (u v : Value) (t1 t2 : TypeId) : ((w.alloc (.cells #[u] t1)).alloc (.cells #[v] t2)).heap.size = w.heap.size + 2 ∧
    Below w.heap.size w ((w.alloc (.cells #[u] t1)).alloc (.cells #[v] t2)) ∧
    ((w.alloc (.cells #[u] t1)).alloc (.cells #[v] t2)).heap[w.heap.size]? = some (.cells #[u] t1 (0, 0)) ∧
    ((w.alloc (.cells #[u] t1)).alloc (.cells #[v] t2)).heap[w.heap.size + 1]? = some (.cells #[v] t2 (0, 0)) := by
  refine ⟨by simp, ((Below.refl _ _).alloc (Nat.le_refl _) _).alloc (by simp) _, ?_, ?_⟩
  · rw [heap_alloc_old _ _ (by simp)]; exact heap_alloc_new w _
  · exact heap_alloc2_new w _ _
end Go.Proofs.Ytabdgocfbmcobaa
namespace Go.Proofs.Ytabdgocfbmcobaa
open Go.RowKit

/-- v is a slice whose elements (of one cell each) are xs -/
def Vec (w : World) (v : Value) (xs : List Value) : Prop :=
  (∃ ao cap, v = .slice ao 0 cap ∧ xs = []) ∨
  ∃ b o cap, v = .slice (some ⟨b, o, none⟩) xs.length cap ∧ 0 < xs.length ∧ xs.length ≤ cap ∧ cap ≤ maxLen ∧ ∀ (i : Nat) (h : i < xs.length), w.cell? ⟨b, o + i, none⟩ = some (xs[i]'h)
theorem Vec.kept {w w' : World} {v : Value} {xs : List Value} (h : Vec w v xs) (hb : Below w.heap.size w w') : Vec w' v xs := by
  rcases h with h | ⟨b, o, cap, h1, h2, h3, h4, h5⟩
  · exact .inl h
  · exact .inr ⟨b, o, cap, h1, h2, h3, h4, fun i hi => cell_kept hb (h5 i hi)⟩
theorem Vec.of_own {w : World} {base : Nat} {e : TypeId} {v : Value} {n : Nat} {xs : List Value} (h : w.ownsRow base e 1 v n xs) : Vec w v xs := by
  have hn : xs.length = n := by have := h.1; simpa using this
  by_cases h0 : 0 < n
  · obtain ⟨g, cap, rfl⟩ := Joins.ownsRow_form h h0
    rcases h.2 with ⟨_, hz⟩ | ⟨g', cap', cur, hv, _, _, hnc, hcm, _, _⟩
    · omega
    · cases hv
      refine .inr ⟨g, 0, cap, by rw [hn], by omega, by omega, hcm, fun i hi => ?_⟩
      rw [Nat.zero_add, h.cellAt i (by omega)]
      rw [List.getElem?_eq_getElem hi]
  · have hz : xs = [] := List.eq_nil_of_length_eq_zero (by omega)
    rcases Joins.ownsRow_forms h with ⟨hv, _⟩ | ⟨g, cap, hv⟩
    · exact .inl ⟨_, _, hv, hz⟩
    · obtain rfl : n = 0 := by omega
      exact .inl ⟨_, _, hv, hz⟩
/-- the slice's outer form; its elements are read at their places -/
theorem Vec.form {w : World} {v : Value} {xs : List Value} (h : Vec w v xs) : ∃ ao cap b o, v = .slice ao xs.length cap ∧ (0 < xs.length → ao = some ⟨b, o, none⟩) ∧ xs.length ≤ maxLen ∧
    ∀ (i : Nat) (h : i < xs.length), w.cell? ⟨b, o + i, none⟩ = some (xs[i]'h) := by
  rcases h with ⟨ao, cap, rfl, rfl⟩ | ⟨b, o, cap, h1, h2, h3, h4, h5⟩
  · exact ⟨ao, cap, 0, 0, rfl, fun h => absurd h (by simp), by simp, fun i h => absurd h (by simp)⟩
  · exact ⟨_, cap, b, o, h1, fun _ => rfl, Nat.le_trans h3 h4, h5⟩
theorem own_base {w : World} {base base' : Nat} {e : TypeId} {size n : Nat} {v : Value} {xs : List Value} (h : w.ownsRow base e size v n xs) (hb : base' ≤ base) : w.ownsRow base' e size v n xs := by
  obtain ⟨h1, h2⟩ := h
  refine ⟨h1, ?_⟩
  rcases h2 with h2 | ⟨g, cap, cur, a, b, c, d⟩
  · exact .inl h2
  · exact .inr ⟨g, cap, cur, a, Nat.le_trans hb b, c, d⟩

/-- a slice of numbers -/
def Nums (k : IntKind) (w : World) (v : Value) (l : List Int) : Prop := Vec w v (l.map (Value.int k))
theorem Nums.kept {k : IntKind} {w w' : World} {v : Value} {l : List Int} (h : Nums k w v l) (hb : Below w.heap.size w w') : Nums k w' v l := Vec.kept h hb
theorem Nums.form {k : IntKind} {w : World} {v : Value} {l : List Int} (h : Nums k w v l) : ∃ ao cap b o, v = .slice ao l.length cap ∧ (0 < l.length → ao = some ⟨b, o, none⟩) ∧ l.length ≤ maxLen ∧
    ∀ (i : Nat) (h : i < l.length), w.cell? ⟨b, o + i, none⟩ = some (.int k (l[i]'h)) := by
  obtain ⟨ao, cap, b, o, h1, h2, h3, h4⟩ := Vec.form h
  rw [List.length_map] at h1 h2 h3
  refine ⟨ao, cap, b, o, h1, h2, h3, fun i hi => ?_⟩
  have := h4 i (by rw [List.length_map]; exact hi)
  rw [List.getElem_map] at this
  exact this
theorem Nums.slice {k : IntKind} {w : World} {v : Value} {l : List Int} (h : Nums k w v l) : ∃ ao cap, v = .slice ao l.length cap := by
  obtain ⟨ao, cap, _, _, h1, _⟩ := h.form
  exact ⟨ao, cap, h1⟩
theorem Nums.of_own {k : IntKind} {w : World} {base : Nat} {e : TypeId} {v : Value} {n : Nat} {l : List Int} (h : w.ownsRow base e 1 v n (l.map (Value.int k))) : Nums k w v l := Vec.of_own h
theorem Nums.len {k : IntKind} {w : World} {base : Nat} {e : TypeId} {v : Value} {n : Nat} {l : List Int} (h : w.ownsRow base e 1 v n (l.map (Value.int k))) : l.length = n := by
  have := h.1
  simpa using this
end Go.Proofs.Ytabdgocfbmcobaa
