/- Own work: rows of lines: one alone, two, the first of them, one behind another. -/
import Derived.Test.YtgchcgllpceghaaLnv
import Derived.Deep.Draws
import Derived.Deep.AppendLies
namespace Go.Proofs.Ytgchcgllpceghaa
open Go.RowKit

theorem four_new (w : World) (a b c : Int) (s : ByteArray) (t : TypeId) : (w.alloc (.cells #[.int .u64 a, .int .i64 b, .int .i64 c, .string s] t)).cell? ⟨w.heap.size, 0, none⟩ = some (.int .u64 a) ∧
    (w.alloc (.cells #[.int .u64 a, .int .i64 b, .int .i64 c, .string s] t)).cell? ⟨w.heap.size, 1, none⟩ = some (.int .i64 b) ∧
    (w.alloc (.cells #[.int .u64 a, .int .i64 b, .int .i64 c, .string s] t)).cell? ⟨w.heap.size, 2, none⟩ = some (.int .i64 c) ∧
    (w.alloc (.cells #[.int .u64 a, .int .i64 b, .int .i64 c, .string s] t)).cell? ⟨w.heap.size, 3, none⟩ = some (.string s) :=
  ⟨cell_of_row _ _ 0 _ _ _ (heap_alloc_new w _), cell_of_row _ _ 1 _ _ _ (heap_alloc_new w _), cell_of_row _ _ 2 _ _ _ (heap_alloc_new w _), cell_of_row _ _ 3 _ _ _ (heap_alloc_new w _)⟩
/-- a line alone in a new block -/
theorem lns_one (w : World) (x : LineV) (t : TypeId) : Lns (w.alloc (.cells #[.int .u64 x.lab, .int .i64 x.num, .int .i64 x.rev, .string x.text] t)) (.slice (some ⟨w.heap.size, 0, none⟩) 1 1) [x] := by
  refine .inr ⟨w.heap.size, 0, 1, rfl, by simp, by simp, by decide, fun i hi => ?_⟩
  obtain ⟨d0, d1, d2, d3⟩ := four_new w x.lab x.num x.rev x.text t
  simp only [List.length_singleton] at hi
  obtain rfl : i = 0 := by omega
  exact ⟨d0, d1, d2, d3⟩
/-- two lines in a new block -/
theorem lns_two (w : World) (x y : LineV) (t : TypeId) : Lns (w.alloc (.cells #[.int .u64 x.lab, .int .i64 x.num, .int .i64 x.rev, .string x.text, .int .u64 y.lab, .int .i64 y.num, .int .i64 y.rev, .string y.text] t)) (.slice (some ⟨w.heap.size, 0, none⟩) 2 2) [x, y] := by
  refine .inr ⟨w.heap.size, 0, 2, rfl, by simp, by simp, by decide, fun i hi => ?_⟩
  have hr := heap_alloc_new w (.cells #[.int .u64 x.lab, .int .i64 x.num, .int .i64 x.rev, .string x.text, .int .u64 y.lab, .int .i64 y.num, .int .i64 y.rev, .string y.text] t)
  have hc := fun j => cell_of_row _ _ j _ _ _ hr
  match i, hi with
  | 0, _ => exact ⟨hc 0, hc 1, hc 2, hc 3⟩
  | 1, _ => exact ⟨hc 4, hc 5, hc 6, hc 7⟩
theorem own_empty4 {W : World} {B H : Nat} {e : TypeId} (h : W.heap[H]? = some (.cells #[] e (0, 0))) (hB : B ≤ H) : W.ownsRow B e 4 (.slice (some ⟨H, 0, none⟩) 0 0) 0 [] :=
  ⟨rfl, .inr ⟨H, 0, #[], rfl, hB, h, Nat.le_refl _, Nat.zero_le _, rfl, rfl⟩⟩
/-- the first lines of a row -/
theorem lns_front {w : World} {B g n cap m : Nat} {e : TypeId} {l r : List LineV} (h : w.ownsRow B e 4 (.slice (some ⟨g, 0, none⟩) n cap) n (flatL (l ++ r))) (hm : l.length = m) : Lns w (.slice (some ⟨g, 0, none⟩) m cap) l := by
  have hn : n * 4 = (l ++ r).length * 4 := by rw [← h.1, flatL_len]
  rcases h.2 with ⟨e, _⟩ | ⟨g', cap', cur, hv, _, _, hnc, hcm, _, _⟩
  · cases e
  · cases hv
    by_cases h0 : 0 < l.length
    · refine .inr ⟨g, 0, cap, by rw [hm], h0, by simp at hn; omega, hcm, fun i hi => ?_⟩
      have hi2 : i < (l ++ r).length := by simp; omega
      obtain ⟨f0, f1, f2, f3⟩ := flatL_get (l ++ r) i hi2
      have hg : (l ++ r)[i]'hi2 = l[i]'hi := List.getElem_append_left hi
      rw [hg] at f0 f1 f2 f3
      simp only [Nat.zero_add]
      exact ⟨(h.cellAt _ (by omega)).trans f0, (h.cellAt _ (by omega)).trans f1, (h.cellAt _ (by omega)).trans f2, (h.cellAt _ (by omega)).trans f3⟩
    · have : l = [] := List.eq_nil_of_length_eq_zero (by omega)
      subst this
      simp at hm
      subst hm
      exact .inl ⟨_, _, rfl, rfl⟩
theorem own_cap {w : World} {B g n cap s : Nat} {e : TypeId} {xs : List Value} (h : w.ownsRow B e s (.slice (some ⟨g, 0, none⟩) n cap) n xs) : n ≤ cap ∧ cap ≤ maxLen := by
  rcases h.2 with ⟨e, _⟩ | ⟨g', cap', cur, hv, _, _, hnc, hcm, _, _⟩
  · cases e
  · cases hv; exact ⟨hnc, hcm⟩
theorem four_news (w : World) (x : LineV) (t : TypeId) : ∀ (i : Nat) (u : Value), x.cells[i]? = some u → (w.alloc (.cells #[.int .u64 x.lab, .int .i64 x.num, .int .i64 x.rev, .string x.text] t)).cell? ((⟨w.heap.size, 0, none⟩ : Addr).add i) = some u := by
  intro i u hu
  rw [addr_add, Nat.zero_add, cell_of_row _ _ _ _ _ _ (heap_alloc_new w _)]
  simpa [LineV.cells] using hu
theorem flatL_append (a b : List LineV) : flatL (a ++ b) = flatL a ++ flatL b := by simp [flatL]
theorem flatL_one (x : LineV) : flatL [x] = x.cells := by simp [flatL]
theorem cells_plain (x : LineV) : ∀ y ∈ x.cells, y.oneCell' = true := by
  intro y hy
  simp [LineV.cells] at hy
  rcases hy with rfl | rfl | rfl | rfl <;> rfl

end Go.Proofs.Ytgchcgllpceghaa
