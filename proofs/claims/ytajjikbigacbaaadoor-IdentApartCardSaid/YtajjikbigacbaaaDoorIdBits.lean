/- Own work: rows of lines: the first of them, a line alone, behind one another. -/
import Derived.Test.YtajjikbigacbaaaDoorIdNil
namespace Go.Proofs.YtajjikbigacbaaaDoor
open Go.RowKit Go.Maps

theorem own_empty4 {W : World} {B H : Nat} {e : TypeId} (h : W.heap[H]? = some (.cells #[] e (0, 0))) (hB : B ≤ H) : W.ownsRow B e 4 (.slice (some ⟨H, 0, none⟩) 0 0) 0 [] :=
  ⟨rfl, .inr ⟨H, 0, #[], rfl, hB, h, Nat.le_refl _, Nat.zero_le _, rfl, rfl⟩⟩
/-- the first lines of a row -/
theorem lns_front {w : World} {B g n cap m : Nat} {e : TypeId} {l r : List LineV} (h : w.ownsRow B e 4 (.slice (some ⟨g, 0, none⟩) n cap) n (flatL (l ++ r))) (hm : l.length = m) : Lns w (.slice (some ⟨g, 0, none⟩) m cap) l := by
  have hn : n * 4 = (l ++ r).length * 4 := by rw [← h.1, flatL_len]
  rcases h.2 with ⟨e, _⟩ | ⟨g', cap', cur, hv, _, _, hnc, hcm, _, _⟩
  · cases e
  · cases hv
    by_cases h0 : 0 < l.length
    · refine .inr ⟨g, 0, cap, by rw [hm], h0, by simp at hn; omega, hcm, fun i hi => ?_⟩
      have hi2 : i < (l ++ r).length := by simp; omega
      obtain ⟨f0, f1, f2, f3⟩ := flatL_get (l ++ r) i hi2
      have hg : (l ++ r)[i]'hi2 = l[i]'hi := List.getElem_append_left hi
      rw [hg] at f0 f1 f2 f3
      simp only [Nat.zero_add]
      exact ⟨(h.cellAt _ (by omega)).trans f0, (h.cellAt _ (by omega)).trans f1, (h.cellAt _ (by omega)).trans f2, (h.cellAt _ (by omega)).trans f3⟩
    · have : l = [] := List.eq_nil_of_length_eq_zero (by omega)
      subst this
      simp at hm
      subst hm
      exact .inl ⟨_, _, rfl, rfl⟩
theorem own_cap {w : World} {B g n cap s : Nat} {e : TypeId} {xs : List Value} (h : w.ownsRow B e s (.slice (some ⟨g, 0, none⟩) n cap) n xs) : n ≤ cap ∧ cap ≤ maxLen := by
  rcases h.2 with ⟨e, _⟩ | ⟨g', cap', cur, hv, _, _, hnc, hcm, _, _⟩
  · cases e
  · cases hv; exact ⟨hnc, hcm⟩
theorem four_news (w : World) (x : LineV) (t : TypeId) : ∀ (i : Nat) (u : Value), x.cells[i]? = some u → (w.alloc (.cells #[.int .u64 x.lab, .int .i64 x.num, .int .i64 x.rev, .string x.text] t)).cell? ((⟨w.heap.size, 0, none⟩ : Addr).add i) = some u := by
  intro i u hu
  rw [addr_add, Nat.zero_add, cell_of_row _ _ _ _ _ _ (heap_alloc_new w _)]
  simpa [LineV.cells] using hu
def x7 : LineV := ⟨0, 7, 0, ⟨#[]⟩⟩
theorem flatL_append (a b : List LineV) : flatL (a ++ b) = flatL a ++ flatL b := by simp [flatL]
theorem flatL_one (x : LineV) : flatL [x] = x.cells := by simp [flatL]
theorem cells_plain (x : LineV) : ∀ y ∈ x.cells, y.oneCell' = true := by
  intro y hy
  simp [LineV.cells] at hy
  rcases hy with rfl | rfl | rfl | rfl <;> rfl

theorem Cnt.under {B T : Nat} {w w' : World} {b mb n : Nat} {f : Int → Int} (h : Cnt B w (.pointer (some ⟨b, 0, none⟩)) mb n f) (hb : b < T) (hm : mb < T) (hB : Below T w w') : Cnt B w' (.pointer (some ⟨b, 0, none⟩)) mb n f := by
  obtain ⟨b', D, h1, h2, h3, h4⟩ := h
  cases h1
  obtain ⟨es, clock, e1, e2⟩ := h3
  exact ⟨b, D, rfl, (hB.block b hb).trans h2, ⟨es, clock, (hB.block mb hm).trans e1, e2⟩, h4⟩
end Go.Proofs.YtajjikbigacbaaaDoor
