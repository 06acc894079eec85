/- Own work: small facts about counters: nobody's, a line alone. -/
import Derived.Test.YtajjikbigacbaaaDoorIdNew
namespace Go.Proofs.YtajjikbigacbaaaDoor
open Go.RowKit Go.Maps

set_option maxHeartbeats 1000000 in
theorem nilNext (a : Int) (w : World) : Calls Tryd.prog 13 #[.pointer none, .int .u64 a] w fun e w' => e = .returned (.tuple #[.int .i64 0, .int .i64 2]) ∧ w' = w := by
  go_enter Tryd.func13, Tryd.ntmps13
  go_wp2
  go_ret2
  exact ⟨rfl, rfl⟩
set_option maxHeartbeats 1000000 in
theorem nilLast (a : Int) (w : World) : Calls Tryd.prog 12 #[.pointer none, .int .u64 a] w fun e w' => e = .returned (.int .i64 0) ∧ w' = w := by
  go_enter Tryd.func12, Tryd.ntmps12
  go_wp2
  go_ret
  exact ⟨rfl, rfl⟩
/-- a line alone in a new block -/
theorem lns_one (w : World) (x : LineV) (t : TypeId) : Lns (w.alloc (.cells #[.int .u64 x.lab, .int .i64 x.num, .int .i64 x.rev, .string x.text] t)) (.slice (some ⟨w.heap.size, 0, none⟩) 1 1) [x] := by
  refine .inr ⟨w.heap.size, 0, 1, rfl, by simp, by simp, by decide, fun i hi => ?_⟩
  obtain ⟨d0, d1, d2, d3⟩ := four_new w x.lab x.num x.rev x.text t
  simp only [List.length_singleton] at hi
  obtain rfl : i = 0 := by omega
  exact ⟨d0, d1, d2, d3⟩
theorem Cnt.ptr {B : Nat} {w : World} {p : Value} {mb n : Nat} {f : Int → Int} (h : Cnt B w p mb n f) : ∃ b, p = .pointer (some ⟨b, 0, none⟩) := by
  obtain ⟨b, D, h1, _⟩ := h
  exact ⟨b, h1⟩
theorem Cnt.lts {B : Nat} {w : World} {b mb n : Nat} {f : Int → Int} (h : Cnt B w (.pointer (some ⟨b, 0, none⟩)) mb n f) : b < w.heap.size ∧ mb < w.heap.size ∧ B ≤ b ∧ B ≤ mb := by
  obtain ⟨b', D, h1, h2, h3, _, _, h4, h5, _⟩ := h
  cases h1
  exact ⟨lt_of_block h2, h3.lt, h4, h5⟩
abbrev topL : List LineV := [⟨0, 4611686018427387904, 0, ⟨#[]⟩⟩]
theorem top_at (a : Int) : maxF topL a = if 0 = a then 4611686018427387904 else 0 := by
  simp only [maxF, List.foldl_cons, List.foldl_nil]
  split <;> omega
theorem top_next0 : nextF (maxF topL) 0 = (0, 3) := by simp [nextF, top_at]
theorem top_next1 : nextF (maxF topL) 1 = (1, 0) := by simp [nextF, top_at]
theorem top_u0 : nextU (maxF topL) 0 = maxF topL := by simp [nextU, top_at]
theorem top_u1 : nextU (maxF topL) 1 0 = 4611686018427387904 := by simp [nextU, upd, top_at]
theorem none_at (a : Int) : maxF [] a = 0 := rfl
theorem idsOk_nil : idsOk [] = true := rfl
theorem idsOk_top : idsOk topL = true := by simp [idsOk, twV, twGo, numOk]
theorem top_fine : ∀ x ∈ topL, x.ok := fun x hx => by rw [List.mem_singleton] at hx; rw [hx]; exact ⟨by unfold u64; decide, by unfold i64; decide, by unfold i64; decide⟩
theorem u64_0 : u64 0 := by unfold u64; decide
theorem u64_1 : u64 1 := by unfold u64; decide
theorem u64_3 : u64 3 := by unfold u64; decide

end Go.Proofs.YtajjikbigacbaaaDoor
/- Own work: rows of lines: the first of them, a line alone, behind one another. -/
namespace Go.Proofs.YtajjikbigacbaaaDoor
open Go.RowKit Go.Maps

theorem own_empty4 {W : World} {B H : Nat} {e : TypeId} (h : W.heap[H]? = some (.cells #[] e (0, 0))) (hB : B ≤ H) : W.ownsRow B e 4 (.slice (some ⟨H, 0, none⟩) 0 0) 0 [] :=
  ⟨rfl, .inr ⟨H, 0, #[], rfl, hB, h, Nat.le_refl _, Nat.zero_le _, rfl, rfl⟩⟩
/-- the first lines of a row -/
theorem lns_front {w : World} {B g n cap m : Nat} {e : TypeId} {l r : List LineV} (h : w.ownsRow B e 4 (.slice (some ⟨g, 0, none⟩) n cap) n (flatL (l ++ r))) (hm : l.length = m) : Lns w (.slice (some ⟨g, 0, none⟩) m cap) l := by
  have hn : n * 4 = (l ++ r).length * 4 := by rw [← h.1, flatL_len]
  rcases h.2 with ⟨e, _⟩ | ⟨g', cap', cur, hv, _, _, hnc, hcm, _, _⟩
  · cases e
  · cases hv
    by_cases h0 : 0 < l.length
    · refine .inr ⟨g, 0, cap, by rw [hm], h0, by simp at hn; omega, hcm, fun i hi => ?_⟩
      have hi2 : i < (l ++ r).length := by simp; omega
      obtain ⟨f0, f1, f2, f3⟩ := flatL_get (l ++ r) i hi2
      have hg : (l ++ r)[i]'hi2 = l[i]'hi := List.getElem_append_left hi
      rw [hg] at f0 f1 f2 f3
      simp only [Nat.zero_add]
      exact ⟨(h.cellAt _ (by omega)).trans f0, (h.cellAt _ (by omega)).trans f1, (h.cellAt _ (by omega)).trans f2, (h.cellAt _ (by omega)).trans f3⟩
    · have : l = [] := List.eq_nil_of_length_eq_zero (by omega)
      subst this
      simp at hm
      subst hm
      exact .inl ⟨_, _, rfl, rfl⟩
theorem own_cap {w : World} {B g n cap s : Nat} {e : TypeId} {xs : List Value} (h : w.ownsRow B e s (.slice (some ⟨g, 0, none⟩) n cap) n xs) : n ≤ cap ∧ cap ≤ maxLen := by
  rcases h.2 with ⟨e, _⟩ | ⟨g', cap', cur, hv, _, _, hnc, hcm, _, _⟩
  · cases e
  · cases hv; exact ⟨hnc, hcm⟩
theorem four_news (w : World) (x : LineV) (t : TypeId) : ∀ (i : Nat) (u : Value), x.cells[i]? = some u → (w.alloc (.cells #[.int .u64 x.lab, .int .i64 x.num, .int .i64 x.rev, .string x.text] t)).cell? ((⟨w.heap.size, 0, none⟩ : Addr).add i) = some u := by
  intro i u hu
  rw [addr_add, Nat.zero_add, cell_of_row _ _ _ _ _ _ (heap_alloc_new w _)]
  simpa [LineV.cells] using hu
def x7 : LineV := ⟨0, 7, 0, ⟨#[]⟩⟩
theorem flatL_append (a b : List LineV) : flatL (a ++ b) = flatL a ++ flatL b := by simp [flatL]
theorem flatL_one (x : LineV) : flatL [x] = x.cells := by simp [flatL]
theorem cells_plain (x : LineV) : ∀ y ∈ x.cells, y.oneCell' = true := by
  intro y hy
  simp [LineV.cells] at hy
  rcases hy with rfl | rfl | rfl | rfl <;> rfl

theorem Cnt.under {B T : Nat} {w w' : World} {b mb n : Nat} {f : Int → Int} (h : Cnt B w (.pointer (some ⟨b, 0, none⟩)) mb n f) (hb : b < T) (hm : mb < T) (hB : Below T w w') : Cnt B w' (.pointer (some ⟨b, 0, none⟩)) mb n f := by
  obtain ⟨b', D, h1, h2, h3, h4⟩ := h
  cases h1
  obtain ⟨es, clock, e1, e2⟩ := h3
  exact ⟨b, D, rfl, (hB.block b hb).trans h2, ⟨es, clock, (hB.block mb hm).trans e1, e2⟩, h4⟩
end Go.Proofs.YtajjikbigacbaaaDoor
