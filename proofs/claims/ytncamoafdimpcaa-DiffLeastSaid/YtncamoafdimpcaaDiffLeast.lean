/- Own work: DiffLeast's plain laws and memory. -/
import Derived.Test.YtncamoafdimpcaaDiffPairs
import Derived.Test.YtncamoafdimpcaaOpenNums
namespace Go.Proofs.Ytncamoafdimpcaa
open Go.RowKit

/-- the greatest number of pairs of two beginnings -/
def fwd (a b : List ByteArray) (i j : Nat) : Nat := mostL (a.take i) (b.take j)
theorem fwd_zero (a b : List ByteArray) (i : Nat) : fwd a b i 0 = 0 := by rw [fwd, List.take_zero, mostL_nil']
theorem fwd_zero' (a b : List ByteArray) (j : Nat) : fwd a b 0 j = 0 := by rw [fwd, List.take_zero, mostL_nil]
theorem fwd_step (a b : List ByteArray) (i j : Nat) (hi : i < a.length) (hj : j < b.length) : fwd a b (i + 1) (j + 1) = if a[i]'hi = b[j]'hj then max (max (fwd a b (i + 1) j) (fwd a b i (j + 1))) (fwd a b i j + 1) else max (fwd a b (i + 1) j) (fwd a b i (j + 1)) := by
  have e : ∀ (l : List ByteArray) (k : Nat) (hk : k < l.length), (l.take (k + 1)).reverse = l[k]'hk :: (l.take k).reverse := by
    intro l k hk
    rw [List.take_succ_eq_append_getElem hk, List.reverse_append]
    rfl
  unfold fwd
  rw [← mostL_rev (a.take (i + 1)) (b.take (j + 1)), ← mostL_rev (a.take (i + 1)) (b.take j), ← mostL_rev (a.take i) (b.take (j + 1)), ← mostL_rev (a.take i) (b.take j), e a i hi, e b j hj, mostL_cons']
  split
  · congr 1
    exact Nat.max_comm _ _
  · exact Nat.max_comm _ _
theorem fwd_le (a b : List ByteArray) (i j : Nat) : fwd a b i j ≤ a.length := by
  have h := mostL_le (a.take i) (b.take j)
  rw [List.length_take] at h
  unfold fwd
  omega
theorem fwd_all (a b : List ByteArray) (i j : Nat) (hi : a.length ≤ i) (hj : b.length ≤ j) : fwd a b i j = mostL a b := by
  rw [fwd, List.take_of_length_le hi, List.take_of_length_le hj]
theorem small_most (a b : List ByteArray) (ha : a.length ≤ 100) (hb : b.length ≤ 100) : (commonL a b).length = mostL a b := by
  refine common_most a b (Nat.le_trans (Nat.mul_le_mul (show _ ≤ 100 by omega) (show _ ≤ 100 by omega)) (by decide))
/-- picks that rise, and what they show -/
def Found (a b : List ByteArray) (I J f : Nat) : Prop := ∃ s : List ByteArray, s.Sublist (a.take I) ∧ s.Sublist (b.take J) ∧ s.length = f
theorem found_zero (a b : List ByteArray) : Found a b 0 0 0 := ⟨[], by simp, by simp, rfl⟩
theorem Found.step {a b : List ByteArray} {I J f c d : Nat} (h : Found a b I J f) (hc : I ≤ c) (hd : J ≤ d) (hca : c < a.length) (hdb : d < b.length) (he : a[c]'hca = b[d]'hdb) : Found a b (c + 1) (d + 1) (f + 1) := by
  obtain ⟨s, h1, h2, h3⟩ := h
  refine ⟨s ++ [a[c]'hca], ?_, ?_, by simp [h3]⟩
  · rw [List.take_succ_eq_append_getElem hca]
    exact (h1.trans (List.take_sublist_take_left hc)).append (List.Sublist.refl _)
  · rw [List.take_succ_eq_append_getElem hdb, he]
    exact (h2.trans (List.take_sublist_take_left hd)).append (List.Sublist.refl _)
theorem Found.le {a b : List ByteArray} {I J f : Nat} (h : Found a b I J f) : f ≤ mostL a b := by
  obtain ⟨s, h1, h2, h3⟩ := h
  rw [← h3]
  exact mostL_max a b s (h1.trans (List.take_sublist _ _)) (h2.trans (List.take_sublist _ _))
theorem run_front (ao : Option Addr) (n cap h : Nat) (h2 : h ≤ cap) (W : World) :
    (Instr.slice 23 (.slice ao n cap) none (some (.int .i64 (h : Int))) none).run Try.prog W = .ok (.slice ao h cap) W := by
  have e2 : (0 : Int) ≤ (h : Int) := by omega
  cases ao <;> simp [Instr.slice, Instr.sliceBounds, Instr.sliceBound, asIntOf, run_underlying Try.underlying23, go_sem, e2, h2, Addr.add]
theorem texts_take {w : World} {ao : Option Addr} {n cap : Nat} {l : List ByteArray} (h : Texts w (.slice ao n cap) l) (k : Nat) (hk : k ≤ n) : Texts w (.slice ao k cap) (l.take k) := by
  rcases h with ⟨ao', cap', h3, rfl⟩ | ⟨b, o, cap', h3, h4, h5, h6, h7⟩
  · cases h3
    obtain rfl : k = 0 := by omega
    exact .inl ⟨_, _, rfl, by simp⟩
  · cases h3
    have hl : (l.take k).length = k := by rw [List.length_take]; omega
    by_cases h0 : k = 0
    · subst h0
      exact .inl ⟨_, _, rfl, by simp⟩
    · refine .inr ⟨b, o, cap, by rw [hl], by omega, by omega, h6, fun i hi => ?_⟩
      rw [hl] at hi
      rw [h7 i (by omega), List.getElem_take]
/-- a row of numbers that is filled, beside all that stood -/
structure NInv (w0 W : World) (g M : Nat) (ys : List Value) : Prop where
  below : Below w0.heap.size w0 W
  own : W.ownsRow w0.heap.size 3 1 (.slice (some ⟨g, 0, none⟩) M M) M ys
theorem NInv.drew {w0 W : World} {g M : Nat} {ys : List Value} (h : NInv w0 W g M ys) (q : Nat) : NInv w0 (W.drewN q) g M ys := ⟨below_drewN h.below q, own_kept h.own (below_drewN (Below.refl _ _) q)⟩
theorem NInv.set {w0 W : World} {g M : Nat} {ys : List Value} (h : NInv w0 W g M ys) (k : Nat) (v : Value) : NInv w0 (W.setCell ⟨g, k, none⟩ v) g M (ys.set k v) :=
  ⟨h.below.grown (grown_setCell W g k v) h.below.size (fun q hq => by cases hq; exact (h.own.lt g rfl).1), own_setCell h.own v⟩
theorem ninv_start (w : World) (M : Nat) (hM : M ≤ maxLen) : NInv w (w.alloc (.cells (zerosI M) 3)) w.heap.size M (zerosI M).toList :=
  ⟨(Below.refl _ _).alloc (Nat.le_refl _) _, World.ownsRow_lit (base := w.heap.size) (e := 3) (size := 1) w (zerosI M) M (Nat.le_refl _) hM (zerosI_size M)⟩
theorem zerosI_get (M j : Nat) (h : j < M) : (zerosI M).toList[j]? = some (.int .i64 0) := by
  simp [zerosI, madeCells, h]
  show (#[Value.int .i64 0] : Array Value)[j % 1]! = _
  rw [Nat.mod_one]
  rfl
end Go.Proofs.Ytncamoafdimpcaa
