/- Own work: plain laws of what is seen. -/
import Derived.Test.YtgchcgllpceghaaSeeRef
namespace Go.Proofs.Ytgchcgllpceghaa

theorem fine_filter {p : LineV → Bool} {l : List LineV} (hf : ∀ x ∈ l, x.fine) : ∀ x ∈ l.filter p, x.fine := fun x hx => hf x (List.mem_filter.1 hx).1
theorem len_filter {p : LineV → Bool} {l : List LineV} (h : l.length * 40 ≤ 140737488355328) : (l.filter p).length * 40 ≤ 140737488355328 := by
  have := List.length_filter_le p l
  omega
theorem seen_and (a b : Nat) (x : LineV) : (x.seen b && x.seen a) = x.seen (a &&& b) := by
  rw [Bool.eq_iff_iff, Bool.and_eq_true]
  exact ⟨fun ⟨h1, h2⟩ => below_and h2 h1, fun h => ⟨below_trans h (below_and_r a b), below_trans h (below_and_l a b)⟩⟩
theorem filter_and (a b : Nat) (l : List LineV) : (l.filter (LineV.seen a)).filter (LineV.seen b) = l.filter (LineV.seen (a &&& b)) := by
  rw [List.filter_filter]
  congr 1
  funext x
  exact seen_and a b x
theorem filter_and' (a b : Nat) (l : List LineV) : (l.filter (LineV.seen b)).filter (LineV.seen a) = l.filter (LineV.seen (a &&& b)) := by
  rw [filter_and, Nat.and_comm]
theorem filter_wide (a b : Nat) (l : List LineV) : (l.filter (LineV.seen (a ||| b))).filter (LineV.seen a) = l.filter (LineV.seen a) := by
  rw [List.filter_filter]
  congr 1
  funext x
  rw [Bool.eq_iff_iff, Bool.and_eq_true]
  exact ⟨fun h => h.1, fun h => ⟨h, below_trans h (below_or_l a b)⟩⟩
theorem filter_narrow {c d : Nat} (h : belowN d c = true) (l : List LineV) : (l.filter (LineV.seen c)).filter (LineV.seen d) = l.filter (LineV.seen d) := by
  rw [List.filter_filter]
  congr 1
  funext x
  rw [Bool.eq_iff_iff, Bool.and_eq_true]
  exact ⟨fun h => h.1, fun k => ⟨k, below_trans k h⟩⟩
/-- the next of those of which something is so -/
theorem filter_next (p : LineV → Bool) {l : List LineV} {n : Nat} (h : n < l.length) (hp : p (l[n]'h) = true) :
    ∃ hi : ((l.take n).filter p).length < (l.filter p).length, (l.filter p)[((l.take n).filter p).length]'hi = l[n]'h := by
  have e : l.filter p = (l.take n).filter p ++ l[n]'h :: (l.drop (n + 1)).filter p := by
    rw [← List.filter_cons_of_pos (p := p) hp, ← List.filter_append, ← List.drop_eq_getElem_cons h, List.take_append_drop]
  have hlen := congrArg List.length e
  rw [List.length_append, List.length_cons] at hlen
  refine ⟨by omega, ?_⟩
  have h2 : (l.filter p)[((l.take n).filter p).length]? = some (l[n]'h) := by
    rw [e, List.getElem?_append_right (Nat.le_refl _), Nat.sub_self]; rfl
  exact (List.getElem?_eq_some_iff.1 h2).2
theorem filter_step (p : LineV → Bool) {l : List LineV} {n : Nat} (h : n < l.length) : ((l.take (n + 1)).filter p).length = ((l.take n).filter p).length + if p (l[n]'h) then 1 else 0 := by
  rw [List.take_succ_eq_append_getElem h, List.filter_append, List.length_append]
  congr 1
  cases hp : p (l[n]'h) <;> simp [hp]
end Go.Proofs.Ytgchcgllpceghaa
