/- Own work: sums as an int has them. -/
import Derived.Test.YtabdgocfbmcobaaBase
namespace Go.Proofs.Ytabdgocfbmcobaa
open Go.RowKit

/-- sums as an int has them -/
def sumI (l : List Nat) : Int := l.foldl (fun (s : Int) (n : Nat) => wrap64 (s + (n : Int))) 0
theorem sumI_snoc (l : List Nat) (n : Nat) : sumI (l ++ [n]) = wrap64 (sumI l + n) := by simp [sumI]
theorem sumI_at {α : Type} (f : α → Nat) (l : List α) (k : Nat) (hk : k < l.length) : sumI ((l.map f).take (k + 1)) = wrap64 (sumI ((l.map f).take k) + f (l[k]'hk)) := by
  rw [← sumI_snoc, ← List.map_take, ← List.map_take, List.take_succ_eq_append_getElem hk, List.map_append, List.map_singleton]
theorem sumI_from (l : List Nat) : ∀ (s : Nat), s + l.sum ≤ 9223372036854775807 → l.foldl (fun (s : Int) (n : Nat) => wrap64 (s + (n : Int))) (s : Int) = ((s + l.sum : Nat) : Int) := by
  induction l with
  | nil => intro s _; simp
  | cons n l ih =>
    intro s h
    rw [List.sum_cons] at h ⊢
    rw [List.foldl_cons]
    have e : wrap64 ((s : Int) + (n : Int)) = ((s + n : Nat) : Int) := by unfold wrap64; omega
    rw [e, ih (s + n) (by omega)]
    congr 1
    omega
theorem sumI_eq (l : List Nat) (h : l.sum ≤ 9223372036854775807) : sumI l = (l.sum : Nat) := by
  have := sumI_from l 0 (by omega)
  rw [Nat.zero_add] at this
  exact this
end Go.Proofs.Ytabdgocfbmcobaa
