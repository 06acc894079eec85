/- Plain facts on counted texts: lists of bytes alone. -/
import Derived.Test.YtphepdhppjnfpaaDoorNumMath
namespace Go.Proofs.YtphepdhppjnfpaaDoor.Num

/-- a counted text -/
def showL (l : List UInt8) : List UInt8 := Lib.itoa l.length ++ 58 :: l
/-- the counted text at a text's beginning -/
def shownL (l : List UInt8) : Option (List UInt8 × List UInt8) :=
  match takeL l with
  | some (n, c :: r) => if c = 58 ∧ 0 ≤ n ∧ n.toNat ≤ r.length then some (r.take n.toNat, r.drop n.toNat) else none
  | _ => none
theorem shownL_none {l : List UInt8} (h : takeL l = none) : shownL l = none := by rw [shownL, h]
theorem shownL_nil {l : List UInt8} {n : Int} (h : takeL l = some (n, [])) : shownL l = none := by rw [shownL, h]
theorem shownL_no {l : List UInt8} {n : Int} {c : UInt8} {r : List UInt8} (h : takeL l = some (n, c :: r)) (h' : ¬ (c = 58 ∧ 0 ≤ n ∧ n.toNat ≤ r.length)) : shownL l = none := by
  rw [shownL, h]
  exact if_neg h'
theorem shownL_yes {l : List UInt8} {n : Nat} {r : List UInt8} (h : takeL l = some ((n : Int), 58 :: r)) (h' : n ≤ r.length) : shownL l = some (r.take n, r.drop n) := by
  rw [shownL, h]
  show (if _ then _ else _) = _
  rw [if_pos ⟨rfl, by omega, by simpa using h'⟩]
  simp
end Go.Proofs.YtphepdhppjnfpaaDoor.Num
