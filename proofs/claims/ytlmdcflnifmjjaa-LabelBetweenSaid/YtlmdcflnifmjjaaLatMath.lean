/- Plain arithmetic: sets of compartments are a lattice. -/
import Derived.Test.YtlmdcflnifmjjaaLabMathB
namespace Go.Proofs.Ytlmdcflnifmjjaa

theorem below_bits {a b : Nat} : belowN a b = true ↔ ∀ j, a.testBit j = true → b.testBit j = true := by
  rw [belowN, beq_iff_eq]
  constructor
  · intro h j hj
    have := lessN_bit a b j
    rw [h, hj] at this
    simpa using this
  · intro h
    apply Nat.eq_of_testBit_eq
    intro j
    rw [lessN_bit, Nat.zero_testBit]
    cases hb : a.testBit j
    · rfl
    · rw [h j hb]; rfl
theorem below_self (a : Nat) : belowN a a = true := below_bits.2 fun _ h => h
theorem below_anti {a b : Nat} (h : belowN a b = true) (k : belowN b a = true) : a = b := by
  rw [below_bits] at h k
  apply Nat.eq_of_testBit_eq
  intro j
  rw [Bool.eq_iff_iff]
  exact ⟨h j, k j⟩
theorem below_trans {a b c : Nat} (h : belowN a b = true) (k : belowN b c = true) : belowN a c = true := by
  rw [below_bits] at h k ⊢
  exact fun j hj => k j (h j hj)
theorem below_or_l (a b : Nat) : belowN a (a ||| b) = true := by
  rw [below_bits]; intro j hj; rw [Nat.testBit_or, hj]; rfl
theorem below_or_r (a b : Nat) : belowN b (a ||| b) = true := by
  rw [below_bits]; intro j hj; rw [Nat.testBit_or, hj, Bool.or_true]
theorem below_and_l (a b : Nat) : belowN (a &&& b) a = true := by
  rw [below_bits]; intro j hj; rw [Nat.testBit_and, Bool.and_eq_true] at hj; exact hj.1
theorem below_and_r (a b : Nat) : belowN (a &&& b) b = true := by
  rw [below_bits]; intro j hj; rw [Nat.testBit_and, Bool.and_eq_true] at hj; exact hj.2
theorem below_or {a b c : Nat} (h : belowN a c = true) (k : belowN b c = true) : belowN (a ||| b) c = true := by
  rw [below_bits] at h k ⊢
  intro j hj
  rw [Nat.testBit_or, Bool.or_eq_true] at hj
  exact hj.elim (h j) (k j)
theorem below_and {a b c : Nat} (h : belowN c a = true) (k : belowN c b = true) : belowN c (a &&& b) = true := by
  rw [below_bits] at h k ⊢
  intro j hj
  rw [Nat.testBit_and, h j hj, k j hj]; rfl
theorem less_meet (a b : Nat) : lessN a b &&& b = 0 := by
  apply Nat.eq_of_testBit_eq
  intro j
  rw [Nat.testBit_and, lessN_bit, Nat.zero_testBit]
  cases a.testBit j <;> cases b.testBit j <;> rfl
theorem less_join (a b : Nat) : lessN a b ||| (a &&& b) = a := by
  apply Nat.eq_of_testBit_eq
  intro j
  rw [Nat.testBit_or, lessN_bit, Nat.testBit_and]
  cases a.testBit j <;> cases b.testBit j <;> rfl
theorem meet_shared (a b c : Nat) : a &&& (b ||| c) = (a &&& b) ||| (a &&& c) := by
  apply Nat.eq_of_testBit_eq
  intro j
  simp only [Nat.testBit_or, Nat.testBit_and]
  cases a.testBit j <;> cases b.testBit j <;> cases c.testBit j <;> rfl
theorem join_shared (a b c : Nat) : a ||| (b &&& c) = (a ||| b) &&& (a ||| c) := by
  apply Nat.eq_of_testBit_eq
  intro j
  simp only [Nat.testBit_or, Nat.testBit_and]
  cases a.testBit j <;> cases b.testBit j <;> cases c.testBit j <;> rfl
end Go.Proofs.Ytlmdcflnifmjjaa
