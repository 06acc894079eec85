/- Plain arithmetic of sets of compartments as words of 64 bits. -/
import Derived.Laws.Bits64b
import Derived.Laws.Rows
namespace Go.Proofs.YtgodmfjcccakbaaDoor

/-- what is in a and not in b -/
def lessN (a b : Nat) : Nat := a ^^^ (a &&& b)
theorem lessN_bit (a b i : Nat) : (lessN a b).testBit i = (a.testBit i && !b.testBit i) := by
  rw [lessN, Nat.testBit_xor, Nat.testBit_and]
  cases a.testBit i <;> cases b.testBit i <;> rfl
theorem lessN_lt (a b : Nat) (ha : a < 18446744073709551616) : lessN a b < 18446744073709551616 :=
  Nat.xor_lt_two_pow (n := 64) ha (Nat.lt_of_le_of_lt Nat.and_le_left ha)
theorem bits_andNot_u64_nat (a b : Nat) (ha : a < 18446744073709551616) (hb : b < 18446744073709551616) :
    bits .andNot .u64 (a : Int) (b : Int) = ((lessN a b : Nat) : Int) := by
  have hx : lessN a b < 2 ^ 64 := lessN_lt a b ha
  have h1 : (BitVec.ofInt 64 (a : Int)).toNat = a := by
    rw [BitVec.ofInt_natCast, BitVec.toNat_ofNat]; exact Nat.mod_eq_of_lt (by omega)
  have h2 : (BitVec.ofInt 64 (b : Int)).toNat = b := by
    rw [BitVec.ofInt_natCast, BitVec.toNat_ofNat]; exact Nat.mod_eq_of_lt (by omega)
  show IntKind.u64.wrap ((BitVec.ofInt 64 (a : Int) &&& ~~~ BitVec.ofInt 64 (b : Int)).toNat : Int) = _
  have e : (BitVec.ofInt 64 (a : Int) &&& ~~~ BitVec.ofInt 64 (b : Int)).toNat = lessN a b := by
    apply Nat.eq_of_testBit_eq
    intro i
    rw [lessN_bit, BitVec.toNat_and, h1, Nat.testBit_and, BitVec.testBit_toNat, BitVec.getLsbD_not]
    by_cases hi : i < 64
    · rw [← BitVec.testBit_toNat, h2]
      simp [hi]
    · rw [Nat.testBit_lt_two_pow (Nat.lt_of_lt_of_le (by omega) (Nat.pow_le_pow_right (by decide) (by omega) : 2 ^ 64 ≤ 2 ^ i))]
      simp
  rw [e, IntKind.wrap_u64]
  omega

/-- the set of a word, as the row of its truths -/
def setV (x : Nat) : Array Value := ((List.range 64).map fun i => Value.bool (x.testBit i)).toArray
theorem setV_size (x : Nat) : (setV x).size = 64 := by simp [setV]
theorem setV_at (x i : Nat) (h : i < 64) : (setV x)[i]? = some (.bool (x.testBit i)) := by
  simp [setV, h]
theorem setV_set (x y i : Nat) (b : Bool) (h : ∀ j, j < 64 → y.testBit j = if j = i then b else x.testBit j) : (setV x).setIfInBounds i (.bool b) = setV y := by
  apply Array.ext
  · simp [setV]
  · intro j h1 h2
    have hj : j < 64 := by simpa [setV] using h2
    rw [Array.getElem_setIfInBounds (by rw [setV_size]; exact hj)]
    simp only [setV, List.getElem_toArray, List.getElem_map, List.getElem_range]
    rw [h j hj]
    by_cases e : i = j
    · subst e; simp
    · rw [if_neg e, if_neg (fun e' => e e'.symm)]
theorem setV_zero : setV 0 = Array.replicate 64 (Value.bool false) := by
  simp [setV]
  rfl
theorem setV_cells (x : Nat) : (setV x).all (·.oneCell') = true := by
  simp [setV, Value.oneCell']
theorem setV_grow (a k : Nat) (hk : k < 64) : (setV (a % 2 ^ k)).setIfInBounds k (.bool (a.testBit k)) = setV (a % 2 ^ (k + 1)) := by
  apply setV_set
  intro j hj
  rw [Nat.testBit_mod_two_pow, Nat.testBit_mod_two_pow]
  by_cases e : j = k
  · subst e; simp
  · rw [if_neg e]
    by_cases h : j < k
    · simp [h, show j < k + 1 by omega]
    · simp [h, show ¬ j < k + 1 by omega]
theorem testBit_odd (a k : Nat) : (((a / 2 ^ k : Nat) : Int) % 2 == 1) = a.testBit k := by
  rw [Nat.testBit_eq_decide_div_mod_eq, Bool.eq_iff_iff, beq_iff_eq, decide_eq_true_eq]
  omega
theorem half_pow (a k : Nat) : a / 2 ^ k / 2 = a / 2 ^ (k + 1) := by
  rw [Nat.div_div_eq_div_mul, Nat.pow_succ]
theorem top_pow (a k : Nat) : a / 2 ^ k = a / 2 ^ (k + 1) * 2 + (if a.testBit k then 1 else 0) := by
  rw [← half_pow, Nat.testBit_eq_decide_div_mod_eq]
  by_cases h : a / 2 ^ k % 2 = 1
  · simp [h]; omega
  · simp [h]; omega
theorem word_ext {x y : Nat} (hx : x < 18446744073709551616) (hy : y < 18446744073709551616) (h : ∀ j, j < 64 → x.testBit j = y.testBit j) : x = y := by
  apply Nat.eq_of_testBit_eq
  intro i
  by_cases hi : i < 64
  · exact h i hi
  · rw [Nat.testBit_lt_two_pow (Nat.lt_of_lt_of_le hx (Nat.pow_le_pow_right (by decide) (by omega) : 2 ^ 64 ≤ 2 ^ i)),
      Nat.testBit_lt_two_pow (Nat.lt_of_lt_of_le hy (Nat.pow_le_pow_right (by decide) (by omega) : 2 ^ 64 ≤ 2 ^ i))]
/-- is a below b? -/
def belowN (a b : Nat) : Bool := lessN a b == 0
theorem belowN_iff (a b : Nat) (ha : a < 18446744073709551616) : belowN a b = true ↔ ∀ j, j < 64 → a.testBit j = true → b.testBit j = true := by
  rw [belowN, beq_iff_eq]
  constructor
  · intro h j _ hj
    have := lessN_bit a b j
    rw [h, hj] at this
    simpa using this
  · intro h
    apply word_ext (lessN_lt a b ha) (by decide)
    intro j hj
    rw [lessN_bit, Nat.zero_testBit]
    cases hb : a.testBit j
    · rfl
    · rw [h j hj hb]; rfl
theorem belowN_not (a b j : Nat) (h : a.testBit j = true) (hb : b.testBit j = false) : belowN a b = false := by
  rw [Bool.eq_false_iff]
  intro hx
  rw [belowN, beq_iff_eq] at hx
  have := lessN_bit a b j
  rw [hx, h, hb] at this
  simp at this
end Go.Proofs.YtgodmfjcccakbaaDoor
