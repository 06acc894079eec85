/- Plain arithmetic of sets of compartments as words of 64 bits. -/
import Derived.Laws.Bits64b
import Derived.Laws.Rows
import Derived.Lib.TrailingZeros
import Derived.Lib.Join
import Derived.Lib.ItoaNum
namespace Go.Proofs.Ytgchcgllpceghaa

/-- what is in a and not in b -/
def lessN (a b : Nat) : Nat := a ^^^ (a &&& b)
theorem lessN_bit (a b i : Nat) : (lessN a b).testBit i = (a.testBit i && !b.testBit i) := by
  rw [lessN, Nat.testBit_xor, Nat.testBit_and]
  cases a.testBit i <;> cases b.testBit i <;> rfl
theorem lessN_lt (a b : Nat) (ha : a < 18446744073709551616) : lessN a b < 18446744073709551616 :=
  Nat.xor_lt_two_pow (n := 64) ha (Nat.lt_of_le_of_lt Nat.and_le_left ha)
theorem bits_andNot_u64_nat (a b : Nat) (ha : a < 18446744073709551616) (hb : b < 18446744073709551616) :
    bits .andNot .u64 (a : Int) (b : Int) = ((lessN a b : Nat) : Int) := by
  have hx : lessN a b < 2 ^ 64 := lessN_lt a b ha
  have h1 : (BitVec.ofInt 64 (a : Int)).toNat = a := by
    rw [BitVec.ofInt_natCast, BitVec.toNat_ofNat]; exact Nat.mod_eq_of_lt (by omega)
  have h2 : (BitVec.ofInt 64 (b : Int)).toNat = b := by
    rw [BitVec.ofInt_natCast, BitVec.toNat_ofNat]; exact Nat.mod_eq_of_lt (by omega)
  show IntKind.u64.wrap ((BitVec.ofInt 64 (a : Int) &&& ~~~ BitVec.ofInt 64 (b : Int)).toNat : Int) = _
  have e : (BitVec.ofInt 64 (a : Int) &&& ~~~ BitVec.ofInt 64 (b : Int)).toNat = lessN a b := by
    apply Nat.eq_of_testBit_eq
    intro i
    rw [lessN_bit, BitVec.toNat_and, h1, Nat.testBit_and, BitVec.testBit_toNat, BitVec.getLsbD_not]
    by_cases hi : i < 64
    · rw [← BitVec.testBit_toNat, h2]
      simp [hi]
    · rw [Nat.testBit_lt_two_pow (Nat.lt_of_lt_of_le (by omega) (Nat.pow_le_pow_right (by decide) (by omega) : 2 ^ 64 ≤ 2 ^ i))]
      simp
  rw [e, IntKind.wrap_u64]
  omega

/-- the set of a word, as the row of its truths -/
def setV (x : Nat) : Array Value := ((List.range 64).map fun i => Value.bool (x.testBit i)).toArray
theorem setV_size (x : Nat) : (setV x).size = 64 := by simp [setV]
theorem setV_at (x i : Nat) (h : i < 64) : (setV x)[i]? = some (.bool (x.testBit i)) := by
  simp [setV, h]
theorem setV_set (x y i : Nat) (b : Bool) (h : ∀ j, j < 64 → y.testBit j = if j = i then b else x.testBit j) : (setV x).setIfInBounds i (.bool b) = setV y := by
  apply Array.ext
  · simp [setV]
  · intro j h1 h2
    have hj : j < 64 := by simpa [setV] using h2
    rw [Array.getElem_setIfInBounds (by rw [setV_size]; exact hj)]
    simp only [setV, List.getElem_toArray, List.getElem_map, List.getElem_range]
    rw [h j hj]
    by_cases e : i = j
    · subst e; simp
    · rw [if_neg e, if_neg (fun e' => e e'.symm)]
theorem setV_zero : setV 0 = Array.replicate 64 (Value.bool false) := by
  simp [setV]
  rfl
theorem setV_cells (x : Nat) : (setV x).all (·.oneCell') = true := by
  simp [setV, Value.oneCell']
theorem setV_grow (a k : Nat) (hk : k < 64) : (setV (a % 2 ^ k)).setIfInBounds k (.bool (a.testBit k)) = setV (a % 2 ^ (k + 1)) := by
  apply setV_set
  intro j hj
  rw [Nat.testBit_mod_two_pow, Nat.testBit_mod_two_pow]
  by_cases e : j = k
  · subst e; simp
  · rw [if_neg e]
    by_cases h : j < k
    · simp [h, show j < k + 1 by omega]
    · simp [h, show ¬ j < k + 1 by omega]
theorem testBit_odd (a k : Nat) : (((a / 2 ^ k : Nat) : Int) % 2 == 1) = a.testBit k := by
  rw [Nat.testBit_eq_decide_div_mod_eq, Bool.eq_iff_iff, beq_iff_eq, decide_eq_true_eq]
  omega
theorem half_pow (a k : Nat) : a / 2 ^ k / 2 = a / 2 ^ (k + 1) := by
  rw [Nat.div_div_eq_div_mul, Nat.pow_succ]
theorem top_pow (a k : Nat) : a / 2 ^ k = a / 2 ^ (k + 1) * 2 + (if a.testBit k then 1 else 0) := by
  rw [← half_pow, Nat.testBit_eq_decide_div_mod_eq]
  by_cases h : a / 2 ^ k % 2 = 1
  · simp [h]; omega
  · simp [h]; omega
theorem word_ext {x y : Nat} (hx : x < 18446744073709551616) (hy : y < 18446744073709551616) (h : ∀ j, j < 64 → x.testBit j = y.testBit j) : x = y := by
  apply Nat.eq_of_testBit_eq
  intro i
  by_cases hi : i < 64
  · exact h i hi
  · rw [Nat.testBit_lt_two_pow (Nat.lt_of_lt_of_le hx (Nat.pow_le_pow_right (by decide) (by omega) : 2 ^ 64 ≤ 2 ^ i)),
      Nat.testBit_lt_two_pow (Nat.lt_of_lt_of_le hy (Nat.pow_le_pow_right (by decide) (by omega) : 2 ^ 64 ≤ 2 ^ i))]
/-- is a below b? -/
def belowN (a b : Nat) : Bool := lessN a b == 0
theorem belowN_iff (a b : Nat) (ha : a < 18446744073709551616) : belowN a b = true ↔ ∀ j, j < 64 → a.testBit j = true → b.testBit j = true := by
  rw [belowN, beq_iff_eq]
  constructor
  · intro h j _ hj
    have := lessN_bit a b j
    rw [h, hj] at this
    simpa using this
  · intro h
    apply word_ext (lessN_lt a b ha) (by decide)
    intro j hj
    rw [lessN_bit, Nat.zero_testBit]
    cases hb : a.testBit j
    · rfl
    · rw [h j hj hb]; rfl
theorem belowN_not (a b j : Nat) (h : a.testBit j = true) (hb : b.testBit j = false) : belowN a b = false := by
  rw [Bool.eq_false_iff]
  intro hx
  rw [belowN, beq_iff_eq] at hx
  have := lessN_bit a b j
  rw [hx, h, hb] at this
  simp at this
end Go.Proofs.Ytgchcgllpceghaa
/- Plain arithmetic: the lowest compartment, the list of them, their number. -/
namespace Go.Proofs.Ytgchcgllpceghaa

/-- the compartments below k -/
def listTo (a k : Nat) : List Nat := (List.range k).filter fun i => a.testBit i
def listN (a : Nat) : List Nat := listTo a 64
def countN (a : Nat) : Nat := (listN a).length
theorem listTo_succ (a k : Nat) : listTo a (k + 1) = listTo a k ++ (if a.testBit k then [k] else []) := by
  rw [listTo, List.range_succ, List.filter_append]
  congr 1
  cases h : a.testBit k <;> simp [h]
theorem listTo_yes {a k : Nat} (h : a.testBit k = true) : listTo a (k + 1) = listTo a k ++ [k] := by rw [listTo_succ, h]; rfl
theorem listTo_no {a k : Nat} (h : a.testBit k = false) : listTo a (k + 1) = listTo a k := by rw [listTo_succ, h]; simp
theorem listTo_skip (a m : Nat) : ∀ t, m ≤ t → (∀ j, m ≤ j → j < t → a.testBit j = false) → listTo a t = listTo a m := by
  intro t
  induction t with
  | zero => intro h _; obtain rfl : m = 0 := by omega
            rfl
  | succ t ih =>
    intro h hn
    by_cases e : m = t + 1
    · rw [e]
    · rw [listTo_no (hn t (by omega) (by omega)), ih (by omega) fun j h1 h2 => hn j h1 (by omega)]
theorem listTo_len (a k : Nat) : (listTo a k).length ≤ k := by
  have := List.length_filter_le (fun i => a.testBit i) (List.range k)
  rw [List.length_range] at this
  exact this
theorem listTo_mem {a k c : Nat} : c ∈ listTo a k ↔ c < k ∧ a.testBit c = true := by simp [listTo]
theorem countN_le (a : Nat) : countN a ≤ 64 := listTo_len a 64
theorem listTo_drop (a b t : Nat) (ht : a.testBit t = true) (h : ∀ j, b.testBit j = (a.testBit j && decide (j ≠ t))) : ∀ k, (listTo a k).length = (listTo b k).length + (if t < k then 1 else 0) := by
  intro k
  induction k with
  | zero => simp [listTo]
  | succ k ih =>
    rw [listTo_succ, listTo_succ, List.length_append, List.length_append, ih, h k]
    by_cases e : k = t
    · subst e
      rw [ht]
      simp
    · by_cases e2 : t < k
      · have e3 : t < k + 1 := by omega
        simp [e, e2, e3]
        omega
      · have e3 : ¬ t < k + 1 := by omega
        simp [e, e2, e3]
/-- the lowest compartment of a set -/
theorem lowest {x : Nat} (h0 : x ≠ 0) (hx : x < 18446744073709551616) : ∃ t, Lib.ctz 64 x = t ∧ t < 64 ∧ x.testBit t = true ∧ (∀ j, j < t → x.testBit j = false) ∧ ∀ j, (x &&& (x - 1)).testBit j = (x.testBit j && decide (j ≠ t)) := by
  obtain ⟨m, hm, ht⟩ := Lib.ctzFrom_spec 64 x (by omega) hx
  have e : Lib.ctz 64 x = Lib.ctzFrom 64 x := by rw [Lib.ctz, if_neg h0]
  refine ⟨Lib.ctzFrom 64 x, e, ht, ?_⟩
  obtain ⟨t, hte⟩ : ∃ t, Lib.ctzFrom 64 x = t := ⟨_, rfl⟩
  rw [hte] at hm ⊢
  have hp : 0 < 2 ^ t := Nat.pow_pos (by decide)
  have hb : ∀ j, x.testBit j = if j < t then false else (2 * m + 1).testBit (j - t) := by
    intro j
    have := Nat.testBit_two_pow_mul_add (2 * m + 1) (b := 0) (i := t) hp j
    rw [Nat.add_zero, ← hm] at this
    rw [this]
    simp
  have hb1 : ∀ j, (x - 1).testBit j = if j < t then true else (2 * m).testBit (j - t) := by
    intro j
    have := Nat.testBit_two_pow_mul_add (2 * m) (b := 2 ^ t - 1) (i := t) (by omega) j
    have e2 : 2 ^ t * (2 * m) + (2 ^ t - 1) = x - 1 := by
      rw [hm, Nat.mul_add, Nat.mul_one]; omega
    rw [e2] at this
    rw [this, Nat.testBit_two_pow_sub_one]
    by_cases h : j < t <;> simp [h]
  refine ⟨?_, ?_, ?_⟩
  · rw [hb, if_neg (by omega), Nat.sub_self, Nat.testBit_zero]; simp
  · intro j hj
    rw [hb, if_pos hj]
  · intro j
    rw [Nat.testBit_and, hb, hb1]
    by_cases h : j < t
    · simp [h]
    · rw [if_neg h, if_neg h]
      by_cases e3 : j = t
      · subst e3
        simp
      · obtain ⟨d, hd⟩ : ∃ d, j - t = d + 1 := ⟨j - t - 1, by omega⟩
        rw [hd, Nat.testBit_succ, Nat.testBit_succ]
        have : (2 * m + 1) / 2 = 2 * m / 2 := by omega
        rw [this]
        simp [e3]
theorem countN_zero : countN 0 = 0 := by
  simp [countN, listN, listTo]
theorem countN_step {x : Nat} (h0 : x ≠ 0) (hx : x < 18446744073709551616) : countN x = countN (x &&& (x - 1)) + 1 := by
  obtain ⟨t, _, ht, hb, _, hd⟩ := lowest h0 hx
  have := listTo_drop x (x &&& (x - 1)) t hb hd 64
  rw [if_pos ht] at this
  exact this
theorem countN_pos {x : Nat} (h0 : x ≠ 0) (hx : x < 18446744073709551616) : 0 < countN x := by
  rw [countN_step h0 hx]; omega
theorem and_pred_lt {x : Nat} (h0 : x ≠ 0) : x &&& (x - 1) < x := Nat.lt_of_le_of_lt Nat.and_le_right (by omega)
/-- the set of numbers, the error beside it -/
def okC (c : Int) : Bool := decide (0 ≤ c) && decide (c ≤ 63)
def okL (l : List Int) : Bool := l.all okC
def addC (a : Nat) (c : Int) : Nat := a ||| 2 ^ c.toNat
def ofN (l : List Int) : Nat := l.foldl addC 0
def ofA (l : List Int) : Nat := if okL l = true then ofN l else 0
def ofE (l : List Int) : Int := if okL l = true then 0 else 1
theorem ofN_take (l : List Int) (k : Nat) (h : k < l.length) : ofN (l.take (k + 1)) = addC (ofN (l.take k)) l[k] := by
  rw [ofN, List.take_succ_eq_append_getElem h, List.foldl_append]
  rfl
theorem okL_take (l : List Int) (k : Nat) (h : k < l.length) (h1 : okL (l.take k) = true) (h2 : okC l[k] = true) : okL (l.take (k + 1)) = true := by
  rw [okL, List.take_succ_eq_append_getElem h, List.all_append]
  rw [okL] at h1
  rw [h1]
  simp [h2]
theorem okL_not (l : List Int) (k : Nat) (h : k < l.length) (h2 : okC l[k] = false) : okL l = false := by
  rw [Bool.eq_false_iff]
  intro hx
  rw [okL, List.all_eq_true] at hx
  rw [hx _ (List.getElem_mem h)] at h2
  cases h2
theorem addC_lt {a : Nat} {c : Int} (ha : a < 18446744073709551616) (h : okC c = true) : addC a c < 18446744073709551616 := by
  rw [okC, Bool.and_eq_true, decide_eq_true_eq, decide_eq_true_eq] at h
  exact Nat.or_lt_two_pow (n := 64) ha (Nat.pow_lt_pow_right (by decide) (by omega))
theorem ofN_from (l : List Int) (h : okL l = true) : ∀ a, a < 18446744073709551616 → l.foldl addC a < 18446744073709551616 := by
  induction l with
  | nil => intro a ha; exact ha
  | cons c l ih =>
    intro a ha
    rw [okL, List.all_cons, Bool.and_eq_true] at h
    exact ih h.2 _ (addC_lt ha h.1)
theorem ofN_lt (l : List Int) (h : okL l = true) : ofN l < 18446744073709551616 := ofN_from l h 0 (by decide)
theorem ofA_lt (l : List Int) : ofA l < 18446744073709551616 := by
  rw [ofA]
  split
  · exact ofN_lt l ‹_›
  · decide
theorem okC_iff (c : Int) : okC c = true ↔ 0 ≤ c ∧ c ≤ 63 := by rw [okC, Bool.and_eq_true, decide_eq_true_eq, decide_eq_true_eq]
end Go.Proofs.Ytgchcgllpceghaa
/- Plain arithmetic: sets of compartments are a lattice. -/
namespace Go.Proofs.Ytgchcgllpceghaa

theorem below_bits {a b : Nat} : belowN a b = true ↔ ∀ j, a.testBit j = true → b.testBit j = true := by
  rw [belowN, beq_iff_eq]
  constructor
  · intro h j hj
    have := lessN_bit a b j
    rw [h, hj] at this
    simpa using this
  · intro h
    apply Nat.eq_of_testBit_eq
    intro j
    rw [lessN_bit, Nat.zero_testBit]
    cases hb : a.testBit j
    · rfl
    · rw [h j hb]; rfl
theorem below_self (a : Nat) : belowN a a = true := below_bits.2 fun _ h => h
theorem below_anti {a b : Nat} (h : belowN a b = true) (k : belowN b a = true) : a = b := by
  rw [below_bits] at h k
  apply Nat.eq_of_testBit_eq
  intro j
  rw [Bool.eq_iff_iff]
  exact ⟨h j, k j⟩
theorem below_trans {a b c : Nat} (h : belowN a b = true) (k : belowN b c = true) : belowN a c = true := by
  rw [below_bits] at h k ⊢
  exact fun j hj => k j (h j hj)
theorem below_or_l (a b : Nat) : belowN a (a ||| b) = true := by
  rw [below_bits]; intro j hj; rw [Nat.testBit_or, hj]; rfl
theorem below_or_r (a b : Nat) : belowN b (a ||| b) = true := by
  rw [below_bits]; intro j hj; rw [Nat.testBit_or, hj, Bool.or_true]
theorem below_and_l (a b : Nat) : belowN (a &&& b) a = true := by
  rw [below_bits]; intro j hj; rw [Nat.testBit_and, Bool.and_eq_true] at hj; exact hj.1
theorem below_and_r (a b : Nat) : belowN (a &&& b) b = true := by
  rw [below_bits]; intro j hj; rw [Nat.testBit_and, Bool.and_eq_true] at hj; exact hj.2
theorem below_or {a b c : Nat} (h : belowN a c = true) (k : belowN b c = true) : belowN (a ||| b) c = true := by
  rw [below_bits] at h k ⊢
  intro j hj
  rw [Nat.testBit_or, Bool.or_eq_true] at hj
  exact hj.elim (h j) (k j)
theorem below_and {a b c : Nat} (h : belowN c a = true) (k : belowN c b = true) : belowN c (a &&& b) = true := by
  rw [below_bits] at h k ⊢
  intro j hj
  rw [Nat.testBit_and, h j hj, k j hj]; rfl
theorem less_meet (a b : Nat) : lessN a b &&& b = 0 := by
  apply Nat.eq_of_testBit_eq
  intro j
  rw [Nat.testBit_and, lessN_bit, Nat.zero_testBit]
  cases a.testBit j <;> cases b.testBit j <;> rfl
theorem less_join (a b : Nat) : lessN a b ||| (a &&& b) = a := by
  apply Nat.eq_of_testBit_eq
  intro j
  rw [Nat.testBit_or, lessN_bit, Nat.testBit_and]
  cases a.testBit j <;> cases b.testBit j <;> rfl
theorem meet_shared (a b c : Nat) : a &&& (b ||| c) = (a &&& b) ||| (a &&& c) := by
  apply Nat.eq_of_testBit_eq
  intro j
  simp only [Nat.testBit_or, Nat.testBit_and]
  cases a.testBit j <;> cases b.testBit j <;> cases c.testBit j <;> rfl
theorem join_shared (a b c : Nat) : a ||| (b &&& c) = (a ||| b) &&& (a ||| c) := by
  apply Nat.eq_of_testBit_eq
  intro j
  simp only [Nat.testBit_or, Nat.testBit_and]
  cases a.testBit j <;> cases b.testBit j <;> cases c.testBit j <;> rfl
end Go.Proofs.Ytgchcgllpceghaa
/- Plain arithmetic: a label's text. -/
namespace Go.Proofs.Ytgchcgllpceghaa

def digB (n : Nat) : ByteArray := ⟨(Lib.decDigits n).toArray⟩
theorem dec_small {n : Nat} (h : n < 10) : Lib.decDigits n = [UInt8.ofNat (48 + n)] := by
  rw [Lib.decDigits, dif_pos h]
theorem dec_two {n : Nat} (h : 10 ≤ n) (h2 : n < 100) : Lib.decDigits n = [UInt8.ofNat (48 + n / 10), UInt8.ofNat (48 + n % 10)] := by
  rw [Lib.decDigits, dif_neg (by omega), dec_small (by omega)]
  rfl
theorem digB_len {n : Nat} (h : n < 100) : 1 ≤ (digB n).size ∧ (digB n).size ≤ 2 := by
  by_cases h1 : n < 10
  · rw [digB, dec_small h1]
    exact ⟨Nat.le_refl 1, Nat.le_succ 1⟩
  · rw [digB, dec_two (by omega) h]
    exact ⟨Nat.le_succ 1, Nat.le_refl 2⟩
/-- the texts with a + between each two -/
def plusT : List ByteArray → ByteArray
  | [] => ⟨#[]⟩
  | x :: r => r.foldl (fun s t => s ++ ⟨#[43]⟩ ++ t) x
theorem plusT_snoc (xs : List ByteArray) (y : ByteArray) (h : xs ≠ []) : plusT (xs ++ [y]) = plusT xs ++ ⟨#[43]⟩ ++ y := by
  cases xs with
  | nil => exact absurd rfl h
  | cons x r =>
    rw [List.cons_append, plusT, List.foldl_append]
    rfl
theorem plusT_len (xs : List ByteArray) (h : ∀ x ∈ xs, x.size ≤ 2) : (plusT xs).size ≤ 3 * xs.length := by
  cases xs with
  | nil => decide
  | cons x r =>
    have hx := h x (by simp)
    have hr : ∀ y ∈ r, y.size ≤ 2 := fun y hy => h y (by simp [hy])
    rw [plusT]
    suffices ∀ (r : List ByteArray) (s : ByteArray), (∀ y ∈ r, y.size ≤ 2) → (r.foldl (fun s t => s ++ ⟨#[43]⟩ ++ t) s).size ≤ s.size + 3 * r.length by
      have := this r x hr
      simp only [List.length_cons]
      omega
    intro r
    induction r with
    | nil => intro s _; simp
    | cons y r ih =>
      intro s hs
      have h1 := ih (s ++ ⟨#[43]⟩ ++ y) fun z hz => hs z (by simp [hz])
      have h2 := hs y (by simp)
      rw [List.foldl_cons, List.length_cons]
      have h3 : (s ++ ⟨#[43]⟩ ++ y).size = s.size + 1 + y.size := by
        rw [ByteArray.size_append, ByteArray.size_append]; rfl
      omega
theorem plusT_join (xs : List ByteArray) : (Lib.join (xs.map (·.data.toList)) [43]).toArray = (plusT xs).data := by
  cases xs with
  | nil => rfl
  | cons x r =>
    rw [List.map_cons, Lib.join_cons, plusT]
    suffices ∀ (r : List ByteArray) (s : ByteArray), (s.data.toList ++ Lib.joinTail [43] (r.map (·.data.toList))).toArray = (r.foldl (fun s t => s ++ ⟨#[43]⟩ ++ t) s).data from this r x
    intro r
    induction r with
    | nil => intro s; simp [Lib.joinTail]
    | cons y r ih =>
      intro s
      rw [List.foldl_cons, ← ih]
      simp [Lib.joinTail, ByteArray.data_append]
/-- a label's text -/
def textB (a : Nat) : ByteArray := if a = 0 then ⟨#[45]⟩ else plusT ((listN a).map digB)
theorem listN_zero : listN 0 = [] := by simp [listN, listTo]
theorem countN_pos' {x : Nat} (hx : x < 18446744073709551616) : countN x = 0 ↔ x = 0 := by
  constructor
  · intro h
    apply Classical.byContradiction
    intro h0
    have := countN_pos h0 hx
    omega
  · rintro rfl; exact countN_zero
theorem digs_size (a k : Nat) : ∀ x ∈ ((listN a).map digB).take k, x.size ≤ 2 := by
  intro x hx
  obtain ⟨c, hc, rfl⟩ := List.mem_map.1 (List.mem_of_mem_take hx)
  have := (listTo_mem.1 hc).1
  exact (digB_len (by omega)).2
end Go.Proofs.Ytgchcgllpceghaa
