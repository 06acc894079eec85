/- Plain arithmetic: the lowest compartment, the list of them, their number. -/
import Derived.Test.YtgodmfjcccakbaaDoorLabMath
import Derived.Lib.TrailingZeros
namespace Go.Proofs.YtgodmfjcccakbaaDoor

/-- the compartments below k -/
def listTo (a k : Nat) : List Nat := (List.range k).filter fun i => a.testBit i
def listN (a : Nat) : List Nat := listTo a 64
def countN (a : Nat) : Nat := (listN a).length
theorem listTo_succ (a k : Nat) : listTo a (k + 1) = listTo a k ++ (if a.testBit k then [k] else []) := by
  rw [listTo, List.range_succ, List.filter_append]
  congr 1
  cases h : a.testBit k <;> simp [h]
theorem listTo_yes {a k : Nat} (h : a.testBit k = true) : listTo a (k + 1) = listTo a k ++ [k] := by rw [listTo_succ, h]; rfl
theorem listTo_no {a k : Nat} (h : a.testBit k = false) : listTo a (k + 1) = listTo a k := by rw [listTo_succ, h]; simp
theorem listTo_skip (a m : Nat) : ∀ t, m ≤ t → (∀ j, m ≤ j → j < t → a.testBit j = false) → listTo a t = listTo a m := by
  intro t
  induction t with
  | zero => intro h _; obtain rfl : m = 0 := by omega
            rfl
  | succ t ih =>
    intro h hn
    by_cases e : m = t + 1
    · rw [e]
    · rw [listTo_no (hn t (by omega) (by omega)), ih (by omega) fun j h1 h2 => hn j h1 (by omega)]
theorem listTo_len (a k : Nat) : (listTo a k).length ≤ k := by
  have := List.length_filter_le (fun i => a.testBit i) (List.range k)
  rw [List.length_range] at this
  exact this
theorem listTo_mem {a k c : Nat} : c ∈ listTo a k ↔ c < k ∧ a.testBit c = true := by simp [listTo]
theorem countN_le (a : Nat) : countN a ≤ 64 := listTo_len a 64
theorem listTo_drop (a b t : Nat) (ht : a.testBit t = true) (h : ∀ j, b.testBit j = (a.testBit j && decide (j ≠ t))) : ∀ k, (listTo a k).length = (listTo b k).length + (if t < k then 1 else 0) := by
  intro k
  induction k with
  | zero => simp [listTo]
  | succ k ih =>
    rw [listTo_succ, listTo_succ, List.length_append, List.length_append, ih, h k]
    by_cases e : k = t
    · subst e
      rw [ht]
      simp
    · by_cases e2 : t < k
      · have e3 : t < k + 1 := by omega
        simp [e, e2, e3]
        omega
      · have e3 : ¬ t < k + 1 := by omega
        simp [e, e2, e3]
/-- the lowest compartment of a set -/
theorem lowest {x : Nat} (h0 : x ≠ 0) (hx : x < 18446744073709551616) : ∃ t, Lib.ctz 64 x = t ∧ t < 64 ∧ x.testBit t = true ∧ (∀ j, j < t → x.testBit j = false) ∧ ∀ j, (x &&& (x - 1)).testBit j = (x.testBit j && decide (j ≠ t)) := by
  obtain ⟨m, hm, ht⟩ := Lib.ctzFrom_spec 64 x (by omega) hx
  have e : Lib.ctz 64 x = Lib.ctzFrom 64 x := by rw [Lib.ctz, if_neg h0]
  refine ⟨Lib.ctzFrom 64 x, e, ht, ?_⟩
  obtain ⟨t, hte⟩ : ∃ t, Lib.ctzFrom 64 x = t := ⟨_, rfl⟩
  rw [hte] at hm ⊢
  have hp : 0 < 2 ^ t := Nat.pow_pos (by decide)
  have hb : ∀ j, x.testBit j = if j < t then false else (2 * m + 1).testBit (j - t) := by
    intro j
    have := Nat.testBit_two_pow_mul_add (2 * m + 1) (b := 0) (i := t) hp j
    rw [Nat.add_zero, ← hm] at this
    rw [this]
    simp
  have hb1 : ∀ j, (x - 1).testBit j = if j < t then true else (2 * m).testBit (j - t) := by
    intro j
    have := Nat.testBit_two_pow_mul_add (2 * m) (b := 2 ^ t - 1) (i := t) (by omega) j
    have e2 : 2 ^ t * (2 * m) + (2 ^ t - 1) = x - 1 := by
      rw [hm, Nat.mul_add, Nat.mul_one]; omega
    rw [e2] at this
    rw [this, Nat.testBit_two_pow_sub_one]
    by_cases h : j < t <;> simp [h]
  refine ⟨?_, ?_, ?_⟩
  · rw [hb, if_neg (by omega), Nat.sub_self, Nat.testBit_zero]; simp
  · intro j hj
    rw [hb, if_pos hj]
  · intro j
    rw [Nat.testBit_and, hb, hb1]
    by_cases h : j < t
    · simp [h]
    · rw [if_neg h, if_neg h]
      by_cases e3 : j = t
      · subst e3
        simp
      · obtain ⟨d, hd⟩ : ∃ d, j - t = d + 1 := ⟨j - t - 1, by omega⟩
        rw [hd, Nat.testBit_succ, Nat.testBit_succ]
        have : (2 * m + 1) / 2 = 2 * m / 2 := by omega
        rw [this]
        simp [e3]
theorem countN_zero : countN 0 = 0 := by
  simp [countN, listN, listTo]
theorem countN_step {x : Nat} (h0 : x ≠ 0) (hx : x < 18446744073709551616) : countN x = countN (x &&& (x - 1)) + 1 := by
  obtain ⟨t, _, ht, hb, _, hd⟩ := lowest h0 hx
  have := listTo_drop x (x &&& (x - 1)) t hb hd 64
  rw [if_pos ht] at this
  exact this
theorem countN_pos {x : Nat} (h0 : x ≠ 0) (hx : x < 18446744073709551616) : 0 < countN x := by
  rw [countN_step h0 hx]; omega
theorem and_pred_lt {x : Nat} (h0 : x ≠ 0) : x &&& (x - 1) < x := Nat.lt_of_le_of_lt Nat.and_le_right (by omega)
/-- the set of numbers, the error beside it -/
def okC (c : Int) : Bool := decide (0 ≤ c) && decide (c ≤ 63)
def okL (l : List Int) : Bool := l.all okC
def addC (a : Nat) (c : Int) : Nat := a ||| 2 ^ c.toNat
def ofN (l : List Int) : Nat := l.foldl addC 0
def ofA (l : List Int) : Nat := if okL l = true then ofN l else 0
def ofE (l : List Int) : Int := if okL l = true then 0 else 1
theorem ofN_take (l : List Int) (k : Nat) (h : k < l.length) : ofN (l.take (k + 1)) = addC (ofN (l.take k)) l[k] := by
  rw [ofN, List.take_succ_eq_append_getElem h, List.foldl_append]
  rfl
theorem okL_take (l : List Int) (k : Nat) (h : k < l.length) (h1 : okL (l.take k) = true) (h2 : okC l[k] = true) : okL (l.take (k + 1)) = true := by
  rw [okL, List.take_succ_eq_append_getElem h, List.all_append]
  rw [okL] at h1
  rw [h1]
  simp [h2]
theorem okL_not (l : List Int) (k : Nat) (h : k < l.length) (h2 : okC l[k] = false) : okL l = false := by
  rw [Bool.eq_false_iff]
  intro hx
  rw [okL, List.all_eq_true] at hx
  rw [hx _ (List.getElem_mem h)] at h2
  cases h2
theorem addC_lt {a : Nat} {c : Int} (ha : a < 18446744073709551616) (h : okC c = true) : addC a c < 18446744073709551616 := by
  rw [okC, Bool.and_eq_true, decide_eq_true_eq, decide_eq_true_eq] at h
  exact Nat.or_lt_two_pow (n := 64) ha (Nat.pow_lt_pow_right (by decide) (by omega))
theorem ofN_from (l : List Int) (h : okL l = true) : ∀ a, a < 18446744073709551616 → l.foldl addC a < 18446744073709551616 := by
  induction l with
  | nil => intro a ha; exact ha
  | cons c l ih =>
    intro a ha
    rw [okL, List.all_cons, Bool.and_eq_true] at h
    exact ih h.2 _ (addC_lt ha h.1)
theorem ofN_lt (l : List Int) (h : okL l = true) : ofN l < 18446744073709551616 := ofN_from l h 0 (by decide)
theorem ofA_lt (l : List Int) : ofA l < 18446744073709551616 := by
  rw [ofA]
  split
  · exact ofN_lt l ‹_›
  · decide
theorem okC_iff (c : Int) : okC c = true ↔ 0 ≤ c ∧ c ≤ 63 := by rw [okC, Bool.and_eq_true, decide_eq_true_eq, decide_eq_true_eq]
end Go.Proofs.YtgodmfjcccakbaaDoor
