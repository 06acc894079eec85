/- Plain facts on numbers' forms: lists of bytes and whole numbers alone. -/
import Derived.Lib.ItoaNum
namespace Go.Proofs.YtphepdhppjnfpaaDoor.Num

def digB (c : UInt8) : Bool := decide (48 ≤ c.toNat) && decide (c.toNat ≤ 57)
/-- the number that decimal digits spell -/
def natVal (l : List UInt8) : Nat := l.foldl (fun n c => 10 * n + (c.toNat - 48)) 0
theorem natVal_snoc (l : List UInt8) (c : UInt8) : natVal (l ++ [c]) = 10 * natVal l + (c.toNat - 48) := by
  simp [natVal, List.foldl_append]
theorem natVal_nil : natVal [] = 0 := rfl
theorem natVal_take_succ (l : List UInt8) (k : Nat) (h : k < l.length) : natVal (l.take (k + 1)) = 10 * natVal (l.take k) + ((l[k]'h).toNat - 48) := by
  rw [List.take_succ_eq_append_getElem h, natVal_snoc]
theorem natVal_take_le (l : List UInt8) (k : Nat) : ∀ j, natVal (l.take k) ≤ natVal (l.take (k + j))
  | 0 => Nat.le_refl _
  | j + 1 => by
    have ih := natVal_take_le l k j
    by_cases h : k + j < l.length
    · rw [← Nat.add_assoc, natVal_take_succ l _ h]
      omega
    · rw [List.take_of_length_le (by omega : l.length ≤ k + (j + 1))]
      rw [List.take_of_length_le (by omega : l.length ≤ k + j)] at ih
      exact ih
theorem natVal_take_all (l : List UInt8) (k : Nat) : natVal (l.take k) ≤ natVal l := by
  by_cases h : k ≤ l.length
  · have := natVal_take_le l k (l.length - k)
    rwa [Nat.add_sub_cancel' h, List.take_length] at this
  · rw [List.take_of_length_le (by omega)]
    exact Nat.le_refl _

/-- the number that these digits, behind a minus or not, are the form of -/
def valL (l : List UInt8) (minus : Bool) : Option Int :=
  if l = [] then none
  else if l[0]? = some 48 ∧ (minus = true ∨ 1 < l.length) then none
  else if minus = true then (if natVal l ≤ 9223372036854775808 then some (-(natVal l : Int)) else none)
  else (if natVal l ≤ 9223372036854775807 then some (natVal l : Int) else none)

def minusB (l : List UInt8) : Bool := l[0]? == some 45
/-- behind a minus, if one stands ahead -/
def unsig (l : List UInt8) : List UInt8 := if minusB l then l.drop 1 else l
def cnt (l : List UInt8) : Nat := (l.takeWhile digB).length
/-- the number at a text's beginning, and what stands behind it -/
def takeL (l : List UInt8) : Option (Int × List UInt8) := (valL ((unsig l).take (cnt (unsig l))) (minusB l)).map fun n => (n, (unsig l).drop (cnt (unsig l)))

theorem cnt_le (l : List UInt8) : cnt l ≤ l.length := by
  unfold cnt
  exact (List.takeWhile_sublist digB).length_le
theorem take_cnt (l : List UInt8) : l.take (cnt l) = l.takeWhile digB := by
  have h : ∀ (a b : List UInt8), (a ++ b).take a.length = a := fun a b => by simp
  have := h (l.takeWhile digB) (l.dropWhile digB)
  rwa [List.takeWhile_append_dropWhile] at this
/-- the count, by its two marks -/
theorem cnt_eq (l : List UInt8) (k : Nat) (hk : k ≤ l.length) (h : ∀ (j : Nat) (hj : j < l.length), j < k → digB (l[j]'hj) = true) (hs : ∀ (hj : k < l.length), digB (l[k]'hj) = false) : cnt l = k := by
  induction l generalizing k with
  | nil => simp at hk; subst hk; rfl
  | cons x l ih =>
    cases k with
    | zero =>
      have := hs (by simp)
      simp at this
      simp [cnt, this]
    | succ k =>
      have h0 := h 0 (by simp) (by omega)
      simp at h0
      have := ih k (by simpa using hk) (fun j hj hjk => h (j + 1) (by simpa using hj) (by omega)) (fun hj => hs (by simpa using hj))
      unfold cnt at this ⊢
      simp [h0, this]
theorem cnt_digits (l : List UInt8) (j : Nat) (hj : j < l.length) (h : j < cnt l) : digB (l[j]'hj) = true := by
  have h1 : (l.take (cnt l))[j]? = some l[j] := by
    rw [List.getElem?_take, if_pos h]
    exact List.getElem?_eq_getElem hj
  rw [take_cnt] at h1
  exact List.all_eq_true.1 (List.all_takeWhile (p := digB) (l := l)) _ (List.mem_of_getElem? h1)
theorem cnt_stop (l : List UInt8) (hj : cnt l < l.length) : digB (l[cnt l]'hj) = false := by
  induction l with
  | nil => simp at hj
  | cons x l ih =>
    cases hx : digB x with
    | false =>
      have e : cnt (x :: l) = 0 := by simp [cnt, hx]
      simp [e, hx]
    | true =>
      have e : cnt (x :: l) = cnt l + 1 := by simp [cnt, hx]
      simp [e] at hj ⊢
      exact ih hj

theorem decDigits_ten {u : Nat} (h : 10 ≤ u) : Lib.decDigits u = Lib.decDigits (u / 10) ++ [UInt8.ofNat (48 + u % 10)] := by
  rw [Lib.decDigits, dif_neg (by omega)]
end Go.Proofs.YtphepdhppjnfpaaDoor.Num
