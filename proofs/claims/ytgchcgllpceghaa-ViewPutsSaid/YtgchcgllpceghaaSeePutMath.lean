/- Own work: plain laws of what is put. -/
import Derived.Test.YtgchcgllpceghaaSeeIt
import Derived.Test.YtgchcgllpceghaaRowsV
namespace Go.Proofs.Ytgchcgllpceghaa

/-- the lines m, in their order, in the place of those of l of which something is so (as many as there are) -/
def putL (p : LineV → Bool) : List LineV → List LineV → List LineV
  | [], _ => []
  | x :: r, [] => x :: putL p r []
  | x :: r, y :: m => if p x then y :: putL p r m else x :: putL p r (y :: m)
theorem putL_nil (p : LineV → Bool) : ∀ l, putL p l [] = l
  | [] => rfl
  | x :: r => by rw [putL, putL_nil p r]
theorem putL_len (p : LineV → Bool) : ∀ (l m : List LineV), (putL p l m).length = l.length
  | [], _ => rfl
  | x :: r, [] => by rw [putL, List.length_cons, List.length_cons, putL_len p r]
  | x :: r, y :: m => by
    rw [putL]
    split
    · rw [List.length_cons, List.length_cons, putL_len p r]
    · rw [List.length_cons, List.length_cons, putL_len p r]
theorem putL_yes {p : LineV → Bool} {x : LineV} (h : p x = true) (r : List LineV) (y : LineV) (m : List LineV) : putL p (x :: r) (y :: m) = y :: putL p r m := by rw [putL, if_pos h]
theorem putL_no {p : LineV → Bool} {x : LineV} (h : ¬ p x = true) (r m : List LineV) : putL p (x :: r) m = x :: putL p r m := by
  cases m with
  | nil => rw [putL]
  | cons y m => rw [putL, if_neg h]
theorem putL_step (p : LineV → Bool) (y : LineV) : ∀ (l : List LineV) (i : Nat) (m : List LineV) (h : m.length < (pickL p i l).length),
    i ≤ ((pickL p i l)[m.length]'h).1 ∧ ((pickL p i l)[m.length]'h).1 < i + l.length ∧ putL p l (m ++ [y]) = (putL p l m).set (((pickL p i l)[m.length]'h).1 - i) y
  | [], _, _, h => by simp [pickL] at h
  | x :: r, i, m, h => by
    by_cases hp : p x = true
    · have e : pickL p i (x :: r) = (i, x) :: pickL p (i + 1) r := by rw [pickL, if_pos hp]
      cases m with
      | nil =>
        have e2 : ((pickL p i (x :: r))[([] : List LineV).length]'h) = (i, x) := by simp [e]
        rw [e2]
        refine ⟨Nat.le_refl _, by simp, ?_⟩
        rw [List.nil_append, putL_yes hp, putL, Nat.sub_self]
        rfl
      | cons z m =>
        have h2 : m.length < (pickL p (i + 1) r).length := by rw [e] at h; simpa using h
        have e2 : ((pickL p i (x :: r))[(z :: m).length]'h) = (pickL p (i + 1) r)[m.length]'h2 := by simp [e]
        obtain ⟨q1, q2, q3⟩ := putL_step p y r (i + 1) m h2
        rw [e2]
        obtain ⟨k, hk⟩ : ∃ k, ((pickL p (i + 1) r)[m.length]'h2).1 = k := ⟨_, rfl⟩
        rw [hk] at q1 q2 q3 ⊢
        refine ⟨by omega, by rw [List.length_cons]; omega, ?_⟩
        rw [List.cons_append, putL_yes hp, putL_yes hp, q3, show k - i = (k - (i + 1)) + 1 by omega]
        rfl
    · have e : pickL p i (x :: r) = pickL p (i + 1) r := by rw [pickL, if_neg hp]
      have h2 : m.length < (pickL p (i + 1) r).length := by rw [e] at h; exact h
      have e2 : ((pickL p i (x :: r))[m.length]'h) = (pickL p (i + 1) r)[m.length]'h2 := by simp [e]
      obtain ⟨q1, q2, q3⟩ := putL_step p y r (i + 1) m h2
      rw [e2]
      obtain ⟨k, hk⟩ : ∃ k, ((pickL p (i + 1) r)[m.length]'h2).1 = k := ⟨_, rfl⟩
      rw [hk] at q1 q2 q3 ⊢
      refine ⟨by omega, by rw [List.length_cons]; omega, ?_⟩
      rw [putL_no hp, putL_no hp, q3, show k - i = (k - (i + 1)) + 1 by omega]
      rfl
/-- what is seen, put in its own place -/
theorem putL_self (p : LineV → Bool) : ∀ l, putL p l (l.filter p) = l
  | [] => rfl
  | x :: r => by
    by_cases hp : p x = true
    · rw [List.filter_cons_of_pos hp, putL_yes hp, putL_self p r]
    · rw [List.filter_cons_of_neg hp, putL_no hp, putL_self p r]
/-- what is put is seen, if all of it is seen -/
theorem putL_seen (p : LineV → Bool) : ∀ (l m : List LineV), m.length = (l.filter p).length → (∀ x ∈ m, p x = true) → (putL p l m).filter p = m
  | [], m, h, _ => by
    have : m = [] := List.eq_nil_of_length_eq_zero (by simpa using h)
    subst this; rfl
  | x :: r, m, h, hm => by
    by_cases hp : p x = true
    · rw [List.filter_cons_of_pos hp] at h
      cases m with
      | nil => simp at h
      | cons y m =>
        rw [putL_yes hp, List.filter_cons_of_pos (hm y (by simp)), putL_seen p r m (by simpa using h) (fun z hz => hm z (by simp [hz]))]
    · rw [List.filter_cons_of_neg hp] at h
      rw [putL_no hp, List.filter_cons_of_neg hp, putL_seen p r m h hm]
/-- what is hidden stays -/
theorem putL_hidden (p : LineV → Bool) : ∀ (l m : List LineV), m.length = (l.filter p).length → (∀ x ∈ m, p x = true) → (putL p l m).filter (fun x => !p x) = l.filter (fun x => !p x)
  | [], _, _, _ => rfl
  | x :: r, m, h, hm => by
    by_cases hp : p x = true
    · rw [List.filter_cons_of_pos hp] at h
      cases m with
      | nil => simp at h
      | cons y m =>
        rw [putL_yes hp, List.filter_cons_of_neg (by rw [hm y (by simp)]; decide), List.filter_cons_of_neg (by rw [hp]; decide), putL_hidden p r m (by simpa using h) (fun z hz => hm z (by simp [hz]))]
    · have hp' : (!p x) = true := by simpa using hp
      rw [List.filter_cons_of_neg hp] at h
      rw [putL_no hp, List.filter_cons_of_pos (p := fun x => !p x) hp', List.filter_cons_of_pos (p := fun x => !p x) hp', putL_hidden p r m h hm]

theorem flatL_set : ∀ (l : List LineV) (k : Nat) (y : LineV), k < l.length →
    ((((flatL l).set (k * 4) (.int .u64 y.lab)).set (k * 4 + 1) (.int .i64 y.num)).set (k * 4 + 2) (.int .i64 y.rev)).set (k * 4 + 3) (.string y.text) = flatL (l.set k y)
  | [], _, _, h => by simp at h
  | x :: r, 0, y, _ => rfl
  | x :: r, k + 1, y, h => by
    have ih := flatL_set r k y (by simpa using h)
    have e : flatL (x :: r) = x.cells ++ flatL r := rfl
    have e2 : flatL ((x :: r).set (k + 1) y) = x.cells ++ flatL (r.set k y) := rfl
    have sr : ∀ (t : List Value) (j : Nat) (v : Value), (x.cells ++ t).set (j + 4) v = x.cells ++ t.set j v := fun _ _ _ => rfl
    rw [e, e2, ← ih, show (k + 1) * 4 = k * 4 + 4 by omega, show k * 4 + 4 + 1 = k * 4 + 1 + 4 by omega, show k * 4 + 4 + 2 = k * 4 + 2 + 4 by omega, show k * 4 + 4 + 3 = k * 4 + 3 + 4 by omega, sr, sr, sr, sr]
end Go.Proofs.Ytgchcgllpceghaa
