/- Own work: what stays of two lists of texts, and the patch between them: plain laws. -/
import Derived.Test.YtncamoafdimpcaaBase
namespace Go.Proofs.Ytncamoafdimpcaa

/-- as many first texts as are the same in both -/
def preL : List ByteArray → List ByteArray → Nat
  | x :: a, y :: b => if x = y then preL a b + 1 else 0
  | [], _ => 0
  | _ :: _, [] => 0

theorem preL_spec : ∀ (a b : List ByteArray), preL a b ≤ a.length ∧ preL a b ≤ b.length ∧ (∀ i, i < preL a b → a[i]? = b[i]?) ∧ (preL a b = a.length ∨ preL a b = b.length ∨ a[preL a b]? ≠ b[preL a b]?) := by
  intro a
  induction a with
  | nil => intro b; cases b <;> simp [preL]
  | cons x a ih =>
    intro b
    cases b with
    | nil => simp [preL]
    | cons y b =>
      rw [preL]
      by_cases h : x = y
      · rw [if_pos h]
        obtain ⟨h1, h2, h3, h4⟩ := ih b
        refine ⟨by simpa using h1, by simpa using h2, ?_, ?_⟩
        · intro i hi
          cases i with
          | zero => simp [h]
          | succ i => simpa using h3 i (by omega)
        · rcases h4 with h4 | h4 | h4
          · exact .inl (by simpa using h4)
          · exact .inr (.inl (by simpa using h4))
          · exact .inr (.inr (by simpa using h4))
      · rw [if_neg h]
        exact ⟨by simp, by simp, fun i hi => by omega, .inr (.inr (by simpa using h))⟩

theorem preL_eq {a b : List ByteArray} {k : Nat} (h1 : k ≤ a.length) (h2 : k ≤ b.length) (h3 : ∀ i, i < k → a[i]? = b[i]?) (h4 : k = a.length ∨ k = b.length ∨ a[k]? ≠ b[k]?) : preL a b = k := by
  obtain ⟨g1, g2, g3, g4⟩ := preL_spec a b
  rcases Nat.lt_trichotomy (preL a b) k with h | h | h
  · rcases g4 with g4 | g4 | g4
    · omega
    · omega
    · exact absurd (h3 _ h) g4
  · exact h
  · rcases h4 with h4 | h4 | h4
    · omega
    · omega
    · exact absurd (g3 _ h) h4

/-- as many last texts as are the same, of what stands behind the first p -/
def sufL (a b : List ByteArray) (p : Nat) : Nat := preL (a.drop p).reverse (b.drop p).reverse
theorem rev_drop_get (a : List ByteArray) (p i : Nat) (h : i < a.length - p) : (a.drop p).reverse[i]? = a[a.length - 1 - i]? := by
  rw [List.getElem?_reverse (by simpa using h), List.getElem?_drop]
  congr 1
  simp
  omega
theorem sufL_spec (a b : List ByteArray) (p : Nat) (hp : p ≤ a.length) (hq : p ≤ b.length) : p + sufL a b p ≤ a.length ∧ p + sufL a b p ≤ b.length ∧ (∀ i, i < sufL a b p → a[a.length - 1 - i]? = b[b.length - 1 - i]?) := by
  obtain ⟨h1, h2, h3, _⟩ := preL_spec (a.drop p).reverse (b.drop p).reverse
  simp only [List.length_reverse, List.length_drop] at h1 h2
  refine ⟨by unfold sufL; omega, by unfold sufL; omega, fun i hi => ?_⟩
  have := h3 i hi
  unfold sufL at hi
  rwa [rev_drop_get _ _ _ (by omega), rev_drop_get _ _ _ (by omega)] at this
theorem sufL_end (a b : List ByteArray) (p : Nat) (hp : p ≤ a.length) (hq : p ≤ b.length) : p + sufL a b p = a.length ∨ p + sufL a b p = b.length ∨ a[a.length - 1 - sufL a b p]? ≠ b[b.length - 1 - sufL a b p]? := by
  obtain ⟨h1, h2, _, h4⟩ := preL_spec (a.drop p).reverse (b.drop p).reverse
  simp only [List.length_reverse, List.length_drop] at h1 h2 h4
  unfold sufL
  rcases h4 with h4 | h4 | h4
  · exact .inl (by omega)
  · exact .inr (.inl (by omega))
  · by_cases e1 : preL (a.drop p).reverse (b.drop p).reverse = a.length - p
    · exact .inl (by omega)
    by_cases e2 : preL (a.drop p).reverse (b.drop p).reverse = b.length - p
    · exact .inr (.inl (by omega))
    · refine .inr (.inr ?_)
      rw [rev_drop_get _ _ _ (by omega), rev_drop_get _ _ _ (by omega)] at h4
      exact h4
theorem sufL_eq {a b : List ByteArray} {p k : Nat} (h1 : p + k ≤ a.length) (h2 : p + k ≤ b.length) (h3 : ∀ i, i < k → a[a.length - 1 - i]? = b[b.length - 1 - i]?)
    (h4 : p + k = a.length ∨ p + k = b.length ∨ a[a.length - 1 - k]? ≠ b[b.length - 1 - k]?) : sufL a b p = k := by
  refine preL_eq (by simp; omega) (by simp; omega) (fun i hi => ?_) ?_
  · rw [rev_drop_get _ _ _ (by omega), rev_drop_get _ _ _ (by omega)]
    exact h3 i hi
  · rcases h4 with h4 | h4 | h4
    · exact .inl (by simp; omega)
    · exact .inr (.inl (by simp; omega))
    · by_cases e1 : k = a.length - p
      · exact .inl (by simp; omega)
      by_cases e2 : k = b.length - p
      · exact .inr (.inl (by simp; omega))
      · refine .inr (.inr ?_)
        rw [rev_drop_get _ _ _ (by omega), rev_drop_get _ _ _ (by omega)]
        exact h4

/-- the greatest number of texts that can stay -/
def mostL : List ByteArray → List ByteArray → Nat
  | [], _ => 0
  | _ :: _, [] => 0
  | x :: a, y :: b => if x = y then mostL a b + 1 else max (mostL a (y :: b)) (mostL (x :: a) b)
termination_by a b => a.length + b.length

theorem mostL_nil (b : List ByteArray) : mostL [] b = 0 := by rw [mostL]
theorem mostL_nil' (a : List ByteArray) : mostL a [] = 0 := by cases a <;> rw [mostL]
theorem mostL_sub (a b : List ByteArray) : ∃ s : List ByteArray, s.Sublist a ∧ s.Sublist b ∧ s.length = mostL a b := by
  fun_induction mostL a b with
  | case1 b => exact ⟨[], by simp, by simp, rfl⟩
  | case2 x a => exact ⟨[], by simp, by simp, rfl⟩
  | case3 a x b ih =>
    obtain ⟨s, h1, h2, h3⟩ := ih
    exact ⟨x :: s, h1.cons_cons x, h2.cons_cons x, by simp [h3]⟩
  | case4 x a y b h ih1 ih2 =>
    obtain ⟨s, h1, h2, h3⟩ := ih1
    obtain ⟨t, k1, k2, k3⟩ := ih2
    by_cases g : mostL (x :: a) b ≤ mostL a (y :: b)
    · exact ⟨s, h1.cons x, h2, by rw [h3, Nat.max_eq_left g]⟩
    · exact ⟨t, k1, k2.cons y, by rw [k3, Nat.max_eq_right (by omega)]⟩
theorem mostL_max (a b : List ByteArray) : ∀ s : List ByteArray, s.Sublist a → s.Sublist b → s.length ≤ mostL a b := by
  fun_induction mostL a b with
  | case1 b => intro s h _; simp [List.sublist_nil.1 h]
  | case2 x a => intro s _ h; simp [List.sublist_nil.1 h]
  | case3 a x b ih =>
    intro s h1 h2
    cases s with
    | nil => simp
    | cons z s =>
      have k1 : s.Sublist a := by
        rcases List.sublist_cons_iff.1 h1 with h | ⟨r, hr, h⟩
        · exact (List.sublist_cons_self z s).trans h
        · injection hr with _ hr; subst hr; exact h
      have k2 : s.Sublist b := by
        rcases List.sublist_cons_iff.1 h2 with h | ⟨r, hr, h⟩
        · exact (List.sublist_cons_self z s).trans h
        · injection hr with _ hr; subst hr; exact h
      have := ih s k1 k2
      simp
      omega
  | case4 x a y b h ih1 ih2 =>
    intro s h1 h2
    rcases List.sublist_cons_iff.1 h1 with k | ⟨r, hr, k⟩
    · exact Nat.le_trans (ih1 s k h2) (Nat.le_max_left _ _)
    · rcases List.sublist_cons_iff.1 h2 with k' | ⟨r', hr', k'⟩
      · exact Nat.le_trans (ih2 s h1 k') (Nat.le_max_right _ _)
      · subst hr
        injection hr' with e _
        exact absurd e h
theorem mostL_eq {a b : List ByteArray} {k : Nat} (h1 : ∃ s : List ByteArray, s.Sublist a ∧ s.Sublist b ∧ s.length = k) (h2 : ∀ s : List ByteArray, s.Sublist a → s.Sublist b → s.length ≤ k) : mostL a b = k := by
  obtain ⟨s, s1, s2, s3⟩ := h1
  obtain ⟨t, t1, t2, t3⟩ := mostL_sub a b
  have := mostL_max a b s s1 s2
  have := h2 t t1 t2
  omega
theorem mostL_comm (a b : List ByteArray) : mostL a b = mostL b a := by
  obtain ⟨s, h1, h2, h3⟩ := mostL_sub b a
  exact mostL_eq ⟨s, h2, h1, h3⟩ fun t t1 t2 => mostL_max b a t t2 t1
theorem mostL_rev (a b : List ByteArray) : mostL a.reverse b.reverse = mostL a b := by
  obtain ⟨s, h1, h2, h3⟩ := mostL_sub a b
  refine mostL_eq ⟨s.reverse, h1.reverse, h2.reverse, by simpa using h3⟩ fun t t1 t2 => ?_
  have := mostL_max a b t.reverse (by simpa using t1.reverse) (by simpa using t2.reverse)
  simpa using this
theorem mostL_up (x : ByteArray) (a b : List ByteArray) : mostL (x :: a) b ≤ mostL a b + 1 := by
  obtain ⟨s, h1, h2, h3⟩ := mostL_sub (x :: a) b
  rcases List.sublist_cons_iff.1 h1 with h | ⟨r, hr, h⟩
  · have := mostL_max a b s h h2
    omega
  · subst hr
    have := mostL_max a b r h ((List.sublist_cons_self x r).trans h2)
    simp at h3
    omega
theorem mostL_up' (a : List ByteArray) (y : ByteArray) (b : List ByteArray) : mostL a (y :: b) ≤ mostL a b + 1 := by
  rw [mostL_comm, mostL_comm a]
  exact mostL_up y b a
theorem mostL_ahead (p a b : List ByteArray) : mostL (p ++ a) (p ++ b) = p.length + mostL a b := by
  induction p with
  | nil => simp
  | cons x p ih => rw [List.cons_append, List.cons_append, mostL, if_pos rfl, ih, List.length_cons]; omega
theorem mostL_behind (s a b : List ByteArray) : mostL (a ++ s) (b ++ s) = mostL a b + s.length := by
  rw [← mostL_rev, List.reverse_append, List.reverse_append, mostL_ahead, mostL_rev, List.length_reverse]
  omega
/-- a table's round, as the code has it -/
theorem mostL_cons (x : ByteArray) (a : List ByteArray) (y : ByteArray) (b : List ByteArray) : mostL (x :: a) (y :: b) = if x = y then mostL a b + 1 else max (mostL a (y :: b)) (mostL (x :: a) b) := by
  rw [mostL]
/-- and as the document's answer has it -/
theorem mostL_cons' (x : ByteArray) (a : List ByteArray) (y : ByteArray) (b : List ByteArray) : mostL (x :: a) (y :: b) = if x = y then max (max (mostL a (y :: b)) (mostL (x :: a) b)) (mostL a b + 1) else max (mostL a (y :: b)) (mostL (x :: a) b) := by
  rw [mostL]
  split
  · have := mostL_up' a y b
    have := mostL_up x a b
    omega
  · rfl
/-- what is left of two lists from two places on -/
def mostAt (a b : List ByteArray) (i j : Nat) : Nat := mostL (a.drop i) (b.drop j)
theorem mostAt_step (a b : List ByteArray) (i j : Nat) (hi : i < a.length) (hj : j < b.length) : mostAt a b i j = if a[i]'hi = b[j]'hj then mostAt a b (i + 1) (j + 1) + 1 else max (mostAt a b (i + 1) j) (mostAt a b i (j + 1)) := by
  unfold mostAt
  rw [List.drop_eq_getElem_cons hi, List.drop_eq_getElem_cons hj, mostL_cons]
theorem mostAt_step' (a b : List ByteArray) (i j : Nat) (hi : i < a.length) (hj : j < b.length) : mostAt a b i j = if a[i]'hi = b[j]'hj then max (max (mostAt a b (i + 1) j) (mostAt a b i (j + 1))) (mostAt a b (i + 1) (j + 1) + 1) else max (mostAt a b (i + 1) j) (mostAt a b i (j + 1)) := by
  unfold mostAt
  rw [List.drop_eq_getElem_cons hi, List.drop_eq_getElem_cons hj, mostL_cons']
theorem mostAt_end (a b : List ByteArray) (i j : Nat) (h : a.length ≤ i ∨ b.length ≤ j) : mostAt a b i j = 0 := by
  unfold mostAt
  rcases h with h | h
  · rw [List.drop_eq_nil_of_le h, mostL_nil]
  · rw [List.drop_eq_nil_of_le h, mostL_nil']
theorem mostL_le (a b : List ByteArray) : mostL a b ≤ a.length := by
  obtain ⟨s, h1, _, h3⟩ := mostL_sub a b
  rw [← h3]
  exact h1.length_le
theorem mostL_le' (a b : List ByteArray) : mostL a b ≤ b.length := by
  rw [mostL_comm]; exact mostL_le b a
theorem mostAt_le (a b : List ByteArray) (i j : Nat) : mostAt a b i j ≤ a.length := by
  have := mostL_le (a.drop i) (b.drop j)
  simp at this
  unfold mostAt
  omega

/-- the pairs of two middles, in the document's way through them, from two places on -/
def walkL : List ByteArray → List ByteArray → Nat → Nat → List (Nat × Nat)
  | [], _, _, _ => []
  | _ :: _, [], _, _ => []
  | x :: a, y :: b, i, j => if x = y then (i, j) :: walkL a b (i + 1) (j + 1) else if mostL (x :: a) b ≤ mostL a (y :: b) then walkL a (y :: b) (i + 1) j else walkL (x :: a) b i (j + 1)
termination_by a b => a.length + b.length
def walkAt (a b : List ByteArray) (i j : Nat) : List (Nat × Nat) := walkL (a.drop i) (b.drop j) i j
theorem walkAt_step (a b : List ByteArray) (i j : Nat) (hi : i < a.length) (hj : j < b.length) : walkAt a b i j = if a[i]'hi = b[j]'hj then (i, j) :: walkAt a b (i + 1) (j + 1) else if mostAt a b i (j + 1) ≤ mostAt a b (i + 1) j then walkAt a b (i + 1) j else walkAt a b i (j + 1) := by
  unfold walkAt mostAt
  rw [List.drop_eq_getElem_cons hi, List.drop_eq_getElem_cons hj, walkL]
theorem walkAt_end (a b : List ByteArray) (i j : Nat) (h : a.length ≤ i ∨ b.length ≤ j) : walkAt a b i j = [] := by
  unfold walkAt
  rcases h with h | h
  · rw [List.drop_eq_nil_of_le h, walkL]
  · rw [List.drop_eq_nil_of_le h]
    cases a.drop i <;> rw [walkL]
theorem walkL_len (a b : List ByteArray) (i j : Nat) : (walkL a b i j).length = mostL a b := by
  fun_induction walkL a b i j with
  | case1 => rw [mostL]; rfl
  | case2 => rw [mostL]; rfl
  | case3 a x b i j ih => rw [mostL, if_pos rfl, List.length_cons, ih]
  | case4 x a y b i j h g ih => rw [mostL, if_neg h, ih, Nat.max_eq_left g]
  | case5 x a y b i j h g ih => rw [mostL, if_neg h, ih, Nat.max_eq_right (by omega)]
def maxWork : Nat := 1048576
/-- what stays of two middles -/
def stayL (a b : List ByteArray) : List (Nat × Nat) := if a.length * b.length ≤ maxWork then walkL a b 0 0 else []
theorem stayL_len (a b : List ByteArray) (h : a.length * b.length ≤ maxWork) : (stayL a b).length = mostL a b := by
  rw [stayL, if_pos h, walkL_len]
/-- pairs right behind one another -/
def runL (i j n : Nat) : List (Nat × Nat) := (List.range n).map fun k => (i + k, j + k)
theorem runL_len (i j n : Nat) : (runL i j n).length = n := by simp [runL]
theorem runL_succ (i j n : Nat) : runL i j (n + 1) = runL i j n ++ [(i + n, j + n)] := by simp [runL, List.range_succ]
theorem runL_zero (i j : Nat) : runL i j 0 = [] := rfl
def midL (a : List ByteArray) (p s : Nat) : List ByteArray := (a.drop p).take (a.length - s - p)
theorem midL_len (a : List ByteArray) (p s : Nat) : (midL a p s).length = a.length - s - p := by simp [midL]; omega
def shiftP (p : Nat) (l : List (Nat × Nat)) : List (Nat × Nat) := l.map fun x => (p + x.1, p + x.2)
/-- what stays of two lists -/
def commonAt (a b : List ByteArray) (p s : Nat) : List (Nat × Nat) := runL 0 0 p ++ shiftP p (stayL (midL a p s) (midL b p s)) ++ runL (a.length - s) (b.length - s) s
def commonL (a b : List ByteArray) : List (Nat × Nat) := commonAt a b (preL a b) (sufL a b (preL a b))

/-- pairs rise in both from two places on, and are the same -/
def Paired (a b : List ByteArray) : Nat → Nat → List (Nat × Nat) → Prop
  | _, _, [] => True
  | i, j, x :: l => i ≤ x.1 ∧ j ≤ x.2 ∧ x.1 < a.length ∧ x.2 < b.length ∧ a[x.1]? = b[x.2]? ∧ Paired a b (x.1 + 1) (x.2 + 1) l
theorem Paired.mono {a b : List ByteArray} {i j i' j' : Nat} {l : List (Nat × Nat)} (h : Paired a b i j l) (hi : i' ≤ i) (hj : j' ≤ j) : Paired a b i' j' l := by
  cases l with
  | nil => trivial
  | cons x l => exact ⟨Nat.le_trans hi h.1, Nat.le_trans hj h.2.1, h.2.2⟩
theorem paired_run (a b : List ByteArray) (n i j : Nat) (ha : i + n ≤ a.length) (hb : j + n ≤ b.length) (h : ∀ k, k < n → a[i + k]? = b[j + k]?) : Paired a b i j (runL i j n) := by
  induction n generalizing i j with
  | zero => trivial
  | succ n ih =>
    have e : runL i j (n + 1) = (i, j) :: runL (i + 1) (j + 1) n := by
      simp [runL, List.range_succ_eq_map, Function.comp_def]
      intro k _
      omega
    rw [e]
    refine ⟨Nat.le_refl _, Nat.le_refl _, by show i < _; omega, by show j < _; omega, h 0 (by omega), ih (i + 1) (j + 1) (by omega) (by omega) fun k hk => ?_⟩
    have := h (k + 1) (by omega)
    rwa [show i + (k + 1) = i + 1 + k by omega, show j + (k + 1) = j + 1 + k by omega] at this
/-- pairs that end before two places, and further ones from there on -/
def EndsBy (i j : Nat) (l : List (Nat × Nat)) : Prop := ∀ x ∈ l, x.1 < i ∧ x.2 < j
theorem paired_append {a b : List ByteArray} {i j i' j' : Nat} {l m : List (Nat × Nat)} (h : Paired a b i j l) (he : EndsBy i' j' l) (hm : Paired a b i' j' m) (hi : i ≤ i') (hj : j ≤ j') : Paired a b i j (l ++ m) := by
  induction l generalizing i j with
  | nil => exact hm.mono hi hj
  | cons x l ih =>
    obtain ⟨h1, h2, h3, h4, h5, h6⟩ := h
    have := he x (by simp)
    exact ⟨h1, h2, h3, h4, h5, ih h6 (fun y hy => he y (by simp [hy])) (by omega) (by omega)⟩
theorem paired_walk (a b : List ByteArray) (i j : Nat) : ∀ (x y : List ByteArray), x = a.drop i → y = b.drop j → Paired a b i j (walkL x y i j) := by
  intro x y
  fun_induction walkL x y i j with
  | case1 => intro _ _; trivial
  | case2 => intro _ _; trivial
  | case3 a' x b' i j ih =>
    intro h1 h2
    have hi : i < a.length := by
      have := congrArg List.length h1
      simp at this
      omega
    have hj : j < b.length := by
      have := congrArg List.length h2
      simp at this
      omega
    rw [List.drop_eq_getElem_cons hi] at h1
    rw [List.drop_eq_getElem_cons hj] at h2
    injection h1 with e1 e2
    injection h2 with f1 f2
    exact ⟨Nat.le_refl _, Nat.le_refl _, hi, hj, by show a[i]? = b[j]?; rw [List.getElem?_eq_getElem hi, List.getElem?_eq_getElem hj, ← e1, ← f1], ih e2 f2⟩
  | case4 x a' y b' i j h g ih =>
    intro h1 h2
    have hi : i < a.length := by
      have := congrArg List.length h1
      simp at this
      omega
    rw [List.drop_eq_getElem_cons hi] at h1
    injection h1 with e1 e2
    exact (ih e2 h2).mono (by omega) (by omega)
  | case5 x a' y b' i j h g ih =>
    intro h1 h2
    have hj : j < b.length := by
      have := congrArg List.length h2
      simp at this
      omega
    rw [List.drop_eq_getElem_cons hj] at h2
    injection h2 with e1 e2
    exact (ih h1 e2).mono (by omega) (by omega)
theorem paired_stay (a b : List ByteArray) : Paired a b 0 0 (stayL a b) := by
  rw [stayL]
  split
  · exact paired_walk a b 0 0 a b rfl rfl
  · trivial
theorem paired_shift {a b : List ByteArray} {i j p s : Nat} {l : List (Nat × Nat)} (h : Paired (midL a p s) (midL b p s) i j l) : Paired a b (p + i) (p + j) (shiftP p l) ∧ EndsBy (a.length - s) (b.length - s) (shiftP p l) := by
  induction l generalizing i j with
  | nil => exact ⟨trivial, by intro x hx; cases hx⟩
  | cons x l ih =>
    obtain ⟨h1, h2, h3, h4, h5, h6⟩ := h
    obtain ⟨g1, g2⟩ := ih h6
    have k1 : x.1 < a.length - s - p := by rw [midL_len] at h3; exact h3
    have k2 : x.2 < b.length - s - p := by rw [midL_len] at h4; exact h4
    refine ⟨⟨by show p + i ≤ p + x.1; omega, by show p + j ≤ p + x.2; omega, by show p + x.1 < _; omega, by show p + x.2 < _; omega, ?_, by rw [← Nat.add_assoc, ← Nat.add_assoc] at g1; exact g1⟩, ?_⟩
    · show a[p + x.1]? = b[p + x.2]?
      rw [midL, midL, List.getElem?_take_of_lt k1, List.getElem?_take_of_lt k2, List.getElem?_drop, List.getElem?_drop] at h5
      exact h5
    · intro y hy
      rcases List.mem_cons.1 hy with rfl | hy
      · exact ⟨by show p + x.1 < _; omega, by show p + x.2 < _; omega⟩
      · exact g2 y hy
theorem paired_at (a b : List ByteArray) (p s : Nat) (g1 : p + s ≤ a.length) (g2 : p + s ≤ b.length) (h3 : ∀ i, i < p → a[i]? = b[i]?) (g3 : ∀ i, i < s → a[a.length - 1 - i]? = b[b.length - 1 - i]?) : Paired a b 0 0 (commonAt a b p s) := by
  obtain ⟨k1, k2⟩ := paired_shift (p := p) (s := s) (paired_stay (midL a p s) (midL b p s))
  unfold commonAt
  refine paired_append (paired_append (paired_run a b p 0 0 (by omega) (by omega) (by simpa using h3)) ?_ k1 (by omega) (by omega)) ?_ (paired_run a b s (a.length - s) (b.length - s) (by omega) (by omega) ?_) (by omega) (by omega)
  · intro x hx
    simp [runL] at hx
    obtain ⟨q, hq, rfl⟩ := hx
    exact ⟨by show q < _; omega, by show q < _; omega⟩
  · intro x hx
    rcases List.mem_append.1 hx with hx | hx
    · simp [runL] at hx
      obtain ⟨q, hq, rfl⟩ := hx
      exact ⟨by show q < _; omega, by show q < _; omega⟩
    · exact k2 x hx
  · intro k hk
    have := g3 (s - 1 - k) (by omega)
    rwa [show a.length - 1 - (s - 1 - k) = a.length - s + k by omega, show b.length - 1 - (s - 1 - k) = b.length - s + k by omega] at this
theorem paired_common (a b : List ByteArray) : Paired a b 0 0 (commonL a b) := by
  obtain ⟨h1, h2, h3, _⟩ := preL_spec a b
  obtain ⟨g1, g2, g3⟩ := sufL_spec a b (preL a b) h1 h2
  exact paired_at a b _ _ g1 g2 h3 g3
theorem shiftP_len (p : Nat) (l : List (Nat × Nat)) : (shiftP p l).length = l.length := by simp [shiftP]
theorem commonL_ge (a b : List ByteArray) : preL a b + sufL a b (preL a b) ≤ (commonL a b).length := by
  simp [commonL, commonAt, runL_len]
/-- pairs give what both have -/
theorem paired_sub {a b : List ByteArray} : ∀ {l : List (Nat × Nat)} {i j : Nat}, Paired a b i j l → ∃ s : List ByteArray, s.Sublist (a.drop i) ∧ s.Sublist (b.drop j) ∧ s.length = l.length := by
  intro l
  induction l with
  | nil => intro i j _; exact ⟨[], by simp, by simp, rfl⟩
  | cons x l ih =>
    intro i j h
    obtain ⟨h1, h2, h3, h4, h5, h6⟩ := h
    obtain ⟨s, s1, s2, s3⟩ := ih h6
    rw [List.getElem?_eq_getElem h3, List.getElem?_eq_getElem h4] at h5
    have h5 := Option.some.inj h5
    have d1 : (a.drop x.1).Sublist (a.drop i) := by
      have := List.drop_sublist (x.1 - i) (a.drop i)
      rwa [List.drop_drop, show i + (x.1 - i) = x.1 by omega] at this
    have d2 : (b.drop x.2).Sublist (b.drop j) := by
      have := List.drop_sublist (x.2 - j) (b.drop j)
      rwa [List.drop_drop, show j + (x.2 - j) = x.2 by omega] at this
    refine ⟨a[x.1]'h3 :: s, ?_, ?_, by simp [s3]⟩
    · refine List.Sublist.trans ?_ d1
      rw [List.drop_eq_getElem_cons h3]
      exact s1.cons_cons _
    · refine List.Sublist.trans ?_ d2
      rw [List.drop_eq_getElem_cons h4, h5]
      exact s2.cons_cons _
theorem paired_most {a b : List ByteArray} {l : List (Nat × Nat)} (h : Paired a b 0 0 l) : l.length ≤ mostL a b := by
  obtain ⟨s, h1, h2, h3⟩ := paired_sub h
  rw [← h3]
  exact mostL_max a b s h1 h2
theorem split_ends (a : List ByteArray) (p s : Nat) (h : p + s ≤ a.length) : a = a.take p ++ midL a p s ++ a.drop (a.length - s) := by
  have e : a.drop p = midL a p s ++ a.drop (a.length - s) := by
    unfold midL
    have h2 : a.drop (a.length - s) = (a.drop p).drop (a.length - s - p) := by rw [List.drop_drop]; congr 1; omega
    rw [h2, List.take_append_drop]
  rw [List.append_assoc, ← e, List.take_append_drop]
theorem most_at (a b : List ByteArray) (p s : Nat) (g1 : p + s ≤ a.length) (g2 : p + s ≤ b.length) (h3 : ∀ i, i < p → a[i]? = b[i]?) (g3 : ∀ i, i < s → a[a.length - 1 - i]? = b[b.length - 1 - i]?) (h : (a.length - s - p) * (b.length - s - p) ≤ maxWork) : (commonAt a b p s).length = mostL a b := by
  have e1 : a.take p = b.take p := by
    apply List.ext_getElem?
    intro i
    rw [List.getElem?_take, List.getElem?_take]
    split
    · exact h3 i (by omega)
    · rfl
  have e2 : a.drop (a.length - s) = b.drop (b.length - s) := by
    apply List.ext_getElem?
    intro i
    rw [List.getElem?_drop, List.getElem?_drop]
    by_cases hi : i < s
    · have := g3 (s - 1 - i) (by omega)
      rwa [show a.length - 1 - (s - 1 - i) = a.length - s + i by omega, show b.length - 1 - (s - 1 - i) = b.length - s + i by omega] at this
    · rw [List.getElem?_eq_none (by omega), List.getElem?_eq_none (by omega)]
  have k1 := split_ends a p s (by omega)
  have k2 := split_ends b p s (by omega)
  rw [← e1, ← e2] at k2
  have k3 : mostL a b = mostL (a.take p ++ midL a p s ++ a.drop (a.length - s)) (a.take p ++ midL b p s ++ a.drop (a.length - s)) := by
    rw [← k1, ← k2]
  rw [k3, mostL_behind, mostL_ahead]
  simp only [commonAt, List.length_append, runL_len, shiftP_len]
  rw [stayL_len _ _ (by rw [midL_len, midL_len]; exact h)]
  simp
  omega
/-- as many stay as can, where the middles are small -/
theorem common_most (a b : List ByteArray) (h : (a.length - sufL a b (preL a b) - preL a b) * (b.length - sufL a b (preL a b) - preL a b) ≤ maxWork) : (commonL a b).length = mostL a b := by
  obtain ⟨h1, h2, h3, _⟩ := preL_spec a b
  obtain ⟨g1, g2, g3⟩ := sufL_spec a b (preL a b) h1 h2
  exact most_at a b _ _ g1 g2 h3 g3 h
theorem common_le (a b : List ByteArray) : (commonL a b).length ≤ a.length ∧ (commonL a b).length ≤ b.length := by
  have h := paired_most (paired_common a b)
  exact ⟨Nat.le_trans h (mostL_le a b), Nat.le_trans h (mostL_le' a b)⟩

/-- a hunk -/
structure HunkT where
  at_ : Nat
  old : List ByteArray
  new : List ByteArray
def gapH (a b : List ByteArray) (i j p q : Nat) : List HunkT := if i < p ∨ j < q then [⟨i, (a.drop i).take (p - i), (b.drop j).take (q - j)⟩] else []
/-- the hunks of the gaps ahead of pairs -/
def gapsL (a b : List ByteArray) : Nat → Nat → List (Nat × Nat) → List HunkT
  | _, _, [] => []
  | i, j, x :: l => gapH a b i j x.1 x.2 ++ gapsL a b (x.1 + 1) (x.2 + 1) l
def linesL (a b : List ByteArray) : List HunkT := gapsL a b 0 0 (commonL a b ++ [(a.length, b.length)])
/-- where the gap ahead of the next pair begins -/
def nextP (l : List (Nat × Nat)) : Nat × Nat := match l.getLast? with | none => (0, 0) | some x => (x.1 + 1, x.2 + 1)
theorem nextP_snoc (l : List (Nat × Nat)) (x : Nat × Nat) : nextP (l ++ [x]) = (x.1 + 1, x.2 + 1) := by simp [nextP]
theorem gapsL_append (a b : List ByteArray) (l m : List (Nat × Nat)) (i j : Nat) : gapsL a b i j (l ++ m) = gapsL a b i j l ++ gapsL a b (match l.getLast? with | none => i | some x => x.1 + 1) (match l.getLast? with | none => j | some x => x.2 + 1) m := by
  induction l generalizing i j with
  | nil => rfl
  | cons x l ih =>
    rw [List.cons_append, gapsL, gapsL, ih, List.append_assoc]
    cases l with
    | nil => rfl
    | cons y l => rfl
theorem gapsL_snoc (a b : List ByteArray) (l : List (Nat × Nat)) (x : Nat × Nat) : gapsL a b 0 0 (l ++ [x]) = gapsL a b 0 0 l ++ gapH a b (nextP l).1 (nextP l).2 x.1 x.2 := by
  rw [gapsL_append]
  congr 1
  rw [gapsL, gapsL, List.append_nil, nextP]
  cases l.getLast? <;> rfl

/-- where a gap lies: within both lists -/
def oldsL (h : List HunkT) : Nat := (h.map fun x => x.old.length).sum
def newsL (h : List HunkT) : Nat := (h.map fun x => x.new.length).sum
theorem oldsL_append (h k : List HunkT) : oldsL (h ++ k) = oldsL h + oldsL k := by simp [oldsL]
theorem newsL_append (h k : List HunkT) : newsL (h ++ k) = newsL h + newsL k := by simp [newsL]
theorem gapH_sizes (a b : List ByteArray) (i j p q : Nat) (hi : i ≤ p) (hp : p ≤ a.length) (hj : j ≤ q) (hq : q ≤ b.length) : oldsL (gapH a b i j p q) = p - i ∧ newsL (gapH a b i j p q) = q - j := by
  unfold gapH
  split
  · simp [oldsL, newsL]
    omega
  · simp [oldsL, newsL]
    omega
/-- the gaps' texts are all that is in no pair -/
theorem gaps_sizes {a b : List ByteArray} : ∀ {l : List (Nat × Nat)} {i j : Nat}, Paired a b i j l → i ≤ a.length → j ≤ b.length →
    oldsL (gapsL a b i j (l ++ [(a.length, b.length)])) + l.length + i = a.length ∧ newsL (gapsL a b i j (l ++ [(a.length, b.length)])) + l.length + j = b.length := by
  intro l
  induction l with
  | nil =>
    intro i j _ hi hj
    obtain ⟨e1, e2⟩ := gapH_sizes a b i j a.length b.length hi (Nat.le_refl _) hj (Nat.le_refl _)
    simp [gapsL, e1, e2]
    omega
  | cons x l ih =>
    intro i j h hi hj
    obtain ⟨h1, h2, h3, h4, h5, h6⟩ := h
    obtain ⟨e1, e2⟩ := gapH_sizes a b i j x.1 x.2 h1 (by omega) h2 (by omega)
    obtain ⟨g1, g2⟩ := ih h6 (by omega) (by omega)
    rw [List.cons_append, gapsL, oldsL_append, newsL_append, e1, e2, List.length_cons]
    omega
theorem lines_sizes (a b : List ByteArray) : oldsL (linesL a b) = a.length - (commonL a b).length ∧ newsL (linesL a b) = b.length - (commonL a b).length := by
  have h := gaps_sizes (paired_common a b) (Nat.zero_le _) (Nat.zero_le _)
  unfold linesL
  omega

/-- a patch fits texts from a place on -/
def FitsL (a : List ByteArray) : Nat → List HunkT → Prop
  | _, [] => True
  | i, h :: l => i ≤ h.at_ ∧ 0 < h.old.length + h.new.length ∧ h.at_ + h.old.length ≤ a.length ∧ h.old = (a.drop h.at_).take h.old.length ∧ FitsL a (h.at_ + h.old.length) l ∧ (∀ h2 l2, l = h2 :: l2 → h.at_ + h.old.length < h2.at_)
/-- it applied, from a place on -/
def appliedL (a : List ByteArray) : Nat → List HunkT → List ByteArray
  | i, [] => a.drop i
  | i, h :: l => (a.drop i).take (h.at_ - i) ++ h.new ++ appliedL a (h.at_ + h.old.length) l
theorem take_drop_split {α : Type} (l : List α) (i p q : Nat) (h : i ≤ p) (k : p ≤ q) : (l.drop i).take (q - i) = (l.drop i).take (p - i) ++ (l.drop p).take (q - p) := by
  have e1 : l.drop p = (l.drop i).drop (p - i) := by rw [List.drop_drop]; congr 1; omega
  rw [e1, show q - i = (p - i) + (q - p) by omega, List.take_add]
theorem gaps_ahead {a b : List ByteArray} : ∀ {l : List (Nat × Nat)} {i j : Nat}, Paired a b i j l → ∀ h2 l2, gapsL a b i j (l ++ [(a.length, b.length)]) = h2 :: l2 → i ≤ h2.at_ := by
  intro l
  induction l with
  | nil =>
    intro i j _ h2 l2 h
    simp only [List.nil_append, gapsL, gapH] at h
    split at h
    · cases h; exact Nat.le_refl _
    · cases h
  | cons x l ih =>
    intro i j hp h2 l2 h
    obtain ⟨h1, h2', h3, h4, h5, h6⟩ := hp
    rw [List.cons_append, gapsL, gapH] at h
    split at h
    · cases h; exact Nat.le_refl _
    · have := ih h6 h2 l2 h
      omega
theorem gaps_fit {a b : List ByteArray} : ∀ {l : List (Nat × Nat)} {i j : Nat}, Paired a b i j l → i ≤ a.length → j ≤ b.length →
    FitsL a i (gapsL a b i j (l ++ [(a.length, b.length)])) ∧
    appliedL a i (gapsL a b i j (l ++ [(a.length, b.length)])) = b.drop j := by
  intro l
  induction l with
  | nil =>
    intro i j _ hi hj
    simp only [List.nil_append, gapsL, gapH]
    split
    · rename_i h
      simp only [List.append_nil, FitsL, appliedL]
      have e1 : ((a.drop i).take (a.length - i)).length = a.length - i := by simp
      have e2 : ((b.drop j).take (b.length - j)) = b.drop j := List.take_of_length_le (by simp)
      have e3 : ((b.drop j).take (b.length - j)).length = b.length - j := by simp
      have e4 : (a.drop i).take (a.length - i) = a.drop i := List.take_of_length_le (by simp)
      refine ⟨⟨Nat.le_refl _, by rw [e1, e3]; omega, by rw [e1]; omega, by rw [e1], trivial, by intro _ _ h; cases h⟩, ?_⟩
      · rw [Nat.sub_self, List.take_zero, List.nil_append, e2, e1, show i + (a.length - i) = a.length by omega, List.drop_length, List.append_nil]
    · rename_i h
      have hi' : i = a.length := by omega
      have hj' : j = b.length := by omega
      subst hi' hj'
      simp [FitsL, appliedL]
  | cons x l ih =>
    intro i j hp hi hj
    obtain ⟨h1, h2, h3, h4, h5, h6⟩ := hp
    obtain ⟨g1, g2⟩ := ih h6 (by omega) (by omega)
    have gA := gaps_ahead h6
    rw [List.cons_append, gapsL, gapH]
    have hx : a[x.1]? = some (a[x.1]'h3) := List.getElem?_eq_getElem h3
    have hy : b[x.2]? = some (b[x.2]'h4) := List.getElem?_eq_getElem h4
    rw [hx, hy] at h5
    have h5 := Option.some.inj h5
    have hb : b.drop j = (b.drop j).take (x.2 - j) ++ b[x.2]'h4 :: b.drop (x.2 + 1) := by
      rw [← List.drop_eq_getElem_cons h4]
      have e : b.drop x.2 = (b.drop j).drop (x.2 - j) := by rw [List.drop_drop]; congr 1; omega
      rw [e, List.take_append_drop]
    have ha : ∀ (k : Nat) (m : List HunkT), k ≤ x.1 → (∀ h2 l2, m = h2 :: l2 → x.1 + 1 ≤ h2.at_) → appliedL a (x.1 + 1) m = b.drop (x.2 + 1) → appliedL a k m = (a.drop k).take (x.1 - k) ++ a[x.1]'h3 :: b.drop (x.2 + 1) := by
      intro k m hk hm hap
      have e0 : ∀ q, x.1 + 1 ≤ q → (a.drop k).take (q - k) = (a.drop k).take (x.1 - k) ++ a[x.1]'h3 :: (a.drop (x.1 + 1)).take (q - (x.1 + 1)) := by
        intro q hq
        rw [take_drop_split a k x.1 q hk (by omega), List.drop_eq_getElem_cons h3, show q - x.1 = (q - (x.1 + 1)) + 1 by omega, List.take_succ_cons]
      cases m with
      | nil =>
        rw [appliedL] at hap ⊢
        rw [← hap]
        have := e0 (max a.length (x.1 + 1)) (Nat.le_max_right _ _)
        rw [List.take_of_length_le (by simp; omega), List.take_of_length_le (l := a.drop (x.1 + 1)) (by simp; omega)] at this
        exact this
      | cons h2 l2 =>
        rw [appliedL] at hap ⊢
        rw [e0 h2.at_ (hm h2 l2 rfl), ← hap]
        simp
    split
    · rename_i h
      have e1 : ((a.drop i).take (x.1 - i)).length = x.1 - i := by simp; omega
      have e3 : ((b.drop j).take (x.2 - j)).length = x.2 - j := by simp; omega
      simp only [List.singleton_append, FitsL, appliedL]
      rw [e1, e3, show i + (x.1 - i) = x.1 by omega, Nat.sub_self, List.take_zero, List.nil_append]
      refine ⟨⟨Nat.le_refl _, by omega, by omega, rfl, ?_, ?_⟩, ?_⟩
      · generalize gapsL a b (x.1 + 1) (x.2 + 1) (l ++ [(a.length, b.length)]) = m at g1 gA
        cases m with
        | nil => trivial
        | cons h2 l2 => exact ⟨by have := gA h2 l2 rfl; omega, g1.2⟩
      · intro h2 l2 e
        have := gA h2 l2 e
        omega
      · rw [ha x.1 _ (Nat.le_refl _) gA g2, Nat.sub_self, List.take_zero, List.nil_append, h5]
        exact hb.symm
    · rename_i h
      have hi' : x.1 = i := by omega
      have hj' : x.2 = j := by omega
      rw [List.nil_append]
      refine ⟨?_, ?_⟩
      · generalize gapsL a b (x.1 + 1) (x.2 + 1) (l ++ [(a.length, b.length)]) = m at g1 gA
        cases m with
        | nil => trivial
        | cons h2 l2 => exact ⟨by have := gA h2 l2 rfl; omega, g1.2⟩
      · rw [ha i _ (by omega) gA g2, hb, ← h5, show x.1 - i = 0 by omega, show x.2 - j = 0 by omega]
        simp
theorem lines_fit (a b : List ByteArray) : FitsL a 0 (linesL a b) ∧ appliedL a 0 (linesL a b) = b := by
  have h := gaps_fit (paired_common a b) (Nat.zero_le _) (Nat.zero_le _)
  exact ⟨h.1, h.2⟩
theorem gaps_none {a b : List ByteArray} (h : linesL a b = []) : a = b := by
  have := (lines_fit a b).2
  rw [h, appliedL] at this
  simpa using this
theorem lines_same (a : List ByteArray) : linesL a a = [] := by
  have hp : preL a a = a.length := preL_eq (Nat.le_refl _) (Nat.le_refl _) (fun _ _ => rfl) (.inl rfl)
  have hs : sufL a a a.length = 0 := sufL_eq (by simp) (by simp) (fun i hi => by omega) (.inl (by omega))
  have hm : midL a a.length 0 = [] := by simp [midL]
  have hst : stayL ([] : List ByteArray) [] = [] := by rw [stayL]; split <;> (first | (rw [walkL]) | rfl)
  have hc : commonL a a = runL 0 0 a.length := by
    rw [commonL, hp, hs, commonAt, hm, hst]
    simp [shiftP, runL]
  have key : ∀ (n i : Nat), i + n = a.length → gapsL a a i i (runL i i n ++ [(a.length, a.length)]) = [] := by
    intro n
    induction n with
    | zero => intro i h; simp [runL, gapsL, gapH]; omega
    | succ n ih =>
      intro i h
      have e : runL i i (n + 1) = (i, i) :: runL (i + 1) (i + 1) n := by
        simp [runL, List.range_succ_eq_map, Function.comp_def]
        intro k _
        omega
      rw [e, List.cons_append, gapsL, gapH, if_neg (by omega), List.nil_append]
      exact ih (i + 1) (by omega)
  rw [linesL, hc]
  exact key a.length 0 (by omega)
theorem lines_none (a b : List ByteArray) : linesL a b = [] ↔ a = b := ⟨gaps_none, fun h => by rw [h]; exact lines_same b⟩
/-- as many gaps as pairs, and one more, at most -/
theorem gaps_count (a b : List ByteArray) (l : List (Nat × Nat)) (i j : Nat) : (gapsL a b i j l).length ≤ l.length := by
  induction l generalizing i j with
  | nil => simp [gapsL]
  | cons x l ih =>
    rw [gapsL, List.length_append, List.length_cons]
    have := ih (x.1 + 1) (x.2 + 1)
    have h : (gapH a b i j x.1 x.2).length ≤ 1 := by unfold gapH; split <;> simp
    omega
end Go.Proofs.Ytncamoafdimpcaa
