/- Own work: what a patch does not touch stays: plain laws. -/
import Derived.Test.YtabdgocfbmcobaaHunkUnM
import Derived.Test.YtabdgocfbmcobaaHunkTouchM
namespace Go.Proofs.Ytabdgocfbmcobaa

/-- a line is touched just if it stands in the Old of the last hunk that is not behind it -/
theorem cover_beh {a : List ByteArray} {l : List HunkI} (hf : FitsF a 0 l) {i k : Nat} (hi : i ≤ l.length) (h1 : ∀ j (hj : j < l.length), j < i → (l[j]'hj).at_.toNat ≤ k) (h2 : ∀ j (hj : j < l.length), i ≤ j → k < (l[j]'hj).at_.toNat) :
    coverB l k = decide (k < behN l i) := by
  rw [Bool.eq_iff_iff, decide_eq_true_eq, coverB, List.any_eq_true]
  have hord : ∀ d j (hj : j < l.length) (hd : j + 1 + d < l.length), (l[j]'hj).at_.toNat + (l[j]'hj).old.length < (l[j + 1 + d]'hd).at_.toNat := by
    intro d
    induction d with
    | zero => intro j hj hd; exact (fitsF_get hf j hj).2.2.2.2.2.2.2 hd
    | succ d ih =>
      intro j hj hd
      have e1 := ih j hj (by omega)
      have e2 := (fitsF_get hf (j + 1 + d) (by omega)).2.2.2.2.2.2.2 (by omega)
      have e3 : (l[j + 1 + (d + 1)]'hd).at_.toNat = (l[j + 1 + d + 1]'(by omega)).at_.toNat := rfl
      omega
  constructor
  · rintro ⟨x, hx, hc⟩
    obtain ⟨j, hj, rfl⟩ := List.getElem_of_mem hx
    have hp := (fitsF_get hf j hj).1
    simp only [coverH, Bool.and_eq_true, decide_eq_true_eq] at hc
    have hji : j < i := by
      rcases Nat.lt_or_ge j i with h | h
      · exact h
      · have := h2 j hj h; omega
    cases i with
    | zero => omega
    | succ q =>
      rw [behN_succ (by omega)]
      by_cases e : j = q
      · subst e; omega
      · have hd := hord (q - j - 1) j hj (by omega)
        have hq : j + 1 + (q - j - 1) = q := by omega
        have h3 := h1 q (by omega) (by omega)
        simp only [hq] at hd
        omega
  · intro h
    cases i with
    | zero => simp [behN] at h
    | succ q =>
      rw [behN_succ (by omega)] at h
      have hp := (fitsF_get hf q (by omega)).1
      have h3 := h1 q (by omega) (by omega)
      refine ⟨_, List.getElem_mem (by omega : q < l.length), ?_⟩
      simp only [coverH, Bool.and_eq_true, decide_eq_true_eq]
      omega
/-- one more text that is not touched -/
theorem appF_step {a : List ByteArray} {l : List HunkI} {k : Nat} (hk : k < a.length) (hf : FitsF a k l) (hn : ∀ h r, l = h :: r → k < h.at_.toNat) : appF a k l = a[k]'hk :: appF a (k + 1) l ∧ FitsF a (k + 1) l := by
  cases l with
  | nil =>
    refine ⟨?_, hk⟩
    simp only [appF]
    rw [List.drop_eq_getElem_cons hk]
  | cons h r =>
    have h1 := hn h r rfl
    obtain ⟨f0, f1, f2, f3⟩ := hf
    refine ⟨?_, f0, f1, by omega, f3⟩
    simp only [appF]
    rw [List.drop_eq_getElem_cons hk, show h.at_.toNat - k = (h.at_.toNat - (k + 1)) + 1 by omega, List.take_succ_cons]
    rfl

theorem at_order {a : List ByteArray} {l : List HunkI} (hf : FitsF a 0 l) : ∀ (d j : Nat) (hj : j < l.length) (hd : j + 1 + d < l.length), (l[j]'hj).at_.toNat < (l[j + 1 + d]'hd).at_.toNat := by
  intro d
  induction d with
  | zero =>
    intro j hj hd
    have h := (fitsF_get hf j hj).2.2.2.2.2.2.2 hd
    have e : (l[j + 1 + 0]'hd).at_.toNat = (l[j + 1]'(by omega)).at_.toNat := rfl
    omega
  | succ d ih =>
    intro j hj hd
    have e1 := ih j hj (by omega)
    have e2 := (fitsF_get hf (j + 1 + d) (by omega)).2.2.2.2.2.2.2 (by omega)
    have e3 : (l[j + 1 + (d + 1)]'hd).at_.toNat = (l[j + 1 + d + 1]'(by omega)).at_.toNat := rfl
    omega
/-- how far one is: at the line k, behind i hunks and p texts of what comes -/
structure St (a : List ByteArray) (l : List HunkI) (b : List ByteArray) (k i p : Nat) : Prop where
  drop : b.drop p = appF a (max k (behN l i)) (l.drop i)
  fits : FitsF a (max k (behN l i)) (l.drop i)
  lo : ∀ j (hj : j < l.length), j < i → (l[j]'hj).at_.toNat ≤ k
  hi : ∀ j (hj : j < l.length), i ≤ j → k ≤ (l[j]'hj).at_.toNat
  le : p ≤ b.length
theorem St.start {a : List ByteArray} {l : List HunkI} (hf : FitsF a 0 l) : St a l (appL a l) 0 0 0 :=
  ⟨rfl, hf, fun j _ h => absurd h (by omega), fun j _ _ => Nat.zero_le _, Nat.zero_le _⟩
theorem St.hunk {a : List ByteArray} {l : List HunkI} {b : List ByteArray} {k i p : Nat} (hf : FitsF a 0 l) (h : St a l b k i p) (hi : i < l.length) (hk : (l[i]'hi).at_.toNat = k) :
    (∃ r, b.drop p = (l[i]'hi).new ++ r) ∧ St a l b k (i + 1) (p + (l[i]'hi).new.length) := by
  have hd : l.drop i = (l[i]'hi) :: l.drop (i + 1) := List.drop_eq_getElem_cons hi
  have h1 := h.drop
  have h2 := h.fits
  rw [hd] at h1 h2
  have hm : max k (behN l i) = k := by have := h2.2.2.1; omega
  rw [hm] at h1 h2
  rw [appF, hk, Nat.sub_self, List.take_zero, List.nil_append] at h1
  have h8 := h2.2.2.2.2.2.2.2.2.1
  rw [hk] at h8
  have hb : behN l (i + 1) = k + (l[i]'hi).old.length := by rw [behN_succ hi, hk]
  have hm2 : max k (behN l (i + 1)) = k + (l[i]'hi).old.length := by rw [hb]; omega
  refine ⟨⟨_, h1⟩, ?_, ?_, ?_, ?_, ?_⟩
  · rw [hm2, ← List.drop_drop, h1, List.drop_left]
  · rw [hm2]; exact h8
  · intro j hj hji
    by_cases e : j = i
    · subst e; omega
    · exact h.lo j hj (by omega)
  · intro j hj hij
    have := at_order hf (j - i - 1) i hi (by omega)
    have e : i + 1 + (j - i - 1) = j := by omega
    simp only [e] at this
    omega
  · have e := congrArg List.length h1
    rw [List.length_append, List.length_drop] at e
    have := h.le
    by_cases h0 : (l[i]'hi).new.length = 0
    · omega
    · omega
theorem St.pass {a : List ByteArray} {l : List HunkI} {b : List ByteArray} {k i p : Nat} (hf : FitsF a 0 l) (hil : i ≤ l.length) (h : St a l b k i p) (hn : ∀ hi : i < l.length, (l[i]'hi).at_.toNat ≠ k) (hk : k < a.length) :
    (coverB l k = true → St a l b (k + 1) i p) ∧ (coverB l k = false → (∃ r, b.drop p = a[k]'hk :: r) ∧ St a l b (k + 1) i (p + 1)) := by
  have hi2 : ∀ j (hj : j < l.length), i ≤ j → k < (l[j]'hj).at_.toNat := by
    intro j hj hij
    by_cases e : j = i
    · subst e
      have h1 := h.hi j hj (Nat.le_refl _)
      have h2 := hn hj
      omega
    · have h1 := h.hi i (by omega) (Nat.le_refl _)
      have h2 := hn (by omega)
      have := at_order hf (j - i - 1) i (by omega) (by omega)
      have e : i + 1 + (j - i - 1) = j := by omega
      simp only [e] at this
      omega
  have hc := cover_beh hf hil h.lo hi2
  have lo2 : ∀ j (hj : j < l.length), j < i → (l[j]'hj).at_.toNat ≤ k + 1 := fun j hj hji => Nat.le_succ_of_le (h.lo j hj hji)
  rw [hc]
  refine ⟨fun hh => ?_, fun hh => ?_⟩
  · have hh := of_decide_eq_true hh
    have e : max (k + 1) (behN l i) = max k (behN l i) := by omega
    exact ⟨by rw [e]; exact h.drop, by rw [e]; exact h.fits, lo2, hi2, h.le⟩
  · have hh := of_decide_eq_false hh
    have e : max k (behN l i) = k := by omega
    have e2 : max (k + 1) (behN l i) = k + 1 := by omega
    have hd := h.drop
    have hfi := h.fits
    rw [e] at hd hfi
    obtain ⟨s1, s2⟩ := appF_step hk hfi (fun g r hg => by
      have hlt : i < l.length := by
        rcases Nat.lt_or_ge i l.length with h3 | h3
        · exact h3
        · rw [List.drop_eq_nil_of_le h3] at hg; cases hg
      rw [List.drop_eq_getElem_cons hlt] at hg
      injection hg with hg _
      rw [← hg]
      exact hi2 i hlt (Nat.le_refl _))
    rw [s1] at hd
    refine ⟨⟨_, hd⟩, by rw [e2, ← List.drop_drop, hd]; rfl, by rw [e2]; exact s2, lo2, hi2, ?_⟩
    have e3 := congrArg List.length hd
    rw [List.length_drop, List.length_cons] at e3
    omega
theorem St.stop {a : List ByteArray} {l : List HunkI} {b : List ByteArray} {i p : Nat} (hf : FitsF a 0 l) (hil : i ≤ l.length) (h : St a l b a.length i p) (hn : ∀ hi : i < l.length, (l[i]'hi).at_.toNat ≠ a.length) : i = l.length ∧ p = b.length := by
  have hi : i = l.length := by
    rcases Nat.lt_or_ge i l.length with h3 | h3
    · have h1 := h.hi i h3 (Nat.le_refl _)
      have h2 := (fitsF_get hf i h3).2.2.2.1
      exact absurd (by omega) (hn h3)
    · omega
  refine ⟨hi, ?_⟩
  have hd := h.drop
  rw [hi, List.drop_length, appF, List.drop_eq_nil_of_le (by omega : a.length ≤ max a.length (behN l l.length))] at hd
  have e := congrArg List.length hd
  rw [List.length_drop] at e
  have := h.le
  simp only [List.length_nil] at e
  omega
theorem drop_get {b r : List ByteArray} {p : Nat} {x : ByteArray} (h : b.drop p = x :: r) : ∃ hp : p < b.length, b[p]'hp = x := by
  have hp : p < b.length := by
    rcases Nat.lt_or_ge p b.length with h1 | h1
    · exact h1
    · rw [List.drop_eq_nil_of_le h1] at h; cases h
  refine ⟨hp, ?_⟩
  rw [List.drop_eq_getElem_cons hp] at h
  injection h
theorem drop_gets {b r n : List ByteArray} {p : Nat} (h : b.drop p = n ++ r) (j : Nat) (hj : j < n.length) : ∃ hp : p + j < b.length, b[p + j]'hp = n[j]'hj := by
  have e : b.drop (p + j) = n[j]'hj :: (n.drop (j + 1) ++ r) := by
    rw [← List.drop_drop, h, List.drop_append_of_le_length (by omega), List.drop_eq_getElem_cons hj]
    rfl
  exact drop_get e
end Go.Proofs.Ytabdgocfbmcobaa
