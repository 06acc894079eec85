/- Own work: hunks as data: which may be a patch, which fit texts: plain laws. -/
import Derived.Test.YtabdgocfbmcobaaLinesA
namespace Go.Proofs.Ytabdgocfbmcobaa

structure HunkI where
  at_ : Int
  old : List ByteArray
  new : List ByteArray
def fineL (l : List ByteArray) : Bool := l.all isText
/-- the place behind the hunk ahead -/
def behindL (l : List HunkI) : Nat → Int
  | 0 => -1
  | k + 1 => match l[k]? with | some h => h.at_ + h.old.length | none => 0
def okH (b : Int) (h : HunkI) : Bool := decide (b < h.at_) && decide (h.at_ ≤ 2147483647) && decide (0 < h.old.length + h.new.length) && fineL h.old && fineL h.new
def okAt (l : List HunkI) (k : Nat) : Bool := match l[k]? with | some h => okH (behindL l k) h | none => true
def badL (l : List HunkI) : Option Nat := (List.range l.length).find? (fun k => !okAt l k)
def chkL (l : List HunkI) : Nat × Nat := match badL l with | some k => (k, 80) | none => (0, 0)
theorem chk_ok {l : List HunkI} (h : ∀ k, k < l.length → okAt l k = true) : chkL l = (0, 0) := by
  have e : badL l = none := by
    unfold badL
    rw [List.find?_eq_none]
    intro k hk
    rw [List.mem_range] at hk
    simp [h k hk]
  rw [chkL, e]
theorem chk_bad {l : List HunkI} {k : Nat} (hk : k < l.length) (h : ∀ j, j < k → okAt l j = true) (hb : okAt l k = false) : chkL l = (k, 80) := by
  have e : badL l = some k := by
    unfold badL
    rw [List.find?_range_eq_some]
    exact ⟨by simp [hb], by simpa using hk, fun j hj => by simp [h j hj]⟩
  rw [chkL, e]
theorem chk_cases (l : List HunkI) : (chkL l = (0, 0) ∧ ∀ k, k < l.length → okAt l k = true) ∨ ∃ k, k < l.length ∧ chkL l = (k, 80) := by
  unfold chkL
  cases hb : badL l with
  | none =>
    refine .inl ⟨rfl, fun k hk => ?_⟩
    unfold badL at hb
    rw [List.find?_eq_none] at hb
    have := hb k (List.mem_range.2 hk)
    simpa using this
  | some k =>
    refine .inr ⟨k, ?_, rfl⟩
    unfold badL at hb
    rw [List.find?_range_eq_some] at hb
    simpa using hb.2.1
theorem okAt_get {l : List HunkI} {k : Nat} (hk : k < l.length) : okAt l k = okH (behindL l k) (l[k]'hk) := by rw [okAt, List.getElem?_eq_getElem hk]
theorem behind_succ {l : List HunkI} {k : Nat} (hk : k < l.length) : behindL l (k + 1) = (l[k]'hk).at_ + (l[k]'hk).old.length := by rw [behindL, List.getElem?_eq_getElem hk]
theorem okH_iff {b : Int} {h : HunkI} : okH b h = true ↔ b < h.at_ ∧ h.at_ ≤ 2147483647 ∧ 0 < h.old.length + h.new.length ∧ fineL h.old = true ∧ fineL h.new = true := by
  simp [okH, and_assoc]
/-- a hunk of a patch stands at a place from 0 on -/
theorem behind_ge {l : List HunkI} : ∀ {k : Nat}, (∀ j, j < k → okAt l j = true) → k ≤ l.length → -1 ≤ behindL l k ∧ (0 < k → 0 ≤ behindL l k)
  | 0, _, _ => ⟨by simp [behindL], fun h => absurd h (by omega)⟩
  | k + 1, h, hk => by
    have ih := behind_ge (l := l) (k := k) (fun j hj => h j (by omega)) (by omega)
    have ho := h k (by omega)
    rw [okAt_get (by omega), okH_iff] at ho
    rw [behind_succ (by omega)]
    exact ⟨by omega, fun _ => by omega⟩
/-- a list of texts of which the first few may be lines, and one may not -/
theorem fine_at {l : List ByteArray} {k : Nat} (hk : k < l.length) (h : isText (l[k]'hk) = false) : fineL l = false := by
  rw [fineL, List.all_eq_false]
  exact ⟨_, List.getElem_mem hk, by simp [h]⟩
theorem fine_all {l : List ByteArray} (h : ∀ (k : Nat) (hk : k < l.length), isText (l[k]'hk) = true) : fineL l = true := by
  rw [fineL, List.all_eq_true]
  intro x hx
  obtain ⟨k, hk, rfl⟩ := List.getElem_of_mem hx
  exact h k hk

/-- what is told of a hunk that is held against texts -/
def fitE (a : List ByteArray) (h : HunkI) : Nat := if h.at_ + h.old.length ≤ a.length then (if h.old = (a.drop h.at_.toNat).take h.old.length then 0 else 82) else 81
def fitAt (a : List ByteArray) (l : List HunkI) (k : Nat) : Nat := match l[k]? with | some h => fitE a h | none => 0
def misL (a : List ByteArray) (l : List HunkI) : Option Nat := (List.range l.length).find? (fun k => fitAt a l k != 0)
def fitsL (a : List ByteArray) (l : List HunkI) : Nat × Nat := if (chkL l).2 = 0 then (match misL a l with | some k => (k, fitAt a l k) | none => (0, 0)) else chkL l
theorem fitAt_get {a : List ByteArray} {l : List HunkI} {k : Nat} (hk : k < l.length) : fitAt a l k = fitE a (l[k]'hk) := by rw [fitAt, List.getElem?_eq_getElem hk]
theorem fits_chk {a : List ByteArray} {l : List HunkI} (h : (chkL l).2 ≠ 0) : fitsL a l = chkL l := by rw [fitsL, if_neg h]
theorem fits_ok {a : List ByteArray} {l : List HunkI} (hc : (chkL l).2 = 0) (h : ∀ k, k < l.length → fitAt a l k = 0) : fitsL a l = (0, 0) := by
  have e : misL a l = none := by
    unfold misL
    rw [List.find?_eq_none]
    intro k hk
    rw [List.mem_range] at hk
    simp [h k hk]
  rw [fitsL, if_pos hc, e]
theorem fits_bad {a : List ByteArray} {l : List HunkI} {k : Nat} (hc : (chkL l).2 = 0) (hk : k < l.length) (h : ∀ j, j < k → fitAt a l j = 0) (hb : fitAt a l k ≠ 0) : fitsL a l = (k, fitAt a l k) := by
  have e : misL a l = some k := by
    unfold misL
    rw [List.find?_range_eq_some]
    exact ⟨by simpa using hb, by simpa using hk, fun j hj => by simp [h j hj]⟩
  rw [fitsL, if_pos hc, e]
theorem fitE_cases (a : List ByteArray) (h : HunkI) : fitE a h = 0 ∨ fitE a h = 81 ∨ fitE a h = 82 := by
  unfold fitE
  split
  · split <;> simp
  · simp
/-- where a patch fits: it may be, and each hunk fits -/
theorem fits_zero {a : List ByteArray} {l : List HunkI} (h : (fitsL a l).2 = 0) : fitsL a l = (0, 0) ∧ chkL l = (0, 0) ∧ (∀ k, k < l.length → okAt l k = true) ∧ ∀ k, k < l.length → fitAt a l k = 0 := by
  rcases chk_cases l with ⟨hc, hk⟩ | ⟨k, hk, hc⟩
  · have h0 : (chkL l).2 = 0 := by rw [hc]
    rw [fitsL, if_pos h0] at h ⊢
    cases hm : misL a l with
    | none =>
      refine ⟨rfl, hc, hk, fun k hk => ?_⟩
      unfold misL at hm
      rw [List.find?_eq_none] at hm
      have := hm k (List.mem_range.2 hk)
      simpa using this
    | some k =>
      unfold misL at hm
      rw [List.find?_range_eq_some] at hm
      rw [misL, List.find?_range_eq_some.2 hm] at h
      have := hm.1
      simp at this
      exact absurd h this
  · rw [fits_chk (by rw [hc]; simp), hc] at h
    simp at h
end Go.Proofs.Ytabdgocfbmcobaa
