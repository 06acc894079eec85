/- Own work: a patch applied: plain laws. -/
import Derived.Test.YtabdgocfbmcobaaHunkInvM
import Derived.Test.YtabdgocfbmcobaaHunkFitR
namespace Go.Proofs.Ytabdgocfbmcobaa

/-- a patch applied, from a place on -/
def appF (a : List ByteArray) : Nat → List HunkI → List ByteArray
  | i, [] => a.drop i
  | i, h :: r => (a.drop i).take (h.at_.toNat - i) ++ h.new ++ appF a (h.at_.toNat + h.old.length) r
def appL (a : List ByteArray) (l : List HunkI) : List ByteArray := appF a 0 l
/-- a patch fits, from a place on -/
def FitsF (a : List ByteArray) : Nat → List HunkI → Prop
  | i, [] => i ≤ a.length
  | i, h :: r => 0 ≤ h.at_ ∧ h.at_ ≤ 2147483647 ∧ i ≤ h.at_.toNat ∧ 0 < h.old.length + h.new.length ∧ h.at_.toNat + h.old.length ≤ a.length ∧ h.old = (a.drop h.at_.toNat).take h.old.length ∧ fineL h.old = true ∧ fineL h.new = true ∧
    FitsF a (h.at_.toNat + h.old.length) r ∧ ∀ h2 r2, r = h2 :: r2 → h.at_.toNat + h.old.length < h2.at_.toNat
def behN (l : List HunkI) : Nat → Nat
  | 0 => 0
  | k + 1 => match l[k]? with | some h => h.at_.toNat + h.old.length | none => 0
theorem behN_succ {l : List HunkI} {k : Nat} (hk : k < l.length) : behN l (k + 1) = (l[k]'hk).at_.toNat + (l[k]'hk).old.length := by rw [behN, List.getElem?_eq_getElem hk]
theorem fits_from {a : List ByteArray} {l : List HunkI} (hok : ∀ k, k < l.length → okAt l k = true) (hf : ∀ k, k < l.length → fitAt a l k = 0) : ∀ (d k : Nat), k + d = l.length → FitsF a (behN l k) (l.drop k) := by
  have hin : ∀ k (hk : k < l.length), (l[k]'hk).at_.toNat + (l[k]'hk).old.length ≤ a.length ∧ (l[k]'hk).old = (a.drop (l[k]'hk).at_.toNat).take (l[k]'hk).old.length := by
    intro k hk
    have h := hf k hk
    have hp := ok_place hok hk
    rw [fitAt_get hk, fitE] at h
    split at h
    · rename_i h1
      split at h
      · rename_i h2
        exact ⟨by omega, h2⟩
      · simp at h
    · simp at h
  intro d
  induction d with
  | zero =>
    intro k hk
    obtain rfl : k = l.length := by omega
    rw [List.drop_length]
    show behN l l.length ≤ a.length
    cases hn : l.length with
    | zero => simp [behN]
    | succ q =>
      rw [behN_succ (by omega)]
      exact (hin q (by omega)).1
  | succ d ih =>
    intro k hk
    have hkl : k < l.length := by omega
    rw [List.drop_eq_getElem_cons hkl]
    have hp := ok_place hok hkl
    have ho := hok k hkl
    rw [okAt_get hkl, okH_iff] at ho
    obtain ⟨h1, h2⟩ := hin k hkl
    have hi := ih (k + 1) (by omega)
    rw [behN_succ hkl] at hi
    refine ⟨hp.1, hp.2, ?_, ho.2.2.1, h1, h2, ho.2.2.2.1, ho.2.2.2.2, hi, ?_⟩
    · cases k with
      | zero => exact Nat.zero_le _
      | succ q =>
        have hb := ho.1
        rw [behind_succ (by omega)] at hb
        rw [behN_succ (by omega)]
        have := ok_place hok (k := q) (by omega)
        omega
    · intro h3 r3 he
      by_cases hk2 : k + 1 < l.length
      · rw [List.drop_eq_getElem_cons hk2] at he
        injection he with he _
        subst he
        have ho2 := hok (k + 1) hk2
        rw [okAt_get hk2, okH_iff, behind_succ hkl] at ho2
        have := ok_place hok hk2
        omega
      · rw [List.drop_eq_nil_of_le (by omega)] at he
        cases he
theorem fits_all {a : List ByteArray} {l : List HunkI} (h : (fitsL a l).2 = 0) : FitsF a 0 l := by
  obtain ⟨_, _, h1, h2⟩ := fits_zero h
  have := fits_from h1 h2 l.length 0 (by omega)
  simpa [behN] using this
def sumO (l : List HunkI) : Nat := (l.map fun h => h.old.length).sum
def sumN (l : List HunkI) : Nat := (l.map fun h => h.new.length).sum
theorem sumO_cons (h : HunkI) (l : List HunkI) : sumO (h :: l) = h.old.length + sumO l := by simp [sumO]
theorem sumN_cons (h : HunkI) (l : List HunkI) : sumN (h :: l) = h.new.length + sumN l := by simp [sumN]
/-- as many texts more as the sizes say -/
theorem appF_len {a : List ByteArray} : ∀ {l : List HunkI} {i : Nat}, FitsF a i l → (appF a i l).length + sumO l + i = a.length + sumN l ∧ sumO l + i ≤ a.length
  | [], i, h => by
    have h : i ≤ a.length := h
    simp [appF, sumO, sumN]
    omega
  | h :: r, i, hf => by
    obtain ⟨h0, _, h1, h2, h3, h4, _, _, h5, _⟩ := hf
    have ih := appF_len h5
    rw [sumO_cons, sumN_cons, appF, List.length_append, List.length_append, List.length_take, List.length_drop]
    omega
theorem fitsF_le {a : List ByteArray} {l : List HunkI} {i : Nat} (h : FitsF a i l) : i ≤ a.length := by
  have := (appF_len h).2
  omega
end Go.Proofs.Ytabdgocfbmcobaa
