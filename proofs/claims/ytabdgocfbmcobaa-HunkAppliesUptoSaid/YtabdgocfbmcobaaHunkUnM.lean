/- Own work: what a patch did, its inverse undoes: plain laws. -/
import Derived.Test.YtabdgocfbmcobaaHunkApM
namespace Go.Proofs.Ytabdgocfbmcobaa
open Go.RowKit

theorem fitsF_get {a : List ByteArray} : ∀ {l : List HunkI} {i : Nat}, FitsF a i l → ∀ (k : Nat) (hk : k < l.length), 0 ≤ (l[k]'hk).at_ ∧ (l[k]'hk).at_ ≤ 2147483647 ∧ 0 < (l[k]'hk).old.length + (l[k]'hk).new.length ∧ (l[k]'hk).at_.toNat + (l[k]'hk).old.length ≤ a.length ∧
    (l[k]'hk).old = (a.drop (l[k]'hk).at_.toNat).take (l[k]'hk).old.length ∧ fineL (l[k]'hk).old = true ∧ fineL (l[k]'hk).new = true ∧ ∀ (h2 : k + 1 < l.length), (l[k]'hk).at_.toNat + (l[k]'hk).old.length < (l[k + 1]'h2).at_.toNat
  | [], _, _, _, hk => absurd hk (by simp)
  | h :: r, i, hf, 0, _ => by
    obtain ⟨h0, h1, _, h3, h4, h5, h6, h7, _, h9⟩ := hf
    refine ⟨h0, h1, h3, h4, h5, h6, h7, fun h2 => ?_⟩
    cases r with
    | nil => simp at h2
    | cons g2 r2 => exact h9 g2 r2 rfl
  | h :: r, i, hf, k + 1, hk => by
    have ih := fitsF_get hf.2.2.2.2.2.2.2.2.1 k (by simpa using hk)
    simp only [List.getElem_cons_succ]
    refine ⟨ih.1, ih.2.1, ih.2.2.1, ih.2.2.2.1, ih.2.2.2.2.1, ih.2.2.2.2.2.1, ih.2.2.2.2.2.2.1, fun h2 => ih.2.2.2.2.2.2.2 (by simpa using h2)⟩
theorem fits_back {a : List ByteArray} {l : List HunkI} (hf : FitsF a 0 l) : chkL l = (0, 0) ∧ fitsL a l = (0, 0) := by
  have hok : ∀ k, k < l.length → okAt l k = true := by
    intro k hk
    obtain ⟨h0, h1, h2, _, _, h5, h6, _⟩ := fitsF_get hf k hk
    rw [okAt_get hk, okH_iff]
    refine ⟨?_, h1, h2, h5, h6⟩
    cases k with
    | zero => simp only [behindL]; omega
    | succ q =>
      obtain ⟨g0, _, _, _, _, _, _, g7⟩ := fitsF_get hf q (by omega)
      rw [behind_succ (by omega)]
      have := g7 hk
      omega
  have hc := chk_ok hok
  refine ⟨hc, fits_ok (by rw [hc]) fun k hk => ?_⟩
  obtain ⟨h0, _, _, h3, h4, _⟩ := fitsF_get hf k hk
  rw [fitAt_get hk, fitE, if_pos (by omega), if_pos h4]
theorem wrap64_id {x : Int} (h1 : -9223372036854775808 ≤ x) (h2 : x ≤ 9223372036854775807) : wrap64 x = x := by unfold wrap64; omega
/-- what undoes it fits what came of it, and leads back -/
theorem inv_from {a b : List ByteArray} (hb : b.length ≤ 2147483647) (ha : a.length ≤ 2147483647) : ∀ {l : List HunkI} {i j : Nat} {m : Int}, FitsF a i l → (i : Int) + m = j → j ≤ b.length → b.drop j = appF a i l →
    FitsF b j (invF m l) ∧ appF b j (invF m l) = a.drop i ∧ invF (-m) (invF m l) = l
  | [], i, j, m, _, _, hj, hd => ⟨hj, hd, rfl⟩
  | h :: r, i, j, m, hf, hm, hj, hd => by
    have hi := fitsF_le hf
    obtain ⟨h0, h1, h2, h3, h4, h5, h6, h7, h8, h9⟩ := hf
    obtain ⟨an, han⟩ : ∃ an : Nat, h.at_ = an := ⟨h.at_.toNat, by omega⟩
    have hn0 : h.at_.toNat = an := by omega
    rw [hn0] at h2 h4 h5 h8 h9
    rw [appF, hn0] at hd
    obtain ⟨P, hP⟩ : ∃ P, (a.drop i).take (an - i) = P := ⟨_, rfl⟩
    have hPl : P.length = an - i := by rw [← hP, List.length_take, List.length_drop]; omega
    rw [hP] at hd
    obtain ⟨jn, hjn⟩ : ∃ jn, j + (an - i) = jn := ⟨_, rfl⟩
    have hbl : j + P.length + h.new.length + (appF a (an + h.old.length) r).length = b.length := by
      have e := congrArg List.length hd
      simp only [List.length_append, List.length_drop] at e
      omega
    have hd1 : b.drop jn = h.new ++ appF a (an + h.old.length) r := by
      have e : b.drop jn = (b.drop j).drop (an - i) := by rw [List.drop_drop, hjn]
      rw [e, hd, List.append_assoc, ← hPl, List.drop_left]
    have hd2 : b.drop (jn + h.new.length) = appF a (an + h.old.length) r := by
      have e : b.drop (jn + h.new.length) = (b.drop jn).drop h.new.length := by rw [List.drop_drop]
      rw [e, hd1, List.drop_left]
    have hat : wrap64 (h.at_ + m) = (jn : Int) := by rw [wrap64_id (by omega) (by omega)]; omega
    have hmm : moreA m h = m + ((h.new.length : Int) - h.old.length) := by rw [moreA, wrap64_id (by omega) (by omega)]
    obtain ⟨ih1, ih2, ih3⟩ := inv_from hb ha (i := an + h.old.length) (j := jn + h.new.length) (m := moreA m h) h8 (by rw [hmm]; omega) (by omega) hd2
    have hI : invF m (h :: r) = ⟨(jn : Int), h.new, h.old⟩ :: invF (moreA m h) r := by rw [invF, invH, hat]
    refine ⟨?_, ?_, ?_⟩
    · rw [hI]
      refine ⟨by simp only; omega, by simp only; omega, by simp only [Int.toNat_natCast]; omega, by simp only; omega, by simp only [Int.toNat_natCast]; omega, ?_, h7, h6, by simp only [Int.toNat_natCast]; exact ih1, ?_⟩
      · simp only [Int.toNat_natCast]
        rw [hd1, List.take_left]
      · intro g2 r2 he
        simp only [Int.toNat_natCast]
        cases r with
        | nil => simp [invF] at he
        | cons h2 r3 =>
          rw [invF] at he
          injection he with he _
          subst he
          have hnx := h9 h2 r3 rfl
          have hr := h8
          obtain ⟨k0, _, _, _, k4, _⟩ := hr
          have e : (invH (moreA m h) h2).at_ = h2.at_ + moreA m h := by
            rw [invH]
            exact wrap64_id (by rw [hmm]; omega) (by rw [hmm]; omega)
          rw [e, hmm]
          omega
    · rw [hI, appF]
      simp only [Int.toNat_natCast]
      rw [ih2, hd, show jn - j = P.length by omega, List.append_assoc P, List.take_left, ← hP]
      have e1 : a.drop an = (a.drop i).drop (an - i) := by rw [List.drop_drop]; congr 1; omega
      have e2 : a.drop (an + h.old.length) = (a.drop an).drop h.old.length := by rw [List.drop_drop]
      have e3 : h.old ++ a.drop (an + h.old.length) = a.drop an := by
        rw [e2]
        calc h.old ++ (a.drop an).drop h.old.length = (a.drop an).take h.old.length ++ (a.drop an).drop h.old.length := by rw [← h5]
          _ = a.drop an := List.take_append_drop _ _
      rw [List.append_assoc, e3, e1, List.take_append_drop]
    · rw [hI, invF]
      have e1 : invH (-m) ⟨(jn : Int), h.new, h.old⟩ = h := by
        have e2 : wrap64 ((jn : Int) + -m) = h.at_ := by rw [wrap64_id (by omega) (by omega)]; omega
        simp only [invH, e2]
      have e3 : moreA (-m) ⟨(jn : Int), h.new, h.old⟩ = -(moreA m h) := by
        rw [hmm, moreA]
        simp only
        rw [wrap64_id (by omega) (by omega)]
        omega
      rw [e1, e3, ih3]
theorem inv_all {a : List ByteArray} {l : List HunkI} (hf : (fitsL a l).2 = 0) (ha : a.length ≤ 2147483647) (hb : (appL a l).length ≤ 2147483647) :
    invE l = 0 ∧ fitsL (appL a l) (invL l) = (0, 0) ∧ appL (appL a l) (invL l) = a ∧ invE (invL l) = 0 ∧ invL (invL l) = l := by
  have hF := fits_all hf
  obtain ⟨h1, h2, h3⟩ := inv_from (b := appL a l) hb ha (j := 0) (m := 0) hF (by simp) (Nat.zero_le _) (by rw [List.drop_zero]; rfl)
  have hc := (fits_back hF).1
  have hc2 := (fits_back h1).1
  refine ⟨?_, (fits_back h1).2, by rw [List.drop_zero] at h2; exact h2, ?_, by rw [Int.neg_zero] at h3; exact h3⟩
  · rw [invE, hc, if_pos rfl]
    exact congrArg Prod.snd hc2
  · have e : invL (invL l) = l := by rw [Int.neg_zero] at h3; exact h3
    rw [invE, e]
    show (if (chkL (invF 0 l)).2 = 0 then _ else _) = _
    rw [hc2, if_pos rfl, hc]
end Go.Proofs.Ytabdgocfbmcobaa
