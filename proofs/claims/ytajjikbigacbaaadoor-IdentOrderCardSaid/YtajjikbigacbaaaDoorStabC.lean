/- Plain laws: what the merge of two sorted stretches leaves. -/
import Derived.Test.YtajjikbigacbaaaDoorStabB
namespace Go.Proofs.YtajjikbigacbaaaDoor
open Go.Sort
section
variable {α : Type} [Inhabited α] {lt : α → α → Bool} {tg : α → Nat}

theorem one_left (hS : SWO lt) {a b i : Nat} {d d1 : Array α} (hsz : b ≤ d.size) (h2 : SortedIn (pB lt tg) (a + 1) b d) (hlo : Lo tg d a (a + 1) b) (hi : a + 1 ≤ i) (hib : i ≤ b) (F1 : a + 1 < i → lt d[i - 1]! d[a]! = true) (F2 : i < b → lt d[i]! d[a]! = false)
    (hd : Went a i (rotI a (a + 1) i) d d1) : SortedIn (pB lt tg) a b d1 := by
  have hP := pB_swo (tg := tg) hS
  have T := turned_of (mid := i - 1) hS hsz (sorted_one (Nat.le_refl _)) h2 hlo (Nat.le_refl a) (Nat.le_succ a) hi hib (by omega) (fun _ h => by
    have e := F1 h
    rw [← pB_lo (lt := lt) (tg := tg) (hlo a (i - 1) (Nat.le_refl _) (by omega) (by omega) (by omega))] at e
    exact hP.asymmA e) (fun h => absurd h (by omega)) hd
  have e1 : d1[i - 1]! = d[a]! := by
    rw [hd.at_ _ (by omega), show rotI a (a + 1) i (i - 1) = a by simp only [rotI]; rw [if_neg (by omega), if_pos (by omega)]; omega]
  have hmid : SortedIn (pB lt tg) (i - 1) b d1 := by
    refine sorted_cross (mid := i) (sorted_one (by omega)) T.s4 fun x y k1 k2 k3 k4 => ?_
    obtain rfl : x = i - 1 := by omega
    rw [e1, hd.perm.2.1 y (by omega)]
    have hf := F2 (by omega)
    rw [← pB_lo (lt := lt) (tg := tg) (hlo a i (Nat.le_refl _) (by omega) (by omega) (by omega))] at hf
    rcases Nat.lt_or_eq_of_le k3 with h | rfl
    · exact hP.ntrans _ _ _ (h2 i y (by omega) h k4) hf
    · exact hf
  exact sorted_cross T.s2 hmid T.x
theorem one_right (hS : SWO lt) {a m i : Nat} {d d1 : Array α} (hsz : m + 1 ≤ d.size) (h1 : SortedIn (pB lt tg) a m d) (hlo : Lo tg d a m (m + 1)) (hi : a ≤ i) (him : i ≤ m) (F1 : a < i → lt d[m]! d[i - 1]! = false) (F2 : i < m → lt d[m]! d[i]! = true)
    (hd : Went i (m + 1) (rotI i m (m + 1)) d d1) : SortedIn (pB lt tg) a (m + 1) d1 := by
  have hP := pB_swo (tg := tg) hS
  have T := turned_of (mid := i + 1) hS hsz h1 (sorted_one (Nat.le_refl _)) hlo hi him (Nat.le_succ m) (Nat.le_refl _) (by omega) (fun h _ => by
    have e := F2 h
    rw [← pB_lo (lt := lt) (tg := tg) (hlo i m (by omega) h (Nat.le_refl _) (Nat.lt_succ_self _))] at e
    exact hP.asymmA e) (fun _ h => absurd h (by omega)) hd
  have e1 : d1[i]! = d[m]! := by
    rw [hd.at_ _ (by omega), show rotI i m (m + 1) i = m by simp only [rotI]; rw [if_pos (by omega)]; omega]
  have hmid : SortedIn (pB lt tg) a (i + 1) d1 := by
    refine sorted_cross (mid := i) T.s1 (sorted_one (Nat.le_refl _)) fun x y k1 k2 k3 k4 => ?_
    obtain rfl : y = i := by omega
    rw [e1, hd.perm.2.1 x (by omega)]
    have hf := F1 (by omega)
    rw [← pB_lo (lt := lt) (tg := tg) (hlo (y - 1) m (by omega) (by omega) (Nat.le_refl _) (Nat.lt_succ_self _))] at hf
    exact hP.ntrans _ _ _ hf (SortedIn.le hP h1 k1 (by omega) (by omega))
  exact sorted_cross hmid T.s3 T.x
/-- one half put in order -/
theorem half_left {a s mid e b : Nat} {d d' : Array α} (T : Turned lt tg a s mid e b d) (hb : b ≤ d.size) (h2 : mid ≤ e) (h3 : e ≤ b) (hp : PermIn a mid d d') : Lo tg d' mid e b ∧ SortedIn (pB lt tg) mid e d' ∧ SortedIn (pB lt tg) e b d' ∧ Cross (pB lt tg) d' a mid b :=
  ⟨lo_same T.l2 (fun t k1 _ => hp.2.1 t (by omega)), sorted_same T.s3 (fun t k1 _ => hp.2.1 t (by omega)), sorted_same T.s4 (fun t k1 _ => hp.2.1 t (by omega)), cross_left T.x hb (by omega) hp⟩
theorem both_halves {P : α → α → Bool} {a mid b : Nat} {d d' : Array α} (hb : b ≤ d.size) (h1 : SortedIn P a mid d) (hx : Cross P d a mid b) (hp : PermIn mid b d d') (h2 : SortedIn P mid b d') : SortedIn P a b d' :=
  sorted_cross (sorted_same h1 (fun t _ k2 => hp.2.1 t (by omega))) h2 (cross_right hx hb hp)
end
end Go.Proofs.YtajjikbigacbaaaDoor
