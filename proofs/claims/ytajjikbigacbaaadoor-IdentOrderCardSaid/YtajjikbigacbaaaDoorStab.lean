/- Plain laws: sorting that keeps the order of equals; two sorted stretches made one by turning what lies between. -/
import Derived.Sort.LotA
import Derived.Sort.WalkA
namespace Go.Proofs.YtajjikbigacbaaaDoor
open Go.Sort
section
variable {α : Type} [Inhabited α] {lt : α → α → Bool} {tg : α → Nat}

/-- before: less, or equal and of a lesser tag -/
def pB (lt : α → α → Bool) (tg : α → Nat) (x y : α) : Bool := lt x y || (!lt y x && decide (tg x < tg y))
omit [Inhabited α] in
theorem pB_t {x y : α} : pB lt tg x y = true ↔ lt x y = true ∨ (lt y x = false ∧ tg x < tg y) := by simp [pB]
omit [Inhabited α] in
theorem pB_f {x y : α} : pB lt tg x y = false ↔ lt x y = false ∧ (lt y x = true ∨ tg y ≤ tg x) := by
  cases h1 : lt x y <;> cases h2 : lt y x <;> simp [pB, h1, h2]
omit [Inhabited α] in
theorem pB_lo {x y : α} (h : tg x < tg y) : pB lt tg y x = lt y x := by
  have : decide (tg y < tg x) = false := decide_eq_false (by omega)
  simp [pB, this]
omit [Inhabited α] in
theorem pB_swo (hS : SWO lt) : SWO (pB lt tg) where
  irrefl x := by simp [pB, hS.irrefl]
  trans x y z h1 h2 := by
    rw [pB_t] at h1 h2 ⊢
    rcases h1 with h1 | ⟨h1, t1⟩
    · rcases h2 with h2 | ⟨h2, t2⟩
      · exact .inl (hS.trans _ _ _ h1 h2)
      · left
        cases h : lt x z with
        | true => rfl
        | false => rw [hS.ntrans _ _ _ h h2] at h1; cases h1
    · rcases h2 with h2 | ⟨h2, t2⟩
      · left
        cases h : lt x z with
        | true => rfl
        | false => rw [hS.ntrans _ _ _ h1 h] at h2; cases h2
      · exact .inr ⟨hS.ntrans _ _ _ h2 h1, by omega⟩
  ntrans x y z h1 h2 := by
    rw [pB_f] at h1 h2 ⊢
    obtain ⟨h1, k1⟩ := h1
    obtain ⟨h2, k2⟩ := h2
    refine ⟨hS.ntrans _ _ _ h1 h2, ?_⟩
    cases h : lt z x with
    | true => exact .inl rfl
    | false =>
      right
      rcases k1 with k1 | k1
      · rw [hS.ntrans _ _ _ h2 h] at k1; cases k1
      · rcases k2 with k2 | k2
        · rw [hS.ntrans _ _ _ h h1] at k2; cases k2
        · omega

/-- all tags of the left stretch are lesser than all of the right one -/
def Lo (tg : α → Nat) (d : Array α) (a m b : Nat) : Prop := ∀ s t, a ≤ s → s < m → m ≤ t → t < b → tg d[s]! < tg d[t]!
theorem SortedIn.le {P : α → α → Bool} (hP : SWO P) {a b : Nat} {d : Array α} (h : SortedIn P a b d) {i j : Nat} (h1 : a ≤ i) (h2 : i ≤ j) (h3 : j < b) : P d[j]! d[i]! = false := by
  rcases Nat.lt_or_eq_of_le h2 with h4 | rfl
  · exact h i j h1 h4 h3
  · exact hP.irrefl _

/-! ### a block, put in order by insertion -/
theorem insInner_perm (P : α → α → Bool) (a i : Nat) : ∀ (j : Nat) (d : Array α), j < i → i ≤ d.size → PermIn a i d (insInner P a j d)
  | 0, d, _, _ => permIn_refl _ _ _
  | j + 1, d, hj, hi => by
    by_cases h : a < j + 1 ∧ P d[j + 1]! d[j]! = true
    · have e := insInner_go P a (j + 1) d h.1 (by simpa using h.2)
      simp only [Nat.add_sub_cancel] at e
      rw [e]
      exact permIn_trans _ _ _ _ _ (swp_permIn d a i (j + 1) j (by omega) (by omega) (by omega) (by omega) hi) (insInner_perm P a i j _ (by omega) (by rw [size_swp]; exact hi))
    · rw [insInner_stop]
      · exact permIn_refl _ _ _
      · rcases Nat.lt_or_ge a (j + 1) with h1 | h1
        · right
          cases h2 : P d[j + 1]! d[j + 1 - 1]! with
          | false => rfl
          | true => exact absurd ⟨h1, h2⟩ h
        · exact .inl h1
theorem insInner_pB (a : Nat) : ∀ (j : Nat) (d : Array α), j < d.size → (∀ s, a ≤ s → s < j → tg d[s]! < tg d[j]!) → insInner lt a j d = insInner (pB lt tg) a j d
  | 0, _, _, _ => rfl
  | j + 1, d, hj, h => by
    by_cases h1 : a < j + 1
    · have e := pB_lo (lt := lt) (h j (by omega) (by omega))
      cases h2 : lt d[j + 1]! d[j]! with
      | true =>
        have e1 := insInner_go lt a (j + 1) d h1 (by simpa using h2)
        have e2 := insInner_go (pB lt tg) a (j + 1) d h1 (by simpa [e] using h2)
        simp only [Nat.add_sub_cancel] at e1 e2
        rw [e1, e2]
        refine insInner_pB a j _ (by rw [size_swp]; omega) fun s h3 h4 => ?_
        rw [swp_get d (by omega) (by omega), swp_get d (by omega) (by omega), if_neg (by omega), if_neg (by omega), if_pos rfl]
        exact h s h3 (by omega)
      | false =>
        rw [insInner_stop lt a (j + 1) d (.inr (by simpa using h2)), insInner_stop (pB lt tg) a (j + 1) d (.inr (by simpa [e] using h2))]
    · rw [insInner_stop lt a (j + 1) d (.inl (by omega)), insInner_stop (pB lt tg) a (j + 1) d (.inl (by omega))]
theorem insOuter_pB (a b : Nat) : ∀ (n i : Nat) (d : Array α), b - i = n → b ≤ d.size → (∀ s t, a ≤ s → s < t → i ≤ t → t < b → tg d[s]! < tg d[t]!) → insOuter lt a b i d = insOuter (pB lt tg) a b i d
  | 0, i, d, h, _, _ => by rw [insOuter_stop _ _ _ _ _ (by omega), insOuter_stop _ _ _ _ _ (by omega)]
  | n + 1, i, d, h, hb, ht => by
    have hp := insInner_perm (pB lt tg) a (i + 1) i d (by omega) (by omega)
    rw [insOuter_go lt a b i d (by omega), insOuter_go (pB lt tg) a b i d (by omega), insInner_pB a i d (by omega) (fun s h1 h2 => ht s i h1 h2 (Nat.le_refl _) (by omega))]
    refine insOuter_pB a b n (i + 1) _ (by omega) (by rw [hp.1]; exact hb) fun s t h1 h2 h3 h4 => ?_
    rw [hp.2.1 t (by omega)]
    by_cases hs : i + 1 ≤ s
    · rw [hp.2.1 s (by omega)]; exact ht s t h1 h2 (by omega) h4
    · exact permIn_all _ _ a (i + 1) (fun x => tg x < tg d[t]!) (by omega) hp (fun k k1 k2 => ht k t k1 (by omega) (by omega) h4) s h1 (by omega)
theorem block_sorted (hS : SWO lt) (d : Array α) (a b : Nat) (hab : a ≤ b) (hb : b ≤ d.size) (ht : ∀ s t, a ≤ s → s < t → t < b → tg d[s]! < tg d[t]!) :
    PermIn a b d (insertionSort lt d a b) ∧ SortedIn (pB lt tg) a b (insertionSort lt d a b) := by
  have e : insertionSort lt d a b = insertionSort (pB lt tg) d a b := insOuter_pB a b _ (a + 1) d rfl hb fun s t h1 h2 _ h4 => ht s t h1 h2 h4
  rw [e]
  exact insertionSort_holds (pB_swo hS) d a b hab hb

/-! ### turning -/
/-- where what stands at t stood ahead of turning [s, m) and [m, e) about -/
def rotI (s m e t : Nat) : Nat := if s ≤ t ∧ t < s + (e - m) then t - s + m else if s + (e - m) ≤ t ∧ t < e then t - (s + (e - m)) + s else t
/-- .. ahead of exchanging the n places from a and from b -/
def swrI (a b n t : Nat) : Nat := if a ≤ t ∧ t < a + n then t - a + b else if b ≤ t ∧ t < b + n then t - b + a else t
theorem rot_left (s m e j t : Nat) (h1 : s + j < m) (h2 : e = m + j) : rotI s m e t = swrI s m j (rotI (s + j) m e t) := by
  simp only [rotI, swrI]; repeat' split
  all_goals omega
theorem rot_right (s m e i t : Nat) (h1 : m = s + i) (h2 : m + i < e) : rotI s m e t = swrI s (e - i) i (rotI s m (e - i) t) := by
  simp only [rotI, swrI]; repeat' split
  all_goals omega
theorem rot_same (s m e i t : Nat) (h1 : m = s + i) (h2 : e = m + i) : rotI s m e t = swrI s m i t := by
  simp only [rotI, swrI]; repeat' split
  all_goals omega
theorem rot_up (a k t : Nat) (h : a ≤ k) : rotI a (a + 1) (k + 2) t = rotI a (a + 1) (k + 1) (if t = k + 1 then k else if t = k then k + 1 else t) := by
  simp only [rotI]; repeat' split
  all_goals omega
theorem rot_down (k m t : Nat) (h : k + 1 ≤ m) : rotI k m (m + 1) t = rotI (k + 1) m (m + 1) (if t = k then k + 1 else if t = k + 1 then k else t) := by
  simp only [rotI]; repeat' split
  all_goals omega
theorem swr_next (a b n t : Nat) (h : a + n < b) : swrI a b (n + 1) t = swrI a b n (if t = b + n then a + n else if t = a + n then b + n else t) := by
  simp only [swrI]; repeat' split
  all_goals omega
theorem rot_none (s m t : Nat) : rotI s m m t = t := by simp only [rotI]; repeat' split
                                                        all_goals omega
theorem rot_zero (m e t : Nat) : rotI m m e t = t := by simp only [rotI]; repeat' split
                                                        all_goals omega
theorem rot_lt {s m e t n : Nat} (h2 : m ≤ e) (h3 : e ≤ n) (h : t < n) : rotI s m e t < n := by
  simp only [rotI]; repeat' split
  all_goals omega
theorem swr_lt {a b k t n : Nat} (h2 : a + k ≤ b) (h3 : b + k ≤ n) (h : t < n) : swrI a b k t < n := by
  simp only [swrI]; repeat' split
  all_goals omega

/-- d' is d with the places of [lo, hi) gone elsewhere: what stands at t stood at g t -/
structure Went (lo hi : Nat) (g : Nat → Nat) (d d' : Array α) : Prop where
  perm : PermIn lo hi d d'
  at_ : ∀ t, t < d.size → d'[t]! = d[g t]!
theorem Went.refl (lo hi : Nat) (d : Array α) : Went lo hi (fun t => t) d d := ⟨permIn_refl _ _ _, fun _ _ => rfl⟩
theorem Went.cong {lo hi : Nat} {g g' : Nat → Nat} {d d' : Array α} (h : Went lo hi g d d') (e : ∀ t, t < d.size → g t = g' t) : Went lo hi g' d d' :=
  ⟨h.perm, fun t ht => by rw [← e t ht]; exact h.at_ t ht⟩
theorem Went.trans {lo hi : Nat} {g g' : Nat → Nat} {d d' d2 : Array α} (h : Went lo hi g d d') (h2 : Went lo hi g' d' d2) (hg : ∀ t, t < d.size → g' t < d.size) : Went lo hi (fun t => g (g' t)) d d2 :=
  ⟨permIn_trans _ _ _ _ _ h.perm h2.perm, fun t ht => by rw [h2.at_ t (by rw [h.perm.1]; exact ht), h.at_ _ (hg t ht)]⟩
theorem Went.swp {lo hi : Nat} {g : Nat → Nat} {d d' : Array α} (h : Went lo hi g d d') (i j : Nat) (hi1 : lo ≤ i) (hi2 : i < hi) (hj1 : lo ≤ j) (hj2 : j < hi) (hh : hi ≤ d.size) :
    Went lo hi (fun t => g (if t = j then i else if t = i then j else t)) d (swp d' i j) := by
  have hs := h.perm.1
  refine ⟨permIn_trans _ _ _ _ _ h.perm (swp_permIn d' lo hi i j hi1 hi2 hj1 hj2 (by omega)), fun t ht => ?_⟩
  rw [swp_get d' (by omega) (by omega)]
  split
  · rw [h.at_ i (by omega)]
  · split
    · rw [h.at_ j (by omega)]
    · rw [h.at_ t ht]
theorem Went.mono {lo hi lo' hi' : Nat} {g : Nat → Nat} {d d' : Array α} (h : Went lo hi g d d') (h1 : lo' ≤ lo) (h2 : hi ≤ hi') (h3 : hi' ≤ d.size) : Went lo' hi' g d d' :=
  ⟨permIn_mono d d' lo hi lo' hi' h1 h2 h3 h.perm, h.at_⟩

/-! ### two sorted stretches -/
/-- what stands ahead of mid is not behind what stands from mid on -/
def Cross (P : α → α → Bool) (d : Array α) (a mid b : Nat) : Prop := ∀ x y, a ≤ x → x < mid → mid ≤ y → y < b → P d[y]! d[x]! = false
structure Turned (lt : α → α → Bool) (tg : α → Nat) (a s mid e b : Nat) (d : Array α) : Prop where
  s1 : SortedIn (pB lt tg) a s d
  s2 : SortedIn (pB lt tg) s mid d
  s3 : SortedIn (pB lt tg) mid e d
  s4 : SortedIn (pB lt tg) e b d
  l1 : Lo tg d a s mid
  l2 : Lo tg d mid e b
  x : Cross (pB lt tg) d a mid b
theorem turned_of (hS : SWO lt) {d d1 : Array α} {a m b s e mid lo hi : Nat} (hsz : b ≤ d.size) (h1 : SortedIn (pB lt tg) a m d) (h2 : SortedIn (pB lt tg) m b d) (hlo : Lo tg d a m b)
    (has : a ≤ s) (hsm : s ≤ m) (hme : m ≤ e) (heb : e ≤ b) (hmid : mid = s + (e - m)) (hrl : s < m → m < e → pB lt tg d[s]! d[e - 1]! = false) (hlr : a < s → e < b → pB lt tg d[e]! d[s - 1]! = false)
    (hd : Went lo hi (rotI s m e) d d1) : Turned lt tg a s mid e b d1 := by
  have hP := pB_swo (tg := tg) hS
  have g1 : ∀ t, t < s → d1[t]! = d[t]! := fun t ht => by
    rw [hd.at_ t (by omega), show rotI s m e t = t by simp only [rotI]; rw [if_neg (by omega), if_neg (by omega)]]
  have g2 : ∀ t, s ≤ t → t < mid → d1[t]! = d[t - s + m]! := fun t k1 k2 => by
    rw [hd.at_ t (by omega), show rotI s m e t = t - s + m by simp only [rotI]; rw [if_pos (by omega)]]
  have g3 : ∀ t, mid ≤ t → t < e → d1[t]! = d[t - mid + s]! := fun t k1 k2 => by
    rw [hd.at_ t (by omega), show rotI s m e t = t - mid + s by simp only [rotI]; rw [if_neg (by omega), if_pos (by omega)]; omega]
  have g4 : ∀ t, e ≤ t → t < b → d1[t]! = d[t]! := fun t k1 k2 => by
    rw [hd.at_ t (by omega), show rotI s m e t = t by simp only [rotI]; rw [if_neg (by omega), if_neg (by omega)]]
  refine ⟨fun i j k1 k2 k3 => ?_, fun i j k1 k2 k3 => ?_, fun i j k1 k2 k3 => ?_, fun i j k1 k2 k3 => ?_, fun i j k1 k2 k3 k4 => ?_, fun i j k1 k2 k3 k4 => ?_, fun x y k1 k2 k3 k4 => ?_⟩
  · rw [g1 i (by omega), g1 j (by omega)]; exact h1 i j k1 k2 (by omega)
  · rw [g2 i (by omega) (by omega), g2 j (by omega) (by omega)]; exact h2 _ _ (by omega) (by omega) (by omega)
  · rw [g3 i (by omega) (by omega), g3 j (by omega) (by omega)]; exact h1 _ _ (by omega) (by omega) (by omega)
  · rw [g4 i (by omega) (by omega), g4 j (by omega) (by omega)]; exact h2 _ _ (by omega) (by omega) (by omega)
  · rw [g1 i (by omega), g2 j (by omega) (by omega)]; exact hlo _ _ (by omega) (by omega) (by omega) (by omega)
  · rw [g3 i (by omega) (by omega), g4 j (by omega) (by omega)]; exact hlo _ _ (by omega) (by omega) (by omega) (by omega)
  · by_cases kx : x < s
    · rw [g1 x kx]
      by_cases ky : y < e
      · rw [g3 y k3 ky]; exact h1 _ _ k1 (by omega) (by omega)
      · rw [g4 y (by omega) k4]
        exact hP.ntrans _ _ _ (SortedIn.le hP h2 hme (by omega) k4) (hP.ntrans _ _ _ (hlr (by omega) (by omega)) (SortedIn.le hP h1 k1 (by omega) (by omega)))
    · rw [g2 x (by omega) k2]
      by_cases ky : y < e
      · rw [g3 y k3 ky]
        exact hP.ntrans _ _ _ (SortedIn.le hP h1 has (by omega) (by omega)) (hP.ntrans _ _ _ (hrl (by omega) (by omega)) (SortedIn.le hP h2 (by omega) (by omega) (by omega)))
      · rw [g4 y (by omega) k4]; exact h2 _ _ (by omega) (by omega) k4
theorem sorted_cross {P : α → α → Bool} {a mid b : Nat} {d : Array α} (h1 : SortedIn P a mid d) (h2 : SortedIn P mid b d) (hx : Cross P d a mid b) : SortedIn P a b d := by
  intro i j k1 k2 k3
  by_cases hj : j < mid
  · exact h1 i j k1 k2 hj
  · by_cases hi : i < mid
    · exact hx i j k1 hi (by omega) k3
    · exact h2 i j (by omega) k2 k3
theorem cross_left {P : α → α → Bool} {a mid b : Nat} {d d' : Array α} (hx : Cross P d a mid b) (hb : b ≤ d.size) (hmb : mid ≤ b) (h : PermIn a mid d d') : Cross P d' a mid b := by
  intro x y k1 k2 k3 k4
  rw [h.2.1 y (by omega)]
  exact permIn_all d d' a mid (fun z => P d[y]! z = false) (by omega) h (fun i i1 i2 => hx i y i1 i2 k3 k4) x k1 k2
theorem cross_right {P : α → α → Bool} {a mid b : Nat} {d d' : Array α} (hx : Cross P d a mid b) (hb : b ≤ d.size) (h : PermIn mid b d d') : Cross P d' a mid b := by
  intro x y k1 k2 k3 k4
  rw [h.2.1 x (by omega)]
  exact permIn_all d d' mid b (fun z => P z d[x]! = false) hb h (fun i i1 i2 => hx x i k1 k2 i1 i2) y k3 k4
theorem sorted_same {P : α → α → Bool} {a b : Nat} {d d' : Array α} (h : SortedIn P a b d) (e : ∀ t, a ≤ t → t < b → d'[t]! = d[t]!) : SortedIn P a b d' := by
  intro i j k1 k2 k3
  rw [e i (by omega) (by omega), e j (by omega) k3]
  exact h i j k1 k2 k3
theorem lo_same {a m b : Nat} {d d' : Array α} (h : Lo tg d a m b) (e : ∀ t, a ≤ t → t < b → d'[t]! = d[t]!)  : Lo tg d' a m b := by
  intro s t k1 k2 k3 k4
  rw [e s k1 (by omega), e t (by omega) k4]
  exact h s t k1 k2 k3 k4
theorem sorted_one {P : α → α → Bool} {a b : Nat} {d : Array α} (h : b ≤ a + 1) : SortedIn P a b d := fun i j _ _ _ => by omega
end
end Go.Proofs.YtajjikbigacbaaaDoor
