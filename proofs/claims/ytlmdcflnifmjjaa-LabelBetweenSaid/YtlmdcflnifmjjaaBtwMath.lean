/- Plain arithmetic: all that lies between two sets, rising. -/
import Derived.Test.YtlmdcflnifmjjaaLabMathB
namespace Go.Proofs.Ytlmdcflnifmjjaa

/-- the i-th subset of F, of w bits -/
def spread : Nat → Nat → Nat → Nat
  | 0, _, _ => 0
  | w + 1, F, i => if F % 2 = 1 then 2 * spread w (F / 2) (i / 2) + i % 2 else 2 * spread w (F / 2) i
def ones : Nat → Nat → Nat
  | 0, _ => 0
  | w + 1, F => F % 2 + ones w (F / 2)
theorem and_two (x y b f : Nat) (hb : b < 2) (hf : f < 2) : (2 * x + b) &&& (2 * y + f) = 2 * (x &&& y) + (b &&& f) := by
  have hbf : b &&& f < 2 := Nat.lt_of_le_of_lt Nat.and_le_left hb
  apply Nat.eq_of_testBit_eq
  intro i
  rw [Nat.testBit_and]
  cases i with
  | zero =>
    have e : (b &&& f) % 2 = 1 ↔ b % 2 = 1 ∧ f % 2 = 1 := by
      rcases (show b = 0 ∨ b = 1 by omega) with rfl | rfl <;> rcases (show f = 0 ∨ f = 1 by omega) with rfl | rfl <;> decide
    simp only [Nat.testBit_zero, ← Bool.decide_and, decide_eq_decide]
    have e1 : (2 * x + b) % 2 = b % 2 := by omega
    have e2 : (2 * y + f) % 2 = f % 2 := by omega
    have e3 : (2 * (x &&& y) + (b &&& f)) % 2 = (b &&& f) % 2 := by omega
    rw [e1, e2, e3]
    exact e.symm
  | succ i =>
    rw [Nat.testBit_succ, Nat.testBit_succ, Nat.testBit_succ]
    have e1 : (2 * x + b) / 2 = x := by omega
    have e2 : (2 * y + f) / 2 = y := by omega
    have e3 : (2 * (x &&& y) + (b &&& f)) / 2 = x &&& y := by omega
    rw [e1, e2, e3, Nat.testBit_and]
theorem spread_le : ∀ (w F i : Nat), spread w F i ≤ F
  | 0, F, i => Nat.zero_le _
  | w + 1, F, i => by
    rw [spread]
    split
    · have := spread_le w (F / 2) (i / 2)
      omega
    · have := spread_le w (F / 2) i
      omega
theorem spread_zero : ∀ (w F : Nat), spread w F 0 = 0
  | 0, _ => rfl
  | w + 1, F => by
    rw [spread]
    split
    · rw [Nat.zero_div, spread_zero w]
    · rw [spread_zero w]
theorem spread_fill : ∀ (w F i : Nat), F < 2 ^ w → (spread w F i + (2 ^ w - 1 - F)) &&& F = spread w F i
  | 0, F, i, h => by
    obtain rfl : F = 0 := by simpa using h
    simp [spread]
  | w + 1, F, i, h => by
    have hp := Nat.pow_succ (n := 2) (m := w)
    have hF : F / 2 < 2 ^ w := by omega
    rw [spread]
    split
    · have ih := spread_fill w (F / 2) (i / 2) hF
      have e : 2 * spread w (F / 2) (i / 2) + i % 2 + (2 ^ (w + 1) - 1 - F) = 2 * (spread w (F / 2) (i / 2) + (2 ^ w - 1 - F / 2)) + i % 2 := by omega
      have e2 : F = 2 * (F / 2) + 1 := by omega
      have e3 : (i % 2) &&& 1 = i % 2 := by
        rcases (show i % 2 = 0 ∨ i % 2 = 1 by omega) with h | h <;> rw [h] <;> rfl
      rw [e]
      conv => lhs; rhs; rw [e2]
      rw [and_two _ _ _ _ (by omega) (by omega), ih, e3]
    · have ih := spread_fill w (F / 2) i hF
      have e : 2 * spread w (F / 2) i + (2 ^ (w + 1) - 1 - F) = 2 * (spread w (F / 2) i + (2 ^ w - 1 - F / 2)) + 1 := by omega
      have e2 : F = 2 * (F / 2) + 0 := by omega
      rw [e]
      conv => lhs; rhs; rw [e2]
      rw [and_two _ _ _ _ (by omega) (by omega), ih]
      rfl
/-- the next subset: take F off, and keep what is in F -/
theorem spread_next : ∀ (w F i : Nat), F < 2 ^ w → ((spread w F i + (2 ^ w - F)) % 2 ^ w) &&& F = spread w F (i + 1)
  | 0, F, i, h => by
    obtain rfl : F = 0 := by simpa using h
    simp [spread]
  | w + 1, F, i, h => by
    have hp := Nat.pow_succ (n := 2) (m := w)
    have hF : F / 2 < 2 ^ w := by omega
    have hmod : ∀ z, (2 * z) % 2 ^ (w + 1) = 2 * (z % 2 ^ w) := by
      intro z
      rw [hp, Nat.mul_comm (2 ^ w) 2, Nat.mul_mod_mul_left]
    rw [spread, spread]
    by_cases hf : F % 2 = 1
    · rw [if_pos hf, if_pos hf]
      have e2 : F = 2 * (F / 2) + 1 := by omega
      by_cases hb : i % 2 = 0
      · have hle := spread_le w (F / 2) (i / 2)
        have e : 2 * spread w (F / 2) (i / 2) + i % 2 + (2 ^ (w + 1) - F) = 2 * (spread w (F / 2) (i / 2) + (2 ^ w - 1 - F / 2)) + 1 := by omega
        rw [e, Nat.mod_eq_of_lt (by omega)]
        conv => lhs; rhs; rw [e2]
        rw [and_two _ _ _ _ (by omega) (by omega), spread_fill w _ _ hF]
        have e3 : (i + 1) / 2 = i / 2 := by omega
        have e4 : (i + 1) % 2 = 1 := by omega
        rw [e3, e4]
        rfl
      · have e : 2 * spread w (F / 2) (i / 2) + i % 2 + (2 ^ (w + 1) - F) = 2 * (spread w (F / 2) (i / 2) + (2 ^ w - F / 2)) := by omega
        have ih := spread_next w (F / 2) (i / 2) hF
        rw [e, hmod]
        have e5 : 2 * ((spread w (F / 2) (i / 2) + (2 ^ w - F / 2)) % 2 ^ w) = 2 * ((spread w (F / 2) (i / 2) + (2 ^ w - F / 2)) % 2 ^ w) + 0 := rfl
        rw [e5]
        conv => lhs; rhs; rw [e2]
        rw [and_two _ _ _ _ (by omega) (by omega), ih]
        have e3 : (i + 1) / 2 = i / 2 + 1 := by omega
        have e4 : (i + 1) % 2 = 0 := by omega
        rw [e3, e4]
        rfl
    · rw [if_neg hf, if_neg hf]
      have e2 : F = 2 * (F / 2) + 0 := by omega
      have e : 2 * spread w (F / 2) i + (2 ^ (w + 1) - F) = 2 * (spread w (F / 2) i + (2 ^ w - F / 2)) := by omega
      have ih := spread_next w (F / 2) i hF
      rw [e, hmod]
      have e5 : 2 * ((spread w (F / 2) i + (2 ^ w - F / 2)) % 2 ^ w) = 2 * ((spread w (F / 2) i + (2 ^ w - F / 2)) % 2 ^ w) + 0 := rfl
      rw [e5]
      conv => lhs; rhs; rw [e2]
      rw [and_two _ _ _ _ (by omega) (by omega), ih]
      rfl
theorem spread_lt : ∀ (w F i j : Nat), i < j → j < 2 ^ ones w F → spread w F i < spread w F j
  | 0, F, i, j, h, hj => by simp [ones] at hj; omega
  | w + 1, F, i, j, h, hj => by
    rw [ones] at hj
    rw [spread, spread]
    by_cases hf : F % 2 = 1
    · rw [if_pos hf, if_pos hf]
      rw [hf, Nat.add_comm, Nat.pow_succ] at hj
      by_cases e : i / 2 = j / 2
      · rw [e]; omega
      · have := spread_lt w (F / 2) (i / 2) (j / 2) (by omega) (by omega)
        omega
    · have h0 : F % 2 = 0 := by omega
      rw [if_neg hf, if_neg hf]
      rw [h0, Nat.zero_add] at hj
      have := spread_lt w (F / 2) i j h hj
      omega
theorem spread_last : ∀ (w F : Nat), F < 2 ^ w → spread w F (2 ^ ones w F - 1) = F
  | 0, F, h => by
    obtain rfl : F = 0 := by simpa using h
    rfl
  | w + 1, F, h => by
    have hp := Nat.pow_succ (n := 2) (m := w)
    have ih := spread_last w (F / 2) (by omega)
    have hpos : 0 < 2 ^ ones w (F / 2) := Nat.pow_pos (by decide)
    rw [spread, ones]
    by_cases hf : F % 2 = 1
    · rw [if_pos hf, hf, Nat.add_comm 1 (ones w (F / 2)), Nat.pow_succ]
      have e1 : (2 ^ ones w (F / 2) * 2 - 1) / 2 = 2 ^ ones w (F / 2) - 1 := by omega
      have e2 : (2 ^ ones w (F / 2) * 2 - 1) % 2 = 1 := by omega
      rw [e1, e2, ih]
      omega
    · have h0 : F % 2 = 0 := by omega
      rw [if_neg hf, h0, Nat.zero_add, ih]
      omega
theorem spread_end {F i : Nat} (hF : F < 2 ^ 64) (hi : i < 2 ^ ones 64 F) : spread 64 F i = F ↔ i + 1 = 2 ^ ones 64 F := by
  constructor
  · intro h
    apply Classical.byContradiction
    intro hne
    have := spread_lt 64 F i (2 ^ ones 64 F - 1) (by omega) (by omega)
    rw [spread_last 64 F hF] at this
    omega
  · intro h
    rw [show i = 2 ^ ones 64 F - 1 by omega, spread_last 64 F hF]
theorem listTo_half (F w : Nat) : listTo F (w + 1) = (if F % 2 = 1 then [0] else []) ++ (listTo (F / 2) w).map (· + 1) := by
  rw [listTo, List.range_succ_eq_map, List.filter_cons, List.filter_map]
  have e : ((fun i => F.testBit i) ∘ Nat.succ) = fun i => (F / 2).testBit i := by
    funext i
    exact Nat.testBit_succ F i
  rw [e, Nat.testBit_zero]
  by_cases hf : F % 2 = 1
  · simp [hf, listTo]
  · simp [hf, listTo]
theorem ones_list : ∀ (w F : Nat), ones w F = (listTo F w).length
  | 0, F => rfl
  | w + 1, F => by
    rw [ones, listTo_half, List.length_append, List.length_map, ← ones_list w]
    by_cases hf : F % 2 = 1
    · simp [hf]
    · have h0 : F % 2 = 0 := by omega
      simp [h0]
theorem ones_count (F : Nat) : ones 64 F = countN F := ones_list 64 F
/-- one compartment more doubles what has been told -/
theorem spread_bit : ∀ (w F j k : Nat) (p : Nat), (listTo F w)[j]? = some p → k < 2 ^ j → spread w F (k + 2 ^ j) = spread w F k + 2 ^ p
  | 0, F, j, k, p, h, _ => by simp [listTo] at h
  | w + 1, F, j, k, p, h, hk => by
    rw [listTo_half] at h
    rw [spread, spread]
    by_cases hf : F % 2 = 1
    · rw [if_pos hf, if_pos hf]
      rw [if_pos hf, List.singleton_append] at h
      cases j with
      | zero =>
        simp at h
        obtain rfl : k = 0 := by simpa using hk
        subst h
        simp [spread_zero]
      | succ j =>
        rw [List.getElem?_cons_succ, List.getElem?_map, Option.map_eq_some_iff] at h
        obtain ⟨q, hq, rfl⟩ := h
        have hp := Nat.pow_succ (n := 2) (m := j)
        have ih := spread_bit w (F / 2) j (k / 2) q hq (by omega)
        have e1 : (k + 2 ^ (j + 1)) / 2 = k / 2 + 2 ^ j := by omega
        have e2 : (k + 2 ^ (j + 1)) % 2 = k % 2 := by omega
        rw [e1, e2, ih, Nat.pow_succ]
        omega
    · rw [if_neg hf, if_neg hf]
      rw [if_neg hf, List.nil_append, List.getElem?_map, Option.map_eq_some_iff] at h
      obtain ⟨q, hq, rfl⟩ := h
      have ih := spread_bit w (F / 2) j k q hq hk
      rw [ih, Nat.pow_succ]
      omega
theorem spread_sub (w F i : Nat) : ∀ k, (spread w F i).testBit k = true → F.testBit k = true := by
  induction w generalizing F i with
  | zero => intro k h; simp [spread] at h
  | succ w ih =>
    intro k h
    rw [spread] at h
    cases k with
    | zero =>
      rw [Nat.testBit_zero] at h ⊢
      by_cases hf : F % 2 = 1
      · simp [hf]
      · rw [if_neg hf] at h
        simp at h
    | succ k =>
      rw [Nat.testBit_succ] at h ⊢
      by_cases hf : F % 2 = 1
      · rw [if_pos hf, show (2 * spread w (F / 2) (i / 2) + i % 2) / 2 = spread w (F / 2) (i / 2) by omega] at h
        exact ih _ _ k h
      · rw [if_neg hf, show 2 * spread w (F / 2) i / 2 = spread w (F / 2) i by omega] at h
        exact ih _ _ k h
/-- sets that have nothing in common are joined by adding -/
theorem or_add {a s : Nat} (ha : a < 2 ^ 64) (hs : s < 2 ^ 64) (h : ∀ k, s.testBit k = true → a.testBit k = false) : a ||| s = a + s := by
  have h0 : a &&& s = 0 := by
    apply Nat.eq_of_testBit_eq
    intro k
    rw [Nat.testBit_and, Nat.zero_testBit]
    cases hk : s.testBit k
    · simp
    · rw [h k hk]; rfl
  have h1 : (BitVec.ofNat 65 a).toNat = a := by rw [BitVec.toNat_ofNat]; exact Nat.mod_eq_of_lt (by omega)
  have h2 : (BitVec.ofNat 65 s).toNat = s := by rw [BitVec.toNat_ofNat]; exact Nat.mod_eq_of_lt (by omega)
  have h3 : BitVec.ofNat 65 a &&& BitVec.ofNat 65 s = 0#65 := by
    apply BitVec.eq_of_toNat_eq
    rw [BitVec.toNat_and, h1, h2, h0]
    rfl
  have h4 := congrArg BitVec.toNat (BitVec.add_eq_or_of_and_eq_zero _ _ h3)
  rw [BitVec.toNat_add, BitVec.toNat_or, h1, h2] at h4
  rw [← h4]
  exact Nat.mod_eq_of_lt (by omega)
/-- all labels between, rising -/
def btw (a b : Nat) : List Nat := if lessN a b = 0 then (List.range (2 ^ countN (lessN b a))).map fun i => a + spread 64 (lessN b a) i else []
end Go.Proofs.Ytlmdcflnifmjjaa
