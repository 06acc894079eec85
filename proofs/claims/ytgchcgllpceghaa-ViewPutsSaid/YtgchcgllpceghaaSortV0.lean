/- Plain laws: one round of the sort of labels, with names for what it comes to. -/
import Derived.Test.YtgchcgllpceghaaSortU9
import Derived.Sort.Walk13a
import Derived.Sort.AssemblyPlain
namespace Go.Proofs.Ytgchcgllpceghaa
open Go.RowKit Go.Shelf Go.Sort

/-- a round over the cells from a to b of c comes to R; what is left to do makes T of it -/
structure RoundU (c : Array Int) (a b l : Nat) (wb wp : Bool) (R : Rd Int) (T : Array Int) : Prop where
  size1 : R.d1.size = c.size
  pick : a ≤ R.c.1 ∧ R.c.1 < b
  size2 : R.d2.size = c.size
  pivot : a ≤ R.pivot ∧ R.pivot < b
  size3 : R.pi.1.size = c.size
  low : Sort.Below ltInt a b R.pi.1
  lim : R.lim ≤ l
  shuffled : wb = false → R.d1 = breakPatterns c a b ∧ R.lim = l - 1
  kept : wb = true → R.d1 = c ∧ R.lim = l
  chosen : R.c = choosePivot ltInt R.d1 a b
  turned : R.c.2 = .decreasing → R.d2 = reverseRange R.d1 a b ∧ R.pivot = (b - 1) - (R.c.1 - a) ∧ R.hint = .increasing
  stays : R.c.2 ≠ .decreasing → R.d2 = R.d1 ∧ R.pivot = R.c.1 ∧ R.hint = R.c.2
  tried : (wb && wp && decide (R.hint = .increasing)) = true → R.pi = partialInsertionSort ltInt R.d2 a b
  untried : (wb && wp && decide (R.hint = .increasing)) = false → R.pi = (R.d2, false)
  done : R.pi.2 = true → R.pi.1 = T
  equal : R.pi.2 = false → (decide (a > 0) && !ltInt R.pi.1[a - 1]! R.pi.1[R.pivot]!) = true → ∀ m e, partitionEqual ltInt R.pi.1 a b R.pivot = (m, e) →
    a < m ∧ m ≤ b ∧ e.size = R.pi.1.size ∧ Sort.Below ltInt m b e ∧ pdq ltInt e m b R.lim wb wp = T
  parted : R.pi.2 = false → (decide (a > 0) && !ltInt R.pi.1[a - 1]! R.pi.1[R.pivot]!) = false → ∀ m y e, partition ltInt R.pi.1 a b R.pivot = (m, y, e) →
    a ≤ m ∧ m < b ∧ e.size = R.pi.1.size ∧ Sort.Below ltInt a m e ∧ Sort.Below ltInt (m + 1) b e ∧
    (m - a < b - m → (pdq ltInt e a m R.lim true true).size = e.size ∧ Sort.Below ltInt (m + 1) b (pdq ltInt e a m R.lim true true) ∧
      pdq ltInt (pdq ltInt e a m R.lim true true) (m + 1) b R.lim (decide (m - a ≥ (b - a) / 8)) y = T) ∧
    (¬ m - a < b - m → (pdq ltInt e (m + 1) b R.lim true true).size = e.size ∧ Sort.Below ltInt a m (pdq ltInt e (m + 1) b R.lim true true) ∧
      pdq ltInt (pdq ltInt e (m + 1) b R.lim true true) a m R.lim (decide (b - m ≥ (b - a) / 8)) y = T)
theorem roundU {c : Array Int} {a b l : Nat} {wb wp : Bool} {T : Array Int} (h12 : ¬ b - a ≤ 12) (h0 : ¬ l = 0) (hb : b ≤ c.size) (hB : Sort.Below ltInt a b c) (hT : pdq ltInt c a b l wb wp = T) : ∃ R, RoundU c a b l wb wp R T := by
  obtain ⟨s1, B1, hc, s2, B2, hp, s3, B3⟩ := rd_facts (limit := l) (wb := wb) (wp := wp) swo_ltInt partialInsertionSort_holds reverseRange_holds (show a < b by omega) hb hB
  have hpl := s3 ▸ hb
  refine ⟨rd ltInt c a b l wb wp, { size1 := s1, pick := hc, size2 := s2, pivot := hp, size3 := s3, low := B3, lim := rd_lim_le, chosen := rfl, shuffled := ?_, kept := ?_, turned := rd_dec, stays := rd_not, tried := rd_pi_yes, untried := rd_pi_no, done := ?_, equal := ?_, parted := ?_ }⟩
  · rintro rfl; exact rd_false
  · rintro rfl; exact rd_true
  · intro h; rw [← hT, pdq_done h12 h0 h]
  · intro h h2 m e hx
    have h2' := h2
    simp only [Bool.and_eq_true, decide_eq_true_eq, Bool.not_eq_true'] at h2'
    obtain ⟨r1, r2, r3, r4, _⟩ := round_eq swo_ltInt (partitionEqual_holds _) h2'.1 hp.1 hp.2 hpl B3 h2'.2 hx
    refine ⟨r1, r2, r3, r4, ?_⟩
    rw [← hT, pdq_eq h12 h0 h h2 (by rw [hx]; exact ⟨r1, r2⟩), hx]
  · intro h h2 m y e hx
    obtain ⟨r1, r2, r3, r4, r5, r6, r7⟩ := round_part swo_ltInt (partition_holds _) hp.1 hp.2 hpl B3 hx
    refine ⟨r1, r2, r3, r4, r5, fun h4 => ?_, fun h4 => ?_⟩
    · obtain ⟨p, q⟩ := pdq_sorts ltInt swo_ltInt e a m (rd ltInt c a b l wb wp).lim true true (by omega) (by rw [r3]; omega) r4
      exact ⟨p.1, (r6 _ p q).1, by rw [← hT, pdq_left h12 h0 h h2 (by rw [hx]; exact ⟨r1, r2⟩) (by rw [hx]; exact h4), hx]⟩
    · obtain ⟨p, q⟩ := pdq_sorts ltInt swo_ltInt e (m + 1) b (rd ltInt c a b l wb wp).lim true true (by omega) (by rw [r3]; omega) r5
      exact ⟨p.1, (r7 _ p q).1, by rw [← hT, pdq_right h12 h0 h h2 (by rw [hx]; exact ⟨r1, r2⟩) (by rw [hx]; exact h4), hx]⟩
theorem code_dec {h : Hint} : hintCode h = 2 → h = .decreasing := by cases h <;> simp [hintCode]
theorem eighthU {x y p q : Nat} (h1 : q ≤ p) (h2 : y ≤ x) : Value.bool (decide (((x : Int) - (y : Int)) / 8 ≤ (p : Int) - (q : Int))) = .bool (decide (p - q ≥ (x - y) / 8)) :=
  congrArg Value.bool (decide_eq_decide.2 ⟨fun h => by omega, fun h => by omega⟩)
end Go.Proofs.Ytgchcgllpceghaa
