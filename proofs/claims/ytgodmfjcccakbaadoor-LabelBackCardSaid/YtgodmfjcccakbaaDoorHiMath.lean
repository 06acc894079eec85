/- Plain arithmetic: the highest of some labels. -/
import Derived.Test.YtgodmfjcccakbaaDoorLabMath
namespace Go.Proofs.YtgodmfjcccakbaaDoor

def isHi (f : Nat → Nat) (n i : Nat) : Bool := (List.range n).all fun k => !((f k != f i && belowN (f i) (f k)) || (decide (k < i) && f k == f i))
def hiTo (f : Nat → Nat) (n m : Nat) : List Nat := ((List.range m).filter (isHi f n)).map f
/-- what the program does with one label more -/
def hiStep (hs : List Nat) (a : Nat) : List Nat := if hs.any (fun h => belowN a h) then hs else hs.filter (fun h => !belowN h a) ++ [a]
def hiProg (f : Nat → Nat) : Nat → List Nat
  | 0 => []
  | n + 1 => hiStep (hiProg f n) (f n)

theorem isHi_succ (f : Nat → Nat) (n i : Nat) (h : i < n) : isHi f (n + 1) i = (isHi f n i && !(f n != f i && belowN (f i) (f n))) := by
  rw [isHi, List.range_succ, List.all_append, ← isHi]
  congr 1
  simp [show ¬ n < i by omega]
theorem isHi_last (f : Nat → Nat) (n : Nat) : isHi f (n + 1) n = (List.range n).all fun k => !belowN (f n) (f k) := by
  rw [isHi, List.range_succ, List.all_append]
  have e : ([n].all fun k => !((f k != f n && belowN (f n) (f k)) || (decide (k < n) && f k == f n))) = true := by simp
  rw [e, Bool.and_true]
  rw [Bool.eq_iff_iff, List.all_eq_true, List.all_eq_true]
  constructor
  · intro h k hk
    have h1 := h k hk
    rw [List.mem_range] at hk
    by_cases e : f k = f n
    · simp [e, hk] at h1
    · simpa [e] using h1
  · intro h k hk
    have h1 := h k hk
    rw [List.mem_range] at hk
    by_cases e : f k = f n
    · rw [e, below_self] at h1
      cases h1
    · simpa [e] using h1
theorem hiTo_mem {f : Nat → Nat} {n m x : Nat} : x ∈ hiTo f n m ↔ ∃ i, i < m ∧ isHi f n i = true ∧ f i = x := by
  simp [hiTo, and_assoc]
theorem isHi_top {f : Nat → Nat} {n i k : Nat} (h : isHi f n i = true) (hk : k < n) (hb : belowN (f i) (f k) = true) : f k = f i := by
  rw [isHi, List.all_eq_true] at h
  have := h k (List.mem_range.2 hk)
  rw [hb] at this
  simp at this
  exact this.1
theorem hi_cover {f : Nat → Nat} {n : Nat} (hs : List Nat) (h : ∀ k, k < n → ∃ x ∈ hs, belowN (f k) x = true) : ∀ k, k < n + 1 → ∃ x ∈ hiStep hs (f n), belowN (f k) x = true := by
  intro k hk
  rw [hiStep]
  by_cases ha : hs.any (fun h => belowN (f n) h) = true
  · rw [if_pos ha]
    by_cases e : k = n
    · subst e
      obtain ⟨x, hx, hb⟩ := List.any_eq_true.1 ha
      exact ⟨x, hx, hb⟩
    · exact h k (by omega)
  · rw [if_neg ha]
    by_cases e : k = n
    · subst e
      exact ⟨f k, by simp, below_self _⟩
    · obtain ⟨x, hx, hb⟩ := h k (by omega)
      by_cases hxn : belowN x (f n) = true
      · exact ⟨f n, by simp, below_trans hb hxn⟩
      · exact ⟨x, by simp [hx, hxn], hb⟩
theorem hi_any_cover {f : Nat → Nat} {n : Nat} : (∀ k, k < n → ∃ x ∈ hiProg f n, belowN (f k) x = true) := by
  induction n with
  | zero => intro k hk; omega
  | succ n ih => exact hi_cover _ ih
theorem hi_same (f : Nat → Nat) : ∀ n, hiProg f n = hiTo f n n := by
  intro n
  induction n with
  | zero => simp [hiProg, hiTo]
  | succ n ih =>
    rw [hiProg, hiStep]
    have hl : hiTo f (n + 1) (n + 1) = ((List.range n).filter (isHi f (n + 1))).map f ++ (if isHi f (n + 1) n then [f n] else []) := by
      rw [hiTo, List.range_succ, List.filter_append, List.map_append]
      congr 1
      cases h : isHi f (n + 1) n <;> simp [h]
    rw [hl, isHi_last]
    by_cases ha : (hiProg f n).any (fun h => belowN (f n) h) = true
    · rw [if_pos ha]
      obtain ⟨x, hx, hb⟩ := List.any_eq_true.1 ha
      rw [ih] at hx
      obtain ⟨i, hi, hh, rfl⟩ := hiTo_mem.1 hx
      have e1 : ((List.range n).all fun k => !belowN (f n) (f k)) = false := by
        rw [Bool.eq_false_iff]
        intro hc
        rw [List.all_eq_true] at hc
        have := hc i (List.mem_range.2 hi)
        rw [hb] at this
        cases this
      rw [e1, ih, hiTo]
      simp only [Bool.false_eq_true, if_false, List.append_nil]
      congr 1
      apply List.filter_congr
      intro j hj
      rw [List.mem_range] at hj
      rw [isHi_succ f n j hj]
      cases hh2 : isHi f n j
      · rfl
      · have : (f n != f j && belowN (f j) (f n)) = false := by
          rw [Bool.and_eq_false_iff]
          by_cases e : f n = f j
          · left; simp [e]
          · right
            rw [Bool.eq_false_iff]
            intro hc
            have e2 := isHi_top hh2 hi (below_trans hc hb)
            rw [e2] at hb
            exact e (below_anti hb hc)
        rw [this]; rfl
    · rw [if_neg ha]
      have hno : ∀ x ∈ hiProg f n, belowN (f n) x = false := by
        intro x hx
        rw [Bool.eq_false_iff]
        intro hc
        exact ha (List.any_eq_true.2 ⟨x, hx, hc⟩)
      have e1 : ((List.range n).all fun k => !belowN (f n) (f k)) = true := by
        rw [List.all_eq_true]
        intro k hk
        rw [List.mem_range] at hk
        cases hb : belowN (f n) (f k)
        · rfl
        · obtain ⟨x, hx, hb2⟩ := hi_any_cover (f := f) k hk
          have := below_trans hb hb2
          rw [hno x hx] at this
          cases this
      rw [e1]
      simp only [if_true]
      congr 1
      rw [ih, hiTo, List.filter_map, List.filter_filter]
      congr 1
      apply List.filter_congr
      intro j hj
      rw [List.mem_range] at hj
      rw [isHi_succ f n j hj]
      cases hh2 : isHi f n j
      · simp
      · have hj2 : f j ∈ hiProg f n := by rw [ih]; exact hiTo_mem.2 ⟨j, hj, hh2, rfl⟩
        have hb := hno _ hj2
        have hne : f n ≠ f j := by
          intro e
          rw [e, below_self] at hb
          cases hb
        simp [hne]
/-- none of them is below another one -/
theorem hi_pair (f : Nat → Nat) : ∀ n, (hiProg f n).Pairwise (fun x y => belowN x y = false ∧ belowN y x = false) := by
  intro n
  induction n with
  | zero => exact List.Pairwise.nil
  | succ n ih =>
    rw [hiProg, hiStep]
    by_cases ha : (hiProg f n).any (fun h => belowN (f n) h) = true
    · rw [if_pos ha]; exact ih
    · rw [if_neg ha, List.pairwise_append]
      refine ⟨ih.filter _, List.pairwise_singleton _ _, ?_⟩
      intro x hx y hy
      rw [List.mem_singleton] at hy
      subst hy
      rw [List.mem_filter] at hx
      refine ⟨by simpa using hx.2, ?_⟩
      rw [Bool.eq_false_iff]
      intro hc
      exact ha (List.any_eq_true.2 ⟨x, hx.1, hc⟩)
theorem hiStep_len (hs : List Nat) (a : Nat) : (hiStep hs a).length ≤ hs.length + 1 := by
  rw [hiStep]
  split
  · omega
  · rw [List.length_append, List.length_singleton]
    have := List.length_filter_le (fun h => !belowN h a) hs
    omega
theorem hiProg_len (f : Nat → Nat) (n : Nat) : (hiProg f n).length ≤ n := by
  induction n with
  | zero => simp [hiProg]
  | succ n ih =>
    rw [hiProg]
    have := hiStep_len (hiProg f n) (f n)
    omega
theorem hiProg_mem (f : Nat → Nat) (n x : Nat) (h : x ∈ hiProg f n) : ∃ i, i < n ∧ f i = x := by
  rw [hi_same] at h
  obtain ⟨i, hi, _, e⟩ := hiTo_mem.1 h
  exact ⟨i, hi, e⟩
end Go.Proofs.YtgodmfjcccakbaaDoor
