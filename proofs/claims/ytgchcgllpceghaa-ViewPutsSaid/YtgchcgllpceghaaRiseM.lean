/- Own work: labels sorted, each once: plain laws, and rows of them. -/
import Derived.Test.YtgchcgllpceghaaSortV1
import Derived.Test.YtgchcgllpceghaaSortNil
import Derived.Lib.SlicesCompact
import Derived.Lib.SmallJoins
namespace Go.Proofs.Ytgchcgllpceghaa
open Go.RowKit Go.Shelf Go.Sort Go.Lib

/-- out has just the members of l, rising -/
def Rises (l out : List Int) : Prop := out.Pairwise (· < ·) ∧ ∀ x, x ∈ out ↔ x ∈ l
theorem rise_sameI : ∀ (xs ys : List Int), xs.Pairwise (· < ·) → ys.Pairwise (· < ·) → (∀ i, i ∈ xs ↔ i ∈ ys) → xs = ys
  | [], [], _, _, _ => rfl
  | [], y :: ys, _, _, h => by have := (h y).2 (by simp); simp at this
  | x :: xs, [], _, _, h => by have := (h x).1 (by simp); simp at this
  | x :: xs, y :: ys, hx, hy, h => by
    rw [List.pairwise_cons] at hx hy
    have e : x = y := by
      have h1 := (h x).1 (by simp)
      have h2 := (h y).2 (by simp)
      rw [List.mem_cons] at h1 h2
      rcases h1 with h1 | h1
      · exact h1
      · rcases h2 with h2 | h2
        · exact h2.symm
        · have a := hy.1 x h1
          have b := hx.1 y h2
          omega
    subst e
    rw [rise_sameI xs ys hx.2 hy.2 fun i => ?_]
    constructor
    · intro hi
      have h1 := (h i).1 (by simp [hi])
      have h2 := hx.1 i hi
      rw [List.mem_cons] at h1
      rcases h1 with h1 | h1
      · omega
      · exact h1
    · intro hi
      have h1 := (h i).2 (by simp [hi])
      have h2 := hy.1 i hi
      rw [List.mem_cons] at h1
      rcases h1 with h1 | h1
      · omega
      · exact h1
theorem Rises.one {l a b : List Int} (h : Rises l a) (k : Rises l b) : a = b := rise_sameI a b h.1 k.1 fun i => (h.2 i).trans (k.2 i).symm
theorem compact_rises (d : Array Int) (hs : ∀ i j, i ≤ j → j < d.size → d[i]! ≤ d[j]!) : ∀ m, m ≤ d.size → (compactUpTo d m).Pairwise (· < ·) ∧ (∀ x, x ∈ compactUpTo d m ↔ ∃ j, j < m ∧ d[j]! = x)
  | 0, _ => ⟨List.Pairwise.nil, fun x => ⟨(fun h => by simp [compactUpTo] at h), (fun ⟨j, hj, _⟩ => absurd hj (Nat.not_lt_zero _))⟩⟩
  | m + 1, hm => by
    obtain ⟨h1, h2⟩ := compact_rises d hs m (by omega)
    rw [compactUpTo_succ]
    by_cases hk : keeps d m = true
    · rw [if_pos hk]
      refine ⟨?_, fun x => ?_⟩
      · rw [List.pairwise_append]
        refine ⟨h1, by simp, fun x hx y hy => ?_⟩
        rw [List.mem_singleton] at hy
        subst hy
        obtain ⟨j, hj, rfl⟩ := (h2 x).1 hx
        have a := hs j (m - 1) (by omega) (by omega)
        have b := hs (m - 1) m (by omega) (by omega)
        have c : d[m]! ≠ d[m - 1]! := by
          simp only [keeps, decide_eq_true_eq] at hk
          rcases hk with hk | hk
          · omega
          · exact hk
        omega
      · rw [List.mem_append, h2 x, List.mem_singleton]
        constructor
        · rintro (⟨j, hj, e⟩ | e)
          · exact ⟨j, by omega, e⟩
          · exact ⟨m, by omega, e.symm⟩
        · rintro ⟨j, hj, e⟩
          by_cases h : j = m
          · subst h; exact .inr e.symm
          · exact .inl ⟨j, by omega, e⟩
    · rw [if_neg hk, List.append_nil]
      refine ⟨h1, fun x => ?_⟩
      rw [h2 x]
      simp only [keeps, decide_eq_true_eq, not_or] at hk
      have hk : ¬ m = 0 ∧ d[m]! = d[m - 1]! := ⟨hk.1, Decidable.not_not.1 hk.2⟩
      constructor
      · rintro ⟨j, hj, e⟩; exact ⟨j, by omega, e⟩
      · rintro ⟨j, hj, e⟩
        by_cases h : j = m
        · subst h; exact ⟨j - 1, by omega, by rw [← hk.2, e]⟩
        · exact ⟨j, by omega, e⟩
theorem sort_compact (zs : List Int) : Rises zs (compactUpTo (zs.mergeSort fun x y => decide (x ≤ y)).toArray (zs.mergeSort fun x y => decide (x ≤ y)).toArray.size) := by
  have hp : (zs.mergeSort fun x y => decide (x ≤ y)).Pairwise (fun x y => (decide (x ≤ y)) = true) := List.pairwise_mergeSort (fun a b c h1 h2 => by simp at *; omega) (fun a b => by simp; omega) zs
  have hm : ∀ x, x ∈ (zs.mergeSort fun x y => decide (x ≤ y)) ↔ x ∈ zs := fun x => (List.mergeSort_perm zs _).mem_iff
  obtain ⟨ss, hss⟩ : ∃ ss, (zs.mergeSort fun x y => decide (x ≤ y)) = ss := ⟨_, rfl⟩
  rw [hss] at hp hm ⊢
  have hg : ∀ j, j < ss.length → ss.toArray[j]! = ss[j]! := fun j hj => by
    rw [getElem!_pos ss.toArray j (by simpa using hj), getElem!_pos ss j hj, List.getElem_toArray]
  obtain ⟨h1, h2⟩ := compact_rises ss.toArray (fun i j hij hj => by
    have hj' : j < ss.length := by simpa using hj
    rw [hg i (by omega), hg j hj', getElem!_pos ss i (by omega), getElem!_pos ss j hj']
    by_cases e : i = j
    · subst e; exact Int.le_refl _
    · have := List.pairwise_iff_getElem.1 hp i j (by omega) hj' (by omega)
      simpa using this) ss.toArray.size (Nat.le_refl _)
  refine ⟨h1, fun x => (h2 x).trans ?_⟩
  rw [← hm x]
  constructor
  · rintro ⟨j, hj, rfl⟩
    have hj' : j < ss.length := by simpa using hj
    rw [hg j hj', getElem!_pos ss j hj']
    exact List.getElem_mem hj'
  · intro hx
    obtain ⟨j, hj, rfl⟩ := List.getElem_of_mem hx
    exact ⟨j, by simpa using hj, by rw [hg j hj, getElem!_pos ss j hj]⟩
theorem below_row {B : Nat} {w0 w : World} (h : Below B w0 w) (q g o : Nat) (d : Array Int) (hg : B ≤ g) : Below B w0 (RowU w g o q d) :=
  h.trans ⟨rfl, rfl, rfl, by rw [size_putRow]; exact Nat.le_refl _, fun k hk => by
    show ((Sort.ahead w q).heap.modify g _)[k]? = _
    rw [Array.getElem?_modify, if_neg (by omega)]
    rfl⟩
theorem below_os {B : Nat} {w0 w : World} (h : Below B w0 w) (hB : B ≤ w.heap.size) (os : Array Obj) : Below B w0 (grow w os) :=
  h.trans ⟨rfl, rfl, rfl, by rw [size_grow]; exact Nat.le_add_right _ _, fun k hk => heap_grow_old _ _ (by omega)⟩
theorem below_atU {B : Nat} {w0 w w' : World} {g o : Nat} {d : Array Int} (h : Below B w0 w) (ha : AtU w g o d w') (hg : B ≤ g) (hB : B ≤ w.heap.size) : Below B w0 w' := by
  obtain ⟨q, os, rfl⟩ := ha
  exact below_os (below_row h q g o d hg) (by rw [size_putRow]; exact hB) os
theorem nums_row {w : World} {g : Nat} {d : Array Int} (q : Nat) {c : Array Int} (hH : Holds (Value.int .u64) w g 0 d) (hs : c.size = d.size) {out : List Int} {cap : Nat} (ho : ∀ i, i < out.length → c[i]! = out[i]!) (hl : out.length ≤ c.size) (hc : d.size ≤ cap) (hm : cap ≤ maxLen) :
    Nums .u64 (RowU w g 0 q c) (.slice (some ⟨g, 0, none⟩) out.length cap) out := by
  by_cases h0 : 0 < out.length
  · refine .inr ⟨g, 0, cap, by rw [List.length_map], by rw [List.length_map]; exact h0, by rw [List.length_map]; omega, hm, fun i hi => ?_⟩
    rw [List.length_map] at hi
    have := rowU_cell hH (m := q) hs i (by omega)
    rw [this, ho i hi, getElem!_pos out i hi, List.getElem_map]
  · have : out = [] := List.eq_nil_of_length_eq_zero (by omega)
    subst this
    exact .inl ⟨_, _, rfl, rfl⟩
theorem holdsU_own {w : World} {B g n cap : Nat} {e : TypeId} {zs : List Int} (h : w.ownsRow B e 1 (.slice (some ⟨g, 0, none⟩) n cap) n (zs.map (Value.int .u64))) (hn : zs.length = n) : Holds (Value.int .u64) w g 0 zs.toArray := fun j hj => by
  have hj' : j < zs.length := by simpa using hj
  rw [Nat.zero_add]
  refine ⟨?_, h.frozenAt j⟩
  rw [h.cellAt j (by omega), List.getElem?_map, List.getElem?_eq_getElem hj', getElem!_pos zs.toArray j hj, List.getElem_toArray]
  rfl
def bey (out : List Int) (x : Int) : Bool := out.all fun y => decide (y < x)
theorem bey_iff {out : List Int} {x : Int} : bey out x = true ↔ ∀ y ∈ out, y < x := by simp [bey]
theorem bey_last {out : List Int} {x l : Int} (hp : out.Pairwise (· < ·)) {m : Nat} (hm : m + 1 = out.length) (hl : out[m]? = some l) : bey out x = decide (l < x) := by
  obtain ⟨hm', hl'⟩ := List.getElem?_eq_some_iff.1 hl
  rw [Bool.eq_iff_iff, bey_iff, decide_eq_true_eq]
  constructor
  · intro h; exact h _ (hl' ▸ List.getElem_mem hm')
  · intro h y hy
    obtain ⟨j, hj, rfl⟩ := List.getElem_of_mem hy
    by_cases e : j = m
    · subst e; rw [hl']; exact h
    · have := List.pairwise_iff_getElem.1 hp j m hj hm' (by omega)
      rw [hl'] at this
      omega
theorem filter_less {p q : Int → Bool} (h : ∀ x, q x = true → p x = true) : ∀ {l : List Int} {x : Int}, x ∈ l → p x = true → q x = false → (l.filter q).length < (l.filter p).length
  | [], _, hx, _, _ => by cases hx
  | y :: l, x, hx, hp, hq => by
    have hle : ∀ l : List Int, (l.filter q).length ≤ (l.filter p).length := by
      intro l
      induction l with
      | nil => exact Nat.le_refl _
      | cons z l ih =>
        rw [List.filter_cons, List.filter_cons]
        by_cases hz : q z = true
        · rw [if_pos hz, if_pos (h z hz)]; simp; exact ih
        · rw [if_neg hz]
          split
          · simp; omega
          · exact ih
    rw [List.filter_cons, List.filter_cons]
    rcases List.mem_cons.1 hx with e | hx
    · rw [← e, if_neg (by rw [hq]; simp), if_pos hp]
      have := hle l
      simp; omega
    · have ih := filter_less h hx hp hq
      by_cases hz : q y = true
      · rw [if_pos hz, if_pos (h y hz)]; simp; exact ih
      · rw [if_neg hz]
        split
        · simp; omega
        · exact ih
/-- the least so far of what is beyond out -/
def Least (zs out : List Int) (k : Nat) (f : Bool) (z : Int) : Prop :=
  if f = true then z ∈ zs ∧ bey out z = true ∧ ∀ x ∈ zs.take k, bey out x = true → z ≤ x else ∀ x ∈ zs.take k, bey out x = false
theorem least_step {zs out : List Int} {k : Nat} {f : Bool} {z : Int} (hk : k < zs.length) (h : Least zs out k f z) :
    Least zs out (k + 1) (f || bey out (zs[k]'hk)) (if bey out (zs[k]'hk) = true ∧ (f = false ∨ zs[k]'hk < z) then zs[k]'hk else z) := by
  have ht := List.take_succ_eq_append_getElem hk
  have hm := List.getElem_mem hk
  generalize zs[k]'hk = x at ht hm ⊢
  unfold Least at h ⊢
  rw [ht]
  cases hb : bey out x with
  | false =>
    simp only [Bool.or_false, Bool.false_eq_true, false_and, if_false]
    cases f with
    | false =>
      simp only [Bool.false_eq_true, if_false] at h ⊢
      intro y hy
      rcases List.mem_append.1 hy with hy | hy
      · exact h y hy
      · rw [List.mem_singleton] at hy; rw [hy]; exact hb
    | true =>
      simp only [if_true] at h ⊢
      refine ⟨h.1, h.2.1, fun y hy hby => ?_⟩
      rcases List.mem_append.1 hy with hy | hy
      · exact h.2.2 y hy hby
      · rw [List.mem_singleton] at hy; rw [hy, hb] at hby; cases hby
  | true =>
    simp only [Bool.or_true, if_true, true_and]
    cases f with
    | false =>
      simp only [Bool.false_eq_true, if_false, true_or, if_true] at h ⊢
      refine ⟨hm, hb, fun y hy hby => ?_⟩
      rcases List.mem_append.1 hy with hy | hy
      · rw [h y hy] at hby; cases hby
      · rw [List.mem_singleton] at hy; rw [hy]; exact Int.le_refl _
    | true =>
      simp only [if_true, Bool.true_eq_false, false_or] at h ⊢
      by_cases hlt : x < z
      · rw [if_pos hlt]
        refine ⟨hm, hb, fun y hy hby => ?_⟩
        rcases List.mem_append.1 hy with hy | hy
        · exact Int.le_trans (Int.le_of_lt hlt) (h.2.2 y hy hby)
        · rw [List.mem_singleton] at hy; rw [hy]; exact Int.le_refl _
      · rw [if_neg hlt]
        refine ⟨h.1, h.2.1, fun y hy hby => ?_⟩
        rcases List.mem_append.1 hy with hy | hy
        · exact h.2.2 y hy hby
        · rw [List.mem_singleton] at hy; rw [hy]; omega
/-- out are the first of the labels, rising -/
structure Firsts (zs out : List Int) : Prop where
  up : out.Pairwise (· < ·)
  sub : ∀ x ∈ out, x ∈ zs
  all : ∀ x ∈ zs, x ∈ out ∨ bey out x = true
theorem firsts_more {zs out : List Int} {z : Int} (h : Firsts zs out) (hl : Least zs out zs.length true z) : Firsts zs (out ++ [z]) ∧ (zs.filter (bey (out ++ [z]))).length < (zs.filter (bey out)).length := by
  unfold Least at hl
  simp only [if_true, List.take_length] at hl
  obtain ⟨h1, h2, h3⟩ := hl
  refine ⟨⟨?_, ?_, ?_⟩, ?_⟩
  · rw [List.pairwise_append]
    exact ⟨h.up, by simp, fun x hx y hy => by rw [List.mem_singleton] at hy; rw [hy]; exact bey_iff.1 h2 x hx⟩
  · intro x hx
    rcases List.mem_append.1 hx with hx | hx
    · exact h.sub x hx
    · rw [List.mem_singleton] at hx; rw [hx]; exact h1
  · intro x hx
    rcases h.all x hx with hx' | hx'
    · exact .inl (List.mem_append_left _ hx')
    · have := h3 x hx hx'
      by_cases e : x = z
      · exact .inl (by rw [e]; simp)
      · refine .inr (bey_iff.2 fun y hy => ?_)
        rcases List.mem_append.1 hy with hy | hy
        · exact bey_iff.1 hx' y hy
        · rw [List.mem_singleton] at hy; omega
  · refine filter_less (fun x hx => ?_) h1 h2 ?_
    · rw [bey_iff] at hx ⊢
      exact fun y hy => hx y (List.mem_append_left _ hy)
    · rw [← Bool.not_eq_true, bey_iff]
      intro hx
      have := hx z (by simp)
      omega
theorem firsts_end {zs out : List Int} {z : Int} (h : Firsts zs out) (hl : Least zs out zs.length false z) : Rises zs out := by
  unfold Least at hl
  simp only [Bool.false_eq_true, if_false, List.take_length] at hl
  refine ⟨h.up, fun x => ⟨h.sub x, fun hx => ?_⟩⟩
  rcases h.all x hx with hx' | hx'
  · exact hx'
  · rw [hl x hx] at hx'; cases hx'
theorem own_sl {w : World} {B n s : Nat} {e : TypeId} {v : Value} {xs : List Value} (h : w.ownsRow B e s v n xs) : ∃ vo vc, v = .slice vo n vc := by
  rcases Joins.ownsRow_forms h with ⟨h1, h2⟩ | ⟨g, cap, h1⟩
  · exact ⟨none, 0, by rw [h1, h2]⟩
  · exact ⟨_, _, h1⟩
theorem nums_own {w : World} {B c : Nat} {e : TypeId} {v : Value} {out : List Int} (h : w.ownsRow B e 1 v c (out.map (Value.int .u64))) (hc : out.length = c) : Nums .u64 w v out := by
  subst hc
  exact Nums.of_own (by simpa using h)
theorem firsts_nil (zs : List Int) : Firsts zs [] := ⟨.nil, (fun x h => by simp at h), fun x _ => .inr rfl⟩

theorem own_putU {w : World} {B g n cap : Nat} {e : TypeId} {xs : List Value} {c : Array Int} (h : w.ownsRow B e 1 (.slice (some ⟨g, 0, none⟩) n cap) n xs) (hs : c.size = n) (q : Nat) :
    (RowU w g 0 q c).ownsRow B e 1 (.slice (some ⟨g, 0, none⟩) n cap) n (c.toList.map (Value.int .u64)) := by
  rcases h.2 with ⟨e, _⟩ | ⟨g', cap', cur, hv, hB, hg, hnc, hcm, hsz, htake⟩
  · cases e
  · cases hv
    refine ⟨by simp [hs], .inr ⟨g, cap, putCells (Value.int .u64) 0 c cur, rfl, hB, ?_, hnc, hcm, by simp [putCells, hsz], ?_⟩⟩
    · show ((Sort.ahead w q).heap.modify g _)[g]? = _
      rw [Array.getElem?_modify, if_pos rfl]
      show (w.heap[g]?).map _ = _
      rw [hg]
      rfl
    · apply List.ext_getElem?
      intro k
      by_cases hk : k < n
      · have hk2 : k < cur.size := by rw [hsz]; omega
        have hk3 : k < c.size := by omega
        rw [List.getElem?_take_of_lt (by omega)]
        simp [putCells, hk2, hk3]
      · rw [List.getElem?_eq_none (by simp; omega), List.getElem?_eq_none (by simp [hs]; omega)]
theorem own_less {w : World} {B g n m cap : Nat} {e : TypeId} {xs : List Value} (h : w.ownsRow B e 1 (.slice (some ⟨g, 0, none⟩) n cap) n xs) (hm : m ≤ n) : w.ownsRow B e 1 (.slice (some ⟨g, 0, none⟩) m cap) m (xs.take m) := by
  have hl := h.1
  rcases h.2 with ⟨e, _⟩ | ⟨g', cap', cur, hv, hB, hg, hnc, hcm, hsz, htake⟩
  · cases e
  · cases hv
    exact ⟨by rw [List.length_take]; omega, .inr ⟨g, cap, cur, rfl, hB, hg, by omega, hcm, hsz, by rw [← htake, List.take_take]; congr 1; omega⟩⟩

end Go.Proofs.Ytgchcgllpceghaa
