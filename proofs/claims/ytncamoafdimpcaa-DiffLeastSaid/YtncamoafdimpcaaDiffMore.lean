/- Own work: what stays of lists whose texts are made others; lists with one text in common: plain laws. -/
import Derived.Test.YtncamoafdimpcaaDiffMath
namespace Go.Proofs.Ytncamoafdimpcaa

section
variable {f : ByteArray → ByteArray} (hf : ∀ x y, f x = f y → x = y)
include hf
theorem preL_map (a b : List ByteArray) : preL (a.map f) (b.map f) = preL a b := by
  induction a generalizing b with
  | nil => cases b <;> simp [preL]
  | cons x a ih =>
    cases b with
    | nil => simp [preL]
    | cons y b =>
      rw [List.map_cons, List.map_cons, preL, preL]
      by_cases h : x = y
      · rw [if_pos h, if_pos (by rw [h]), ih]
      · rw [if_neg h, if_neg fun e => h (hf _ _ e)]
theorem sufL_map (a b : List ByteArray) (p : Nat) : sufL (a.map f) (b.map f) p = sufL a b p := by
  unfold sufL
  rw [← List.map_drop, ← List.map_drop, ← List.map_reverse, ← List.map_reverse, preL_map hf]
theorem mostL_map (a b : List ByteArray) : mostL (a.map f) (b.map f) = mostL a b := by
  fun_induction mostL a b with
  | case1 b => simp [mostL]
  | case2 x a => simp [mostL]
  | case3 a x b ih => rw [List.map_cons, List.map_cons, mostL, if_pos rfl, ih]
  | case4 x a y b h ih1 ih2 =>
    rw [List.map_cons, List.map_cons, mostL, if_neg fun e => h (hf _ _ e)]
    rw [List.map_cons] at ih1 ih2
    rw [ih1, ih2]
theorem walkL_map (a b : List ByteArray) (i j : Nat) : walkL (a.map f) (b.map f) i j = walkL a b i j := by
  fun_induction walkL a b i j with
  | case1 => rw [List.map_nil, walkL]
  | case2 => rw [List.map_nil, List.map_cons, walkL]
  | case3 a x b i j ih => rw [List.map_cons, List.map_cons, walkL, if_pos rfl, ih]
  | case4 x a y b i j h g ih =>
    have e1 := mostL_map hf (x :: a) b
    have e2 := mostL_map hf a (y :: b)
    rw [List.map_cons] at e1 e2 ih
    rw [List.map_cons, List.map_cons, walkL, if_neg fun e => h (hf _ _ e), e1, e2, if_pos g, ih]
  | case5 x a y b i j h g ih =>
    have e1 := mostL_map hf (x :: a) b
    have e2 := mostL_map hf a (y :: b)
    rw [List.map_cons] at e1 e2 ih
    rw [List.map_cons, List.map_cons, walkL, if_neg fun e => h (hf _ _ e), e1, e2, if_neg g, ih]
theorem commonL_map (a b : List ByteArray) : commonL (a.map f) (b.map f) = commonL a b := by
  have e : ∀ (l : List ByteArray) p s, midL (l.map f) p s = (midL l p s).map f := by
    intro l p s
    simp [midL, List.map_take, List.map_drop]
  unfold commonL commonAt stayL
  rw [preL_map hf, sufL_map hf, e, e, walkL_map hf]
  simp only [List.length_map]
end
/-- a hunk whose texts are made others -/
def HunkT.with (f : ByteArray → ByteArray) (h : HunkT) : HunkT := ⟨h.at_, h.old.map f, h.new.map f⟩
theorem gapsL_map (f : ByteArray → ByteArray) (a b : List ByteArray) (l : List (Nat × Nat)) (i j : Nat) : gapsL (a.map f) (b.map f) i j l = (gapsL a b i j l).map (HunkT.with f) := by
  induction l generalizing i j with
  | nil => rfl
  | cons x l ih =>
    rw [gapsL, gapsL, List.map_append, ih]
    congr 1
    unfold gapH
    split
    · simp [HunkT.with, List.map_take, List.map_drop]
    · rfl
theorem linesL_map {f : ByteArray → ByteArray} (hf : ∀ x y, f x = f y → x = y) (a b : List ByteArray) : linesL (a.map f) (b.map f) = (linesL a b).map (HunkT.with f) := by
  unfold linesL
  rw [commonL_map hf, gapsL_map]
  simp only [List.length_map]

theorem paired_all {a b : List ByteArray} : ∀ {l : List (Nat × Nat)} {i j : Nat}, Paired a b i j l → ∀ x ∈ l, i ≤ x.1 ∧ j ≤ x.2 ∧ x.1 < a.length ∧ x.2 < b.length ∧ a[x.1]? = b[x.2]? := by
  intro l
  induction l with
  | nil => intro i j _ x hx; cases hx
  | cons y l ih =>
    intro i j h x hx
    obtain ⟨h1, h2, h3, h4, h5, h6⟩ := h
    rcases List.mem_cons.1 hx with rfl | hx
    · exact ⟨h1, h2, h3, h4, h5⟩
    · obtain ⟨g1, g2, g⟩ := ih h6 x hx
      exact ⟨by omega, by omega, g⟩
/-- lists that have one text in common, at one place each -/
theorem common_one {a b : List ByteArray} {P Q : Nat} (hP : P < a.length) (hQ : Q < b.length) (he : a[P]? = b[Q]?) (hone : ∀ i j, i < a.length → j < b.length → a[i]? = b[j]? → i = P ∧ j = Q) (hw : a.length * b.length ≤ maxWork) :
    commonL a b = [(P, Q)] := by
  have hlen := common_most a b (Nat.le_trans (Nat.mul_le_mul (by omega) (by omega)) hw)
  have h1 : 1 ≤ mostL a b := by
    rw [List.getElem?_eq_getElem hP, List.getElem?_eq_getElem hQ] at he
    have he := Option.some.inj he
    have := mostL_max a b [a[P]'hP] (List.singleton_sublist.2 (List.getElem_mem hP)) (by rw [he]; exact List.singleton_sublist.2 (List.getElem_mem hQ))
    simpa using this
  have hp := paired_common a b
  rw [← hlen] at h1
  generalize commonL a b = l at hp h1
  have key : ∀ (x : Nat × Nat) i j, Paired a b i j [x] → x = (P, Q) := by
    intro x i j h
    obtain ⟨_, _, h3, h4, h5, _⟩ := h
    obtain ⟨e1, e2⟩ := hone x.1 x.2 h3 h4 h5
    exact Prod.ext e1 e2
  match l, hp, h1 with
  | [x], hp, _ => rw [key x 0 0 hp]
  | x :: y :: r, hp, _ =>
    obtain ⟨h1, h2, h3, h4, h5, h6⟩ := hp
    have e1 := key x 0 0 ⟨h1, h2, h3, h4, h5, trivial⟩
    obtain ⟨g1, g2, g3, g4, g5, _⟩ := h6
    have e2 := key y _ _ ⟨g1, g2, g3, g4, g5, trivial⟩
    have f1 : x.1 = P := congrArg Prod.fst e1
    have f2 : y.1 = P := congrArg Prod.fst e2
    omega
/-- great middles: none stays -/
theorem common_great {a b : List ByteArray} (hp : preL a b = 0) (hs : sufL a b 0 = 0) (hw : maxWork < a.length * b.length) : commonL a b = [] := by
  have e : ∀ l : List ByteArray, midL l 0 0 = l := by intro l; simp [midL]
  rw [commonL, hp, hs, commonAt, e, e, stayL, if_neg (by omega)]
  rfl
theorem runL_cons (i j n : Nat) : runL i j (n + 1) = (i, j) :: runL (i + 1) (j + 1) n := by
  simp [runL, List.range_succ_eq_map, Function.comp_def]
  intro k _
  omega
/-- no gap within a run -/
theorem gaps_run (a b : List ByteArray) (l : List (Nat × Nat)) : ∀ (n i j : Nat), gapsL a b i j (runL i j n ++ l) = gapsL a b (i + n) (j + n) l := by
  intro n
  induction n with
  | zero => intro i j; rfl
  | succ n ih =>
    intro i j
    rw [runL_cons, List.cons_append, gapsL, gapH, if_neg (by omega), List.nil_append, ih, show i + 1 + n = i + (n + 1) by omega, show j + 1 + n = j + (n + 1) by omega]
theorem gapH_one (a b : List ByteArray) (i j p q : Nat) : (gapH a b i j p q).length ≤ 1 := by
  unfold gapH; split <;> simp
theorem gaps_tail (a b : List ByteArray) (i j x y s : Nat) : (gapsL a b i j (runL x y s ++ [(x + s, y + s)])).length ≤ 1 := by
  cases s with
  | zero =>
    rw [runL_zero, List.nil_append, gapsL, gapsL, List.append_nil]
    exact gapH_one _ _ _ _ _ _
  | succ s =>
    have e : (x + (s + 1), y + (s + 1)) = (x + 1 + s, y + 1 + s) := by
      rw [show x + (s + 1) = x + 1 + s by omega, show y + (s + 1) = y + 1 + s by omega]
    have e2 : gapsL a b (x + 1 + s) (y + 1 + s) [(x + 1 + s, y + 1 + s)] = [] := by
      rw [gapsL, gapsL, gapH, if_neg (by omega), List.append_nil]
    rw [runL_cons, List.cons_append, gapsL, e, gaps_run, e2, List.append_nil]
    exact gapH_one _ _ _ _ _ _
theorem stayL_le (a b : List ByteArray) : (stayL a b).length ≤ 1048576 := by
  rw [stayL]
  split
  · rename_i h
    rw [walkL_len]
    cases b with
    | nil => rw [mostL_nil']; omega
    | cons y b =>
      have h1 := mostL_le a (y :: b)
      have h2 : a.length ≤ a.length * (y :: b).length := Nat.le_mul_of_pos_right _ (by simp)
      unfold maxWork at h
      omega
  · simp
theorem gaps_length (a b : List ByteArray) (l m : List (Nat × Nat)) : ∀ (i j : Nat), ∃ i' j', (gapsL a b i j (l ++ m)).length ≤ l.length + (gapsL a b i' j' m).length := by
  induction l with
  | nil => intro i j; exact ⟨i, j, by simp⟩
  | cons x l ih =>
    intro i j
    obtain ⟨i', j', h⟩ := ih (x.1 + 1) (x.2 + 1)
    refine ⟨i', j', ?_⟩
    rw [List.cons_append, gapsL, List.length_append, List.length_cons]
    have := gapH_one a b i j x.1 x.2
    omega
/-- a patch has few hunks -/
theorem lines_count (a b : List ByteArray) : (linesL a b).length ≤ 1048577 := by
  obtain ⟨h1, h2, _, _⟩ := preL_spec a b
  obtain ⟨g1, g2, _⟩ := sufL_spec a b (preL a b) h1 h2
  rw [linesL, commonL]
  generalize sufL a b (preL a b) = s at g1 g2
  generalize preL a b = p at g1 g2 h1 h2
  rw [commonAt, List.append_assoc, List.append_assoc, gaps_run]
  obtain ⟨i', j', h⟩ := gaps_length a b (shiftP p (stayL (midL a p s) (midL b p s))) (runL (a.length - s) (b.length - s) s ++ [(a.length, b.length)]) (0 + p) (0 + p)
  have h3 := gaps_tail a b i' j' (a.length - s) (b.length - s) s
  rw [show a.length - s + s = a.length by omega, show b.length - s + s = b.length by omega] at h3
  rw [shiftP_len] at h
  have := stayL_le (midL a p s) (midL b p s)
  omega
theorem gaps_prefix (a b : List ByteArray) (P : List (Nat × Nat)) (k : Nat) : (gapsL a b 0 0 (P.take k)).length ≤ (gapsL a b 0 0 P).length := by
  have h := gapsL_append a b (P.take k) (P.drop k) 0 0
  rw [List.take_append_drop] at h
  rw [h, List.length_append]
  omega
end Go.Proofs.Ytncamoafdimpcaa
