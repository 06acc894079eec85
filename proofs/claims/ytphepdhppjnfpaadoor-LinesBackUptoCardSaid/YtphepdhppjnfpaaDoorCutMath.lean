/- Plain facts on lines, each with the byte 10 behind it: lists of bytes alone. -/
import Derived.Lib.Split
import Derived.Lib.CountLaws
import Derived.Lib.IndexBytes
import Derived.Lib.IndexLaws
namespace Go.Proofs.YtphepdhppjnfpaaDoor.Num

/-- what stands ahead of each byte 10 -/
def pieces (acc : List UInt8) : List UInt8 → List (List UInt8)
  | [] => []
  | c :: r => if c = 10 then acc :: pieces [] r else pieces (acc ++ [c]) r
/-- each text, with the byte 10 behind it -/
def joinL (ls : List (List UInt8)) : List UInt8 := ls.flatMap fun s => s ++ [10]
/-- the texts of a text -/
def cutL (l : List UInt8) : Option (List (List UInt8)) :=
  if l = [] then some [] else if l.getLast? = some 10 then some (pieces [] l) else none

theorem pieces_run (a : List UInt8) : ∀ (acc r : List UInt8), (∀ (k : Nat), k < a.length → a[k]? ≠ some 10) → pieces acc (a ++ 10 :: r) = (acc ++ a) :: pieces [] r := by
  induction a with
  | nil => intro acc r _; simp [pieces]
  | cons c a ih =>
    intro acc r h
    have hc : ¬ c = 10 := by
      intro e
      exact h 0 (by simp) (by simp [e])
    rw [List.cons_append, pieces, if_neg hc, ih (acc ++ [c]) r (fun k hk => by
      have := h (k + 1) (by simpa using hk)
      simpa using this)]
    simp
theorem index_ten (l : List UInt8) : Lib.index l [10] = Lib.indexByte l 10 := Lib.index_one l 10
theorem split_pieces : ∀ (n : Nat) (l : List UInt8), l.length ≤ n → Lib.splitK [10] 0 (Lib.count l [10]) l = pieces [] (l ++ [10]) := by
  intro n
  induction n with
  | zero =>
    intro l hl
    have : l = [] := List.eq_nil_of_length_eq_zero (by omega)
    subst this
    decide
  | succ n ih =>
    intro l hl
    have hge := Lib.indexByte_ge l 10
    by_cases h : Lib.indexByte l 10 = -1
    · have hm : Lib.count l [10] = 0 := Lib.count_miss (by rw [index_ten]; exact h)
      rw [hm, Lib.splitK]
      have := pieces_run l [] [] (fun k _ => Lib.indexByte_none h k)
      rw [this]
      rfl
    · obtain ⟨i, hi⟩ : ∃ i : Nat, Lib.indexByte l 10 = i := ⟨(Lib.indexByte l 10).toNat, by omega⟩
      obtain ⟨h1, h2⟩ := Lib.indexByte_some hi
      have hil : i < l.length := (List.getElem?_eq_some_iff.1 h1).1
      have hix : Lib.index l [10] = i := by rw [index_ten]; exact hi
      have hc : Lib.count l [10] = 1 + Lib.count (l.drop (i + 1)) [10] := Lib.count_hit (by simp) hix
      rw [hc, Nat.add_comm 1, Lib.splitK, hix]
      have hne : ((i : Int) == -1) = false := by simp
      rw [hne]
      have hsplit : l = l.take i ++ 10 :: l.drop (i + 1) := by
        conv => lhs; rw [← List.take_append_drop i l]
        rw [List.drop_eq_getElem_cons hil]
        congr 2
        rw [List.getElem?_eq_getElem hil] at h1
        exact Option.some.inj h1
      have hp := pieces_run (l.take i) [] (l.drop (i + 1) ++ [10]) (fun k hk => by
        rw [List.length_take] at hk
        rw [List.getElem?_take, if_pos (by omega)]
        exact h2 k (by omega))
      have e : l ++ [10] = l.take i ++ 10 :: (l.drop (i + 1) ++ [10]) := by
        conv => lhs; rw [hsplit]
        simp
      rw [e, hp]
      show (l.take ((i : Int).toNat + 0) :: Lib.splitK [10] 0 (Lib.count (l.drop (i + 1)) [10]) (l.drop ((i : Int).toNat + 1))) = _
      simp only [Int.toNat_natCast, Nat.add_zero, List.nil_append]
      rw [ih _ (by rw [List.length_drop]; omega)]
theorem pieces_join : ∀ (ls : List (List UInt8)), (∀ s ∈ ls, ¬ (10 : UInt8) ∈ s) → pieces [] (joinL ls) = ls := by
  intro ls
  induction ls with
  | nil => intro _; rfl
  | cons s ls ih =>
    intro h
    have e : joinL (s :: ls) = s ++ 10 :: joinL ls := by simp [joinL]
    rw [e, pieces_run s [] _ (fun k hk e => h s (by simp) (List.mem_of_getElem? e)), ih (fun x hx => h x (by simp [hx]))]
    rfl
theorem join_last {ls : List (List UInt8)} (h : ls ≠ []) : joinL ls ≠ [] ∧ (joinL ls).getLast? = some 10 := by
  induction ls with
  | nil => exact absurd rfl h
  | cons s ls ih =>
    have e : joinL (s :: ls) = s ++ 10 :: joinL ls := by simp [joinL]
    rw [e]
    refine ⟨by simp, ?_⟩
    by_cases hl : ls = []
    · subst hl
      simp [joinL]
    · obtain ⟨h1, h2⟩ := ih hl
      rw [List.getLast?_append, List.getLast?_cons, h2]
      simp
theorem cut_join (ls : List (List UInt8)) (h : ∀ s ∈ ls, ¬ (10 : UInt8) ∈ s) : cutL (joinL ls) = some ls := by
  unfold cutL
  by_cases hl : ls = []
  · subst hl; rfl
  · obtain ⟨h1, h2⟩ := join_last hl
    rw [if_neg h1, if_pos h2, pieces_join ls h]
theorem join_pieces : ∀ (l acc : List UInt8), l.getLast? = some 10 → joinL (pieces acc l) = acc ++ l := by
  intro l
  induction l with
  | nil => intro acc h; cases h
  | cons c r ih =>
    intro acc h
    rw [pieces]
    by_cases hr : r = []
    · subst hr
      simp at h
      subst h
      simp [pieces, joinL]
    · have hl : r.getLast? = some 10 := by
        rw [List.getLast?_cons] at h
        cases hx : r.getLast? with
        | none => rw [List.getLast?_eq_none_iff] at hx; exact absurd hx hr
        | some x => rw [hx] at h; simpa using h
      split
      · rename_i hc
        subst hc
        have e : joinL (acc :: pieces [] r) = acc ++ 10 :: joinL (pieces [] r) := by simp [joinL]
        rw [e, ih [] hl]
        rfl
      · rw [ih _ hl]
        simp
theorem join_cut {l : List UInt8} {ls : List (List UInt8)} (h : cutL l = some ls) : joinL ls = l := by
  unfold cutL at h
  split at h
  · rename_i e
    cases h
    rw [e]
    rfl
  · split at h
    · rename_i e
      cases h
      exact join_pieces l [] e
    · cases h
end Go.Proofs.YtphepdhppjnfpaaDoor.Num
