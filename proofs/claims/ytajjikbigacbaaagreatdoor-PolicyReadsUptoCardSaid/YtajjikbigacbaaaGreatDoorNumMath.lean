/- Plain facts on numbers' forms: lists of bytes and whole numbers alone. -/
import Derived.Lib.ItoaNum
import Derived.Lib.Split
import Derived.Lib.CountLaws
import Derived.Lib.IndexBytes
import Derived.Lib.IndexLaws
namespace Go.Proofs.YtajjikbigacbaaaGreatDoor.Num

def isDigB (c : UInt8) : Bool := decide (48 ≤ c.toNat) && decide (c.toNat ≤ 57)
/-- the number that decimal digits spell -/
def natVal (l : List UInt8) : Nat := l.foldl (fun n c => 10 * n + (c.toNat - 48)) 0
theorem natVal_snoc (l : List UInt8) (c : UInt8) : natVal (l ++ [c]) = 10 * natVal l + (c.toNat - 48) := by
  simp [natVal, List.foldl_append]
theorem natVal_nil : natVal [] = 0 := rfl
theorem natVal_take_succ (l : List UInt8) (k : Nat) (h : k < l.length) : natVal (l.take (k + 1)) = 10 * natVal (l.take k) + ((l[k]'h).toNat - 48) := by
  rw [List.take_succ_eq_append_getElem h, natVal_snoc]
theorem natVal_take_le (l : List UInt8) (k : Nat) : ∀ j, natVal (l.take k) ≤ natVal (l.take (k + j))
  | 0 => Nat.le_refl _
  | j + 1 => by
    have ih := natVal_take_le l k j
    by_cases h : k + j < l.length
    · rw [← Nat.add_assoc, natVal_take_succ l _ h]
      omega
    · rw [List.take_of_length_le (by omega : l.length ≤ k + (j + 1))]
      rw [List.take_of_length_le (by omega : l.length ≤ k + j)] at ih
      exact ih
theorem natVal_take_all (l : List UInt8) (k : Nat) : natVal (l.take k) ≤ natVal l := by
  by_cases h : k ≤ l.length
  · have := natVal_take_le l k (l.length - k)
    rwa [Nat.add_sub_cancel' h, List.take_length] at this
  · rw [List.take_of_length_le (by omega)]
    exact Nat.le_refl _

/-- the number that these digits, behind a minus or not, are the form of -/
def valL (l : List UInt8) (minus : Bool) : Option Int :=
  if l = [] then none
  else if l[0]? = some 48 ∧ (minus = true ∨ 1 < l.length) then none
  else if minus = true then (if natVal l ≤ 9223372036854775808 then some (-(natVal l : Int)) else none)
  else (if natVal l ≤ 9223372036854775807 then some (natVal l : Int) else none)

def minusB (l : List UInt8) : Bool := l[0]? == some 45
/-- behind a minus, if one stands ahead -/
def unsig (l : List UInt8) : List UInt8 := if minusB l then l.drop 1 else l
def cnt (l : List UInt8) : Nat := (l.takeWhile isDigB).length
/-- the number at a text's beginning, and what stands behind it -/
def takeL (l : List UInt8) : Option (Int × List UInt8) := (valL ((unsig l).take (cnt (unsig l))) (minusB l)).map fun n => (n, (unsig l).drop (cnt (unsig l)))

theorem cnt_le (l : List UInt8) : cnt l ≤ l.length := by
  unfold cnt
  exact (List.takeWhile_sublist isDigB).length_le
theorem take_cnt (l : List UInt8) : l.take (cnt l) = l.takeWhile isDigB := by
  have h : ∀ (a b : List UInt8), (a ++ b).take a.length = a := fun a b => by simp
  have := h (l.takeWhile isDigB) (l.dropWhile isDigB)
  rwa [List.takeWhile_append_dropWhile] at this
/-- the count, by its two marks -/
theorem cnt_eq (l : List UInt8) (k : Nat) (hk : k ≤ l.length) (h : ∀ (j : Nat) (hj : j < l.length), j < k → isDigB (l[j]'hj) = true) (hs : ∀ (hj : k < l.length), isDigB (l[k]'hj) = false) : cnt l = k := by
  induction l generalizing k with
  | nil => simp at hk; subst hk; rfl
  | cons x l ih =>
    cases k with
    | zero =>
      have := hs (by simp)
      simp at this
      simp [cnt, this]
    | succ k =>
      have h0 := h 0 (by simp) (by omega)
      simp at h0
      have := ih k (by simpa using hk) (fun j hj hjk => h (j + 1) (by simpa using hj) (by omega)) (fun hj => hs (by simpa using hj))
      unfold cnt at this ⊢
      simp [h0, this]
theorem cnt_digits (l : List UInt8) (j : Nat) (hj : j < l.length) (h : j < cnt l) : isDigB (l[j]'hj) = true := by
  have h1 : (l.take (cnt l))[j]? = some l[j] := by
    rw [List.getElem?_take, if_pos h]
    exact List.getElem?_eq_getElem hj
  rw [take_cnt] at h1
  exact List.all_eq_true.1 (List.all_takeWhile (p := isDigB) (l := l)) _ (List.mem_of_getElem? h1)
theorem cnt_stop (l : List UInt8) (hj : cnt l < l.length) : isDigB (l[cnt l]'hj) = false := by
  induction l with
  | nil => simp at hj
  | cons x l ih =>
    cases hx : isDigB x with
    | false =>
      have e : cnt (x :: l) = 0 := by simp [cnt, hx]
      simp [e, hx]
    | true =>
      have e : cnt (x :: l) = cnt l + 1 := by simp [cnt, hx]
      simp [e] at hj ⊢
      exact ih hj

theorem decDigits_ten {u : Nat} (h : 10 ≤ u) : Lib.decDigits u = Lib.decDigits (u / 10) ++ [UInt8.ofNat (48 + u % 10)] := by
  rw [Lib.decDigits, dif_neg (by omega)]
end Go.Proofs.YtajjikbigacbaaaGreatDoor.Num
/- Plain facts on counted texts: lists of bytes alone. -/
namespace Go.Proofs.YtajjikbigacbaaaGreatDoor.Num

/-- a counted text -/
def showL (l : List UInt8) : List UInt8 := Lib.itoa l.length ++ 58 :: l
/-- the counted text at a text's beginning -/
def shownL (l : List UInt8) : Option (List UInt8 × List UInt8) :=
  match takeL l with
  | some (n, c :: r) => if c = 58 ∧ 0 ≤ n ∧ n.toNat ≤ r.length then some (r.take n.toNat, r.drop n.toNat) else none
  | _ => none
theorem shownL_none {l : List UInt8} (h : takeL l = none) : shownL l = none := by rw [shownL, h]
theorem shownL_nil {l : List UInt8} {n : Int} (h : takeL l = some (n, [])) : shownL l = none := by rw [shownL, h]
theorem shownL_no {l : List UInt8} {n : Int} {c : UInt8} {r : List UInt8} (h : takeL l = some (n, c :: r)) (h' : ¬ (c = 58 ∧ 0 ≤ n ∧ n.toNat ≤ r.length)) : shownL l = none := by
  rw [shownL, h]
  exact if_neg h'
theorem shownL_yes {l : List UInt8} {n : Nat} {r : List UInt8} (h : takeL l = some ((n : Int), 58 :: r)) (h' : n ≤ r.length) : shownL l = some (r.take n, r.drop n) := by
  rw [shownL, h]
  show (if _ then _ else _) = _
  rw [if_pos ⟨rfl, by omega, by simpa using h'⟩]
  simp
end Go.Proofs.YtajjikbigacbaaaGreatDoor.Num
/- Plain facts on lines, each with the byte 10 behind it: lists of bytes alone. -/
namespace Go.Proofs.YtajjikbigacbaaaGreatDoor.Num

/-- what stands ahead of each byte 10 -/
def pieces (acc : List UInt8) : List UInt8 → List (List UInt8)
  | [] => []
  | c :: r => if c = 10 then acc :: pieces [] r else pieces (acc ++ [c]) r
/-- each text, with the byte 10 behind it -/
def joinL (ls : List (List UInt8)) : List UInt8 := ls.flatMap fun s => s ++ [10]
/-- the texts of a text -/
def cutL (l : List UInt8) : Option (List (List UInt8)) :=
  if l = [] then some [] else if l.getLast? = some 10 then some (pieces [] l) else none

theorem pieces_run (a : List UInt8) : ∀ (acc r : List UInt8), (∀ (k : Nat), k < a.length → a[k]? ≠ some 10) → pieces acc (a ++ 10 :: r) = (acc ++ a) :: pieces [] r := by
  induction a with
  | nil => intro acc r _; simp [pieces]
  | cons c a ih =>
    intro acc r h
    have hc : ¬ c = 10 := by
      intro e
      exact h 0 (by simp) (by simp [e])
    rw [List.cons_append, pieces, if_neg hc, ih (acc ++ [c]) r (fun k hk => by
      have := h (k + 1) (by simpa using hk)
      simpa using this)]
    simp
theorem index_ten (l : List UInt8) : Lib.index l [10] = Lib.indexByte l 10 := Lib.index_one l 10
theorem split_pieces : ∀ (n : Nat) (l : List UInt8), l.length ≤ n → Lib.splitK [10] 0 (Lib.count l [10]) l = pieces [] (l ++ [10]) := by
  intro n
  induction n with
  | zero =>
    intro l hl
    have : l = [] := List.eq_nil_of_length_eq_zero (by omega)
    subst this
    decide
  | succ n ih =>
    intro l hl
    have hge := Lib.indexByte_ge l 10
    by_cases h : Lib.indexByte l 10 = -1
    · have hm : Lib.count l [10] = 0 := Lib.count_miss (by rw [index_ten]; exact h)
      rw [hm, Lib.splitK]
      have := pieces_run l [] [] (fun k _ => Lib.indexByte_none h k)
      rw [this]
      rfl
    · obtain ⟨i, hi⟩ : ∃ i : Nat, Lib.indexByte l 10 = i := ⟨(Lib.indexByte l 10).toNat, by omega⟩
      obtain ⟨h1, h2⟩ := Lib.indexByte_some hi
      have hil : i < l.length := (List.getElem?_eq_some_iff.1 h1).1
      have hix : Lib.index l [10] = i := by rw [index_ten]; exact hi
      have hc : Lib.count l [10] = 1 + Lib.count (l.drop (i + 1)) [10] := Lib.count_hit (by simp) hix
      rw [hc, Nat.add_comm 1, Lib.splitK, hix]
      have hne : ((i : Int) == -1) = false := by simp
      rw [hne]
      have hsplit : l = l.take i ++ 10 :: l.drop (i + 1) := by
        conv => lhs; rw [← List.take_append_drop i l]
        rw [List.drop_eq_getElem_cons hil]
        congr 2
        rw [List.getElem?_eq_getElem hil] at h1
        exact Option.some.inj h1
      have hp := pieces_run (l.take i) [] (l.drop (i + 1) ++ [10]) (fun k hk => by
        rw [List.length_take] at hk
        rw [List.getElem?_take, if_pos (by omega)]
        exact h2 k (by omega))
      have e : l ++ [10] = l.take i ++ 10 :: (l.drop (i + 1) ++ [10]) := by
        conv => lhs; rw [hsplit]
        simp
      rw [e, hp]
      show (l.take ((i : Int).toNat + 0) :: Lib.splitK [10] 0 (Lib.count (l.drop (i + 1)) [10]) (l.drop ((i : Int).toNat + 1))) = _
      simp only [Int.toNat_natCast, Nat.add_zero, List.nil_append]
      rw [ih _ (by rw [List.length_drop]; omega)]
theorem pieces_join : ∀ (ls : List (List UInt8)), (∀ s ∈ ls, ¬ (10 : UInt8) ∈ s) → pieces [] (joinL ls) = ls := by
  intro ls
  induction ls with
  | nil => intro _; rfl
  | cons s ls ih =>
    intro h
    have e : joinL (s :: ls) = s ++ 10 :: joinL ls := by simp [joinL]
    rw [e, pieces_run s [] _ (fun k hk e => h s (by simp) (List.mem_of_getElem? e)), ih (fun x hx => h x (by simp [hx]))]
    rfl
theorem join_last {ls : List (List UInt8)} (h : ls ≠ []) : joinL ls ≠ [] ∧ (joinL ls).getLast? = some 10 := by
  induction ls with
  | nil => exact absurd rfl h
  | cons s ls ih =>
    have e : joinL (s :: ls) = s ++ 10 :: joinL ls := by simp [joinL]
    rw [e]
    refine ⟨by simp, ?_⟩
    by_cases hl : ls = []
    · subst hl
      simp [joinL]
    · obtain ⟨h1, h2⟩ := ih hl
      rw [List.getLast?_append, List.getLast?_cons, h2]
      simp
theorem cut_join (ls : List (List UInt8)) (h : ∀ s ∈ ls, ¬ (10 : UInt8) ∈ s) : cutL (joinL ls) = some ls := by
  unfold cutL
  by_cases hl : ls = []
  · subst hl; rfl
  · obtain ⟨h1, h2⟩ := join_last hl
    rw [if_neg h1, if_pos h2, pieces_join ls h]
theorem join_pieces : ∀ (l acc : List UInt8), l.getLast? = some 10 → joinL (pieces acc l) = acc ++ l := by
  intro l
  induction l with
  | nil => intro acc h; cases h
  | cons c r ih =>
    intro acc h
    rw [pieces]
    by_cases hr : r = []
    · subst hr
      simp at h
      subst h
      simp [pieces, joinL]
    · have hl : r.getLast? = some 10 := by
        rw [List.getLast?_cons] at h
        cases hx : r.getLast? with
        | none => rw [List.getLast?_eq_none_iff] at hx; exact absurd hx hr
        | some x => rw [hx] at h; simpa using h
      split
      · rename_i hc
        subst hc
        have e : joinL (acc :: pieces [] r) = acc ++ 10 :: joinL (pieces [] r) := by simp [joinL]
        rw [e, ih [] hl]
        rfl
      · rw [ih _ hl]
        simp
theorem join_cut {l : List UInt8} {ls : List (List UInt8)} (h : cutL l = some ls) : joinL ls = l := by
  unfold cutL at h
  split at h
  · rename_i e
    cases h
    rw [e]
    rfl
  · split at h
    · rename_i e
      cases h
      exact join_pieces l [] e
    · cases h
end Go.Proofs.YtajjikbigacbaaaGreatDoor.Num
/- Own work: a text cut at each byte c, and how the first such byte takes off the first part. -/
namespace Go.Proofs.YtajjikbigacbaaaGreatDoor
open Go

/-- the parts of a text between the bytes c: one more than there are such bytes -/
def parts (c : UInt8) : List UInt8 → List (List UInt8)
  | [] => [[]]
  | x :: r => if x = c then [] :: parts c r else match parts c r with | [] => [[x]] | p :: ps => (x :: p) :: ps

theorem parts_ne (c : UInt8) (l : List UInt8) : parts c l ≠ [] := by
  cases l with
  | nil => simp [parts]
  | cons x r =>
    unfold parts
    split
    · simp
    · split <;> simp
theorem parts_run (c : UInt8) : ∀ (a r : List UInt8), (∀ k : Nat, a[k]? ≠ some c) → parts c (a ++ c :: r) = a :: parts c r
  | [], r, _ => by simp [parts]
  | x :: a, r, h => by
    have hx : ¬ x = c := fun e => h 0 (by simp [e])
    rw [List.cons_append, parts, if_neg hx, parts_run c a r (fun k => by simpa using h (k + 1))]
theorem parts_last (c : UInt8) : ∀ (a : List UInt8), (∀ k : Nat, a[k]? ≠ some c) → parts c a = [a]
  | [], _ => rfl
  | x :: a, h => by
    have hx : ¬ x = c := fun e => h 0 (by simp [e])
    rw [parts, if_neg hx, parts_last c a (fun k => by simpa using h (k + 1))]

theorem parts_miss {c : UInt8} {l : List UInt8} (h : Lib.indexByte l c = -1) : parts c l = [l] := parts_last c l (Lib.indexByte_none h)
theorem parts_hit {c : UInt8} {l : List UInt8} {i : Nat} (h : Lib.indexByte l c = i) : i < l.length ∧ parts c l = l.take i :: parts c (l.drop (i + 1)) := by
  obtain ⟨h1, h2⟩ := Lib.indexByte_some h
  have hil : i < l.length := (List.getElem?_eq_some_iff.1 h1).1
  refine ⟨hil, ?_⟩
  have hs : l = l.take i ++ c :: l.drop (i + 1) := by
    conv => lhs; rw [← List.take_append_drop i l]
    rw [List.drop_eq_getElem_cons hil]
    congr 2
    rw [List.getElem?_eq_getElem hil] at h1
    exact Option.some.inj h1
  conv => lhs; rw [hs]
  refine parts_run c _ _ fun k hk => ?_
  rw [List.getElem?_take] at hk
  split at hk
  · exact h2 k (by assumption) hk
  · cases hk
theorem parts_len (c : UInt8) : ∀ (l : List UInt8), (parts c l).length ≤ l.length + 1
  | [] => by simp [parts]
  | x :: r => by
    have := parts_len c r
    unfold parts
    split
    · simp; exact this
    · split
      · simp
      · rename_i h; rw [h] at this; simp at this ⊢; omega
end Go.Proofs.YtajjikbigacbaaaGreatDoor
