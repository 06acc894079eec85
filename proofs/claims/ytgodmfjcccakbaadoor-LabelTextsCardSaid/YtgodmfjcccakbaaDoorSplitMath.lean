/- Own work: a text cut at each byte c, and how the first such byte takes off the first part. -/
import Derived.Lib.IndexLaws
namespace Go.Proofs.YtgodmfjcccakbaaDoor
open Go

/-- the parts of a text between the bytes c: one more than there are such bytes -/
def parts (c : UInt8) : List UInt8 → List (List UInt8)
  | [] => [[]]
  | x :: r => if x = c then [] :: parts c r else match parts c r with | [] => [[x]] | p :: ps => (x :: p) :: ps

theorem parts_ne (c : UInt8) (l : List UInt8) : parts c l ≠ [] := by
  cases l with
  | nil => simp [parts]
  | cons x r =>
    unfold parts
    split
    · simp
    · split <;> simp
theorem parts_run (c : UInt8) : ∀ (a r : List UInt8), (∀ k : Nat, a[k]? ≠ some c) → parts c (a ++ c :: r) = a :: parts c r
  | [], r, _ => by simp [parts]
  | x :: a, r, h => by
    have hx : ¬ x = c := fun e => h 0 (by simp [e])
    rw [List.cons_append, parts, if_neg hx, parts_run c a r (fun k => by simpa using h (k + 1))]
theorem parts_last (c : UInt8) : ∀ (a : List UInt8), (∀ k : Nat, a[k]? ≠ some c) → parts c a = [a]
  | [], _ => rfl
  | x :: a, h => by
    have hx : ¬ x = c := fun e => h 0 (by simp [e])
    rw [parts, if_neg hx, parts_last c a (fun k => by simpa using h (k + 1))]

theorem parts_miss {c : UInt8} {l : List UInt8} (h : Lib.indexByte l c = -1) : parts c l = [l] := parts_last c l (Lib.indexByte_none h)
theorem parts_hit {c : UInt8} {l : List UInt8} {i : Nat} (h : Lib.indexByte l c = i) : i < l.length ∧ parts c l = l.take i :: parts c (l.drop (i + 1)) := by
  obtain ⟨h1, h2⟩ := Lib.indexByte_some h
  have hil : i < l.length := (List.getElem?_eq_some_iff.1 h1).1
  refine ⟨hil, ?_⟩
  have hs : l = l.take i ++ c :: l.drop (i + 1) := by
    conv => lhs; rw [← List.take_append_drop i l]
    rw [List.drop_eq_getElem_cons hil]
    congr 2
    rw [List.getElem?_eq_getElem hil] at h1
    exact Option.some.inj h1
  conv => lhs; rw [hs]
  refine parts_run c _ _ fun k hk => ?_
  rw [List.getElem?_take] at hk
  split at hk
  · exact h2 k (by assumption) hk
  · cases hk
theorem parts_len (c : UInt8) : ∀ (l : List UInt8), (parts c l).length ≤ l.length + 1
  | [] => by simp [parts]
  | x :: r => by
    have := parts_len c r
    unfold parts
    split
    · simp; exact this
    · split
      · simp
      · rename_i h; rw [h] at this; simp at this ⊢; omega
end Go.Proofs.YtgodmfjcccakbaaDoor
