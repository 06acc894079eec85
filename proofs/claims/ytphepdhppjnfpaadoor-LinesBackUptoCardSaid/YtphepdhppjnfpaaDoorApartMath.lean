/- Plain facts: counted texts, one behind the other, are told apart. -/
import Derived.Test.YtphepdhppjnfpaaDoorBackMath
namespace Go.Proofs.YtphepdhppjnfpaaDoor.Num

/-- counted texts, one behind the other -/
def catL (ls : List (List UInt8)) : List UInt8 := ls.flatMap showL
theorem catL_cons (s : List UInt8) (ls : List (List UInt8)) : catL (s :: ls) = showL s ++ catL ls := rfl
theorem catL_snoc (ls : List (List UInt8)) (s : List UInt8) : catL (ls ++ [s]) = catL ls ++ showL s := by simp [catL]
theorem showL_ne (s r : List UInt8) : showL s ++ r ≠ [] := by simp [showL]
theorem catL_inj : ∀ (a b : List (List UInt8)), (∀ s ∈ a, s.length ≤ 9223372036854775807) → (∀ s ∈ b, s.length ≤ 9223372036854775807) → catL a = catL b → a = b := by
  intro a
  induction a with
  | nil =>
    intro b _ _ h
    cases b with
    | nil => rfl
    | cons s b => rw [catL_cons] at h; exact absurd h.symm (showL_ne _ _)
  | cons x a ih =>
    intro b ha hb h
    cases b with
    | nil => rw [catL_cons] at h; exact absurd h (showL_ne _ _)
    | cons y b =>
      rw [catL_cons, catL_cons] at h
      have h1 := shown_show x (catL a) (ha x (by simp))
      have h2 := shown_show y (catL b) (hb y (by simp))
      rw [h, h2] at h1
      simp only [Option.some.injEq, Prod.mk.injEq] at h1
      obtain ⟨rfl, h3⟩ := h1
      rw [ih b (fun s hs => ha s (by simp [hs])) (fun s hs => hb s (by simp [hs])) h3.symm]
theorem shown_nil : shownL [] = none := by decide
end Go.Proofs.YtphepdhppjnfpaaDoor.Num
