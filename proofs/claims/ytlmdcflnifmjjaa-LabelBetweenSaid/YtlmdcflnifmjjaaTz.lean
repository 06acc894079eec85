import Derived.Test.YtlmdcflnifmjjaaLabA
import Derived.Test.YtlmdcflnifmjjaaVec
import Derived.Lib.LaidTab
namespace Go.Proofs.Ytlmdcflnifmjjaa
open Go.RowKit


theorem wrap_u64_of (n : Int) : IntKind.u64.wrap n = n % 18446744073709551616 := by simp [IntKind.wrap, IntKind.bits, IntKind.signed]



theorem Try.info3 : (Try.prog.info? 3).map (fun i => (i.zero, i.size, i.bytes)) = some (some (.int .i64 0), 1, 8) := by kernel_rfl
/-- one cell behind an address -/
theorem one_cell (w : World) (v : Value) (t : TypeId) : ∀ (i : Nat) (u : Value), [v][i]? = some u → (w.alloc (.cells #[v] t)).cell? ((⟨w.heap.size, 0, none⟩ : Addr).add i) = some u := by
  intro i u hu
  match i, hu with
  | 0, hu =>
    simp at hu
    subst hu
    rw [show (⟨w.heap.size, 0, none⟩ : Addr).add 0 = ⟨w.heap.size, 0, none⟩ by simp [Addr.add], cell_of_row _ _ _ _ _ _ (heap_alloc_new w _)]
    rfl
  | i + 1, hu => simp at hu
theorem one_list (v : Value) (h : v.oneCell' = true) : ∀ x ∈ [v], x.oneCell' = true := by
  intro x hx
  rw [List.mem_singleton] at hx
  rw [hx]; exact h
/-- compartments as numbers -/
def intsOf (l : List Nat) : List Int := l.map fun n : Nat => (n : Int)
theorem intsOf_len (l : List Nat) : (intsOf l).length = l.length := by simp [intsOf]
theorem intsOf_snoc (l : List Nat) (n : Nat) : intsOf (l ++ [n]) = intsOf l ++ [(n : Int)] := by simp [intsOf]
theorem less_low {x t : Nat} (h0 : x ≠ 0) (hx : x < 18446744073709551616) (ht : ∀ j, (x &&& (x - 1)).testBit j = (x.testBit j && decide (j ≠ t))) : lessN x (2 ^ t) = x &&& (x - 1) := by
  apply word_ext (lessN_lt x _ hx) (by have := and_pred_lt h0; omega)
  intro j _
  rw [ht j, lessN_bit, Nat.testBit_two_pow]
  by_cases e : t = j
  · simp [e]
  · have e2 : ¬ j = t := fun e' => e e'.symm
    simp [e, e2]
theorem shl_one (c : Nat) (h : c < 64) : IntKind.u64.wrap ((2 : Int) ^ c) = ((2 ^ c : Nat) : Int) := by
  have h2 : 2 ^ c < 2 ^ 64 := Nat.pow_lt_pow_right (by decide) h
  have e : ((2 : Int) ^ c) = ((2 ^ c : Nat) : Int) := by simp
  rw [wrap_u64_of, e]
  generalize 2 ^ c = q at *
  omega

end Go.Proofs.Ytlmdcflnifmjjaa
