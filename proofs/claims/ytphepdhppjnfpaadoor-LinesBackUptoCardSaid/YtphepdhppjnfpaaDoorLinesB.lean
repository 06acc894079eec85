import Derived.Test.YtphepdhppjnfpaaDoorLinesA
namespace Go.Proofs.YtphepdhppjnfpaaDoor
open Go.RowKit


/-- the error's number of a line: 0 if it may be, 10 else -/
def lineErr (n r : Int) (t : ByteArray) : Int := if 1 ≤ n ∧ n ≤ 4611686018427387904 ∧ 0 ≤ r ∧ r ≤ 4611686018427387904 ∧ isText t = true then 0 else 10

set_option maxHeartbeats 2000000 in
theorem check_any (lab n r : Int) (t : ByteArray) (w : World) (ht : t.size ≤ maxLen) :
    Calls Tryd.prog 11 #[.agg #[.int .u64 lab, .int .i64 n, .int .i64 r, .string t]] w fun e w' => e = .returned (.int .i64 (lineErr n r t)) ∧ Below w.heap.size w w' := by
  have HT := Lib.hid (text_any t)
  go_enter Tryd.func11, Tryd.ntmps11
  go_wp2_with (go_at_call 9; refine (HT.out _ ht).mono ?_; rintro e w' ⟨rfl, rfl⟩)
  all_goals
    go_ret
    refine ⟨retInt ?_, (Below.refl _ _).alloc (Nat.le_refl _) _⟩
    unfold lineErr
    split
    · first | rfl | (exfalso; simp_all; omega)
    · first | rfl | (exfalso; cases hx : isText t <;> simp_all <;> omega)

end Go.Proofs.YtphepdhppjnfpaaDoor
