import Derived.Test.YtgchcgllpceghaaLabMath
import Derived.Test.YtgchcgllpceghaaLabBase
namespace Go.Proofs.Ytgchcgllpceghaa
open Go.RowKit

theorem cast_zero (n : Nat) : ((n : Int) == 0) = (n == 0) := by
  rw [Bool.eq_iff_iff, beq_iff_eq, beq_iff_eq]; omega

set_option maxHeartbeats 1000000 in
theorem less_any (a b : Nat) (w : World) (ha : a < 18446744073709551616) (hb : b < 18446744073709551616) :
    Calls Try.prog 57 #[.int .u64 a, .int .u64 b] w fun e w' => e = .returned (.int .u64 (lessN a b : Nat)) ∧ w = w' := by
  have H := Lib.hid (bits_andNot_u64_nat a b ha hb)
  go_enter Try.func57, Try.ntmps57
  go_wp2
  go_ret
  exact ⟨retInt H.out, rfl⟩

set_option maxHeartbeats 1000000 in
theorem below_any (a b : Nat) (w : World) (ha : a < 18446744073709551616) (hb : b < 18446744073709551616) :
    Calls Try.prog 45 #[.int .u64 a, .int .u64 b] w fun e w' => e = .returned (.bool (belowN a b)) ∧ w = w' := by
  go_enter Try.func45, Try.ntmps45
  go_wp2_with fail
  refine (less_any a b _ ha hb).mono ?_
  rintro e w' ⟨rfl, rfl⟩
  go_wp2_with fail
  go_ret
  exact ⟨retBool (cast_zero _), rfl⟩



end Go.Proofs.Ytgchcgllpceghaa
