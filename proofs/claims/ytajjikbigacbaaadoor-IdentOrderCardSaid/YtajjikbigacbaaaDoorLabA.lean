import Derived.Test.YtajjikbigacbaaaDoorLabMath
import Derived.Test.YtajjikbigacbaaaDoorLabBase
namespace Go.Proofs.YtajjikbigacbaaaDoor
open Go.RowKit

theorem cast_zero (n : Nat) : ((n : Int) == 0) = (n == 0) := by
  rw [Bool.eq_iff_iff, beq_iff_eq, beq_iff_eq]; omega





end Go.Proofs.YtajjikbigacbaaaDoor
