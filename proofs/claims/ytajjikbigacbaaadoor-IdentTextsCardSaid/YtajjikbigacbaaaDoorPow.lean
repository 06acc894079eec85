/- A row that lists the powers of ten gives the number's contracts what they ask. -/
import Derived.Test.YtajjikbigacbaaaDoorNumE
import Derived.LaidSub
namespace Go.Proofs.YtajjikbigacbaaaDoor
theorem pow_of {l : List (String × DataW Unit)} {W : World} (hl : l.filter (fun p => p.1 == "internal/strconv.uint64pow10") = [("internal/strconv.uint64pow10", Lib.tabData .u64 Lib.pow10Tab)]) (hL : laidMetH Tryd.prog l W) : Pow W := by
  have h := laidMetH.filter (fun p => p.1 == "internal/strconv.uint64pow10") hL
  rw [hl] at h
  exact Lib.tabIs_of_head (rest := []) (g := 4) (by kernel_rfl) (by kernel_rfl) Tryd.underlying132 Tryd.underlying22 (by kernel_rfl) (by kernel_rfl) h
end Go.Proofs.YtajjikbigacbaaaDoor
