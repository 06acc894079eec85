/- A row that lists de Bruijn's table gives the contracts what they ask. -/
import Derived.Test.YtajjikbigacbaaaDoorTz
import Derived.LaidSub
namespace Go.Proofs.YtajjikbigacbaaaDoor
theorem deb_of {l : List (String × DataW Unit)} {W : World} (hl : l.filter (fun p => p.1 == "math/bits.deBruijn64tab") = [("math/bits.deBruijn64tab", Lib.tabData .u8 debTab)]) (hL : laidMetH Tryd.prog l W) : Deb W := by
  have h := laidMetH.filter (fun p => p.1 == "math/bits.deBruijn64tab") hL
  rw [hl] at h
  exact Lib.tabIs_of_head (rest := []) (g := 3) (by kernel_rfl) (by kernel_rfl) Tryd.underlying115 Tryd.underlying5 (by kernel_rfl) (by kernel_rfl) h
end Go.Proofs.YtajjikbigacbaaaDoor
