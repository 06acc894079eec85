/- A row that lists de Bruijn's table gives the contracts what they ask. -/
import Derived.Test.YtgodmfjcccakbaaGreatDoorTz
import Derived.LaidSub
namespace Go.Proofs.YtgodmfjcccakbaaGreatDoor
theorem deb_of {l : List (String × DataW Unit)} {W : World} (hl : l.filter (fun p => p.1 == "math/bits.deBruijn64tab") = [("math/bits.deBruijn64tab", Lib.tabData .u8 debTab)]) (hL : laidMetH Tryz.prog l W) : Deb W := by
  have h := laidMetH.filter (fun p => p.1 == "math/bits.deBruijn64tab") hL
  rw [hl] at h
  exact Lib.tabIs_of_head (rest := []) (g := 0) (by kernel_rfl) (by kernel_rfl) Tryz.underlying140 Tryz.underlying5 (by kernel_rfl) (by kernel_rfl) h
end Go.Proofs.YtgodmfjcccakbaaGreatDoor
