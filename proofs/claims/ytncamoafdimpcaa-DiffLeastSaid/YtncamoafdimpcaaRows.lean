/-
  No cell of these rows narrows 'for every input' (looked for: loops, veiled, ifaces, maps, wideKeys, modest, calm, conditions, laid).
  DERIVED. THE GIVEN ROWS OF THIS SEAT. 6 by the template 'for every input the law returns true; each argument reads behind the call as it read before'; 0 by the template 'total and deterministic' (their statements: YtncamoafdimpcaaTotals.lean).
  GIVEN WITH THE SEED: the statements are not yours to turn. If you find one false, say at which input.
  Laid BY PROGRAM, IN A SANDBOX (cutbox-rows.mjs): the forced cells as the released guide's own fill.sh prints them over the translation 598c992ad5f6384e… (all of the seat's roots in one cut). By AI agents, Wed Nov 11 2026. No macro, syntax, notation, axiom, sorry.
-/
import Derived.Test.YtncamoafdimpcaaChecked
import GoSem.Claim
import GoSem.ClaimJoined
import GoSem.ClaimMapViews
import Derived.JoinedTies
import Derived.KernelRfl
namespace Go.Proofs.Ytncamoafdimpcaa
/- THE CELL 'sum', in the pinned program and in every row, IS THE sha256 OF THE DUMP (.gsa) THAT YtncamoafdimpcaaProg.lean LOADS. Nothing in Lean hashes anything: it is a label: what it is worth is what the hold of that sum in a sandbox is worth. -/
noncomputable def Try.pinned : Pinned := { name := "ytncamoafdimpcaa", sum := "598c992ad5f6384e9d8c1c0038444e470c11f2d3cb08f6f77b2c8bb7adefc42a", checked := Try.checked }
namespace Rows
def none {H : Type} : Left H := { results := [], args := [] }

/-- 'scrimlaw07.DiffNames': WHATEVER THE INPUT: true; the input reads as it did. -/
def diffNamesSpec : ChangeSpec := { name := "diffNames", fn := fun _ => fun
  | [] => { results := [.lit (.bool true)], args := [] }
  | _ => none }
def diffNamesRow : OpenClaim := { program := "ytncamoafdimpcaa", sum := "598c992ad5f6384e9d8c1c0038444e470c11f2d3cb08f6f77b2c8bb7adefc42a", func := "scrim/scrimlaw07.DiffNames", spec := "diffNames", unfollowed := true, recurses := true, apart := false }
def DiffNamesSaid : Prop := diffNamesRow.holds Try.pinned (OpenSpec.ofChange diffNamesSpec)

/-- ITS FALSE NEIGHBOUR: 'it returns false'. Refute it at one input. -/
def diffNamesWrong : ChangeSpec := { name := "diffNames", fn := fun _ => fun
  | [] => { results := [.lit (.bool false)], args := [] }
  | _ => none }
def DiffNamesWrongFalsely : Prop := diffNamesRow.holds Try.pinned (OpenSpec.ofChange diffNamesWrong)

/-- 'scrimlaw07.DiffLines': WHATEVER THE INPUT: true; the input reads as it did. -/
def diffLinesSpec : ChangeSpec := { name := "diffLines", fn := fun _ => fun
  | [d1, d2, d3] => { results := [.lit (.bool true)], args := [d1, d2, d3] }
  | _ => none }
def diffLinesRow : OpenClaim := { program := "ytncamoafdimpcaa", sum := "598c992ad5f6384e9d8c1c0038444e470c11f2d3cb08f6f77b2c8bb7adefc42a", func := "scrim/scrimlaw07.DiffLines", spec := "diffLines", unfollowed := true, recurses := true, apart := false }
def DiffLinesSaid : Prop := diffLinesRow.holds Try.pinned (OpenSpec.ofChange diffLinesSpec)

/-- ITS FALSE NEIGHBOUR: 'it returns false'. Refute it at one input. -/
def diffLinesWrong : ChangeSpec := { name := "diffLines", fn := fun _ => fun
  | [d1, d2, d3] => { results := [.lit (.bool false)], args := [d1, d2, d3] }
  | _ => none }
def DiffLinesWrongFalsely : Prop := diffLinesRow.holds Try.pinned (OpenSpec.ofChange diffLinesWrong)

/-- 'scrimlaw07.DiffSizes': WHATEVER THE INPUT: true; the input reads as it did. -/
def diffSizesSpec : ChangeSpec := { name := "diffSizes", fn := fun _ => fun
  | [d] => { results := [.lit (.bool true)], args := [d] }
  | _ => none }
def diffSizesRow : OpenClaim := { program := "ytncamoafdimpcaa", sum := "598c992ad5f6384e9d8c1c0038444e470c11f2d3cb08f6f77b2c8bb7adefc42a", func := "scrim/scrimlaw07.DiffSizes", spec := "diffSizes", apart := false }
def DiffSizesSaid : Prop := diffSizesRow.holds Try.pinned (OpenSpec.ofChange diffSizesSpec)

/-- ITS FALSE NEIGHBOUR: 'it returns false'. Refute it at one input. -/
def diffSizesWrong : ChangeSpec := { name := "diffSizes", fn := fun _ => fun
  | [d] => { results := [.lit (.bool false)], args := [d] }
  | _ => none }
def DiffSizesWrongFalsely : Prop := diffSizesRow.holds Try.pinned (OpenSpec.ofChange diffSizesWrong)

/-- 'scrimlaw07.DiffFits': WHATEVER THE INPUT: true; the input reads as it did. -/
def diffFitsSpec : ChangeSpec := { name := "diffFits", fn := fun _ => fun
  | [d1, d2] => { results := [.lit (.bool true)], args := [d1, d2] }
  | _ => none }
def diffFitsRow : OpenClaim := { program := "ytncamoafdimpcaa", sum := "598c992ad5f6384e9d8c1c0038444e470c11f2d3cb08f6f77b2c8bb7adefc42a", func := "scrim/scrimlaw07.DiffFits", spec := "diffFits", unfollowed := true, recurses := true, apart := false }
def DiffFitsSaid : Prop := diffFitsRow.holds Try.pinned (OpenSpec.ofChange diffFitsSpec)

/-- ITS FALSE NEIGHBOUR: 'it returns false'. Refute it at one input. -/
def diffFitsWrong : ChangeSpec := { name := "diffFits", fn := fun _ => fun
  | [d1, d2] => { results := [.lit (.bool false)], args := [d1, d2] }
  | _ => none }
def DiffFitsWrongFalsely : Prop := diffFitsRow.holds Try.pinned (OpenSpec.ofChange diffFitsWrong)

/-- 'scrimlaw07.DiffLeast': WHATEVER THE INPUT: true; the input reads as it did. -/
def diffLeastSpec : ChangeSpec := { name := "diffLeast", fn := fun _ => fun
  | [d1, d2, d3] => { results := [.lit (.bool true)], args := [d1, d2, d3] }
  | _ => none }
def diffLeastRow : OpenClaim := { program := "ytncamoafdimpcaa", sum := "598c992ad5f6384e9d8c1c0038444e470c11f2d3cb08f6f77b2c8bb7adefc42a", func := "scrim/scrimlaw07.DiffLeast", spec := "diffLeast", unfollowed := true, recurses := true, apart := false }
def DiffLeastSaid : Prop := diffLeastRow.holds Try.pinned (OpenSpec.ofChange diffLeastSpec)

/-- ITS FALSE NEIGHBOUR: 'it returns false'. Refute it at one input. -/
def diffLeastWrong : ChangeSpec := { name := "diffLeast", fn := fun _ => fun
  | [d1, d2, d3] => { results := [.lit (.bool false)], args := [d1, d2, d3] }
  | _ => none }
def DiffLeastWrongFalsely : Prop := diffLeastRow.holds Try.pinned (OpenSpec.ofChange diffLeastWrong)

/-- 'scrimlaw07.DiffNamesApart': WHATEVER THE INPUT: true; the input reads as it did. -/
def diffNamesApartSpec : ChangeSpec := { name := "diffNamesApart", fn := fun _ => fun
  | [d1, d2, d3] => { results := [.lit (.bool true)], args := [d1, d2, d3] }
  | _ => none }
def diffNamesApartRow : OpenClaim := { program := "ytncamoafdimpcaa", sum := "598c992ad5f6384e9d8c1c0038444e470c11f2d3cb08f6f77b2c8bb7adefc42a", func := "scrim/scrimlaw07.DiffNamesApart", spec := "diffNamesApart", unfollowed := true, recurses := true, apart := false }
def DiffNamesApartSaid : Prop := diffNamesApartRow.holds Try.pinned (OpenSpec.ofChange diffNamesApartSpec)

/-- ITS FALSE NEIGHBOUR: 'it returns false'. Refute it at one input. -/
def diffNamesApartWrong : ChangeSpec := { name := "diffNamesApart", fn := fun _ => fun
  | [d1, d2, d3] => { results := [.lit (.bool false)], args := [d1, d2, d3] }
  | _ => none }
def DiffNamesApartWrongFalsely : Prop := diffNamesApartRow.holds Try.pinned (OpenSpec.ofChange diffNamesApartWrong)

/- THE SECOND FORM. 'bulk': how many values and letters a reading holds, each counted each time it is reached (what is shared counts as often as it is met; a slice's spare places count too). A statement '..UptoSaid' is the law's where the arguments, and the package variables that the reading takes, are together of bulk at most 1048576: NARROWER than '..Said'. Prove '..Said' where nothing that the law and all that it calls make is longer than what came in: it says more and counts as full. Else prove '..UptoSaid'. A law counts once. -/
mutual
def uptoBulk {H : Type} : DataW H → Nat
  | .lit (.string bytes) => bytes.length + 1
  | .lit _ => 1
  | .nil => 1
  | .ptr d => uptoBulk d + 1
  | .slice elems spare => uptoBulkAll elems + uptoBulkAll spare + 1
  | .agg parts => uptoBulkAll parts + 1
  | .iface _ d => uptoBulk d + 1
  | .map entries => uptoBulkEntries entries + 1
  | .held _ => 1
def uptoBulkAll {H : Type} : List (DataW H) → Nat
  | [] => 0
  | d :: r => uptoBulk d + uptoBulkAll r
def uptoBulkEntries {H : Type} : List (Lit × DataW H) → Nat
  | [] => 0
  | x :: r => uptoBulkEntry x + uptoBulkEntries r
def uptoBulkEntry {H : Type} : Lit × DataW H → Nat
  | (.string bytes, d) => bytes.length + uptoBulk d + 1
  | (_, d) => uptoBulk d + 1
 end
def uptoSmall : (H : Type) → List (DataW H) → Bool := fun _ ds => decide (uptoBulkAll ds ≤ 1048576)
def OpenSpec.upto (s : _root_.Go.ChangeSpec) : _root_.Go.OpenSpec := { _root_.Go.OpenSpec.ofChange s with cond := some uptoSmall }

/-- 'scrimlaw07.DiffNames', WHERE WHAT IT READS IS OF BULK AT MOST 1048576: true; the input reads as it did. -/
def diffNamesUptoRow : OpenClaim := { program := "ytncamoafdimpcaa", sum := "598c992ad5f6384e9d8c1c0038444e470c11f2d3cb08f6f77b2c8bb7adefc42a", func := "scrim/scrimlaw07.DiffNames", spec := "diffNames", unfollowed := true, recurses := true, apart := false, narrowed := true }
def DiffNamesUptoSaid : Prop := diffNamesUptoRow.holds Try.pinned (OpenSpec.upto diffNamesSpec)

/-- 'scrimlaw07.DiffLines', WHERE WHAT IT READS IS OF BULK AT MOST 1048576: true; the input reads as it did. -/
def diffLinesUptoRow : OpenClaim := { program := "ytncamoafdimpcaa", sum := "598c992ad5f6384e9d8c1c0038444e470c11f2d3cb08f6f77b2c8bb7adefc42a", func := "scrim/scrimlaw07.DiffLines", spec := "diffLines", unfollowed := true, recurses := true, apart := false, narrowed := true }
def DiffLinesUptoSaid : Prop := diffLinesUptoRow.holds Try.pinned (OpenSpec.upto diffLinesSpec)

/-- 'scrimlaw07.DiffSizes', WHERE WHAT IT READS IS OF BULK AT MOST 1048576: true; the input reads as it did. -/
def diffSizesUptoRow : OpenClaim := { program := "ytncamoafdimpcaa", sum := "598c992ad5f6384e9d8c1c0038444e470c11f2d3cb08f6f77b2c8bb7adefc42a", func := "scrim/scrimlaw07.DiffSizes", spec := "diffSizes", apart := false, narrowed := true }
def DiffSizesUptoSaid : Prop := diffSizesUptoRow.holds Try.pinned (OpenSpec.upto diffSizesSpec)

/-- 'scrimlaw07.DiffFits', WHERE WHAT IT READS IS OF BULK AT MOST 1048576: true; the input reads as it did. -/
def diffFitsUptoRow : OpenClaim := { program := "ytncamoafdimpcaa", sum := "598c992ad5f6384e9d8c1c0038444e470c11f2d3cb08f6f77b2c8bb7adefc42a", func := "scrim/scrimlaw07.DiffFits", spec := "diffFits", unfollowed := true, recurses := true, apart := false, narrowed := true }
def DiffFitsUptoSaid : Prop := diffFitsUptoRow.holds Try.pinned (OpenSpec.upto diffFitsSpec)

/-- 'scrimlaw07.DiffLeast', WHERE WHAT IT READS IS OF BULK AT MOST 1048576: true; the input reads as it did. -/
def diffLeastUptoRow : OpenClaim := { program := "ytncamoafdimpcaa", sum := "598c992ad5f6384e9d8c1c0038444e470c11f2d3cb08f6f77b2c8bb7adefc42a", func := "scrim/scrimlaw07.DiffLeast", spec := "diffLeast", unfollowed := true, recurses := true, apart := false, narrowed := true }
def DiffLeastUptoSaid : Prop := diffLeastUptoRow.holds Try.pinned (OpenSpec.upto diffLeastSpec)

/-- 'scrimlaw07.DiffNamesApart', WHERE WHAT IT READS IS OF BULK AT MOST 1048576: true; the input reads as it did. -/
def diffNamesApartUptoRow : OpenClaim := { program := "ytncamoafdimpcaa", sum := "598c992ad5f6384e9d8c1c0038444e470c11f2d3cb08f6f77b2c8bb7adefc42a", func := "scrim/scrimlaw07.DiffNamesApart", spec := "diffNamesApart", unfollowed := true, recurses := true, apart := false, narrowed := true }
def DiffNamesApartUptoSaid : Prop := diffNamesApartUptoRow.holds Try.pinned (OpenSpec.upto diffNamesApartSpec)

end Rows
end Go.Proofs.Ytncamoafdimpcaa
