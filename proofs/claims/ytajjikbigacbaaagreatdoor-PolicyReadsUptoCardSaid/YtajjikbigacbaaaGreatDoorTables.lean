/- A world for the witness: the settled one, the listed tables holding what the program's text lays; an error of errors.New's make in a block of its own. -/
import Derived.Test.YtajjikbigacbaaaGreatDoorRows
import Derived.Lib.LaidTab
import Derived.LaidLaws
namespace Go.Proofs.YtajjikbigacbaaaGreatDoor.Tables

/-- the cells of a table of integers, or of structs of them -/
def lits : DataW Unit → List Value
  | .lit (.int k z) => [.int k z]
  | .agg ps => ps.flatMap fun
    | .lit (.int k z) => [.int k z]
    | .agg qs => qs.flatMap fun
      | .lit (.int k z) => [.int k z]
      | _ => []
    | _ => []
  | _ => []
def lay (h : Array Obj) (g : Nat) (d : DataW Unit) : Array Obj :=
  h.modify g fun
    | .cells _ t frozen => .cells (lits d).toArray t frozen
    | o => o
/-- the variable points to the block b -/
def layErr (h : Array Obj) (g tp b : Nat) : Array Obj :=
  h.modify g fun
    | .cells _ t frozen => .cells #[.iface tp (.pointer (some ⟨b, 0, none⟩))] t frozen
    | o => o
noncomputable def low : Nat := (World.holding Tryz.prog default ⟨#[], #[], []⟩).heap.size
noncomputable def laidWorld (os : Os) : World :=
  let w := World.holding Tryz.prog os ⟨#[.cells #[.string ⟨#[118, 97, 108, 117, 101, 32, 111, 117, 116, 32, 111, 102, 32, 114, 97, 110, 103, 101]⟩] 259, .cells #[.string ⟨#[105, 110, 118, 97, 108, 105, 100, 32, 115, 121, 110, 116, 97, 120]⟩] 259], #[], []⟩
  { w with heap := (layErr (layErr (([(7, Rows.laid_math_bits_deBruijn32tab), (0, Rows.laid_math_bits_deBruijn64tab), (2, Rows.laid_internal_strconv_uint64pow10), (4, Rows.laid_unicode_utf8_acceptRanges), (3, Rows.laid_unicode_utf8_first)] : List (Nat × DataW Unit)).foldl (fun h p => lay h p.1 p.2) w.heap) 6 257 (low + 0)) 5 257 (low + 1)) }
end Go.Proofs.YtajjikbigacbaaaGreatDoor.Tables
