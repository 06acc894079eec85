/- A world for the witness: the settled one, the listed tables holding what the program's text lays. -/
import Derived.Test.YtlmdcflnifmjjaaDoorRows
import Derived.Lib.LaidTab
namespace Go.Proofs.YtlmdcflnifmjjaaDoor.Tables

/-- the cells of a table of integers, or of structs of them -/
def lits : DataW Unit → List Value
  | .lit (.int k z) => [.int k z]
  | .agg ps => ps.flatMap fun
    | .lit (.int k z) => [.int k z]
    | .agg qs => qs.flatMap fun
      | .lit (.int k z) => [.int k z]
      | _ => []
    | _ => []
  | _ => []
def lay (h : Array Obj) (g : Nat) (d : DataW Unit) : Array Obj :=
  h.modify g fun
    | .cells _ t frozen => .cells (lits d).toArray t frozen
    | o => o
noncomputable def laidWorld (os : Os) : World :=
  let w := World.holding Tryd.prog os ⟨#[], #[], []⟩
  { w with heap := ([(0, Rows.laid_math_bits_deBruijn64tab), (7, Rows.laid_math_bits_deBruijn32tab), (6, Rows.laid_internal_strconv_uint64pow10), (2, Rows.laid_unicode_utf8_acceptRanges), (1, Rows.laid_unicode_utf8_first)] : List (Nat × DataW Unit)).foldl (fun h p => lay h p.1 p.2) w.heap }
end Go.Proofs.YtlmdcflnifmjjaaDoor.Tables
