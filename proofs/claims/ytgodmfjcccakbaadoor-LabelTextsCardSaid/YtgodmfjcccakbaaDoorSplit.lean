/- Own work: strings.SplitSeq at a separator of one byte. -/
import Derived.Test.YtgodmfjcccakbaaDoorSplitIt
import Derived.Test.YtgodmfjcccakbaaDoorNewCells
namespace Go.Proofs.YtgodmfjcccakbaaDoor
open Go.RowKit

/-- the closure over three new boxes: the text, the separator, nothing saved of it -/
def SplitPost (w : World) (s : ByteArray) (c : UInt8) (e : Ending) (w' : World) : Prop :=
  e = .returned (.func (.func 37) #[] #[.pointer (some ⟨w.heap.size + 1, 0, none⟩), .pointer (some ⟨w.heap.size, 0, none⟩), .pointer (some ⟨w.heap.size + 2, 0, none⟩)]) ∧
  w'.heap.size = w.heap.size + 3 ∧ Below w.heap.size w w' ∧ Boxed w' w.heap.size 9 (.string s) ∧ Boxed w' (w.heap.size + 1) 9 (.string ⟨#[c]⟩) ∧ Boxed w' (w.heap.size + 2) 3 (.int .i64 0)

set_option maxRecDepth 100000 in
set_option maxHeartbeats 2000000 in
theorem splitSeq_boxes (s : ByteArray) (c : UInt8) (w : World) : Calls Tryd.prog 29 #[.string s, .string ⟨#[c]⟩, .int .i64 0] w (SplitPost w s c) := by
  go_enter Tryd.func29, Tryd.ntmps29
  go_wp2_with fail
  go_ret
  obtain ⟨h1, h2, h3, h4, h5⟩ := three_cells w (.string s) (.string ⟨#[c]⟩) (.int .i64 0) 9 9 3
  exact ⟨rfl, h1, h2, h3, h4, h5⟩

set_option maxRecDepth 100000 in
set_option maxHeartbeats 2000000 in
theorem split_any (s : ByteArray) (c : UInt8) (w : World) : Calls Tryd.prog 15 #[.string s, .string ⟨#[c]⟩] w (SplitPost w s c) := by
  go_enter Tryd.func15, Tryd.ntmps15
  go_wp2_with fail
  refine (splitSeq_boxes s c w).mono ?_
  rintro e w' ⟨rfl, h1, h2, h3, h4, h5⟩
  go_wp2_with fail
  go_ret
  exact ⟨rfl, h1, h2, h3, h4, h5⟩
end Go.Proofs.YtgodmfjcccakbaaDoor
