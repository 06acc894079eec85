/- Own work: scrimlaw06.awake, and what its statements of ViewLess, ViewNothing and ViewPut ask first. -/
import Derived.Test.YtgchcgllpceghaaSeeRefs
namespace Go.Proofs.Ytgchcgllpceghaa
open Go.RowKit

/-- lines in a block that holds them alone -/
theorem lns_block {w : World} {b cap : Nat} {row : Array Value} {t : TypeId} {ls : List LineV} (h : w.heap[b]? = some (.cells row t (0, 0))) (he : row.toList = flatL ls) (h0 : 0 < ls.length) (hc : ls.length ≤ cap) (hm : cap ≤ maxLen) :
    Lns w (.slice (some ⟨b, 0, none⟩) ls.length cap) ls := by
  refine .inr ⟨b, 0, cap, rfl, h0, hc, hm, fun i hi => ?_⟩
  obtain ⟨f0, f1, f2, f3⟩ := flatL_get ls i hi
  rw [← he] at f0 f1 f2 f3
  simp only [Nat.zero_add]
  exact ⟨cell_row _ _ _ _ _ _ h (by simpa using f0), cell_row _ _ _ _ _ _ h (by simpa using f1), cell_row _ _ _ _ _ _ h (by simpa using f2), cell_row _ _ _ _ _ _ h (by simpa using f3)⟩
def awL : List LineV := [⟨2, 1, 0, ⟨#[]⟩⟩, ⟨4, 1, 0, ⟨#[]⟩⟩, ⟨0, 1, 0, ⟨#[]⟩⟩]
theorem awL_fine : ∀ x ∈ awL, x.fine := by
  intro x hx
  simp [awL] at hx
  rcases hx with rfl | rfl | rfl <;> simp [LineV.fine]
theorem awL_seen : awL.filter (LineV.seen 2) = [⟨2, 1, 0, ⟨#[]⟩⟩, ⟨0, 1, 0, ⟨#[]⟩⟩] := by
  have h1 : belowN 2 2 = true := by decide +kernel
  have h2 : belowN 4 2 = false := by decide +kernel
  have h3 : belowN 0 2 = true := by decide +kernel
  simp [awL, LineV.seen, h1, h2, h3]
theorem OwnL.lns {w : World} {B : Nat} {v : Value} {l : List LineV} (h : OwnL w B v l) : Lns w v l := Lns.of_own h
theorem OwnL.kept {w w' : World} {B : Nat} {v : Value} {l : List LineV} (h : OwnL w B v l) (hb : Below w.heap.size w w') : OwnL w' B v l := own_kept h hb

set_option maxRecDepth 100000 in
set_option maxHeartbeats 4000000 in
theorem awake06_any (w : World) : Calls Try.prog 32 #[] w fun e w' => e = .returned (.bool true) ∧ Below w.heap.size w w' := by
  have B0 := Lib.hid ((Below.refl w.heap.size w).alloc (Nat.le_refl _) (.cells #[.int .u64 2, .int .i64 1, .int .i64 0, .string ⟨#[]⟩, .int .u64 4, .int .i64 1, .int .i64 0, .string ⟨#[]⟩, .int .u64 0, .int .i64 1, .int .i64 0, .string ⟨#[]⟩] 26))
  have HL := Lib.hid (lns_block (cap := 3) (ls := awL) (heap_alloc_new w (.cells #[.int .u64 2, .int .i64 1, .int .i64 0, .string ⟨#[]⟩, .int .u64 4, .int .i64 1, .int .i64 0, .string ⟨#[]⟩, .int .u64 0, .int .i64 1, .int .i64 0, .string ⟨#[]⟩] 26)) rfl (by decide) (by decide) (by decide))
  have HF := Lib.hid awL_seen
  go_enter Try.func32, Try.ntmps32
  go_wp2_with fail
  refine (of_any _ awL 2 _ HL.out awL_fine (by decide) (by decide)).mono ?_
  rintro e w1 ⟨v, rfl, hv, hb⟩
  rw [HF.out] at hv
  have B1 := Lib.hid (below_join B0.out hb)
  obtain ⟨g, cap, rfl⟩ := Joins.ownsRow_form hv (by decide)
  have hc := fun i (hi : i < 8) => hv.cellAt i (by simpa using hi)
  have c0 := hc 0 (by decide)
  have c1 := hc 1 (by decide)
  have c2 := hc 2 (by decide)
  have c3 := hc 3 (by decide)
  have c4 := hc 4 (by decide)
  have c5 := hc 5 (by decide)
  have c6 := hc 6 (by decide)
  have c7 := hc 7 (by decide)
  simp [flatL, LineV.cells] at c0 c1 c2 c3 c4 c5 c6 c7
  clear hc hv hb
  go_wp2_with fail
  go_ret
  exact ⟨rfl, B1.out⟩
end Go.Proofs.Ytgchcgllpceghaa
