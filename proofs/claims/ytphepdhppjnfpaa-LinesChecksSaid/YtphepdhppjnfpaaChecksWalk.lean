import Derived.Test.YtphepdhppjnfpaaLinesRef
import Derived.Deep.RegionHeld3
namespace Go.Proofs.Ytphepdhppjnfpaa
open Go.RowKit

theorem keepCell {w1 w2 : World} {b o : Nat} {v : Value} (hb : Below w1.heap.size w1 w2) (h : w1.cell? ⟨b, o, none⟩ = some v) : w2.cell? ⟨b, o, none⟩ = some v := by
  have := World.block_lt_of_cell? w1 _ h
  rw [hb.cell this]; exact h
theorem keepBelow {B : Nat} {w w1 w2 : World} (h : Below B w w1) (hb : Below w1.heap.size w1 w2) (hB : B ≤ w.heap.size) : Below B w w2 := h.trans (hb.mono (Nat.le_trans hB h.size))

set_option maxRecDepth 100000 in
set_option maxHeartbeats 8000000 in
theorem checks_walk (lab n r : Int) (t s : ByteArray) (w : World) (ht : t.size ≤ maxLen) (hs : s.size ≤ maxLen) :
    Calls Try.prog 3 #[.agg #[.int .u64 lab, .int .i64 n, .int .i64 r, .string t], .string s] w fun e w' => e = .returned (.bool true) ∧ Below w.heap.size w w' := by
  have b1 : (isText s == isText s) = true := by simp
  have b2 : (isName s == isName s) = true := by simp
  have b0 : (lineErr n r t == lineErr n r t) = true := by simp
  go_enter Try.func3, Try.ntmps3
  go_wp2_with fail
  have hB : Below w.heap.size w (w.alloc (.cells #[.int .u64 lab, .int .i64 n, .int .i64 r, .string t] 25)) := (Below.refl _ _).alloc (Nat.le_refl _) _
  go_region_held3 (fun w' => w'.cell? ⟨w.heap.size, 0, none⟩ = some (.int .u64 lab) ∧ w'.cell? ⟨w.heap.size, 1, none⟩ = some (.int .i64 n) ∧ w'.cell? ⟨w.heap.size, 2, none⟩ = some (.int .i64 r) ∧ w'.cell? ⟨w.heap.size, 3, none⟩ = some (.string t) ∧ Below w.heap.size w w')
    (first
      | (refine ⟨?_, ?_, ?_, ?_, ?_⟩ <;> first | (simp; done) | exact hB.drew)
      | (go_split_ands; refine ⟨?_, ?_, ?_, ?_, ?_⟩ <;> first | assumption | exact keepCell hb1 (by assumption) | exact keepBelow (by assumption) hb1 (Nat.le_refl _)))
    (first
      | (go_at_call 5; refine (check_any _ _ _ _ _ ht).mono ?_; rintro e w1 ⟨rfl, hb1⟩)
      | (go_at_call 6; refine (refCheck_any _ _ _ _ _ ht).mono ?_; rintro e w1 ⟨rfl, hb1⟩)
      | (go_at_call 7; refine (text_any _ _ hs).mono ?_; rintro e w1 ⟨rfl, rfl⟩)
      | (go_at_call 8; refine (refText_any _ _ hs).mono ?_; rintro e w1 ⟨rfl, rfl⟩)
      | (go_at_call 9; refine (name_any _ _ hs).mono ?_; rintro e w1 ⟨rfl, hb1⟩)
      | (go_at_call 10; refine (refName_any _ _ hs).mono ?_; rintro e w1 ⟨rfl, rfl⟩))
  go_wp2
  go_ret
  exact ⟨rfl, by go_split_ands; assumption⟩
end Go.Proofs.Ytphepdhppjnfpaa
