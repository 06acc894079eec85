/- Own work: slices.Sort at 64 labels that are all nought: it leaves them. -/
import Derived.Test.YtgchcgllpceghaaLabA
import Derived.Test.YtgchcgllpceghaaShelf
import Derived.Deep.RegionHeld3
namespace Go.Proofs.Ytgchcgllpceghaa
open Go.RowKit Go.Shelf

/-- 64 noughts lie behind the address -/
def Zeros (w : World) (g : Nat) : Prop := ∀ i : Nat, i < 64 → w.cell? ⟨g, i, none⟩ = some (.int .u64 0)
theorem Zeros.kept {w w' : World} {g : Nat} (h : Zeros w g) (hb : Below w.heap.size w w') : Zeros w' g := fun i hi => cell_kept hb (h i hi)

set_option maxHeartbeats 1000000 in
theorem nan_any (x : Int) (w : World) : Calls Try.prog 76 #[.int .u64 x] w fun e w' => e = .returned (.bool false) ∧ w = w' := by
  go_enter Try.func76, Try.ntmps76
  go_wp2
  go_ret
  exact ⟨retBool (by simp), rfl⟩
set_option maxHeartbeats 1000000 in
theorem lessZ_any (w : World) : Calls Try.prog 66 #[.int .u64 0, .int .u64 0] w fun e w' => e = .returned (.bool false) ∧ w = w' := by
  go_enter Try.func66, Try.ntmps66
  go_wp2_with fail
  refine (nan_any 0 _).mono ?_
  rintro e w' ⟨rfl, rfl⟩
  go_wp2_with fail
  go_ret
  exact ⟨rfl, rfl⟩

set_option maxHeartbeats 4000000 in
set_option maxRecDepth 100000 in
theorem order2_any (g a b cap : Nat) (p : Value) (w : World) (hz : Zeros w g) (ha : a < 64) (hb : b < 64) :
    Calls Try.prog 77 #[.slice (some ⟨g, 0, none⟩) 64 cap, .int .i64 a, .int .i64 b, p] w fun e w' => e = .returned (.tuple #[.int .i64 a, .int .i64 b]) ∧ Below w.heap.size w w' := by
  have ca := hz a ha
  have cb := hz b hb
  have h0 : (0 : Int) ≤ (a : Int) := by omega
  have h1 : (a : Int) < 64 := by omega
  have h2 : (0 : Int) ≤ (b : Int) := by omega
  have h3 : (b : Int) < 64 := by omega
  clear hz
  go_enter Try.func77, Try.ntmps77
  go_wp2_with fail
  go_region_held3 (fun w' => w'.cell? ⟨g, a, none⟩ = some (.int .u64 0) ∧ w'.cell? ⟨g, b, none⟩ = some (.int .u64 0) ∧ Below w.heap.size w w')
    (first
      | (go_split_ands; refine ⟨?_, ?_, ?_⟩ <;> first | assumption | exact (Below.refl _ _).drew | (simp; assumption)))
    (first
      | (go_at_call 66; refine (lessZ_any _).mono ?_; rintro e w1 ⟨rfl, rfl⟩))
  go_wp2_with fail
  go_ret2
  exact ⟨rfl, by go_split_ands; assumption⟩

set_option maxHeartbeats 4000000 in
set_option maxRecDepth 100000 in
theorem median_any (g a b c cap : Nat) (p : Value) (w : World) (hz : Zeros w g) (ha : a < 64) (hb : b < 64) (hc : c < 64) :
    Calls Try.prog 75 #[.slice (some ⟨g, 0, none⟩) 64 cap, .int .i64 a, .int .i64 b, .int .i64 c, p] w fun e w' => e = .returned (.int .i64 b) ∧ Below w.heap.size w w' := by
  have HZ := Lib.hid hz
  clear hz
  go_enter Try.func75, Try.ntmps75
  go_wp2_with fail
  refine (order2_any g a b cap p _ HZ.out ha hb).mono ?_
  rintro e w1 ⟨rfl, hb1⟩
  have B1 := Lib.hid hb1
  clear hb1
  go_wp2_with fail
  refine (order2_any g b c cap p _ (HZ.out.kept B1.out) hb hc).mono ?_
  rintro e w2 ⟨rfl, hb1⟩
  have B2 := Lib.hid (below_join B1.out hb1)
  clear hb1
  go_wp2_with fail
  refine (order2_any g a b cap p _ (HZ.out.kept B2.out) ha hb).mono ?_
  rintro e w3 ⟨rfl, hb1⟩
  have B3 := Lib.hid (below_join B2.out hb1)
  clear hb1
  go_wp2_with fail
  go_ret
  exact ⟨rfl, B3.out⟩

set_option maxHeartbeats 4000000 in
set_option maxRecDepth 100000 in
theorem adjacent_any (g a cap : Nat) (p : Value) (w : World) (hz : Zeros w g) (ha : 1 ≤ a) (hb : a < 63) :
    Calls Try.prog 74 #[.slice (some ⟨g, 0, none⟩) 64 cap, .int .i64 a, p] w fun e w' => e = .returned (.int .i64 a) ∧ Below w.heap.size w w' := by
  have HZ := Lib.hid hz
  have hw1 : IntKind.i64.wrap ((a : Int) - 1) = ((a - 1 : Nat) : Int) := by simp only [IntKind.wrap, IntKind.bits, IntKind.signed]; simp; omega
  have hw2 : IntKind.i64.wrap ((a : Int) + 1) = ((a + 1 : Nat) : Int) := by simp only [IntKind.wrap, IntKind.bits, IntKind.signed]; simp; omega
  clear hz
  go_enter Try.func74, Try.ntmps74
  go_wp2_with fail
  refine (median_any g (a - 1) a (a + 1) cap p _ HZ.out (by omega) (by omega) (by omega)).mono ?_
  rintro e w1 ⟨rfl, hb1⟩
  have B1 := Lib.hid hb1
  clear hb1
  go_wp2_with fail
  go_ret
  exact ⟨rfl, B1.out⟩
end Go.Proofs.Ytgchcgllpceghaa
