/- Own work: what a policy's closures say of a viewer. -/
import Derived.Test.YtajjikbigacbaaaGreatDoorTold
import Derived.Test.YtajjikbigacbaaaGreatDoorLabA
import Derived.Laws.ResultCell
import Derived.Deep.RegionWith
namespace Go.Proofs.YtajjikbigacbaaaGreatDoor
open Go.RowKit Go.Maps Go.Shelf

theorem two_newV (w : World) (x : ByteArray) (l : Int) (t : TypeId) : (w.alloc (.cells #[.string x, .int .u64 l] t)).cell? ⟨w.heap.size, 0, none⟩ = some (.string x) ∧ (w.alloc (.cells #[.string x, .int .u64 l] t)).cell? ⟨w.heap.size, 1, none⟩ = some (.int .u64 l) :=
  ⟨cell_of_row _ _ 0 _ _ _ (heap_alloc_new w _), cell_of_row _ _ 1 _ _ _ (heap_alloc_new w _)⟩

set_option maxHeartbeats 4000000 in
set_option maxRecDepth 100000 in
theorem below1_any (x : ByteArray) (l c A : Nat) (w : World) (hl : l < 18446744073709551616) (hc : c < 18446744073709551616) (hcell : w.cell? ⟨A, 0, none⟩ = some (.int .u64 (c : Int))) :
    Calls Tryz.prog 67 #[.agg #[.string x, .int .u64 (l : Int)], .pointer (some ⟨A, 0, none⟩)] w fun e w' => e = .returned (.tuple #[.string x, .bool (belowN l c)]) ∧ Below w.heap.size w w' := by
  obtain ⟨d0, d1⟩ := two_newV w x l 33
  have d2 := cell_kept ((Below.refl w.heap.size w).alloc (Nat.le_refl _) (.cells #[.string x, .int .u64 (l : Int)] 33)) hcell
  have hb := (Below.refl w.heap.size w).alloc (Nat.le_refl _) (.cells #[.string x, .int .u64 (l : Int)] 33)
  have HB := Lib.hid hb
  clear hb hcell
  go_enter Tryz.func67, Tryz.ntmps67
  go_wp2_with fail
  go_region_held3 (fun w' => w'.cell? ⟨w.heap.size, 0, none⟩ = some (.string x) ∧ w'.cell? ⟨w.heap.size, 1, none⟩ = some (.int .u64 (l : Int)) ∧ w'.cell? ⟨A, 0, none⟩ = some (.int .u64 (c : Int)) ∧ Below w.heap.size w w')
    (first
      | (go_split_ands; refine ⟨?_, ?_, ?_, ?_⟩ <;> first | assumption | exact HB.out.drew | (simp; assumption)))
    (first
      | (go_at_call 49; refine (below_any l c _ hl hc).mono ?_; rintro e w1 ⟨rfl, rfl⟩))
  go_wp2_with fail
  go_ret2
  exact ⟨rfl, by go_split_ands; assumption⟩
set_option maxHeartbeats 4000000 in
set_option maxRecDepth 100000 in
theorem above1_any (x : ByteArray) (l c A : Nat) (w : World) (hl : l < 18446744073709551616) (hc : c < 18446744073709551616) (hcell : w.cell? ⟨A, 0, none⟩ = some (.int .u64 (c : Int))) :
    Calls Tryz.prog 102 #[.agg #[.string x, .int .u64 (l : Int)], .pointer (some ⟨A, 0, none⟩)] w fun e w' => e = .returned (.tuple #[.string x, .bool (belowN c l)]) ∧ Below w.heap.size w w' := by
  obtain ⟨d0, d1⟩ := two_newV w x l 33
  have d2 := cell_kept ((Below.refl w.heap.size w).alloc (Nat.le_refl _) (.cells #[.string x, .int .u64 (l : Int)] 33)) hcell
  have hb := (Below.refl w.heap.size w).alloc (Nat.le_refl _) (.cells #[.string x, .int .u64 (l : Int)] 33)
  have HB := Lib.hid hb
  clear hb hcell
  go_enter Tryz.func102, Tryz.ntmps102
  go_wp2_with fail
  go_region_held3 (fun w' => w'.cell? ⟨w.heap.size, 0, none⟩ = some (.string x) ∧ w'.cell? ⟨w.heap.size, 1, none⟩ = some (.int .u64 (l : Int)) ∧ w'.cell? ⟨A, 0, none⟩ = some (.int .u64 (c : Int)) ∧ Below w.heap.size w w')
    (first
      | (go_split_ands; refine ⟨?_, ?_, ?_, ?_⟩ <;> first | assumption | exact HB.out.drew | (simp; assumption)))
    (first
      | (go_at_call 49; refine (below_any c l _ hc hl).mono ?_; rintro e w1 ⟨rfl, rfl⟩))
  go_wp2_with fail
  go_ret2
  exact ⟨rfl, by go_split_ands; assumption⟩

set_option maxHeartbeats 4000000 in
set_option maxRecDepth 100000 in
theorem viewers1_any (x : ByteArray) (l : Nat) (w : World) :
    Calls Tryz.prog 61 #[.agg #[.string x, .int .u64 (l : Int)]] w fun e w' => e = .returned (.tuple #[.agg #[.string x, .int .u64 (l : Int)], .bool true]) ∧ Below w.heap.size w w' := by
  go_enter Tryz.func61, Tryz.ntmps61
  go_wp2_with fail
  (try simp only [Exit.inBlock, Exit.then])
  refine bodyPost_ret (v := .tuple #[.agg #[.string x, .int .u64 (l : Int)], .bool true]) ?_ rfl ?_
  · rw [results_cell_tmp rfl]
    go_simp
  · exact ⟨rfl, ((Below.refl _ _).alloc (Nat.le_refl _) _).alloc (by simp) _⟩

set_option maxHeartbeats 4000000 in
set_option maxRecDepth 100000 in
theorem clear1_any (x : ByteArray) (l : Nat) (w : World) :
    Calls Tryz.prog 63 #[.agg #[.string x, .int .u64 (l : Int)]] w fun e w' => e = .returned (.tuple #[.int .u64 (l : Int), .bool true]) ∧ Below w.heap.size w w' := by
  go_enter Tryz.func63, Tryz.ntmps63
  go_wp2_with fail
  go_ret2
  exact ⟨rfl, (Below.refl _ _).alloc (Nat.le_refl _) _⟩

set_option maxHeartbeats 8000000 in
set_option maxRecDepth 100000 in
theorem erase1_any (x : ByteArray) (l c A : Nat) (w : World) (hl : l < 18446744073709551616) (hc : c < 18446744073709551616) (hcell : w.cell? ⟨A, 0, none⟩ = some (.int .u64 (c : Int))) :
    Calls Tryz.prog 48 #[.agg #[.string x, .int .u64 (l : Int)], .pointer (some ⟨A, 0, none⟩)] w fun e w' => e = .returned (.tuple #[.agg #[.string x, .int .u64 (l : Int)], .bool (belowN l c)]) ∧ Below w.heap.size w w' := by
  have hA : A < w.heap.size := World.block_lt_of_cell? w _ hcell
  go_enter Tryz.func48, Tryz.ntmps48
  go_wp2_with fail
  go_region_with (go_at_call 49; refine (below_any l c _ hl hc).mono ?_; rintro e w1 ⟨rfl, rfl⟩)
  all_goals
    go_wp2_with fail
    (try simp only [Exit.inBlock, Exit.then])
    refine bodyPost_ret (v := .tuple #[.agg #[.string x, .int .u64 (l : Int)], .bool (belowN l c)]) ?_ rfl ?_
    · rw [results_cell_tmp rfl]
      go_simp
    · exact ⟨rfl, below_drewN (((Below.refl _ _).alloc (Nat.le_refl _) _).alloc (by simp) _) _⟩
end Go.Proofs.YtajjikbigacbaaaGreatDoor
