/- Own work: slices.Sort at 64 labels that are all nought. -/
import Derived.Test.YtgodmfjcccakbaaGreatDoorSortZ
namespace Go.Proofs.YtgodmfjcccakbaaGreatDoor
open Go.RowKit Go.Shelf

set_option maxHeartbeats 4000000 in
set_option maxRecDepth 100000 in
theorem pivot_any (g cap : Nat) (w : World) (hz : Zeros w g) :
    Calls Tryz.prog 78 #[.slice (some ⟨g, 0, none⟩) 64 cap, .int .i64 0, .int .i64 64] w fun e w' => e = .returned (.tuple #[.int .i64 32, .int .i64 1]) ∧ Below w.heap.size w w' := by
  have hal : Below w.heap.size w (w.alloc (.cells #[.int .i64 0] 3)) := (Below.refl _ _).alloc (Nat.le_refl _) _
  have HZ := Lib.hid (hz.kept hal)
  have Hal := Lib.hid hal
  have Hc := Lib.hid (cell_of_row _ _ 0 _ _ _ (heap_alloc_new w (.cells #[.int .i64 0] 3)))
  clear hz hal
  go_enter Tryz.func78, Tryz.ntmps78
  go_wp2_with fail
  refine (adjacent_any g 16 cap _ _ HZ.out (by omega) (by omega)).mono ?_
  rintro e w1 ⟨rfl, hb⟩
  have B1 := Lib.hid hb
  clear hb
  go_wp2_with fail
  refine (adjacent_any g 32 cap _ _ (HZ.out.kept B1.out) (by omega) (by omega)).mono ?_
  rintro e w2 ⟨rfl, hb⟩
  have B2 := Lib.hid (below_join B1.out hb)
  clear hb
  go_wp2_with fail
  refine (adjacent_any g 48 cap _ _ (HZ.out.kept B2.out) (by omega) (by omega)).mono ?_
  rintro e w3 ⟨rfl, hb⟩
  have B3 := Lib.hid (below_join B2.out hb)
  clear hb
  go_wp2_with fail
  refine (median_any g 16 32 48 cap _ _ (HZ.out.kept B3.out) (by omega) (by omega) (by omega)).mono ?_
  rintro e w4 ⟨rfl, hb⟩
  have B4 := Lib.hid (below_join B3.out hb)
  have c4 : w4.cell? ⟨w.heap.size, 0, none⟩ = some (.int .i64 0) := cell_kept B4.out Hc.out
  clear hb
  go_wp2_with fail
  go_ret2
  exact ⟨rfl, Hal.out.trans (B4.out.mono Hal.out.size)⟩

set_option maxHeartbeats 8000000 in
set_option maxRecDepth 100000 in
theorem partial_any (g cap : Nat) (w : World) (hz : Zeros w g) :
    Calls Tryz.prog 80 #[.slice (some ⟨g, 0, none⟩) 64 cap, .int .i64 0, .int .i64 64] w fun e w' => e = .returned (.bool true) ∧ Below w.heap.size w w' := by
  have HZ := Lib.hid hz
  clear hz
  go_enter Tryz.func80, Tryz.ntmps80
  go_wp2_with fail
  go_loopw [7, 8] (fun i j wr => i = .int .i64 1 ∧ j = .int .i64 0 ∧ wr = w) (fun _ _ _ => 0)
  case atStart => exact ⟨rfl, rfl, rfl⟩
  case round =>
    obtain ⟨rfl, rfl, rfl⟩ := hrel
    obtain ⟨wo, rfl⟩ : ∃ wo : World, wo = wr := ⟨_, rfl⟩
    go_wp2_with fail
    go_loopw [7] (fun i wz => ∃ k : Nat, 1 ≤ k ∧ k ≤ 64 ∧ i = .int .i64 k ∧ Below wo.heap.size wo wz) (fun i _ => 64 - (intOf i).toNat)
    case atStart => exact ⟨1, Nat.le_refl _, by omega, rfl, Below.refl _ _⟩
    case round =>
      obtain ⟨k, hk1, hk2, rfl, hb⟩ := hrel
      have Hb := Lib.hid hb
      clear hb
      by_cases hlt : k < 64
      · have hltI : (k : Int) < 64 := by omega
        have h0 : (0 : Int) ≤ (k : Int) := by omega
        obtain ⟨m, hm⟩ : ∃ m, k - 1 = m := ⟨_, rfl⟩
        have hw1 : IntKind.i64.wrap ((k : Int) - 1) = (m : Int) := by simp only [IntKind.wrap, IntKind.bits, IntKind.signed]; simp; omega
        have h1 : (0 : Int) ≤ (m : Int) := by omega
        have h2 : (m : Int) < 64 := by omega
        have ck := cell_kept Hb.out (HZ.out k hlt)
        have cl := cell_kept Hb.out (HZ.out m (by omega))
        go_wp2_with fail
        go_region_held3 (fun w' => w'.cell? ⟨g, k, none⟩ = some (.int .u64 0) ∧ w'.cell? ⟨g, m, none⟩ = some (.int .u64 0) ∧ Below wo.heap.size wo w')
          (first
            | (go_split_ands; refine ⟨?_, ?_, ?_⟩ <;> first | assumption | exact Hb.out.drew | (simp; assumption)))
          (first
            | (go_at_call 81; refine (lessZ_any _).mono ?_; rintro e w1 ⟨rfl, rfl⟩))
        go_wp2_with fail
        go_roundw
        case rel => exact ⟨k + 1, by omega, by omega, by go_num, by go_split_ands; assumption⟩
        case measure => simp [intOf]; omega
      · obtain rfl : k = 64 := by omega
        go_wp2_with fail
        go_quiet (fail)
        go_wp2_with fail
        go_ret
        exact ⟨rfl, below_drewN Hb.out _⟩

set_option maxHeartbeats 8000000 in
set_option maxRecDepth 100000 in
theorem pdqZ_any (g cap : Nat) (w : World) (hz : Zeros w g) :
    Calls Tryz.prog 56 #[.slice (some ⟨g, 0, none⟩) 64 cap, .int .i64 0, .int .i64 64, .int .i64 7] w fun e w' => e = .returned (.tuple #[]) ∧ Below w.heap.size w w' := by
  have HZ := Lib.hid hz
  clear hz
  go_enter Tryz.func56, Tryz.ntmps56
  go_wp2_with fail
  go_loopw [1, 2, 3, 8, 9] (fun a b c i j wr => a = .int .i64 0 ∧ b = .int .i64 64 ∧ c = .int .i64 7 ∧ i = .bool true ∧ j = .bool true ∧ wr = w) (fun _ _ _ _ _ _ => 0)
  case atStart => exact ⟨rfl, rfl, rfl, rfl, rfl, rfl⟩
  case round =>
    obtain ⟨rfl, rfl, rfl, rfl, rfl, rfl⟩ := hrel
    go_wp2_with fail
    refine (pivot_any g cap _ HZ.out).mono ?_
    rintro e w1 ⟨rfl, hb⟩
    have B1 := Lib.hid hb
    clear hb
    go_wp2_with fail
    refine (partial_any g cap _ (HZ.out.kept B1.out)).mono ?_
    rintro e w2 ⟨rfl, hb⟩
    have B2 := Lib.hid (below_join B1.out hb)
    clear hb
    go_wp2_with fail
    (try simp only [Exit.inBlock, Exit.then])
    refine bodyPost_ret (results_none rfl _ _ _) rfl ?_
    exact ⟨rfl, B2.out⟩
set_option maxHeartbeats 4000000 in
theorem bitsLen_any (w : World) : Calls Tryz.prog 57 #[.int .u64 64] w fun e w' => e = .returned (.int .i64 7) ∧ w = w' := by
  have h : Lib.bitLen (64 : Int).toNat = 7 := by decide +kernel
  go_enter Tryz.func57, Tryz.ntmps57
  go_wp2_with fail
  refine (Tryz.bits_Len64 64 _ (by omega) (by omega)).mono ?_
  rintro e w' ⟨rfl, rfl⟩
  rw [h]
  go_wp2_with fail
  go_ret
  exact ⟨rfl, rfl⟩
set_option maxHeartbeats 4000000 in
set_option maxRecDepth 100000 in
theorem sortZ_any (g cap : Nat) (w : World) (hz : Zeros w g) :
    Calls Tryz.prog 30 #[.slice (some ⟨g, 0, none⟩) 64 cap] w fun e w' => e = .returned (.tuple #[]) ∧ Below w.heap.size w w' := by
  have HZ := Lib.hid hz
  clear hz
  go_enter Tryz.func30, Tryz.ntmps30
  go_wp2_with fail
  refine (bitsLen_any _).mono ?_
  rintro e w' ⟨rfl, rfl⟩
  go_wp2_with fail
  refine (pdqZ_any g cap _ HZ.out).mono ?_
  rintro e w1 ⟨rfl, hb⟩
  have B1 := Lib.hid hb
  clear hb
  go_wp2_with fail
  go_end0
  exact ⟨rfl, B1.out⟩
end Go.Proofs.YtgodmfjcccakbaaGreatDoor
