/- Own work: ViewOne's walk. -/
import Derived.Test.YtgchcgllpceghaaSeeRefs
import Derived.Deep.RegionHeld3
namespace Go.Proofs.Ytgchcgllpceghaa
open Go.RowKit

set_option maxHeartbeats 1000000 in
theorem own_any (c : Nat) (x1 x2 x3 : Int) (x4 : ByteArray) (w : World) :
    Calls Try.prog 24 #[.int .u64 c, .agg #[.int .u64 x1, .int .i64 x2, .int .i64 x3, .string x4]] w fun e w' => e = .returned (.bool (x1 == (c : Int))) ∧ Below w.heap.size w w' := by
  go_enter Try.func24, Try.ntmps24
  go_wp2
  go_ret
  exact ⟨rfl, (Below.refl _ _).alloc (Nat.le_refl _) _⟩

set_option maxRecDepth 100000 in
set_option maxHeartbeats 8000000 in
theorem one_walk (c : Nat) (x1 x2 x3 : Int) (x4 : ByteArray) (w : World) (hc : c < 18446744073709551616) (h0 : 0 ≤ x1) (h1 : x1 < 18446744073709551616) :
    Calls Try.prog 4 #[.agg #[.int .u64 x1, .int .i64 x2, .int .i64 x3, .string x4], .int .u64 c] w fun e w' => e = .returned (.bool true) ∧ Below w.heap.size w w' := by
  have B0 := Lib.hid ((Below.refl w.heap.size w).alloc (Nat.le_refl _) (.cells #[.int .u64 x1, .int .i64 x2, .int .i64 x3, .string x4] 26))
  have hr := heap_alloc_new w (.cells #[.int .u64 x1, .int .i64 x2, .int .i64 x3, .string x4] 26)
  have d0 := cell_row _ _ 0 _ _ _ hr rfl
  have d1 := cell_row _ _ 1 _ _ _ hr rfl
  have d2 := cell_row _ _ 2 _ _ _ hr rfl
  have d3 := cell_row _ _ 3 _ _ _ hr rfl
  obtain ⟨W1, hW1⟩ : ∃ W1, w.alloc (.cells #[.int .u64 x1, .int .i64 x2, .int .i64 x3, .string x4] 26) = W1 := ⟨_, rfl⟩
  obtain ⟨b, hb⟩ : ∃ b, belowN x1.toNat c = b := ⟨_, rfl⟩
  have Hb := Lib.hid hb
  rw [hW1] at B0 d0 d1 d2 d3
  have HW1 := Lib.hid hW1
  clear hr hW1 hb
  have Hs : Hid (∀ W, Calls Try.prog 22 #[.int .u64 c, .agg #[.int .u64 x1, .int .i64 x2, .int .i64 x3, .string x4]] W fun e w' => e = .returned (.bool b) ∧ Below W.heap.size W w') := fun W => by
    have := seen_any c x1 x2 x3 x4 W hc h0 h1
    rwa [Hb.out] at this
  have Hr : Hid (∀ W, Calls Try.prog 23 #[.int .u64 c, .agg #[.int .u64 x1, .int .i64 x2, .int .i64 x3, .string x4]] W fun e w' => e = .returned (.bool b) ∧ Below W.heap.size W w') := fun W => by
    have := refSeen06_any c x1 x2 x3 x4 W hc h0 h1
    rwa [Hb.out] at this
  have hbb : (b == b) = true := by cases b <;> rfl
  have hxx : ((x1 == (c : Int)) == (x1 == (c : Int))) = true := by cases (x1 == (c : Int)) <;> rfl
  clear Hb
  go_enter Try.func4, Try.ntmps4
  go_wp2_with fail
  rw [HW1.out]
  go_region_held3 (fun w' => w'.cell? ⟨w.heap.size, 0, none⟩ = some (.int .u64 x1) ∧ w'.cell? ⟨w.heap.size, 1, none⟩ = some (.int .i64 x2) ∧ w'.cell? ⟨w.heap.size, 2, none⟩ = some (.int .i64 x3) ∧ w'.cell? ⟨w.heap.size, 3, none⟩ = some (.string x4) ∧ Below W1.heap.size W1 w')
    (first | (go_split_ands; refine ⟨cell_kept hk ?_, cell_kept hk ?_, cell_kept hk ?_, cell_kept hk ?_, below_join ?_ hk⟩ <;> assumption) | (refine ⟨d0, d1, d2, d3, (Below.refl _ _).drew⟩))
    (first | ((with_reducible refine (Hs.out _).mono ?_); rintro e w' ⟨rfl, hk⟩) | ((with_reducible refine (Hr.out _).mono ?_); rintro e w' ⟨rfl, hk⟩) | ((with_reducible refine (own_any c x1 x2 x3 x4 _).mono ?_); rintro e w' ⟨rfl, hk⟩))
  have HB := Lib.hid (‹_ ∧ _ ∧ _ ∧ _ ∧ Below W1.heap.size W1 w'›).2.2.2.2
  go_wp2_with fail
  go_ret
  exact ⟨rfl, below_join B0.out HB.out⟩
end Go.Proofs.Ytgchcgllpceghaa
