import Derived.Test.YtgchcgllpceghaaSetA
namespace Go.Proofs.Ytgchcgllpceghaa
open Go.RowKit

set_option maxRecDepth 100000 in
set_option maxHeartbeats 4000000 in
theorem refWord_any (x : Nat) (w : World) (hx : x < 18446744073709551616) :
    Calls Try.prog 53 #[.agg (setV x)] w fun e w' => e = .returned (.int .u64 x) ∧ Below w.heap.size w w' := by
  go_enter Try.func53, Try.ntmps53
  go_wp2
  go_loop [3, 4] (fun v i => ∃ k : Nat, k ≤ 64 ∧ v = .int .u64 ((x / 2 ^ k : Nat) : Int) ∧ i = .int .i64 ((k : Int) - 1)) (fun _ i => (intOf i + 1).toNat)
  case atStart => exact ⟨64, by omega, by rw [Nat.div_eq_of_lt (show x < 2 ^ 64 from hx)]; rfl, rfl⟩
  case round =>
    obtain ⟨k, hk, rfl, rfl⟩ := hrel
    by_cases hlt : 0 < k
    · obtain ⟨j, rfl⟩ : ∃ j, k = j + 1 := ⟨k - 1, by omega⟩
      have hj : j < 64 := by omega
      have Htop := Lib.hid (top_pow x j)
      have hq : x / 2 ^ j < 18446744073709551616 := Nat.lt_of_le_of_lt (Nat.div_le_self _ _) hx
      have hcell : (w.alloc (.cells (setV x) 70)).cell? ⟨w.heap.size, j, none⟩ = some (.bool (x.testBit j)) := (show SetAt _ _ _ from heap_alloc_new w _).cell j hj
      have e1 : ((((j + 1 : Nat) : Int)) - 1) = (j : Int) := by omega
      rw [e1]
      have h2 : x / 2 ^ (j + 1) * 2 + 1 < 18446744073709551616 := by
        have := half_pow x j
        omega
      obtain ⟨q, hqe⟩ : ∃ q, x / 2 ^ (j + 1) = q := ⟨_, rfl⟩
      have Hq := Lib.hid hqe
      rw [hqe] at h2 ⊢
      cases hb : x.testBit j
      · rw [hb] at hcell
        have Hbt := Lib.hid hb
        clear hqe hb hq
        go_wp2
        go_round
        case rel =>
          refine ⟨j, by omega, ?_, rfl⟩
          have e := Htop.out
          rw [Hq.out, Hbt.out] at e
          rw [e]
          rfl
        case measure => simp [intOf]
      · rw [hb] at hcell
        have Hbt := Lib.hid hb
        clear hqe hb hq
        go_wp2
        go_round
        case rel =>
          refine ⟨j, by omega, ?_, rfl⟩
          have e := Htop.out
          rw [Hq.out, Hbt.out] at e
          rw [e]
          rfl
        case measure => simp [intOf]
    · obtain rfl : k = 0 := by omega
      go_wp2
      go_ret
      exact ⟨by simp, (Below.refl _ _).alloc (Nat.le_refl _) _⟩
end Go.Proofs.Ytgchcgllpceghaa
