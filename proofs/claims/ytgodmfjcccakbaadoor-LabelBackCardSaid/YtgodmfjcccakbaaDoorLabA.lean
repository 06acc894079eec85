import Derived.Test.YtgodmfjcccakbaaDoorLabMath
import Derived.Test.YtgodmfjcccakbaaDoorLabBase
namespace Go.Proofs.YtgodmfjcccakbaaDoor
open Go.RowKit

theorem cast_zero (n : Nat) : ((n : Int) == 0) = (n == 0) := by
  rw [Bool.eq_iff_iff, beq_iff_eq, beq_iff_eq]; omega

set_option maxHeartbeats 1000000 in
theorem less_any (a b : Nat) (w : World) (ha : a < 18446744073709551616) (hb : b < 18446744073709551616) :
    Calls Tryd.prog 27 #[.int .u64 a, .int .u64 b] w fun e w' => e = .returned (.int .u64 (lessN a b : Nat)) ∧ w = w' := by
  have H := Lib.hid (bits_andNot_u64_nat a b ha hb)
  go_enter Tryd.func27, Tryd.ntmps27
  go_wp2
  go_ret
  exact ⟨retInt H.out, rfl⟩

set_option maxHeartbeats 1000000 in
theorem below_any (a b : Nat) (w : World) (ha : a < 18446744073709551616) (hb : b < 18446744073709551616) :
    Calls Tryd.prog 13 #[.int .u64 a, .int .u64 b] w fun e w' => e = .returned (.bool (belowN a b)) ∧ w = w' := by
  go_enter Tryd.func13, Tryd.ntmps13
  go_wp2_with fail
  refine (less_any a b _ ha hb).mono ?_
  rintro e w' ⟨rfl, rfl⟩
  go_wp2_with fail
  go_ret
  exact ⟨retBool (cast_zero _), rfl⟩



set_option maxHeartbeats 1000000 in
theorem count_any (a : Nat) (w : World) (ha : a < 18446744073709551616) :
    Calls Tryd.prog 21 #[.int .u64 a] w fun e w' => e = .returned (.int .i64 (countN a)) ∧ w = w' := by
  go_enter Tryd.func21, Tryd.ntmps21
  go_wp2
  go_loop [0, 3] (fun v c => ∃ x n : Nat, x ≤ a ∧ n ≤ 64 ∧ Hid (n + countN x = countN a) ∧ v = .int .u64 x ∧ c = .int .i64 n) (fun v _ => (intOf v).toNat)
  case atStart => exact ⟨a, 0, Nat.le_refl _, by omega, by show _ = _; omega, rfl, rfl⟩
  case round =>
    obtain ⟨x, n, hx, hn, Hc, rfl, rfl⟩ := hrel
    by_cases h0 : x = 0
    · subst h0
      have Hc2 := Lib.hid countN_zero
      go_wp2
      go_ret
      exact ⟨retInt (by have := Hc.out; rw [Hc2.out] at this; omega), rfl⟩
    · have hs := countN_step h0 (by omega : x < 18446744073709551616)
      have hle := countN_le a
      have hn2 : n + 1 ≤ 64 := by have := Hc.out; omega
      have Hlt := Lib.hid (and_pred_lt h0)
      have Hc2 : Hid (n + 1 + countN (x &&& (x - 1)) = countN a) := by show _ = _; have := Hc.out; omega
      have e1 : (x : Int) - 1 = ((x - 1 : Nat) : Int) := by omega
      have Hb := Lib.hid (bits_and_u64_nat x (x - 1) (by omega) (by omega))
      have hne : ((x : Int) != 0) = true := by rw [bne_iff_ne]; omega
      have hx1 : (1 : Int) ≤ (x : Int) := by omega
      have hx2 : (x : Int) ≤ 18446744073709551615 := by omega
      have H1 := Lib.hid e1
      clear hs hle h0 e1
      go_wp2
      go_round
      case rel => exact ⟨x &&& (x - 1), n + 1, by have := Hlt.out; omega, hn2, Hc2, by rw [← Hb.out, ← H1.out], by go_num⟩
      case measure =>
        rw [H1.out, Hb.out]
        have := Hlt.out
        simp only [intOf]
        omega
end Go.Proofs.YtgodmfjcccakbaaDoor
