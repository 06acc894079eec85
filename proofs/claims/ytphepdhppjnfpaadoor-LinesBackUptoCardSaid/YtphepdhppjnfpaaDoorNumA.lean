import Derived.Test.YtphepdhppjnfpaaDoorBase
import Derived.Test.YtphepdhppjnfpaaDoorShelf
import Derived.Test.YtphepdhppjnfpaaDoorNumMath
namespace Go.Proofs.YtphepdhppjnfpaaDoor
open Go.RowKit Num

theorem digB_rune (c : UInt8) : digB c = digitRune c.toNat := by
  rw [Bool.eq_iff_iff]
  simp [digB, digitRune]
  omega
theorem digitRune_high (r : Int) (h : 128 ≤ r) : digitRune r = false := by
  simp [digitRune]
  omega

set_option maxHeartbeats 1000000 in
theorem countDigits_any (s : ByteArray) (w : World) :
    Calls Tryd.prog 31 #[.string s] w fun e w' => e = .returned (.int .i64 (cnt s.data.toList)) ∧ Below w.heap.size w w' := by
  go_enter Tryd.func31, Tryd.ntmps31
  go_wp2
  go_loopw [3, 4] (fun i r w' => ∃ k : Nat, k ≤ s.size ∧ w' = w.iter s k ∧ (∀ (j : Nat) (hj : j < s.size), j < k → digB (s[j]) = true)) (fun _ _ w' => s.size - w'.iterPos w.heap.size)
  case atStart => exact ⟨0, Nat.zero_le _, rfl, by intro j _ h; omega⟩
  case round =>
    obtain ⟨k, hk, rfl, hall⟩ := hrel
    have Hall := Lib.hid hall
    clear hall
    by_cases hlt : k < s.size
    · by_cases ha : (s[k]'hlt).toNat < 128
      · have hnx := fun ty => run_next_ascii (P := Tryd.prog) w s k ty hlt ha
        have hb : (s[k]'hlt).toNat < 256 := (s[k]'hlt).toNat_lt
        have hd := digB_rune (s[k]'hlt)
        have Hd := Lib.hid hd
        clear hd
        by_cases hn : digitRune ((s[k]'hlt).toNat : Int) = true
        · go_wp2_with (go_at_call 39; refine (isDigit_any _ _).mono ?_; rintro e w' ⟨rfl, rfl⟩)
          go_roundw
          case rel =>
            refine ⟨k + 1, by omega, rfl, fun j hj hjk => ?_⟩
            by_cases e : j = k
            · subst e
              rw [Hd.out]; exact hn
            · exact Hall.out j hj (by omega)
          case measure => simp; omega
        · have hn' : digitRune ((s[k]'hlt).toNat : Int) = false := by simpa using hn
          clear hn
          have Hn : Hid (digB (s[k]'hlt) = false) := Hd.out.trans hn'
          go_wp2_with (go_at_call 39; refine (isDigit_any _ _).mono ?_; rintro e w' ⟨rfl, rfl⟩)
          go_ret
          exact ⟨retInt (by rw [cnt_eq s.data.toList k (by simpa using hk) (fun j hj hjk => Hall.out j (by simpa using hj) hjk) (fun hj => Hn.out)]), below_iter _ _ _⟩
      · have hnx := fun ty => run_next_any (P := Tryd.prog) w s k ty hlt
        have hh := (decode_high s k hlt (by omega)).1
        have hle := decode_le s k
        have hn' : digitRune ((Utf8.decode s k).1 : Int) = false := digitRune_high _ (by omega)
        have Hn : Hid (digB (s[k]'hlt) = false) := by
          show _ = _
          rw [digB_rune]
          exact digitRune_high _ (by omega)
        go_wp2_with (go_at_call 39; refine (isDigit_any _ _).mono ?_; rintro e w' ⟨rfl, rfl⟩)
        go_ret
        exact ⟨retInt (by rw [cnt_eq s.data.toList k (by simpa using hk) (fun j hj hjk => Hall.out j (by simpa using hj) hjk) (fun hj => Hn.out)]), below_iter _ _ _⟩
    · have hnx := fun ty => run_next_end (P := Tryd.prog) w s k ty hlt
      go_wp2_with fail
      go_ret
      exact ⟨retInt (by rw [cnt_eq s.data.toList s.size (by simp) (fun j hj hjk => Hall.out j (by simpa using hj) (by omega)) (fun hj => absurd hj (by simp))]), below_iter _ _ _⟩
end Go.Proofs.YtphepdhppjnfpaaDoor
