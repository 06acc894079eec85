/- Own work: the statements' own comparisons. -/
import Derived.Test.YtgodmfjcccakbaaGreatDoorVws
import Derived.Test.YtgodmfjcccakbaaGreatDoorLabBase
namespace Go.Proofs.YtgodmfjcccakbaaGreatDoor
open Go.RowKit

set_option maxRecDepth 100000 in
set_option maxHeartbeats 8000000 in
theorem same_any (u v : Value) (a : List Vw) (w : World) (hu : Vws w u a) (hv : Vws w v a) :
    Calls Tryz.prog 24 #[u, v] w fun e w' => e = .returned (.bool true) ∧ Below w.heap.size w w' := by
  obtain ⟨ao, acap, ab, aof, rfl, hao, hma, hac⟩ := hu.form
  obtain ⟨bo, bcap, bb, bof, rfl, hbo, hmb, hbc⟩ := hv.form
  obtain ⟨n, hn⟩ : ∃ n, a.length = n := ⟨_, rfl⟩
  have Hn := Lib.hid hn
  rw [hn] at hao hma hbo hmb ⊢
  unfold maxLen at hma hmb
  have Hao := Lib.hid hao
  have Hbo := Lib.hid hbo
  have Hac := Lib.hid hac
  have Hbc := Lib.hid hbc
  clear hu hv hao hbo hac hbc hn
  go_enter Tryz.func24, Tryz.ntmps24
  go_wp2_with fail
  go_loopw [5] (fun i wr => ∃ k : Nat, k ≤ n ∧ i = .int .i64 k ∧ Below w.heap.size w wr) (fun i _ => n - (intOf i).toNat)
  case atStart => exact ⟨0, Nat.zero_le _, rfl, Below.refl _ _⟩
  case round =>
    obtain ⟨k, hk, rfl, hbw⟩ := hrel
    have Hbw := Lib.hid hbw
    by_cases hlt : k < n
    · have hka : k < a.length := by rw [Hn.out]; exact hlt
      obtain rfl := Hao.out (by omega)
      obtain rfl := Hbo.out (by omega)
      obtain ⟨c0, c1⟩ := Hac.out k hka
      obtain ⟨d0, d1⟩ := Hbc.out k hka
      have c0 := cell_kept hbw c0
      have c1 := cell_kept hbw c1
      have d0 := cell_kept hbw d0
      have d1 := cell_kept hbw d1
      have hi0 : (0 : Int) ≤ (k : Int) := by omega
      have hi1 : (k : Int) < (n : Int) := by omega
      obtain ⟨x, hx⟩ : ∃ x, a[k]'hka = x := ⟨_, rfl⟩
      rw [hx] at c0 c1 d0 d1
      obtain ⟨xn, xl⟩ := x
      clear hx hbw
      go_wp2_with fail
      go_quiet (fail)
      go_wp2_with fail
      go_roundw
      case rel => exact ⟨k + 1, by omega, by go_num, below_drewN Hbw.out _⟩
      case measure => simp [intOf]; omega
    · clear hbw
      go_wp2_with fail
      go_ret
      exact ⟨rfl, Hbw.out⟩

def hasB (ss : List ByteArray) (s : ByteArray) : Bool := ss.any fun x => decide (x = s)
theorem hasB_at {ss : List ByteArray} {s : ByteArray} (k : Nat) (hk : k < ss.length) (h : ss[k]'hk = s) : hasB ss s = true :=
  List.any_eq_true.2 ⟨_, List.getElem_mem hk, decide_eq_true h⟩
theorem hasB_none {ss : List ByteArray} {s : ByteArray} (h : ∀ (j : Nat) (hj : j < ss.length), ss[j]'hj ≠ s) : hasB ss s = false := by
  rw [hasB, List.any_eq_false]
  intro x hx
  obtain ⟨j, hj, rfl⟩ := List.getElem_of_mem hx
  simpa using h j hj

set_option maxRecDepth 100000 in
set_option maxHeartbeats 8000000 in
theorem has_any (u : Value) (ss : List ByteArray) (s : ByteArray) (w : World) (hu : Texts w u ss) :
    Calls Tryz.prog 25 #[u, .string s] w fun e w' => e = .returned (.bool (hasB ss s)) ∧ w = w' := by
  obtain ⟨ao, acap, ab, aof, rfl, hao, hma, hac⟩ := hu.form
  obtain ⟨n, hn⟩ : ∃ n, ss.length = n := ⟨_, rfl⟩
  have Hn := Lib.hid hn
  rw [hn] at hao hma ⊢
  unfold maxLen at hma
  have Hao := Lib.hid hao
  have Hac := Lib.hid hac
  clear hu hao hac hn
  go_enter Tryz.func25, Tryz.ntmps25
  go_wp2_with fail
  go_loopw [5] (fun i wr => ∃ k : Nat, k ≤ n ∧ i = .int .i64 k ∧ wr = w ∧ Hid (∀ (j : Nat) (hj : j < ss.length), j < k → ss[j]'hj ≠ s)) (fun i _ => n - (intOf i).toNat)
  case atStart => exact ⟨0, Nat.zero_le _, rfl, rfl, fun j _ h => absurd h (Nat.not_lt_zero _)⟩
  case round =>
    obtain ⟨k, hk, rfl, rfl, Hall⟩ := hrel
    by_cases hlt : k < n
    · have hka : k < ss.length := by rw [Hn.out]; exact hlt
      obtain rfl := Hao.out (by omega)
      have c0 := Hac.out k hka
      have hi0 : (0 : Int) ≤ (k : Int) := by omega
      have hi1 : (k : Int) < (n : Int) := by omega
      obtain ⟨x, hx⟩ : ∃ x, ss[k]'hka = x := ⟨_, rfl⟩
      rw [hx] at c0
      have Hx := Lib.hid hx
      clear hx
      by_cases e : x = s
      · have Hr := Lib.hid (hasB_at k hka (Hx.out.trans e))
        subst e
        go_wp2_with fail
        go_ret
        exact ⟨retBool Hr.out.symm, rfl⟩
      · have hne : (x.toList == s.toList) = false := by
          rw [bytes_eq]; exact decide_eq_false e
        have He := Lib.hid e
        clear e
        go_wp2_with fail
        go_roundw
        case rel =>
          refine ⟨k + 1, by omega, by go_num, by trivial, fun j hj hjk => ?_⟩
          by_cases ej : j = k
          · subst ej; rw [Hx.out]; exact He.out
          · exact Hall.out j hj (by omega)
        case measure => simp [intOf]; omega
    · have Hr := Lib.hid (hasB_none (ss := ss) (s := s) fun j hj => Hall.out j hj (by have := Hn.out; omega))
      go_wp2_with fail
      go_ret
      exact ⟨retBool Hr.out.symm, rfl⟩
end Go.Proofs.YtgodmfjcccakbaaGreatDoor
