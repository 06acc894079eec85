/- Own work: diff.run, diff.copied. -/
import Derived.Test.YtncamoafdimpcaaDiffMem
namespace Go.Proofs.Ytncamoafdimpcaa
open Go.RowKit

set_option maxRecDepth 100000 in
set_option maxHeartbeats 4000000 in
theorem run_any (u : Value) (l : List (Nat × Nat)) (i j n B : Nat) (w : World) (hu : OwnP w B u l) (hB : B ≤ w.heap.size) (hn : (l.length + n) * 16 ≤ 140737488355328) (hi : (i + n) * 16 ≤ 140737488355328) (hj : (j + n) * 16 ≤ 140737488355328) :
    Calls Try.prog 25 #[u, .int .i64 (i : Int), .int .i64 (j : Int), .int .i64 (n : Int)] w fun e w' => ∃ v, e = .returned v ∧ OwnP w' B v (l ++ runL i j n) ∧ Below B w w' := by
  have Hu := Lib.hid hu
  clear hu
  go_enter Try.func25, Try.ntmps25
  go_wp2_with fail
  go_loopw [0, 11] (fun y x wr => ∃ k : Nat, k ≤ n ∧ x = .int .i64 (k : Int) ∧ OwnP wr B y (l ++ runL i j k) ∧ Below B w wr) (fun _ x _ => n - (intOf x).toNat)
  case atStart => exact ⟨0, Nat.zero_le _, rfl, by rw [runL_zero, List.append_nil]; exact Hu.out, Below.refl _ _⟩
  case round =>
    obtain ⟨k, hk, rfl, ho, hb⟩ := hrel
    have HO := Lib.hid ho
    have HB := Lib.hid hb
    clear ho hb
    by_cases hlt : k < n
    · have hi1 : (k : Int) < (n : Int) := by omega
      have hz0 : (0 : Int) ≤ (k : Int) := by omega
      go_wp2_with (at_builtin; refine wpList_append_pair rfl _ _ rfl B _ (l ++ runL i j k) (i + k, j + k) rfl HO.out _ rfl (by rw [List.length_append, runL_len]; omega) (Nat.le_trans hB HB.out.size) ?_)
      intro v' w' ho' hb'
      have HO' := Lib.hid ho'
      have HB' := Lib.hid (HB.out.trans hb')
      clear ho' hb'
      go_wp2_with fail
      go_roundw
      case rel =>
        refine ⟨k + 1, by omega, by go_num, ?_, HB'.out⟩
        rw [runL_succ]
        exact HO'.out
      case measure => simp [intOf]; omega
    · obtain rfl : k = n := by omega
      go_wp2_with fail
      go_ret
      exact ⟨_, rfl, HO.out, HB.out⟩

set_option maxHeartbeats 1000000 in
theorem copied_any (u : Value) (l : List ByteArray) (w : World) (hu : Texts w u l) (hf : SliceForm u) (hn : l.length * 16 ≤ 140737488355328) :
    Calls Try.prog 24 #[u] w fun e w' => ∃ v, e = .returned v ∧ OwnT w' w.heap.size v l ∧ Below w.heap.size w w' := by
  go_enter Try.func24, Try.ntmps24
  go_wp2_with (at_builtin; refine wpList_append_lot rfl _ _ rfl w.heap.size _ [] rfl (ownT_nil w _) _ l rfl hu hf (by simpa using hn) (Nat.le_refl _) ?_)
  intro v' w' ho' hb'
  have HO' := Lib.hid ho'
  have HB' := Lib.hid ((Below.refl w.heap.size w).grown hb' (Nat.le_refl _) (fun q hq => by cases hq))
  clear ho' hb' hu hf
  go_wp2_with fail
  go_ret
  exact ⟨_, rfl, HO'.out, HB'.out⟩
end Go.Proofs.Ytncamoafdimpcaa
