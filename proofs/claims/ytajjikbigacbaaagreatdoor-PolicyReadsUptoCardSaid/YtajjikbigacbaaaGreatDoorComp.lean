/- Own work: label's compartment. -/
import Derived.Test.YtajjikbigacbaaaGreatDoorShelf
import Derived.Test.YtajjikbigacbaaaGreatDoorTxtB

import Derived.Lib.SmallJoins
namespace Go.Proofs.YtajjikbigacbaaaGreatDoor
open Go.RowKit

theorem bytes_same {a b : ByteArray} : (a.toList == b.toList) = decide (a = b) := by
  rw [Lib.toList_data, Lib.toList_data, Bool.eq_iff_iff, beq_iff_eq, decide_eq_true_eq]
  exact ⟨fun h => ByteArray.ext (Array.toList_inj.1 h), fun h => by rw [h]⟩
theorem atoi_dig : ∀ c : Fin 64, Lib.atoiAll (digB c.1).data.toList = .ok (c.1 : Int) := by decide +kernel

set_option maxRecDepth 100000 in
set_option maxHeartbeats 2000000 in
theorem comp_yes (c : Nat) (hc : c < 64) (w : World) : Calls Tryz.prog 147 #[.string (digB c)] w fun e w' => e = .returned (.tuple #[.int .i64 (c : Int), .bool true]) ∧ Below w.heap.size w w' := by
  have hat := atoi_dig ⟨c, hc⟩
  have hsz := (digB_len (n := c) (by omega)).2
  have h0 : ((c : Int) < 0) = False := by simp
  have h1 : ((63 : Int) < (c : Int)) = False := by simp; omega
  go_enter Tryz.func147, Tryz.ntmps147
  go_wp2_with fail
  refine (Tryz.strconv_Atoi_ok (digB c) (by omega) _ hat _).mono ?_
  rintro e w' ⟨rfl, hw'⟩
  have hb : Below w.heap.size w w' := by
    rcases hw' with rfl | ⟨t, rfl⟩
    · exact Below.refl _ _
    · exact Go.Joins.below_bytesWorld _ _ _ _ (Nat.le_refl _)
  clear hw' hat
  go_wp2_with fail
  refine (itoa_any c _ (by omega)).mono ?_
  rintro e w2 ⟨rfl, rfl⟩
  go_wp2_with fail
  go_ret2
  exact ⟨rfl, hb⟩

/-- strconv's two errors lie in their variables -/
structure ErrVars (w : World) : Prop where
  syn : ∃ tp p, w.var? Tryz.prog "strconv.ErrSyntax" = some #[.iface tp p]
  rng : ∃ tp p, w.var? Tryz.prog "strconv.ErrRange" = some #[.iface tp p]

set_option maxRecDepth 100000 in
set_option maxHeartbeats 2000000 in
theorem comp_no (s : ByteArray) (w : World) (hs : s.size ≤ 140737488355328) (hv : ErrVars w) (h : ∀ c : Nat, c < 64 → digB c ≠ s) : Calls Tryz.prog 147 #[.string s] w fun e w' => e = .returned (.tuple #[.int .i64 0, .bool false]) ∧ Below w.heap.size w w' := by
  cases hat : Lib.atoiAll s.data.toList with
  | «syntax» =>
    obtain ⟨tp, p, hvar⟩ := hv.syn
    go_enter Tryz.func147, Tryz.ntmps147
    go_wp2_with fail
    refine (Tryz.strconv_Atoi_syntax_var s (by omega) hat tp p _ hvar).mono ?_
    rintro e w' ⟨N, rfl, _, _, hb⟩
    go_wp2_with fail
    go_ret2
    exact ⟨rfl, hb⟩
  | range =>
    obtain ⟨tp, p, hvar⟩ := hv.rng
    go_enter Tryz.func147, Tryz.ntmps147
    go_wp2_with fail
    refine (Tryz.strconv_Atoi_range_var s (by omega) hat tp p _ hvar).mono ?_
    rintro e w' ⟨N, rfl, _, _, hb⟩
    go_wp2_with fail
    go_ret2
    exact ⟨rfl, hb⟩
  | ok v =>
    by_cases h0 : v < 0
    · go_enter Tryz.func147, Tryz.ntmps147
      go_wp2_with fail
      refine (Tryz.strconv_Atoi_ok s (by omega) v hat _).mono ?_
      rintro e w' ⟨rfl, hw'⟩
      have hb : Below w.heap.size w w' := by
        rcases hw' with rfl | ⟨t, rfl⟩
        · exact Below.refl _ _
        · exact Go.Joins.below_bytesWorld _ _ _ _ (Nat.le_refl _)
      clear hw' hat
      go_wp2_with fail
      go_ret2
      exact ⟨rfl, hb⟩
    · by_cases h1 : 63 < v
      · go_enter Tryz.func147, Tryz.ntmps147
        go_wp2_with fail
        refine (Tryz.strconv_Atoi_ok s (by omega) v hat _).mono ?_
        rintro e w' ⟨rfl, hw'⟩
        have hb : Below w.heap.size w w' := by
          rcases hw' with rfl | ⟨t, rfl⟩
          · exact Below.refl _ _
          · exact Go.Joins.below_bytesWorld _ _ _ _ (Nat.le_refl _)
        clear hw' hat
        go_wp2_with fail
        go_ret2
        exact ⟨rfl, hb⟩
      · obtain ⟨c, rfl⟩ : ∃ c : Nat, v = c := ⟨v.toNat, by omega⟩
        have hne := h c (by omega)
        have hne2 : ((digB c).toList == s.toList) = false := by rw [bytes_same]; simpa using hne
        go_enter Tryz.func147, Tryz.ntmps147
        go_wp2_with fail
        refine (Tryz.strconv_Atoi_ok s (by omega) c hat _).mono ?_
        rintro e w' ⟨rfl, hw'⟩
        have hb : Below w.heap.size w w' := by
          rcases hw' with rfl | ⟨t, rfl⟩
          · exact Below.refl _ _
          · exact Go.Joins.below_bytesWorld _ _ _ _ (Nat.le_refl _)
        clear hw' hat
        go_wp2_with fail
        refine (itoa_any c _ (by omega)).mono ?_
        rintro e w2 ⟨rfl, rfl⟩
        go_wp2_with fail
        go_ret2
        exact ⟨rfl, hb⟩
end Go.Proofs.YtajjikbigacbaaaGreatDoor
