import Derived.Test.YtajjikbigacbaaaGreatDoorLinesA
namespace Go.Proofs.YtajjikbigacbaaaGreatDoor
open Go.RowKit


/-- the error's number of a line: 0 if it may be, 10 else -/
def lineErr (n r : Int) (t : ByteArray) : Int := if 1 ≤ n ∧ n ≤ 4611686018427387904 ∧ 0 ≤ r ∧ r ≤ 4611686018427387904 ∧ isText t = true then 0 else 10

set_option maxHeartbeats 2000000 in
theorem check_any (lab n r : Int) (t : ByteArray) (w : World) (ht : t.size ≤ maxLen) :
    Calls Tryz.prog 114 #[.agg #[.int .u64 lab, .int .i64 n, .int .i64 r, .string t]] w fun e w' => e = .returned (.int .i64 (lineErr n r t)) ∧ Below w.heap.size w w' := by
  have HT := Lib.hid (text_any t)
  go_enter Tryz.func114, Tryz.ntmps114
  go_wp2_with (go_at_call 76; refine (HT.out _ ht).mono ?_; rintro e w' ⟨rfl, rfl⟩)
  all_goals
    go_ret
    refine ⟨retInt ?_, (Below.refl _ _).alloc (Nat.le_refl _) _⟩
    unfold lineErr
    split
    · first | rfl | (exfalso; simp_all; omega)
    · first | rfl | (exfalso; cases hx : isText t <;> simp_all <;> omega)

end Go.Proofs.YtajjikbigacbaaaGreatDoor
namespace Go.Proofs.YtajjikbigacbaaaGreatDoor
open Go.RowKit

set_option maxHeartbeats 1000000 in
theorem refText_any (s : ByteArray) (w : World) (hs : s.size ≤ maxLen) :
    Calls Tryz.prog 125 #[.string s] w fun e w' => e = .returned (.bool (isText s)) ∧ w = w' := by
  unfold maxLen at hs
  go_enter Tryz.func125, Tryz.ntmps125
  go_wp2
  go_loop [3] (fun i => ∃ k : Nat, k ≤ s.size ∧ i = .int .i64 k ∧ (∀ (j : Nat) (hj : j < s.size), j < k → ((s[j]'hj).toNat : Int) ≠ 10)) (fun i => s.size - (intOf i).toNat)
  case atStart => exact ⟨0, Nat.zero_le _, rfl, by intro j _ h; omega⟩
  case round =>
    obtain ⟨k, hk, rfl, hall⟩ := hrel
    have Hall := Lib.hid hall
    clear hall
    by_cases hlt : k < s.size
    · by_cases h10 : ((s[k]'hlt).toNat : Int) = 10
      · have H10 := Lib.hid h10
        have hb : (((s[k]'hlt).toNat : Int) == 10) = true := by simp [h10]
        clear h10
        go_wp2
        go_ret
        exact ⟨retBool (isText_at s k hlt H10.out).symm, rfl⟩
      · have H10 := Lib.hid h10
        have hb : (((s[k]'hlt).toNat : Int) == 10) = false := by simp [h10]
        clear h10
        go_wp2
        go_round
        case rel =>
          refine ⟨k + 1, by omega, by go_num, fun j hj hjk => ?_⟩
          by_cases e : j = k
          · subst e
            exact H10.out
          · exact Hall.out j hj (by omega)
        case measure => simp [intOf]; omega
    · go_wp2
      go_ret
      exact ⟨retBool (by rw [isText_all s fun j hj => Hall.out j hj (by omega)]; simp; omega), rfl⟩


set_option maxHeartbeats 1000000 in
theorem refName_any (s : ByteArray) (w : World) (hs : s.size ≤ maxLen) :
    Calls Tryz.prog 46 #[.string s] w fun e w' => e = .returned (.bool (isName s)) ∧ w = w' := by
  unfold maxLen at hs
  go_enter Tryz.func46, Tryz.ntmps46
  go_wp2
  go_loop [3] (fun i => ∃ k : Nat, k ≤ s.size ∧ i = .int .i64 k ∧ (∀ (j : Nat) (hj : j < s.size), j < k → nameByte (s[j]'hj) = true)) (fun i => s.size - (intOf i).toNat)
  case atStart => exact ⟨0, Nat.zero_le _, rfl, by intro j _ h; omega⟩
  case round =>
    obtain ⟨k, hk, rfl, hall⟩ := hrel
    have Hall := Lib.hid hall
    clear hall
    by_cases hlt : k < s.size
    · go_wp2
      all_goals first
        | (have hx : nameByte (s[k]'hlt) = true := by (rw [nameByte_iff]; simp at *; omega)
           have Hx := Lib.hid hx
           clear hx
           go_round
           case rel =>
             refine ⟨k + 1, by omega, by go_num, fun j hj hjk => ?_⟩
             by_cases e : j = k
             · subst e
               exact Hx.out
             · exact Hall.out j hj (by omega)
           case measure => simp [intOf]; omega)
        | (have hx : ¬ nameByte (s[k]'hlt) = true := by (rw [nameByte_iff]; simp at *; omega)
           have Hx := Lib.hid hx
           clear hx
           go_ret
           exact ⟨retBool (isName_at s k hlt Hx.out).symm, rfl⟩)
    · go_wp2
      all_goals
        go_ret
        exact ⟨retBool (by rw [isName_parts s fun j hj => Hall.out j hj (by omega), Bool.eq_iff_iff]; simp; omega), rfl⟩

set_option maxHeartbeats 2000000 in
theorem refCheck_any (lab n r : Int) (t : ByteArray) (w : World) (ht : t.size ≤ maxLen) :
    Calls Tryz.prog 85 #[.agg #[.int .u64 lab, .int .i64 n, .int .i64 r, .string t]] w fun e w' => e = .returned (.int .i64 (lineErr n r t)) ∧ Below w.heap.size w w' := by
  have HT := Lib.hid (refText_any t)
  go_enter Tryz.func85, Tryz.ntmps85
  go_wp2_with (go_at_call 125; refine (HT.out _ ht).mono ?_; rintro e w' ⟨rfl, rfl⟩)
  all_goals
    go_ret
    refine ⟨retInt ?_, (Below.refl _ _).alloc (Nat.le_refl _) _⟩
    unfold lineErr
    split
    · first | rfl | (exfalso; simp_all; omega)
    · first | rfl | (exfalso; cases hx : isText t <;> simp_all <;> omega)
end Go.Proofs.YtajjikbigacbaaaGreatDoor
