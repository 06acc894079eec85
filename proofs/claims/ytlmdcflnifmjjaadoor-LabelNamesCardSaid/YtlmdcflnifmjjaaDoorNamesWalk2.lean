import Derived.Test.YtlmdcflnifmjjaaDoorAwake
import Derived.Test.YtlmdcflnifmjjaaDoorBetween
namespace Go.Proofs.YtlmdcflnifmjjaaDoor
open Go.RowKit

theorem nm1 : ofA [0, 63] = 9223372036854775809 ∧ ofE [0, 63] = 0 := by decide +kernel
theorem nm2 : ofA [] = 0 ∧ ofE [] = 0 := by decide +kernel
theorem nm3 : ofA [64] = 0 ∧ ofE [64] = 1 := by decide +kernel
theorem nm4 : 16 < countN (lessN 131071 0) ∧ countN (lessN 0 131071) ≤ 16 := by decide +kernel
theorem nm5 : textB 0 = ⟨#[45]⟩ := rfl
theorem nm6 : textB 9223372036854775809 = ⟨#[48, 43, 54, 51]⟩ := by
  have e : listN 9223372036854775809 = [0, 63] := by decide +kernel
  rw [textB, if_neg (by decide), e]
  show plusT [digB 0, digB 63] = _
  rw [digB, digB, dec_small (by decide), dec_two (by decide) (by decide)]
  rfl

set_option maxHeartbeats 8000000 in
set_option maxRecDepth 100000 in
theorem names_walk (w : World) (hT : Deb w) :
    Calls Tryd.prog 6 #[] w fun e w' => e = .returned (.bool true) ∧ Below w.heap.size w w' := by
  have HT := Lib.hid hT
  clear hT
  go_enter Tryd.func6, Tryd.ntmps6
  go_wp2_with fail
  refine (of_any _ [0, 63] _ (nums_lit w [0, 63] _ (by decide) (by decide))).mono ?_
  rintro e w1 ⟨rfl, hb⟩
  rw [nm1.1, nm1.2]
  have B1 := Lib.hid (((Below.refl _ _).alloc (Nat.le_refl _) _).trans (hb.mono (by simp)))
  clear hb
  go_wp2_with fail
  refine (of_any _ [] _ (.inl ⟨_, _, rfl, rfl⟩)).mono ?_
  rintro e w2 ⟨rfl, hb⟩
  rw [nm2.1, nm2.2]
  have B2 := Lib.hid (below_join B1.out hb)
  clear hb
  go_wp2_with fail
  refine (of_any _ [64] _ (nums_lit w2 [64] _ (by decide) (by decide))).mono ?_
  rintro e w3 ⟨rfl, hb⟩
  rw [nm3.1, nm3.2]
  have B3 := Lib.hid (below_join B2.out (((Below.refl _ _).alloc (Nat.le_refl _) _).trans (hb.mono (by simp))))
  clear hb
  go_wp2_with fail
  refine (between_any 0 131071 _ (by decide) (by decide)).mono ?_
  rintro e w4 ⟨hb, ⟨_, rfl⟩ | ⟨h16, _⟩⟩
  · have B4 := Lib.hid (below_join B3.out hb)
    clear hb
    go_wp2_with fail
    refine (between_any 131071 0 _ (by decide) (by decide)).mono ?_
    rintro e w5 ⟨hb, ⟨h16, _⟩ | ⟨_, g, _, rfl, _⟩⟩
    · exact absurd nm4.2 (by omega)
    · have B5 := Lib.hid (below_join B4.out hb)
      clear hb
      go_wp2_with fail
      refine (labText_any 0 _ (by decide) (HT.out.kept B5.out)).mono ?_
      rintro e w6 ⟨rfl, hb⟩
      rw [nm5]
      have B6 := Lib.hid (below_join B5.out hb)
      clear hb
      go_wp2_with fail
      refine (labText_any 9223372036854775809 _ (by decide) (HT.out.kept B6.out)).mono ?_
      rintro e w7 ⟨rfl, hb⟩
      rw [nm6]
      have B7 := Lib.hid (below_join B6.out hb)
      clear hb
      go_wp2_with fail
      go_ret
      exact ⟨rfl, B7.out⟩
  · exact absurd nm4.1 (by omega)
end Go.Proofs.YtlmdcflnifmjjaaDoor
