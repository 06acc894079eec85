/- Own work: the walk of LabelTexts. -/
import Derived.Test.YtgodmfjcccakbaaDoorParseSame
namespace Go.Proofs.YtgodmfjcccakbaaDoor
open Go.RowKit

set_option maxRecDepth 100000 in
set_option maxHeartbeats 4000000 in
theorem texts_walk (a : Nat) (s : ByteArray) (w : World) (ha : a < 18446744073709551616) (hs : s.size ≤ 140737488355328) (hT : Deb w) (hv : ErrVars w) :
    Calls Tryd.prog 3 #[.int .u64 a, .string s] w fun e w' => e = .returned (.bool true) ∧ Below w.heap.size w w' := by
  have HV := Lib.hid hv
  have HT := Lib.hid hT
  clear hv hT
  have hsame := lab_same s
  obtain ⟨⟨r, e0⟩, hr⟩ : ∃ r, refP s = r := ⟨_, rfl⟩
  go_enter Tryd.func3, Tryd.ntmps3
  go_wp2_with fail
  refine (refParse_any s _ hs).mono ?_
  rintro e w1 ⟨rfl, hb1⟩
  rw [hr] at hsame ⊢
  have B1 := Lib.hid hb1
  clear hb1
  go_wp2_with fail
  refine (parse_any s _ hs (HV.out.kept B1.out)).mono ?_
  rintro e w2 ⟨hb2, hp⟩
  have B2 := Lib.hid (below_join B1.out hb2)
  have hp2 : e = .returned (.tuple #[.int .u64 (r : Int), .int .i64 e0]) := by
    rcases hsame with ⟨h1, h2⟩ | ⟨h1, cs, h2, h3⟩ | ⟨h1, h2, h3⟩
    · rcases hp with ⟨_, rfl⟩ | ⟨h, _⟩ | ⟨h, _⟩
      · cases h2; rfl
      · exact absurd h1 h
      · exact absurd h1 h
    · rcases hp with ⟨h, _⟩ | ⟨_, ds, h4, rfl⟩ | ⟨_, h, _⟩
      · exact absurd h h1
      · cases h3
        have : ds = cs := map_dig_inj h4.1.2 h2.1.2 (h4.2.symm.trans h2.2)
        rw [this]
      · exact absurd ⟨cs, h2⟩ h
    · rcases hp with ⟨h, _⟩ | ⟨_, ds, h4, _⟩ | ⟨_, _, rfl⟩
      · exact absurd h h1
      · exact absurd ⟨ds, h4⟩ h2
      · cases h3; rfl
  subst hp2
  clear hsame hp hb2 hr
  go_wp2_with fail
  refine (labText_any a _ ha (HT.out.kept B2.out)).mono ?_
  rintro e w3 ⟨rfl, hb3⟩
  have B3 := Lib.hid (below_join B2.out hb3)
  clear hb3
  go_wp2_with fail
  refine (refLabText_any a _ ha).mono ?_
  rintro e w4 ⟨rfl, hb4⟩
  have B4 := Lib.hid (below_join B3.out hb4)
  clear hb4
  go_wp2_with fail
  go_ret
  exact ⟨rfl, B4.out⟩
end Go.Proofs.YtgodmfjcccakbaaDoor
