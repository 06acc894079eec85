import Derived.Test.YtlmdcflnifmjjaaDoorAwake
import Derived.Test.YtlmdcflnifmjjaaDoorLatMath
import Derived.Deep.DeepCutAuto
namespace Go.Proofs.YtlmdcflnifmjjaaDoor
open Go.RowKit

set_option maxHeartbeats 32000000 in
set_option maxRecDepth 100000 in
theorem lattice_walk (a b c : Nat) (w : World) (ha : a < 18446744073709551616) (hb : b < 18446744073709551616) (hc : c < 18446744073709551616) (hT : Deb w) :
    Calls Tryd.prog 7 #[.int .u64 a, .int .u64 b, .int .u64 c] w fun e w' => e = .returned (.bool true) ∧ Below w.heap.size w w' := by
  have Haa := Lib.hid (below_self a)
  have Hanti := Lib.hid (@below_anti a b)
  have Htr := Lib.hid (@below_trans a b c)
  go_enter Tryd.func7, Tryd.ntmps7
  go_wp2_with fail
  refine (awake_any _ hT).mono ?_
  rintro e w1 ⟨rfl, hb1⟩
  have B1 := Lib.hid hb1
  clear hb1 hT
  go_upto_region 4 with fail
  go_cut [51] (fun s wx => s = .bool false ∧ wx = w1)
  case first =>
    cases hab : belowN a b
    · have haa := Haa.out
      go_wp2_with (go_at_call 16; refine (below_any _ _ _ (by assumption) (by assumption)).mono ?_; rintro e w' ⟨rfl, rfl⟩)
      go_meet
      exact ⟨rfl, rfl⟩
    · cases hba : belowN b a
      · cases hbc : belowN b c
        · have haa := Haa.out
          go_wp2_with (go_at_call 16; refine (below_any _ _ _ (by assumption) (by assumption)).mono ?_; rintro e w' ⟨rfl, rfl⟩)
          go_meet
          exact ⟨rfl, rfl⟩
        · have haa := Haa.out
          have hac := Htr.out hab hbc
          go_wp2_with (go_at_call 16; refine (below_any _ _ _ (by assumption) (by assumption)).mono ?_; rintro e w' ⟨rfl, rfl⟩)
          go_meet
          exact ⟨rfl, rfl⟩
      · have he := Hanti.out hab hba
        subst he
        cases hac : belowN a c
        · go_wp2_with (go_at_call 16; refine (below_any _ _ _ (by assumption) (by assumption)).mono ?_; rintro e w' ⟨rfl, rfl⟩)
          go_meet
          exact ⟨rfl, rfl⟩
        · go_wp2_with (go_at_call 16; refine (below_any _ _ _ (by assumption) (by assumption)).mono ?_; rintro e w' ⟨rfl, rfl⟩)
          go_meet
          exact ⟨rfl, rfl⟩
  case rest =>
    obtain ⟨rfl, rfl⟩ := hcut
    have hj : a ||| b < 18446744073709551616 := Nat.or_lt_two_pow (n := 64) ha hb
    have hm : a &&& b < 18446744073709551616 := Nat.lt_of_le_of_lt Nat.and_le_left ha
    have Hja := Lib.hid (below_or_l a b)
    have Hjb := Lib.hid (below_or_r a b)
    have Hma := Lib.hid (below_and_l a b)
    have Hmb := Lib.hid (below_and_r a b)
    have Hjc := Lib.hid (@below_or a b c)
    have Hcm := Lib.hid (@below_and a b c)
    have Hlm := Lib.hid (less_meet a b)
    have Hlj := Lib.hid (less_join a b)
    have Hms := Lib.hid (meet_shared a b c)
    have Hjs := Lib.hid (join_shared a b c)
    obtain ⟨j, hje⟩ : ∃ x, a ||| b = x := ⟨_, rfl⟩
    obtain ⟨m, hme⟩ : ∃ x, a &&& b = x := ⟨_, rfl⟩
    rw [hje] at hj Hja Hjb Hjc Hjs
    rw [hme] at hm Hma Hmb Hcm Hlj Hms
    have Hje := Lib.hid hje
    have Hme := Lib.hid hme
    clear hje hme
    go_wp2_with fail
    refine (join_any a b _ ha hb).mono ?_
    rintro e w' ⟨rfl, rfl⟩
    rw [Hje.out]
    go_wp2_with fail
    refine (meet_any a b _ ha hb).mono ?_
    rintro e w' ⟨rfl, rfl⟩
    rw [Hme.out]
    go_upto_region 9 with (go_at_call 16; refine (below_any _ _ _ (by assumption) (by assumption)).mono ?_; rintro e w' ⟨rfl, rfl⟩; simp only [Hja.out, Hjb.out, Hma.out, Hmb.out])
    go_cut [109] (fun s wx => s = .bool false ∧ wx = wc)
    case first =>
      cases hac : belowN a c <;> cases hca : belowN c a
      all_goals
        cases hbc : belowN b c <;> cases hcb : belowN c b
        all_goals
          first
            | (have hjc := Hjc.out hac hbc; have hcm := Hcm.out hca hcb; go_wp2_with (go_at_call 16; refine (below_any _ _ _ (by assumption) (by assumption)).mono ?_; rintro e w' ⟨rfl, rfl⟩); go_meet; exact ⟨rfl, rfl⟩)
            | (have hjc := Hjc.out hac hbc; go_wp2_with (go_at_call 16; refine (below_any _ _ _ (by assumption) (by assumption)).mono ?_; rintro e w' ⟨rfl, rfl⟩); go_meet; exact ⟨rfl, rfl⟩)
            | (have hcm := Hcm.out hca hcb; go_wp2_with (go_at_call 16; refine (below_any _ _ _ (by assumption) (by assumption)).mono ?_; rintro e w' ⟨rfl, rfl⟩); go_meet; exact ⟨rfl, rfl⟩)
            | (go_wp2_with (go_at_call 16; refine (below_any _ _ _ (by assumption) (by assumption)).mono ?_; rintro e w' ⟨rfl, rfl⟩); go_meet; exact ⟨rfl, rfl⟩)
    case rest =>
      obtain ⟨rfl, rfl⟩ := hcut
      have hl := lessN_lt a b ha
      have hor : b ||| c < 18446744073709551616 := Nat.or_lt_two_pow (n := 64) hb hc
      have hac : a &&& c < 18446744073709551616 := Nat.lt_of_le_of_lt Nat.and_le_left ha
      have hand : b &&& c < 18446744073709551616 := Nat.lt_of_le_of_lt Nat.and_le_left hb
      have haoc : a ||| c < 18446744073709551616 := Nat.or_lt_two_pow (n := 64) ha hc
      obtain ⟨l, hle⟩ : ∃ x, lessN a b = x := ⟨_, rfl⟩
      rw [hle] at hl Hlm Hlj
      obtain ⟨p, hpe⟩ : ∃ x, b ||| c = x := ⟨_, rfl⟩
      rw [hpe] at hor Hms
      obtain ⟨q, hqe⟩ : ∃ x, a &&& c = x := ⟨_, rfl⟩
      rw [hqe] at hac Hms
      obtain ⟨r, hre⟩ : ∃ x, b &&& c = x := ⟨_, rfl⟩
      rw [hre] at hand Hjs
      obtain ⟨s, hse⟩ : ∃ x, a ||| c = x := ⟨_, rfl⟩
      rw [hse] at haoc Hjs
      have Hle := Lib.hid hle
      have Hpe := Lib.hid hpe
      have Hqe := Lib.hid hqe
      have Hre := Lib.hid hre
      have Hse := Lib.hid hse
      clear hle hpe hqe hre hse
      go_wp2_with fail
      refine (less_any a b _ ha hb).mono ?_
      rintro e w' ⟨rfl, rfl⟩
      rw [Hle.out]
      go_wp2_with fail
      refine (meet_any l b _ hl hb).mono ?_
      rintro e w' ⟨rfl, rfl⟩
      rw [Hlm.out]
      go_wp2_with fail
      refine (less_any a b _ ha hb).mono ?_
      rintro e w' ⟨rfl, rfl⟩
      rw [Hle.out]
      go_wp2_with fail
      refine (join_any l m _ hl hm).mono ?_
      rintro e w' ⟨rfl, rfl⟩
      rw [Hlj.out]
      go_wp2_with fail
      refine (join_any b c _ hb hc).mono ?_
      rintro e w' ⟨rfl, rfl⟩
      rw [Hpe.out]
      go_wp2_with fail
      refine (meet_any a p _ ha hor).mono ?_
      rintro e w' ⟨rfl, rfl⟩
      rw [Hms.out]
      go_wp2_with fail
      refine (meet_any a c _ ha hc).mono ?_
      rintro e w' ⟨rfl, rfl⟩
      rw [Hqe.out]
      obtain ⟨x, hx⟩ : ∃ x, m ||| q = x := ⟨_, rfl⟩
      rw [hx]
      have Hx := Lib.hid hx
      clear hx
      go_wp2_with fail
      refine (join_any m q _ hm hac).mono ?_
      rintro e w' ⟨rfl, rfl⟩
      rw [Hx.out]
      go_wp2_with fail
      refine (meet_any b c _ hb hc).mono ?_
      rintro e w' ⟨rfl, rfl⟩
      rw [Hre.out]
      go_wp2_with fail
      refine (join_any a r _ ha hand).mono ?_
      rintro e w' ⟨rfl, rfl⟩
      rw [Hjs.out]
      obtain ⟨y, hy⟩ : ∃ y, j &&& s = y := ⟨_, rfl⟩
      rw [hy]
      have Hy := Lib.hid hy
      clear hy
      go_wp2_with fail
      refine (join_any a c _ ha hc).mono ?_
      rintro e w' ⟨rfl, rfl⟩
      rw [Hse.out]
      go_wp2_with fail
      refine (meet_any j s _ hj haoc).mono ?_
      rintro e w' ⟨rfl, rfl⟩
      rw [Hy.out]
      go_wp2_with fail
      go_ret
      exact ⟨rfl, B1.out⟩
end Go.Proofs.YtlmdcflnifmjjaaDoor
