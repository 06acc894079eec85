import Derived.Test.YtlmdcflnifmjjaaDoorRefList
import Derived.Test.YtlmdcflnifmjjaaDoorSetD
import Derived.Test.YtlmdcflnifmjjaaDoorNumbers
namespace Go.Proofs.YtlmdcflnifmjjaaDoor
open Go.RowKit

theorem Nums.slice {k : IntKind} {w : World} {v : Value} {l : List Int} (h : Nums k w v l) : ∃ ao cap, v = .slice ao l.length cap := by
  obtain ⟨ao, cap, _, _, h1, _⟩ := h.form
  exact ⟨ao, cap, h1⟩
theorem intsOf_len (l : List Nat) : (intsOf l).length = l.length := by simp [intsOf]

set_option maxHeartbeats 8000000 in
set_option maxRecDepth 100000 in
theorem two_walk (a b : Nat) (w : World) (ha : a < 18446744073709551616) (hb : b < 18446744073709551616) (hT : Deb w) :
    Calls Tryd.prog 4 #[.int .u64 a, .int .u64 b] w fun e w' => e = .returned (.bool true) ∧ Below w.heap.size w w' := by
  have HT := Lib.hid hT
  clear hT
  obtain ⟨bl, hbl⟩ : ∃ x, belowN a b = x := ⟨_, rfl⟩
  have Hbl := Lib.hid hbl
  obtain ⟨j, hj⟩ : ∃ x : Nat, a ||| b = x := ⟨_, rfl⟩
  have Hj := Lib.hid hj
  obtain ⟨m, hm⟩ : ∃ x : Nat, a &&& b = x := ⟨_, rfl⟩
  have Hm := Lib.hid hm
  obtain ⟨l, hl⟩ : ∃ x : Nat, lessN a b = x := ⟨_, rfl⟩
  have Hl := Lib.hid hl
  clear hbl hj hm hl
  go_enter Tryd.func4, Tryd.ntmps4
  go_wp2_with fail
  refine (below_any a b _ ha hb).mono ?_
  rintro e w' ⟨rfl, rfl⟩
  rw [Hbl.out]
  go_wp2_with fail
  refine (refBelow_any a b _ ha hb).mono ?_
  rintro e w1 ⟨rfl, hc⟩
  rw [Hbl.out]
  have B1 := Lib.hid hc
  clear hc
  go_wp2_with fail
  refine (join_any a b _ ha hb).mono ?_
  rintro e w' ⟨rfl, rfl⟩
  rw [Hj.out]
  go_wp2_with fail
  refine (refBoth1_any a b _ ha hb).mono ?_
  rintro e w2 ⟨rfl, hc⟩
  rw [Hj.out]
  have B2 := Lib.hid (below_join B1.out hc)
  clear hc
  go_wp2_with fail
  refine (meet_any a b _ ha hb).mono ?_
  rintro e w' ⟨rfl, rfl⟩
  rw [Hm.out]
  go_wp2_with fail
  refine (refBoth2_any a b _ ha hb).mono ?_
  rintro e w3 ⟨rfl, hc⟩
  rw [Hm.out]
  have B3 := Lib.hid (below_join B2.out hc)
  clear hc
  go_wp2_with fail
  refine (less_any a b _ ha hb).mono ?_
  rintro e w' ⟨rfl, rfl⟩
  rw [Hl.out]
  go_wp2_with fail
  refine (refBoth3_any a b _ ha hb).mono ?_
  rintro e w4 ⟨rfl, hc⟩
  rw [Hl.out]
  have B4 := Lib.hid (below_join B3.out hc)
  clear hc
  go_wp2_with fail
  refine (list_any a _ ha (HT.out.kept B4.out)).mono ?_
  rintro e w5 ⟨u, rfl, hu, hc⟩
  have B5 := Lib.hid (below_join B4.out hc)
  have Hu := Lib.hid (Nums.of_own hu)
  clear hc hu
  go_wp2_with fail
  refine (refList_any a _ ha).mono ?_
  rintro e w6 ⟨v, rfl, hv, hc⟩
  have B6 := Lib.hid (below_join B5.out hc)
  have Hv := Lib.hid (Nums.of_own hv)
  have Hu6 := Lib.hid (Hu.out.kept hc)
  clear hc hv
  go_wp2_with fail
  refine (sameNumbers_any u v _ _ _ Hu6.out Hv.out).mono ?_
  rintro e w7 ⟨rfl, hc⟩
  rw [decide_eq_true rfl]
  have B7 := Lib.hid (below_join B6.out hc)
  clear hc
  go_wp2_with fail
  refine (count_any a _ ha).mono ?_
  rintro e w' ⟨rfl, rfl⟩
  go_wp2_with fail
  refine (refList_any a _ ha).mono ?_
  rintro e w8 ⟨z, rfl, hz, hc⟩
  have B8 := Lib.hid (below_join B7.out hc)
  obtain ⟨zo, zc, hzs⟩ := (Nums.of_own hz).slice
  rw [intsOf_len] at hzs
  change z = .slice zo (countN a) zc at hzs
  subst hzs
  clear hc hz
  go_wp2_with fail
  go_ret
  exact ⟨rfl, B8.out⟩
end Go.Proofs.YtlmdcflnifmjjaaDoor
