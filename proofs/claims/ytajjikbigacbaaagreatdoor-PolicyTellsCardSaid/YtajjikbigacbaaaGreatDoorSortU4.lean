/- Own work: slices.Sort at labels, part 4: the pivot is chosen. -/
import Derived.Test.YtajjikbigacbaaaGreatDoorSortU3
import Derived.Sort.Walk11
namespace Go.Proofs.YtajjikbigacbaaaGreatDoor
open Go.RowKit Go.Shelf Go.Sort

/-- the counter at p, po stands at s, q draws on -/
abbrev CntU (w : World) (p po q s : Nat) : World := putRow (Value.int .i64) (Sort.ahead w q) p po (one s)
theorem cntU_row {w : World} {g o p po q s : Nat} {d : Array Int} (h : Holds (Value.int .u64) w g o d) (hne : p ≠ g) : Holds (Value.int .u64) (CntU w p po q s) g o d := fun j hj =>
  ⟨(cell?_putRow_other _ _ _ _ _ ⟨g, o + j, none⟩ (.inl fun e => hne e.symm)).trans (h j hj).1, by rw [frozen?_putRow]; exact (h j hj).2⟩

set_option maxHeartbeats 16000000 in
set_option maxRecDepth 1000000 in
theorem order2U_any (d : Array Int) (n : Nat) (hdn : d.size = n) (g o cap a b p po s : Nat) (w : World) (hH : Holds (Value.int .u64) w g o d) (ha : a < d.size) (hb : b < d.size) (hS : Holds (Value.int .i64) w p po (one s)) (hs : s < 4611686018427387904) :
    Calls Tryz.prog 188 #[.slice (some ⟨g, o, none⟩) n cap, .int .i64 a, .int .i64 b, .pointer (some ⟨p, po, none⟩)] w fun e w' =>
      e = .returned (.tuple #[.int .i64 (order2 ltInt d a b s).1, .int .i64 (order2 ltInt d a b s).2.1]) ∧ ∃ q, w' = CntU w p po q (order2 ltInt d a b s).2.2 := by
  subst hdn
  obtain ⟨x, hx⟩ : ∃ x, d[a]! = x := ⟨_, rfl⟩
  obtain ⟨y, hy⟩ : ∃ y, d[b]! = y := ⟨_, rfl⟩
  have ca : w.cell? ⟨g, o + a, none⟩ = some (.int .u64 x) := by rw [← hx]; exact (hH a ha).1
  have cb : w.cell? ⟨g, o + b, none⟩ = some (.int .u64 y) := by rw [← hy]; exact (hH b hb).1
  obtain ⟨cs, fs⟩ := one_cell hS
  have HS := Lib.hid hS
  obtain ⟨t, ht⟩ : ∃ t, ltInt y x = t := ⟨_, rfl⟩
  have Hr := Lib.hid (show order2 ltInt d a b s = if t = true then (b, a, s + 1) else (a, b, s) by rw [order2, hx, hy, ht])
  have Hl := Lib.hid (fun w => (lessU_any y x w))
  rw [ht] at Hl
  clear hx hy hH hS ht
  cases t
  · have Hr2 := Lib.hid (show order2 ltInt d a b s = (a, b, s) from Hr.out)
    rw [Hr2.out]
    go_enter Tryz.func188, Tryz.ntmps188
    go_wp2
    go_region_with (go_at_call 138; refine (Hl.out _).mono ?_; rintro e w' ⟨rfl, rfl⟩)
    all_goals (try go_wp2)
    all_goals
      go_ret2
      refine ⟨rfl, 1, ?_⟩
      show _ = putRow _ _ _ _ _
      rw [putRow_ahead, putRow_self _ _ _ _ _ HS.out]
      rfl
  · have Hr2 := Lib.hid (show order2 ltInt d a b s = (b, a, s + 1) from Hr.out)
    rw [Hr2.out]
    go_enter Tryz.func188, Tryz.ntmps188
    go_wp2
    go_region_with (go_at_call 138; refine (Hl.out _).mono ?_; rintro e w' ⟨rfl, rfl⟩)
    all_goals (try go_wp2)
    all_goals
      go_ret2
      refine ⟨rfl, 1, ?_⟩
      show _ = putRow _ _ _ _ _
      rw [putRow_ahead, ← one_set HS.out (s + 1)]
      simp [drew_eq_ahead]

set_option maxHeartbeats 16000000 in
set_option maxRecDepth 1000000 in
theorem medianU_any (d : Array Int) (n : Nat) (hdn : d.size = n) (g o cap a b c p po s : Nat) (w : World) (hH : Holds (Value.int .u64) w g o d) (ha : a < d.size) (hb : b < d.size) (hc : c < d.size) (hne : p ≠ g) (hS : Holds (Value.int .i64) w p po (one s)) (hs : s + 3 < 4611686018427387904) :
    Calls Tryz.prog 169 #[.slice (some ⟨g, o, none⟩) n cap, .int .i64 a, .int .i64 b, .int .i64 c, .pointer (some ⟨p, po, none⟩)] w fun e w' =>
      e = .returned (.int .i64 (median ltInt d a b c s).1) ∧ ∃ q, w' = CntU w p po q (median ltInt d a b c s).2 := by
  have HH := Lib.hid hH
  have HS := Lib.hid hS
  have l1 := order2_lt d s ha hb
  have c1 := order2_count ltInt d a b s
  obtain ⟨⟨a1, b1, s1⟩, h1⟩ : ∃ r, order2 ltInt d a b s = r := ⟨_, rfl⟩
  rw [h1] at l1 c1
  have l2 := order2_lt d s1 l1.2 hc
  have c2 := order2_count ltInt d b1 c s1
  obtain ⟨⟨b2, x2, s2⟩, h2⟩ : ∃ r, order2 ltInt d b1 c s1 = r := ⟨_, rfl⟩
  rw [h2] at l2 c2
  obtain ⟨⟨x3, b3, s3⟩, h3⟩ : ∃ r, order2 ltInt d a1 b2 s2 = r := ⟨_, rfl⟩
  have hm : median ltInt d a b c s = (b3, s3) := by simp only [median, h1, h2, h3]
  simp only at l1 l2 c1 c2
  rw [hm]
  have H1 := Lib.hid h1
  have H2 := Lib.hid h2
  have H3 := Lib.hid h3
  clear hH hS h1 h2 h3 hm
  go_enter Tryz.func169, Tryz.ntmps169
  go_wp2_with fail
  refine (order2U_any d n hdn g o cap a b p po s _ HH.out ha hb HS.out (by omega)).mono ?_
  rintro e w1 ⟨rfl, q1, hw⟩
  rw [H1.out] at hw ⊢
  have HW1 := Lib.hid hw
  have HH1 := Lib.hid (show Holds (Value.int .u64) w1 g o d by rw [hw]; exact cntU_row HH.out hne)
  have HS1 := Lib.hid (show Holds (Value.int .i64) w1 p po (one s1) by rw [hw]; exact holds_one HS.out)
  clear hw
  go_wp2_with fail
  refine (order2U_any d n hdn g o cap b1 c p po s1 _ HH1.out l1.2 hc HS1.out (by omega)).mono ?_
  rintro e w2 ⟨rfl, q2, hw⟩
  rw [H2.out] at hw ⊢
  have HW2 := Lib.hid (show w2 = CntU w p po (q1 + q2) s2 from hw.trans (by rw [HW1.out]; exact one_one _ _ _ _ _ _ _))
  have HH2 := Lib.hid (show Holds (Value.int .u64) w2 g o d by rw [hw]; exact cntU_row HH1.out hne)
  have HS2 := Lib.hid (show Holds (Value.int .i64) w2 p po (one s2) by rw [hw]; exact holds_one HS1.out)
  clear hw
  go_wp2_with fail
  refine (order2U_any d n hdn g o cap a1 b2 p po s2 _ HH2.out l1.1 l2.1 HS2.out (by omega)).mono ?_
  rintro e w3 ⟨rfl, q3, hw⟩
  rw [H3.out] at hw ⊢
  have HW3 := Lib.hid (show w3 = CntU w p po (q1 + q2 + q3) s3 from hw.trans (by rw [HW2.out]; exact one_one _ _ _ _ _ _ _))
  clear hw
  go_wp2_with fail
  go_ret
  exact ⟨rfl, _, HW3.out⟩

set_option maxHeartbeats 16000000 in
set_option maxRecDepth 1000000 in
theorem adjacentU_any (d : Array Int) (n : Nat) (hdn : d.size = n) (g o cap a p po s : Nat) (w : World) (hH : Holds (Value.int .u64) w g o d) (ha0 : 1 ≤ a) (ha : a + 1 < d.size) (hn : d.size < 4611686018427387904) (hne : p ≠ g) (hS : Holds (Value.int .i64) w p po (one s)) (hs : s + 3 < 4611686018427387904) :
    Calls Tryz.prog 168 #[.slice (some ⟨g, o, none⟩) n cap, .int .i64 a, .pointer (some ⟨p, po, none⟩)] w fun e w' =>
      e = .returned (.int .i64 (medianAdjacent ltInt d a s).1) ∧ ∃ q, w' = CntU w p po q (medianAdjacent ltInt d a s).2 := by
  have Hm := Lib.hid (medianU_any d n hdn g o cap (a - 1) a (a + 1) p po s w hH (by omega) (by omega) ha hne hS hs)
  rw [show ((a - 1 : Nat) : Int) = (a : Int) - 1 by omega, show ((a + 1 : Nat) : Int) = (a : Int) + 1 by omega] at Hm
  clear hH hS
  go_enter Tryz.func168, Tryz.ntmps168
  go_wp2_with fail
  refine Hm.out.mono ?_
  rintro e w1 ⟨rfl, q, hw⟩
  have HW := Lib.hid hw
  clear hw
  go_wp2_with fail
  go_ret
  exact ⟨rfl, q, HW.out⟩
end Go.Proofs.YtajjikbigacbaaaGreatDoor
