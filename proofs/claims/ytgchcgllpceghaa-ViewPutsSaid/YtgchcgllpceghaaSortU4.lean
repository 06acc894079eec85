/- Own work: slices.Sort at labels, part 4: the pivot is chosen. -/
import Derived.Test.YtgchcgllpceghaaSortU1
import Derived.Sort.Walk11
namespace Go.Proofs.Ytgchcgllpceghaa
open Go.RowKit Go.Shelf Go.Sort

/-- the counter at p, po stands at s, q draws on -/
abbrev CntU (w : World) (p po q s : Nat) : World := putRow (Value.int .i64) (Sort.ahead w q) p po (one s)
theorem cntU_row {w : World} {g o p po q s : Nat} {d : Array Int} (h : Holds (Value.int .u64) w g o d) (hne : p ≠ g) : Holds (Value.int .u64) (CntU w p po q s) g o d := fun j hj =>
  ⟨(cell?_putRow_other _ _ _ _ _ ⟨g, o + j, none⟩ (.inl fun e => hne e.symm)).trans (h j hj).1, by rw [frozen?_putRow]; exact (h j hj).2⟩

set_option maxHeartbeats 16000000 in
set_option maxRecDepth 1000000 in
theorem order2U_any (d : Array Int) (n : Nat) (hdn : d.size = n) (g o cap a b p po s : Nat) (w : World) (hH : Holds (Value.int .u64) w g o d) (ha : a < d.size) (hb : b < d.size) (hS : Holds (Value.int .i64) w p po (one s)) (hs : s < 4611686018427387904) :
    Calls Try.prog 77 #[.slice (some ⟨g, o, none⟩) n cap, .int .i64 a, .int .i64 b, .pointer (some ⟨p, po, none⟩)] w fun e w' =>
      e = .returned (.tuple #[.int .i64 (order2 ltInt d a b s).1, .int .i64 (order2 ltInt d a b s).2.1]) ∧ ∃ q, w' = CntU w p po q (order2 ltInt d a b s).2.2 := by
  subst hdn
  obtain ⟨x, hx⟩ : ∃ x, d[a]! = x := ⟨_, rfl⟩
  obtain ⟨y, hy⟩ : ∃ y, d[b]! = y := ⟨_, rfl⟩
  have ca : w.cell? ⟨g, o + a, none⟩ = some (.int .u64 x) := by rw [← hx]; exact (hH a ha).1
  have cb : w.cell? ⟨g, o + b, none⟩ = some (.int .u64 y) := by rw [← hy]; exact (hH b hb).1
  obtain ⟨cs, fs⟩ := one_cell hS
  have HS := Lib.hid hS
  obtain ⟨t, ht⟩ : ∃ t, ltInt y x = t := ⟨_, rfl⟩
  have Hr := Lib.hid (show order2 ltInt d a b s = if t = true then (b, a, s + 1) else (a, b, s) by rw [order2, hx, hy, ht])
  have Hl := Lib.hid (fun w => (lessU_any y x w))
  rw [ht] at Hl
  clear hx hy hH hS ht
  cases t
  · have Hr2 := Lib.hid (show order2 ltInt d a b s = (a, b, s) from Hr.out)
    rw [Hr2.out]
    go_enter Try.func77, Try.ntmps77
    go_wp2
    go_region_with (go_at_call 66; refine (Hl.out _).mono ?_; rintro e w' ⟨rfl, rfl⟩)
    all_goals (try go_wp2)
    all_goals
      go_ret2
      refine ⟨rfl, 1, ?_⟩
      show _ = putRow _ _ _ _ _
      rw [putRow_ahead, putRow_self _ _ _ _ _ HS.out]
      rfl
  · have Hr2 := Lib.hid (show order2 ltInt d a b s = (b, a, s + 1) from Hr.out)
    rw [Hr2.out]
    go_enter Try.func77, Try.ntmps77
    go_wp2
    go_region_with (go_at_call 66; refine (Hl.out _).mono ?_; rintro e w' ⟨rfl, rfl⟩)
    all_goals (try go_wp2)
    all_goals
      go_ret2
      refine ⟨rfl, 1, ?_⟩
      show _ = putRow _ _ _ _ _
      rw [putRow_ahead, ← one_set HS.out (s + 1)]
      simp [drew_eq_ahead]

set_option maxHeartbeats 16000000 in
set_option maxRecDepth 1000000 in
theorem medianU_any (d : Array Int) (n : Nat) (hdn : d.size = n) (g o cap a b c p po s : Nat) (w : World) (hH : Holds (Value.int .u64) w g o d) (ha : a < d.size) (hb : b < d.size) (hc : c < d.size) (hne : p ≠ g) (hS : Holds (Value.int .i64) w p po (one s)) (hs : s + 3 < 4611686018427387904) :
    Calls Try.prog 75 #[.slice (some ⟨g, o, none⟩) n cap, .int .i64 a, .int .i64 b, .int .i64 c, .pointer (some ⟨p, po, none⟩)] w fun e w' =>
      e = .returned (.int .i64 (median ltInt d a b c s).1) ∧ ∃ q, w' = CntU w p po q (median ltInt d a b c s).2 := by
  have HH := Lib.hid hH
  have HS := Lib.hid hS
  have l1 := order2_lt d s ha hb
  have c1 := order2_count ltInt d a b s
  obtain ⟨⟨a1, b1, s1⟩, h1⟩ : ∃ r, order2 ltInt d a b s = r := ⟨_, rfl⟩
  rw [h1] at l1 c1
  have l2 := order2_lt d s1 l1.2 hc
  have c2 := order2_count ltInt d b1 c s1
  obtain ⟨⟨b2, x2, s2⟩, h2⟩ : ∃ r, order2 ltInt d b1 c s1 = r := ⟨_, rfl⟩
  rw [h2] at l2 c2
  obtain ⟨⟨x3, b3, s3⟩, h3⟩ : ∃ r, order2 ltInt d a1 b2 s2 = r := ⟨_, rfl⟩
  have hm : median ltInt d a b c s = (b3, s3) := by simp only [median, h1, h2, h3]
  simp only at l1 l2 c1 c2
  rw [hm]
  have H1 := Lib.hid h1
  have H2 := Lib.hid h2
  have H3 := Lib.hid h3
  clear hH hS h1 h2 h3 hm
  go_enter Try.func75, Try.ntmps75
  go_wp2_with fail
  refine (order2U_any d n hdn g o cap a b p po s _ HH.out ha hb HS.out (by omega)).mono ?_
  rintro e w1 ⟨rfl, q1, hw⟩
  rw [H1.out] at hw ⊢
  have HW1 := Lib.hid hw
  have HH1 := Lib.hid (show Holds (Value.int .u64) w1 g o d by rw [hw]; exact cntU_row HH.out hne)
  have HS1 := Lib.hid (show Holds (Value.int .i64) w1 p po (one s1) by rw [hw]; exact holds_one HS.out)
  clear hw
  go_wp2_with fail
  refine (order2U_any d n hdn g o cap b1 c p po s1 _ HH1.out l1.2 hc HS1.out (by omega)).mono ?_
  rintro e w2 ⟨rfl, q2, hw⟩
  rw [H2.out] at hw ⊢
  have HW2 := Lib.hid (show w2 = CntU w p po (q1 + q2) s2 from hw.trans (by rw [HW1.out]; exact one_one _ _ _ _ _ _ _))
  have HH2 := Lib.hid (show Holds (Value.int .u64) w2 g o d by rw [hw]; exact cntU_row HH1.out hne)
  have HS2 := Lib.hid (show Holds (Value.int .i64) w2 p po (one s2) by rw [hw]; exact holds_one HS1.out)
  clear hw
  go_wp2_with fail
  refine (order2U_any d n hdn g o cap a1 b2 p po s2 _ HH2.out l1.1 l2.1 HS2.out (by omega)).mono ?_
  rintro e w3 ⟨rfl, q3, hw⟩
  rw [H3.out] at hw ⊢
  have HW3 := Lib.hid (show w3 = CntU w p po (q1 + q2 + q3) s3 from hw.trans (by rw [HW2.out]; exact one_one _ _ _ _ _ _ _))
  clear hw
  go_wp2_with fail
  go_ret
  exact ⟨rfl, _, HW3.out⟩

set_option maxHeartbeats 16000000 in
set_option maxRecDepth 1000000 in
theorem adjacentU_any (d : Array Int) (n : Nat) (hdn : d.size = n) (g o cap a p po s : Nat) (w : World) (hH : Holds (Value.int .u64) w g o d) (ha0 : 1 ≤ a) (ha : a + 1 < d.size) (hn : d.size < 4611686018427387904) (hne : p ≠ g) (hS : Holds (Value.int .i64) w p po (one s)) (hs : s + 3 < 4611686018427387904) :
    Calls Try.prog 74 #[.slice (some ⟨g, o, none⟩) n cap, .int .i64 a, .pointer (some ⟨p, po, none⟩)] w fun e w' =>
      e = .returned (.int .i64 (medianAdjacent ltInt d a s).1) ∧ ∃ q, w' = CntU w p po q (medianAdjacent ltInt d a s).2 := by
  have Hm := Lib.hid (medianU_any d n hdn g o cap (a - 1) a (a + 1) p po s w hH (by omega) (by omega) ha hne hS hs)
  rw [show ((a - 1 : Nat) : Int) = (a : Int) - 1 by omega, show ((a + 1 : Nat) : Int) = (a : Int) + 1 by omega] at Hm
  clear hH hS
  go_enter Try.func74, Try.ntmps74
  go_wp2_with fail
  refine Hm.out.mono ?_
  rintro e w1 ⟨rfl, q, hw⟩
  have HW := Lib.hid hw
  clear hw
  go_wp2_with fail
  go_ret
  exact ⟨rfl, q, HW.out⟩
end Go.Proofs.Ytgchcgllpceghaa
/- Own work: slices.Sort at labels, part 5: choosePivot. -/
namespace Go.Proofs.Ytgchcgllpceghaa
open Go.RowKit Go.Shelf Go.Sort

/-- behind the counter's making: the counter is a new block, the row is as it was -/
def CntAt (w : World) (q s : Nat) : World := CntU (w.alloc (.cells #[.int .i64 0] 3)) w.heap.size 0 q s
theorem cntAt_start (w : World) : w.alloc (.cells #[.int .i64 0] 3) = CntAt w 0 0 := by
  have h : Holds (Value.int .i64) (w.alloc (.cells #[.int .i64 0] 3)) w.heap.size 0 (one 0) := fun j hj => by
    obtain rfl : j = 0 := by simpa using hj
    simp
  exact (putRow_self _ _ _ _ _ h).symm
theorem cntAt_one (w : World) (q s : Nat) : Holds (Value.int .i64) (CntAt w q s) w.heap.size 0 (one s) := by
  refine holds_one (s := 0) fun j hj => ?_
  obtain rfl : j = 0 := by simpa using hj
  simp
theorem cntAt_row {w : World} {g o : Nat} {d : Array Int} (h : Holds (Value.int .u64) w g o d) (hg : g < w.heap.size) (q s : Nat) : Holds (Value.int .u64) (CntAt w q s) g o d := by
  refine cntU_row ?_ (by omega)
  rw [alloc_eq_grow]
  exact holds_grow _ _ _ _ _ _ hg h
theorem cntAt_join (w : World) (q s m t : Nat) : CntU (CntAt w q s) w.heap.size 0 m t = CntAt w (q + m) t := one_one _ _ _ _ _ _ _
theorem cntAt_grow (w : World) (q s : Nat) : ∃ os, CntAt w q s = grow (Sort.ahead w q) os := counter_grow w q s

theorem cntAt_ex {w w1 : World} {q s : Nat} (h : w1 = CntAt w q s) : ∃ Q, w1 = CntAt w Q s := ⟨q, h⟩

theorem hint_at (s : Nat) : hintCode (hintOf s) = if ((s : Int) == 0) = true then 1 else if ((s : Int) == 12) = true then 2 else 0 := by
  by_cases h0 : s = 0
  · subst h0; rfl
  · have e0 : ((s : Int) == 0) = false := beq_eq_false_iff_ne.2 (by omega)
    by_cases h1 : s = 12
    · subst h1; rfl
    · have e1 : ((s : Int) == 12) = false := beq_eq_false_iff_ne.2 (by omega)
      rw [e0, e1, hintOf, if_neg h0, if_neg h1]
      rfl

set_option maxHeartbeats 16000000 in
set_option maxRecDepth 1000000 in
theorem pivotU_any (g o cap a b : Nat) (d : Array Int) (w : World) (hH : Holds (Value.int .u64) w g o d) (hg : g < w.heap.size) (hab : a < b) (hb : b ≤ d.size) (hn : d.size < 4611686018427387904) :
    Calls Try.prog 63 #[.slice (some ⟨g, o, none⟩) d.size cap, .int .i64 a, .int .i64 b] w fun e w' =>
      e = .returned (.tuple #[.int .i64 (choosePivot ltInt d a b).1, .int .i64 (hintCode (choosePivot ltInt d a b).2)]) ∧ ∃ q os, w' = grow (Sort.ahead w q) os := by
  have HR := Lib.hid (fun q s => cntAt_row hH hg q s)
  have hne : w.heap.size ≠ g := by omega
  clear hH hg
  rw [choosePivot_eq]
  obtain ⟨I, hI⟩ : ∃ I : Nat, a + (b - a) / 4 * 1 = I := ⟨_, rfl⟩
  obtain ⟨J, hJ⟩ : ∃ J : Nat, a + (b - a) / 4 * 2 = J := ⟨_, rfl⟩
  obtain ⟨K, hK⟩ : ∃ K : Nat, a + (b - a) / 4 * 3 = K := ⟨_, rfl⟩
  have eI : (a : Int) + ((b : Int) - (a : Int)) / 4 = (I : Int) := by omega
  have eJ : (a : Int) + ((b : Int) - (a : Int)) / 4 * 2 = (J : Int) := by omega
  have eK : (a : Int) + ((b : Int) - (a : Int)) / 4 * 3 = (K : Int) := by omega
  have hst := cntAt_start w
  by_cases h8 : b - a ≥ 8
  · by_cases h50 : b - a ≥ 50
    · have Hraw := Lib.hid (show rawPivot ltInt d a b = median ltInt d (medianAdjacent ltInt d I 0).1 (medianAdjacent ltInt d J (medianAdjacent ltInt d I 0).2).1 (medianAdjacent ltInt d K (medianAdjacent ltInt d J (medianAdjacent ltInt d I 0).2).2).1 (medianAdjacent ltInt d K (medianAdjacent ltInt d J (medianAdjacent ltInt d I 0).2).2).2 by
        simp only [rawPivot, if_pos h8, if_pos h50, hI, hJ, hK])
      have m1 := medianAdjacent_mem ltInt d I 0
      have n1 := medianAdjacent_count ltInt d I 0
      obtain ⟨⟨i1, s1⟩, h1⟩ : ∃ r, medianAdjacent ltInt d I 0 = r := ⟨_, rfl⟩
      rw [h1] at m1 n1 Hraw
      have m2 := medianAdjacent_mem ltInt d J s1
      have n2 := medianAdjacent_count ltInt d J s1
      obtain ⟨⟨j1, s2⟩, h2⟩ : ∃ r, medianAdjacent ltInt d J s1 = r := ⟨_, rfl⟩
      simp only at Hraw
      rw [h2] at m2 n2 Hraw
      have m3 := medianAdjacent_mem ltInt d K s2
      have n3 := medianAdjacent_count ltInt d K s2
      obtain ⟨⟨k1, s3⟩, h3⟩ : ∃ r, medianAdjacent ltInt d K s2 = r := ⟨_, rfl⟩
      simp only at Hraw
      rw [h3] at m3 n3 Hraw
      simp only at m1 m2 m3 n1 n2 n3 Hraw
      obtain ⟨⟨p, s⟩, h4⟩ : ∃ r, median ltInt d i1 j1 k1 s3 = r := ⟨_, rfl⟩
      rw [h4] at Hraw
      rw [Hraw.out]
      have H1 := Lib.hid h1
      have H2 := Lib.hid h2
      have H3 := Lib.hid h3
      have H4 := Lib.hid h4
      have Hhint := Lib.hid (hint_at s)
      have l1 : i1 < d.size := by omega
      have l2 : j1 < d.size := by omega
      have l3 : k1 < d.size := by omega
      have r1 : 1 ≤ I ∧ I + 1 < d.size := by omega
      have r2 : 1 ≤ J ∧ J + 1 < d.size := by omega
      have r3 : 1 ≤ K ∧ K + 1 < d.size := by omega
      clear h1 h2 h3 h4 Hraw m1 m2 m3 hI hJ hK
      go_enter Try.func63, Try.ntmps63
      go_wp2_with fail
      refine (adjacentU_any d _ rfl g o cap I w.heap.size 0 0 _ (HR.out 0 0) r1.1 r1.2 hn hne (cntAt_one w 0 0) (by omega)).mono ?_
      rintro e w1 ⟨rfl, q1, hw⟩
      rw [H1.out] at hw ⊢
      rw [cntAt_join] at hw
      replace hw := cntAt_ex hw
      obtain ⟨Q, rfl⟩ := hw
      go_wp2_with fail
      refine (adjacentU_any d _ rfl g o cap J w.heap.size 0 s1 _ (HR.out _ s1) r2.1 r2.2 hn hne (cntAt_one w _ s1) (by omega)).mono ?_
      rintro e w1 ⟨rfl, q2, hw⟩
      rw [H2.out] at hw ⊢
      rw [cntAt_join] at hw
      replace hw := cntAt_ex hw
      obtain ⟨Q, rfl⟩ := hw
      go_wp2_with fail
      refine (adjacentU_any d _ rfl g o cap K w.heap.size 0 s2 _ (HR.out _ s2) r3.1 r3.2 hn hne (cntAt_one w _ s2) (by omega)).mono ?_
      rintro e w1 ⟨rfl, q3, hw⟩
      rw [H3.out] at hw ⊢
      rw [cntAt_join] at hw
      replace hw := cntAt_ex hw
      obtain ⟨Q, rfl⟩ := hw
      go_wp2_with fail
      refine (medianU_any d _ rfl g o cap i1 j1 k1 w.heap.size 0 s3 _ (HR.out _ s3) l1 l2 l3 hne (cntAt_one w _ s3) (by omega)).mono ?_
      rintro e w1 ⟨rfl, q4, hw⟩
      rw [H4.out] at hw ⊢
      dsimp only at hw ⊢
      rw [cntAt_join] at hw
      replace hw := cntAt_ex hw
      obtain ⟨Q, rfl⟩ := hw
      have cs := (one_cell (cntAt_one w Q s)).1
      have fs := (one_cell (cntAt_one w Q s)).2
      cases hz : ((s : Int) == 0)
      · cases hy : ((s : Int) == 12)
        · rw [hz, hy] at Hhint
          go_wp2
          go_ret2
          refine ⟨?_, Q, cntAt_grow w Q s⟩
          show _ = Ending.returned (.tuple #[.int .i64 (p : Int), .int .i64 (hintCode (hintOf s))])
          rw [Hhint.out]
          rfl
        · rw [hz, hy] at Hhint
          go_wp2
          go_ret2
          refine ⟨?_, Q, cntAt_grow w Q s⟩
          show _ = Ending.returned (.tuple #[.int .i64 (p : Int), .int .i64 (hintCode (hintOf s))])
          rw [Hhint.out]
          rfl
      · rw [hz] at Hhint
        go_wp2
        go_ret2
        refine ⟨?_, Q, cntAt_grow w Q s⟩
        show _ = Ending.returned (.tuple #[.int .i64 (p : Int), .int .i64 (hintCode (hintOf s))])
        rw [Hhint.out]
        rfl
    · have Hraw := Lib.hid (show rawPivot ltInt d a b = median ltInt d I J K 0 by simp only [rawPivot, if_pos h8, if_neg h50, hI, hJ, hK])
      obtain ⟨⟨p, s⟩, h4⟩ : ∃ r, median ltInt d I J K 0 = r := ⟨_, rfl⟩
      rw [h4] at Hraw
      rw [Hraw.out]
      have H4 := Lib.hid h4
      have Hhint := Lib.hid (hint_at s)
      have l1 : I < d.size := by omega
      have l2 : J < d.size := by omega
      have l3 : K < d.size := by omega
      clear h4 Hraw hI hJ hK
      go_enter Try.func63, Try.ntmps63
      go_wp2_with fail
      refine (medianU_any d _ rfl g o cap I J K w.heap.size 0 0 _ (HR.out 0 0) l1 l2 l3 hne (cntAt_one w 0 0) (by omega)).mono ?_
      rintro e w1 ⟨rfl, q4, hw⟩
      rw [H4.out] at hw ⊢
      dsimp only at hw ⊢
      rw [cntAt_join] at hw
      replace hw := cntAt_ex hw
      obtain ⟨Q, rfl⟩ := hw
      have cs := (one_cell (cntAt_one w Q s)).1
      have fs := (one_cell (cntAt_one w Q s)).2
      cases hz : ((s : Int) == 0)
      · cases hy : ((s : Int) == 12)
        · rw [hz, hy] at Hhint
          go_wp2
          go_ret2
          refine ⟨?_, Q, cntAt_grow w Q s⟩
          show _ = Ending.returned (.tuple #[.int .i64 (p : Int), .int .i64 (hintCode (hintOf s))])
          rw [Hhint.out]
          rfl
        · rw [hz, hy] at Hhint
          go_wp2
          go_ret2
          refine ⟨?_, Q, cntAt_grow w Q s⟩
          show _ = Ending.returned (.tuple #[.int .i64 (p : Int), .int .i64 (hintCode (hintOf s))])
          rw [Hhint.out]
          rfl
      · rw [hz] at Hhint
        go_wp2
        go_ret2
        refine ⟨?_, Q, cntAt_grow w Q s⟩
        show _ = Ending.returned (.tuple #[.int .i64 (p : Int), .int .i64 (hintCode (hintOf s))])
        rw [Hhint.out]
        rfl
  · have Hraw := Lib.hid (show rawPivot ltInt d a b = (J, 0) by simp only [rawPivot, if_neg h8, hJ])
    rw [Hraw.out]
    have cs := (one_cell (cntAt_one w 0 0)).1
    have fs := (one_cell (cntAt_one w 0 0)).2
    clear Hraw hI hJ hK
    show Calls _ _ _ _ fun e w' => e = .returned (.tuple #[.int .i64 (J : Int), .int .i64 1]) ∧ ∃ q os, w' = grow (Sort.ahead w q) os
    go_enter Try.func63, Try.ntmps63
    go_wp2
    go_ret2
    exact ⟨rfl, 0, cntAt_grow w 0 0⟩
end Go.Proofs.Ytgchcgllpceghaa
