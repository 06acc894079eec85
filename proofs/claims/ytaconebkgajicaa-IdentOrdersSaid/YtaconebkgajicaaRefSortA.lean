/- Own work: scrimref04's Less, Same, ident.Same; copies and stores within a row of lines. -/
import Derived.Test.YtaconebkgajicaaStabH
import Derived.Laws.CopyRow
import Derived.Deep.RegionLaw
import Derived.BigQuiet
namespace Go.Proofs.Ytaconebkgajicaa
open Go.RowKit Go.Sort Go.Shelf

set_option maxHeartbeats 4000000 in
theorem refLess_any (x y : LineV) (w : World) : Calls Try.prog 22 #[x.agg, y.agg] w fun e w' => e = .returned (.bool (lessB x y)) ∧ Grw w w' := by
  obtain ⟨x1, x2, x3, x4⟩ := x
  obtain ⟨y1, y2, y3, y4⟩ := y
  simp only [LineV.agg]
  by_cases h : x1 = y1
  · subst h
    go_enter Try.func22, Try.ntmps22
    go_wp2
    all_goals
      go_ret
      refine ⟨retBool ?_, ((Grw.refl w).alloc _).alloc _⟩
      simp [lessB]
  · go_enter Try.func22, Try.ntmps22
    go_wp2
    all_goals
      go_ret
      refine ⟨retBool ?_, ((Grw.refl w).alloc _).alloc _⟩
      simp [lessB, h]
/-- one identity -/
def oneId (x y : LineV) : Bool := decide (x.lab = y.lab) && decide (x.num = y.num)
set_option maxHeartbeats 4000000 in
theorem refSame_any (x y : LineV) (w : World) : Calls Try.prog 20 #[x.agg, y.agg] w fun e w' => e = .returned (.bool (oneId x y)) ∧ Grw w w' := by
  obtain ⟨x1, x2, x3, x4⟩ := x
  obtain ⟨y1, y2, y3, y4⟩ := y
  simp only [LineV.agg]
  go_enter Try.func20, Try.ntmps20
  go_wp2
  all_goals
    go_ret
    refine ⟨retBool ?_, ((Grw.refl w).alloc _).alloc _⟩
    rw [Bool.eq_iff_iff]
    simp [oneId]
    try omega
theorem of_grw (a b c : Int) (s : ByteArray) (w : World) :
    Calls Try.prog 27 #[.agg #[.int .u64 a, .int .i64 b, .int .i64 c, .string s]] w fun e w' => e = .returned (.agg #[.int .u64 a, .int .i64 b]) ∧ Grw w w' := by
  go_enter Try.func27, Try.ntmps27
  go_wp2
  refine bodyPost_ret (v := .agg #[.int .u64 a, .int .i64 b]) (results_cell_row (by rfl) _ _ (w.heap.size + 1) 63 _ (0, 0) _ rfl ?_ Try.underlying63 rfl (by kernel_rfl)) rfl ⟨rfl, ((Grw.refl w).alloc _).alloc _⟩
  have := heap_alloc_new (w.alloc (.cells #[.int .u64 a, .int .i64 b, .int .i64 c, .string s] 27)) (.cells #[.int .u64 a, .int .i64 b] 63)
  rw [World.size_alloc] at this
  exact this
theorem of_grown (x1 x2 x3 : Int) (x4 : ByteArray) (W : World) : ∀ n os, Calls Try.prog 27 #[.agg #[.int .u64 x1, .int .i64 x2, .int .i64 x3, .string x4]] (grow (W.drewN n) os) fun e w' => e = .returned (.agg #[.int .u64 x1, .int .i64 x2]) ∧ ∃ q os', w' = grow ((grow (W.drewN n) os).drewN q) os' := fun _ _ =>
  (of_grw x1 x2 x3 x4 _).mono fun _ _ ⟨he, q, os', hw⟩ => ⟨he, q, os', hw⟩
theorem Grw.grown {w W : World} (h : Grw w W) (n : Nat) (os : Array Obj) : Grw w (grow (W.drewN n) os) := h.trans ⟨n, os, rfl⟩
set_option maxHeartbeats 8000000 in
set_option maxRecDepth 100000 in
theorem same_any (x y : LineV) (w : World) : Calls Try.prog 19 #[x.agg, y.agg] w fun e w' => e = .returned (.bool (oneId x y)) ∧ Grw w w' := by
  obtain ⟨x1, x2, x3, x4⟩ := x
  obtain ⟨y1, y2, y3, y4⟩ := y
  simp only [LineV.agg]
  have hat := grw_at w x1 x2 x3 x4 y1 y2 y3 y4 27 (Grw.refl _)
  have G0 := Lib.hid (((Grw.refl w).alloc (.cells #[.int .u64 x1, .int .i64 x2, .int .i64 x3, .string x4] 27)).alloc (.cells #[.int .u64 y1, .int .i64 y2, .int .i64 y3, .string y4] 27))
  have Hsz := Lib.hid (show ((w.alloc (.cells #[.int .u64 x1, .int .i64 x2, .int .i64 x3, .string x4] 27)).alloc (.cells #[.int .u64 y1, .int .i64 y2, .int .i64 y3, .string y4] 27)).heap.size = w.heap.size + 2 by simp)
  have mixed := laysIns.mixed
  go_enter Try.func19, Try.ntmps19
  go_wp2_with fail
  generalize (w.alloc (.cells #[.int .u64 x1, .int .i64 x2, .int .i64 x3, .string x4] 27)).alloc (.cells #[.int .u64 y1, .int .i64 y2, .int .i64 y3, .string y4] 27) = W at hat G0 Hsz ⊢
  obtain ⟨⟨c0, c1, c2, c3⟩, d0, d1, d2, d3⟩ := hat
  have lw : w.heap.size < W.heap.size := by rw [Hsz.out]; omega
  have lw2 : w.heap.size + 1 < W.heap.size := by rw [Hsz.out]; omega
  have c0 := cells_grown lw c0
  have c1 := cells_grown lw c1
  have c2 := cells_grown lw c2
  have c3 := cells_grown lw c3
  have d0 := cells_grown lw2 d0
  have d1 := cells_grown lw2 d1
  have d2 := cells_grown lw2 d2
  have d3 := cells_grown lw2 d3
  have H1 := Lib.hid (of_grown x1 x2 x3 x4 W)
  have H2 := Lib.hid (of_grown y1 y2 y3 y4 W)
  by_cases e1 : x1 = y1
  · subst e1
    by_cases e2 : x2 = y2
    · subst e2
      go_quiet_grown (first | (go_at_call 27; first | refine Calls.grown_of (H1.out _ _) | refine Calls.grown_of (H2.out _ _)))
      go_wp2
      go_ret
      exact ⟨retBool (by simp [oneId]), G0.out.grown _ _⟩
    · go_quiet_grown (first | (go_at_call 27; first | refine Calls.grown_of (H1.out _ _) | refine Calls.grown_of (H2.out _ _)))
      go_wp2
      go_ret
      exact ⟨retBool (by simp [oneId, e2]), G0.out.grown _ _⟩
  · go_quiet_grown (first | (go_at_call 27; first | refine Calls.grown_of (H1.out _ _) | refine Calls.grown_of (H2.out _ _)))
    go_wp2
    go_ret
    exact ⟨retBool (by simp [oneId, e1]), G0.out.grown _ _⟩
end Go.Proofs.Ytaconebkgajicaa
