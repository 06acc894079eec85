/- Own work: scrimref04's Less, Same, ident.Same; copies and stores within a row of lines. -/
import Derived.Test.YtajjikbigacbaaaDoorStabF
import Derived.Laws.CopyRow
import Derived.Deep.RegionLaw
import Derived.BigQuiet
import Derived.Test.YtajjikbigacbaaaDoorIdNil
namespace Go.Proofs.YtajjikbigacbaaaDoor
open Go.RowKit Go.Sort Go.Shelf

/-- one identity -/
def oneId (x y : LineV) : Bool := decide (x.lab = y.lab) && decide (x.num = y.num)
theorem of_grw (a b c : Int) (s : ByteArray) (w : World) :
    Calls Tryd.prog 27 #[.agg #[.int .u64 a, .int .i64 b, .int .i64 c, .string s]] w fun e w' => e = .returned (.agg #[.int .u64 a, .int .i64 b]) ∧ Grw w w' := by
  go_enter Tryd.func27, Tryd.ntmps27
  go_wp2
  refine bodyPost_ret (v := .agg #[.int .u64 a, .int .i64 b]) (results_cell_row (by rfl) _ _ (w.heap.size + 1) 65 _ (0, 0) _ rfl ?_ Tryd.underlying65 rfl (by kernel_rfl)) rfl ⟨rfl, ((Grw.refl w).alloc _).alloc _⟩
  have := heap_alloc_new (w.alloc (.cells #[.int .u64 a, .int .i64 b, .int .i64 c, .string s] 25)) (.cells #[.int .u64 a, .int .i64 b] 65)
  rw [World.size_alloc] at this
  exact this
theorem of_grown (x1 x2 x3 : Int) (x4 : ByteArray) (W : World) : ∀ n os, Calls Tryd.prog 27 #[.agg #[.int .u64 x1, .int .i64 x2, .int .i64 x3, .string x4]] (grow (W.drewN n) os) fun e w' => e = .returned (.agg #[.int .u64 x1, .int .i64 x2]) ∧ ∃ q os', w' = grow ((grow (W.drewN n) os).drewN q) os' := fun _ _ =>
  (of_grw x1 x2 x3 x4 _).mono fun _ _ ⟨he, q, os', hw⟩ => ⟨he, q, os', hw⟩
theorem Grw.drewN {w W : World} (h : Grw w W) (n : Nat) : Grw w (W.drewN n) := h.trans ⟨n, #[], by rw [grow_empty]⟩
theorem Grw.grown {w W : World} (h : Grw w W) (n : Nat) (os : Array Obj) : Grw w (grow (W.drewN n) os) := h.trans ⟨n, os, rfl⟩
set_option maxHeartbeats 8000000 in
set_option maxRecDepth 100000 in
theorem same_any (x y : LineV) (w : World) : Calls Tryd.prog 18 #[x.agg, y.agg] w fun e w' => e = .returned (.bool (oneId x y)) ∧ Grw w w' := by
  obtain ⟨x1, x2, x3, x4⟩ := x
  obtain ⟨y1, y2, y3, y4⟩ := y
  simp only [LineV.agg]
  have hat := grw_at w x1 x2 x3 x4 y1 y2 y3 y4 25 (Grw.refl _)
  have G0 := Lib.hid (((Grw.refl w).alloc (.cells #[.int .u64 x1, .int .i64 x2, .int .i64 x3, .string x4] 25)).alloc (.cells #[.int .u64 y1, .int .i64 y2, .int .i64 y3, .string y4] 25))
  have Hsz := Lib.hid (show ((w.alloc (.cells #[.int .u64 x1, .int .i64 x2, .int .i64 x3, .string x4] 25)).alloc (.cells #[.int .u64 y1, .int .i64 y2, .int .i64 y3, .string y4] 25)).heap.size = w.heap.size + 2 by simp)
  have mixed := laysIns.mixed
  go_enter Tryd.func18, Tryd.ntmps18
  go_wp2_with fail
  generalize (w.alloc (.cells #[.int .u64 x1, .int .i64 x2, .int .i64 x3, .string x4] 25)).alloc (.cells #[.int .u64 y1, .int .i64 y2, .int .i64 y3, .string y4] 25) = W at hat G0 Hsz ⊢
  obtain ⟨⟨c0, c1, c2, c3⟩, d0, d1, d2, d3⟩ := hat
  have lw : w.heap.size < W.heap.size := by rw [Hsz.out]; omega
  have lw2 : w.heap.size + 1 < W.heap.size := by rw [Hsz.out]; omega
  have c0 := cells_grown lw c0
  have c1 := cells_grown lw c1
  have c2 := cells_grown lw c2
  have c3 := cells_grown lw c3
  have d0 := cells_grown lw2 d0
  have d1 := cells_grown lw2 d1
  have d2 := cells_grown lw2 d2
  have d3 := cells_grown lw2 d3
  have H1 := Lib.hid (of_grown x1 x2 x3 x4 W)
  have H2 := Lib.hid (of_grown y1 y2 y3 y4 W)
  by_cases e1 : x1 = y1
  · subst e1
    by_cases e2 : x2 = y2
    · subst e2
      go_quiet_grown (first | (go_at_call 27; first | refine Calls.grown_of (H1.out _ _) | refine Calls.grown_of (H2.out _ _)))
      go_wp2
      go_ret
      exact ⟨retBool (by simp [oneId]), G0.out.grown _ _⟩
    · go_quiet_grown (first | (go_at_call 27; first | refine Calls.grown_of (H1.out _ _) | refine Calls.grown_of (H2.out _ _)))
      go_wp2
      go_ret
      exact ⟨retBool (by simp [oneId, e2]), G0.out.grown _ _⟩
  · go_quiet_grown (first | (go_at_call 27; first | refine Calls.grown_of (H1.out _ _) | refine Calls.grown_of (H2.out _ _)))
    go_wp2
    go_ret
    exact ⟨retBool (by simp [oneId, e1]), G0.out.grown _ _⟩
end Go.Proofs.YtajjikbigacbaaaDoor
/- Own work: worlds that grow but for a row; a place out of any number; Less and Same where the world has grown. -/
namespace Go.Proofs.YtajjikbigacbaaaDoor
open Go.RowKit Go.Sort Go.Shelf

theorem grown_step {A W W' : World} {r q : Option Nat} (h1 : A.grownBy W r) (h2 : W.grownBy W' q) (hq : ∀ x, q = some x → r = some x ∨ A.heap.size ≤ x) : A.grownBy W' r :=
  ⟨h2.os.trans h1.os, h2.tape.trans h1.tape, h2.output.trans h1.output, Nat.le_trans h1.size h2.size, fun k hk hne => (h2.block k (Nat.lt_of_lt_of_le hk h1.size) (fun e => by
    rcases hq k e.symm with h | h
    · exact hne h.symm
    · omega)).trans (h1.block k hk hne)⟩
theorem grown_self (A : World) (r : Option Nat) : A.grownBy A r := ⟨rfl, rfl, rfl, Nat.le_refl _, fun _ _ _ => rfl⟩
theorem grown_alloc (A : World) (o : Obj) (r : Option Nat) : A.grownBy (A.alloc o) r := ⟨rfl, rfl, rfl, by simp, fun k hk _ => heap_alloc_old _ _ hk⟩
theorem grown_setCell (A : World) (g j : Nat) (v : Value) : A.grownBy (A.setCell ⟨g, j, none⟩ v) (some g) := by
  have h := (Below.refl 0 A).setCell (p := ⟨g, j, none⟩) (Nat.zero_le _) v
  refine ⟨h.os, h.tape, h.output, h.size, fun k hk hne => ?_⟩
  have : k ≠ g := fun e => hne (by rw [e])
  rw [setCell_eq]
  unfold mapBlock
  simp [Array.getElem?_modify, Ne.symm this]
theorem own_slice {w : World} {B n s : Nat} {e : TypeId} {v : Value} {xs : List Value} (h : w.ownsRow B e s v n xs) : ∃ vo vc, v = .slice vo n vc ∧ (0 < n → ∃ g, vo = some ⟨g, 0, none⟩) := by
  rcases Joins.ownsRow_forms h with ⟨h1, h2⟩ | ⟨g, cap, h1⟩
  · exact ⟨none, 0, by rw [h1, h2], fun h => absurd h (by omega)⟩
  · exact ⟨_, _, h1, fun _ => ⟨g, rfl⟩⟩

theorem less_grown (x y : LineV) (W : World) : ∀ n os, Calls Tryd.prog 17 #[x.agg, y.agg] (grow (W.drewN n) os) fun e w' => e = .returned (.bool (lessB x y)) ∧ ∃ q os', w' = grow ((grow (W.drewN n) os).drewN q) os' := fun _ _ =>
  (less_any x y _).mono fun _ _ ⟨he, q, os', hw⟩ => ⟨he, q, os', hw⟩
theorem same_grown (x y : LineV) (W : World) : ∀ n os, Calls Tryd.prog 18 #[x.agg, y.agg] (grow (W.drewN n) os) fun e w' => e = .returned (.bool (oneId x y)) ∧ ∃ q os', w' = grow ((grow (W.drewN n) os).drewN q) os' := fun _ _ =>
  (same_any x y _).mono fun _ _ ⟨he, q, os', hw⟩ => ⟨he, q, os', hw⟩
theorem idx_any (i : Int) (J : Nat) (h0 : 0 < J) (hJ : J < 4000000000000) : ∃ (S : Int) (A : Nat), i.tmod (J : Int) + (J : Int) = S ∧ IntKind.i64.wrap S = S ∧ wrap64 S = S ∧ S.tmod (J : Int) = (A : Int) ∧ A < J := by
  have h1 : i.tmod (J : Int) < (J : Int) := Int.tmod_lt_of_pos _ (by omega)
  have h2 : -(J : Int) < i.tmod (J : Int) := by
    have := Int.tmod_lt_of_pos (-i) (show (0 : Int) < (J : Int) by omega)
    rw [Int.neg_tmod] at this
    omega
  have hw : IntKind.i64.wrap (i.tmod (J : Int) + (J : Int)) = i.tmod (J : Int) + (J : Int) := by simp only [IntKind.wrap, IntKind.bits, IntKind.signed]; simp; omega
  refine ⟨_, ((i.tmod (J : Int) + (J : Int)).tmod (J : Int)).toNat, rfl, hw, ?_, ?_, ?_⟩
  · unfold wrap64; omega
  · have := Int.tmod_nonneg (J : Int) (show 0 ≤ i.tmod (J : Int) + (J : Int) by omega)
    omega
  · have := Int.tmod_lt_of_pos (i.tmod (J : Int) + (J : Int)) (show (0 : Int) < (J : Int) by omega)
    omega
theorem lns_own {w : World} {B n : Nat} {e : TypeId} {v : Value} {L : List LineV} (h : w.ownsRow B e 4 v n (flatL L)) (hn : L.length = n) : Lns w v L := by
  subst hn
  exact Lns.of_own h
end Go.Proofs.YtajjikbigacbaaaDoor
