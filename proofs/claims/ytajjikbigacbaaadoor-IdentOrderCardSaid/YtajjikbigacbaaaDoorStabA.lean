/- Own work: the order of lines; a row of lines that is put in order. -/
import Derived.Test.YtajjikbigacbaaaDoorIdTw
import Derived.Test.YtajjikbigacbaaaDoorStab
import Derived.Shelf.SlSortCmp.KitK
namespace Go.Proofs.YtajjikbigacbaaaDoor
open Go.RowKit Go.Sort Go.Shelf

/-- less: by label, then by number -/
def lessB (x y : LineV) : Bool := decide (x.lab < y.lab) || (decide (x.lab = y.lab) && decide (x.num < y.num))
theorem lessB_iff {x y : LineV} : lessB x y = true ↔ x.lab < y.lab ∨ (x.lab = y.lab ∧ x.num < y.num) := by simp [lessB]
theorem lessB_no {x y : LineV} : lessB x y = false ↔ y.lab < x.lab ∨ (x.lab = y.lab ∧ y.num ≤ x.num) := by
  rw [← Bool.not_eq_true, lessB_iff]; omega
/-- a line, and where it stood -/
abbrev TL := LineV × Nat
instance : Inhabited LineV := ⟨⟨0, 0, 0, ⟨#[]⟩⟩⟩
def encT (p : TL) : List Value := p.1.cells
def ltT (p q : TL) : Bool := lessB p.1 q.1
theorem ltT_swo : SWO ltT where
  irrefl x := by rw [ltT, lessB_no]; omega
  trans x y z h1 h2 := by rw [ltT, lessB_iff] at h1 h2 ⊢; omega
  ntrans x y z h1 h2 := by rw [ltT, lessB_no] at h1 h2 ⊢; omega
def cfT (p q : TL) : Int := if ltT p q then -1 else if ltT q p then 1 else 0
theorem cfT_lt (p q : TL) : ltOf cfT p q = ltT p q := by
  unfold ltOf cfT
  cases ltT p q <;> cases ltT q p <;> rfl
theorem encT_len (p : TL) : (encT p).length = 4 := rfl
theorem encT_one (p : TL) : ∀ v ∈ encT p, v.oneCell' = true := by
  intro y hy
  simp [encT, LineV.cells] at hy
  rcases hy with rfl | rfl | rfl | rfl <;> rfl
/-- w' is w with draws, and new blocks behind it -/
def Grw (w w' : World) : Prop := ∃ q os, w' = grow (w.drewN q) os
theorem Grw.refl (w : World) : Grw w w := ⟨0, #[], by rw [grow_empty]; rfl⟩
theorem Grw.alloc {w w' : World} (h : Grw w w') (o : Obj) : Grw w (w'.alloc o) := by
  obtain ⟨q, os, rfl⟩ := h
  exact ⟨q, os ++ #[o], by rw [alloc_eq_grow, grow_grow]⟩
theorem Grw.trans {a b c : World} (h : Grw a b) (k : Grw b c) : Grw a c := by
  obtain ⟨q, os, rfl⟩ := h
  obtain ⟨q', os', rfl⟩ := k
  exact ⟨q + q', os ++ os', by show grow (grow ((a.drewN q).drewN q') os) os' = _; rw [grow_grow, World.drewN_drewN]⟩
theorem Grw.below {w w' : World} (h : Grw w w') : Below w.heap.size w w' := by
  obtain ⟨q, os, rfl⟩ := h
  refine ⟨rfl, rfl, rfl, by rw [size_grow]; exact Nat.le_add_right _ _, fun k hk => ?_⟩
  exact heap_grow_old _ _ hk

set_option maxHeartbeats 4000000 in
theorem less_any (x y : LineV) (w : World) : Calls Tryd.prog 17 #[x.agg, y.agg] w fun e w' => e = .returned (.bool (lessB x y)) ∧ Grw w w' := by
  obtain ⟨x1, x2, x3, x4⟩ := x
  obtain ⟨y1, y2, y3, y4⟩ := y
  simp only [LineV.agg]
  go_enter Tryd.func17, Tryd.ntmps17
  go_wp2
  all_goals
    go_ret
    refine ⟨retBool ?_, ((Grw.refl w).alloc _).alloc _⟩
    rw [Bool.eq_iff_iff, lessB_iff]
    simp
    try omega
theorem grw_at (w : World) (x1 x2 x3 : Int) (x4 : ByteArray) (y1 y2 y3 : Int) (y4 : ByteArray) (t : TypeId) {W : World} (h : Grw ((w.alloc (.cells #[.int .u64 x1, .int .i64 x2, .int .i64 x3, .string x4] t)).alloc (.cells #[.int .u64 y1, .int .i64 y2, .int .i64 y3, .string y4] t)) W) :
    (W.cell? ⟨w.heap.size, 0, none⟩ = some (.int .u64 x1) ∧ W.cell? ⟨w.heap.size, 1, none⟩ = some (.int .i64 x2) ∧ W.cell? ⟨w.heap.size, 2, none⟩ = some (.int .i64 x3) ∧ W.cell? ⟨w.heap.size, 3, none⟩ = some (.string x4)) ∧
    (W.cell? ⟨w.heap.size + 1, 0, none⟩ = some (.int .u64 y1) ∧ W.cell? ⟨w.heap.size + 1, 1, none⟩ = some (.int .i64 y2) ∧ W.cell? ⟨w.heap.size + 1, 2, none⟩ = some (.int .i64 y3) ∧ W.cell? ⟨w.heap.size + 1, 3, none⟩ = some (.string y4)) := by
  have hb := h.below
  obtain ⟨a0, a1, a2, a3⟩ := four_new w x1 x2 x3 x4 t
  obtain ⟨b0, b1, b2, b3⟩ := four_new (w.alloc (.cells #[.int .u64 x1, .int .i64 x2, .int .i64 x3, .string x4] t)) y1 y2 y3 y4 t
  have hk := (Below.refl (w.alloc (.cells #[.int .u64 x1, .int .i64 x2, .int .i64 x3, .string x4] t)).heap.size (w.alloc (.cells #[.int .u64 x1, .int .i64 x2, .int .i64 x3, .string x4] t))).alloc (Nat.le_refl _) (.cells #[.int .u64 y1, .int .i64 y2, .int .i64 y3, .string y4] t)
  simp only [World.size_alloc] at b0 b1 b2 b3
  exact ⟨⟨cell_kept hb (cell_kept hk a0), cell_kept hb (cell_kept hk a1), cell_kept hb (cell_kept hk a2), cell_kept hb (cell_kept hk a3)⟩, cell_kept hb b0, cell_kept hb b1, cell_kept hb b2, cell_kept hb b3⟩

set_option maxHeartbeats 8000000 in
set_option maxRecDepth 100000 in
theorem cmp_any (x y : TL) (w : World) : Calls Tryd.prog 30 #[x.1.agg, y.1.agg] w fun e w' => e = .returned (.int .i64 (cfT x y)) ∧ Grw w w' := by
  have HL := Lib.hid (fun W => less_any x.1 y.1 W)
  have HL2 := Lib.hid (fun W => less_any y.1 x.1 W)
  unfold cfT ltT
  obtain ⟨⟨x1, x2, x3, x4⟩, _⟩ := x
  obtain ⟨⟨y1, y2, y3, y4⟩, _⟩ := y
  simp only [LineV.agg] at HL HL2 ⊢
  have Hat := Lib.hid (fun W h => grw_at w x1 x2 x3 x4 y1 y2 y3 y4 25 (W := W) h)
  have Hg0 := Lib.hid (((Grw.refl w).alloc (.cells #[.int .u64 x1, .int .i64 x2, .int .i64 x3, .string x4] 25)).alloc (.cells #[.int .u64 y1, .int .i64 y2, .int .i64 y3, .string y4] 25))
  go_enter Tryd.func30, Tryd.ntmps30
  go_wp2_with fail
  refine (HL.out _).mono ?_
  rintro e w1 ⟨rfl, hg⟩
  obtain ⟨⟨a0, a1, a2, a3⟩, b0, b1, b2, b3⟩ := Hat.out _ hg
  have G1 := Lib.hid (Hg0.out.trans hg)
  clear hg
  cases h1 : lessB ⟨x1, x2, x3, x4⟩ ⟨y1, y2, y3, y4⟩ with
  | true =>
    go_wp2_with fail
    go_ret
    exact ⟨rfl, G1.out⟩
  | false =>
    go_wp2_with fail
    refine (HL2.out _).mono ?_
    rintro e w2 ⟨rfl, hg⟩
    have G2 := Lib.hid (G1.out.trans hg)
    clear hg
    cases h2 : lessB ⟨y1, y2, y3, y4⟩ ⟨x1, x2, x3, x4⟩ with
    | true =>
      go_wp2_with fail
      all_goals
        go_ret
        exact ⟨rfl, G2.out⟩
    | false =>
      go_wp2_with fail
      all_goals
        go_ret
        exact ⟨rfl, G2.out⟩
theorem cmp_lays (blk off size : Nat) (w : World) : CmpLays Tryd.prog 30 #[] encT 4 cfT blk off size w := by
  intro m os dk _ x y
  refine (cmp_any x y _).mono ?_
  rintro e w' ⟨rfl, q, os', rfl⟩
  exact ⟨rfl, q, os', rfl⟩
/-- the library's numbers at this program -/
def renIns : Ren := ⟨fun | 20 => 58 | n => n, fun | 22 => 31 | 24 => 25 | 25 => 68 | 3 => 3 | 4 => 4 | 0 => 0 | n => n, fun | n => n⟩
theorem laysIns : SlLaysF0.n20 Tryd.prog renIns := {
  mixed := by kernel_rfl
  f20 := ⟨"slices.insertionSortCmpFunc[scrim/api.Line]", by decide, Tryd.func58.trans (congrArg some (by kernel_rfl))⟩
  t0 := Tryd.underlying0
  a0 := Tryd.isAgg0
  z0 := Tryd.sizeOf0
  v0 := Tryd.zeroValue0
  t3 := Tryd.underlying3
  a3 := Tryd.isAgg3
  z3 := Tryd.sizeOf3
  v3 := Tryd.zeroValue3
  t4 := Tryd.underlying4
  a4 := Tryd.isAgg4
  z4 := Tryd.sizeOf4
  v4 := Tryd.zeroValue4
  t22 := Tryd.underlying31
  a22 := Tryd.isAgg31
  z22 := Tryd.sizeOf31
  v22 := Tryd.zeroValue31
  t25 := Tryd.underlying68
  a25 := Tryd.isAgg68
  z25 := Tryd.sizeOf68
  v25 := Tryd.zeroValue68 }
theorem ins_any (blk off cap a b : Nat) (d : Array TL) (w : World) (hH : HoldsK encT 4 w blk off d) (hblk : blk < w.heap.size) (hab : a ≤ b) (hb : b ≤ d.size) (hsz : d.size < 4611686018427387904) :
    Calls Tryd.prog 58 #[.slice (some ⟨blk, off, none⟩) d.size cap, .int .i64 a, .int .i64 b, .func (.func 30) #[] #[]] w fun e w' => e = .returned (.tuple #[]) ∧ SWK encT 4 w blk off (insertionSort ltT d a b) w' := by
  have h := AnyQ.insertionSortCmpFunc laysIns 4 Tryd.isAgg25 Tryd.sizeOf25 encT encT_len encT_one cfT 30 #[] blk off cap a b d w (enters_of Tryd.func30 (by decide) rfl) (cmp_lays blk off d.size w) hH hblk hab hb hsz
  rw [show ltOf cfT = ltT from funext fun p => funext fun q => cfT_lt p q] at h
  exact h
end Go.Proofs.YtajjikbigacbaaaDoor
