import Derived.Test.YtgchcgllpceghaaLabMath
import Derived.Test.YtgchcgllpceghaaLabBase
namespace Go.Proofs.Ytgchcgllpceghaa
open Go.RowKit

theorem sizeSet : (Try.prog.info? 70).map (·.size) = some 64 := by kernel_rfl

/-- block b holds the set of the word x -/
def SetAt (w : World) (b x : Nat) : Prop := w.heap[b]? = some (.cells (setV x) 70 (0, 0))
theorem SetAt.kept {w w' : World} {b x : Nat} (h : SetAt w b x) (hb : Below w.heap.size w w') : SetAt w' b x := row_kept hb h
theorem SetAt.cell {w : World} {b x : Nat} (h : SetAt w b x) (i : Nat) (hi : i < 64) : w.cell? ⟨b, i, none⟩ = some (.bool (x.testBit i)) := by
  rw [cell_of_row w b i _ _ _ h, setV_at x i hi]
theorem SetAt.frozen {w : World} {b x : Nat} (h : SetAt w b x) (i : Nat) : w.frozen? ⟨b, i, none⟩ = false := frozen_of_row w b i _ _ h
theorem SetAt.put {w : World} {b x : Nat} (h : SetAt w b x) (i : Nat) (v : Bool) (y : Nat) (hy : ∀ j, j < 64 → y.testBit j = if j = i then v else x.testBit j) : SetAt (w.setCell ⟨b, i, none⟩ (.bool v)) b y := by
  rw [SetAt, heap_setCell_same w b i _ _ _ h, setV_set x y i v hy]
theorem SetAt.other {w : World} {b x : Nat} (h : SetAt w b x) (a : Addr) (v : Value) (hne : b ≠ a.block) : SetAt (w.setCell a v) b x := by
  rw [SetAt, heap_setCell_other w a b v hne]; exact h
theorem SetAt.fresh (w : World) : SetAt (w.alloc (.cells (setV 0) 70)) w.heap.size 0 := heap_alloc_new w _
theorem SetAt.drew {w : World} {b x : Nat} (h : SetAt w b x) : SetAt w.drew b x := h
theorem SetAt.lt {w : World} {b x : Nat} (h : SetAt w b x) : b < w.heap.size := lt_of_block h

set_option maxRecDepth 100000 in
set_option maxHeartbeats 4000000 in
theorem refSet_any (a : Nat) (w : World) (ha : a < 18446744073709551616) :
    Calls Try.prog 52 #[.int .u64 a] w fun e w' => e = .returned (.agg (setV a)) ∧ Below w.heap.size w w' := by
  go_enter Try.func52, Try.ntmps52
  go_wp2
  go_loopw [0, 4] (fun v i wr => ∃ k : Nat, k ≤ 64 ∧ v = .int .u64 ((a / 2 ^ k : Nat) : Int) ∧ i = .int .i64 k ∧ SetAt wr (w.heap.size + 1) (a % 2 ^ k) ∧ SetAt wr w.heap.size 0 ∧ Below w.heap.size w wr) (fun _ i _ => 64 - (intOf i).toNat)
  case atStart =>
    refine ⟨0, by omega, by simp, rfl, ?_, ?_, ((Below.refl _ _).alloc (Nat.le_refl _) _).alloc (by simp) _⟩
    · rw [Nat.pow_zero, Nat.mod_one]
      exact heap_alloc2_new w _ _
    · exact heap_alloc2_old w _ _
  case round =>
    obtain ⟨k, hk, rfl, rfl, hs, hz, hb⟩ := hrel
    by_cases hlt : k < 64
    · have c := hs.cell k hlt
      have f := hs.frozen k
      have hq : a / 2 ^ k < 18446744073709551616 := Nat.lt_of_le_of_lt (Nat.div_le_self _ _) ha
      have Hs := Lib.hid (hs.put k (a.testBit k) (a % 2 ^ (k + 1)) (by
        intro j hj
        rw [Nat.testBit_mod_two_pow, Nat.testBit_mod_two_pow]
        by_cases e : j = k
        · subst e; simp
        · rw [if_neg e]
          by_cases h : j < k
          · simp [h, show j < k + 1 by omega]
          · simp [h, show ¬ j < k + 1 by omega]))
      have Hz := Lib.hid hz
      have Hb := Lib.hid hb
      have Ho := Lib.hid (testBit_odd a k)
      have Hh := Lib.hid (half_pow a k)
      obtain ⟨q, hqe⟩ : ∃ q, a / 2 ^ k = q := ⟨_, rfl⟩
      have Hq := Lib.hid hqe
      rw [hqe] at hq ⊢
      clear hqe hs hz hb
      go_wp2
      go_roundw
      case rel =>
        refine ⟨k + 1, by omega, ?_, by go_num, ?_, Hz.out.other _ _ (by simp), Hb.out.setCell (by simp) _⟩
        · rw [← Hh.out, Hq.out]; rfl
        · have e := Ho.out
          rw [Hq.out] at e
          rw [e]
          exact Hs.out
      case measure => simp [intOf]; omega
    · obtain rfl : k = 64 := by omega
      have Hb := Lib.hid hb
      have Hs : Hid (SetAt wr (w.heap.size + 1) a) := by
        rw [Nat.mod_eq_of_lt (show a < 2 ^ 64 from ha)] at hs
        exact hs
      have Hz := Lib.hid hz
      clear hs hz hb
      go_wp2_with (first
        | (refine wpList_load_row rfl 70 _ rfl (w.heap.size + 1) rfl _ _ _ _ Hs.out Try.underlying70 rfl (by rw [setV_size]; exact sizeSet) ?_)
        | (refine wpList_store_row rfl 70 _ _ rfl w.heap.size (setV a) rfl rfl 70 _ Hz.out (by rw [setV_size]; exact sizeSet) (by rw [setV_size, setV_size]) (setV_cells a) ?_))
      have Hr := Lib.hid (setRow_heap wr w.heap.size _ (setV a) _ _ Hz.out)
      exact bodyPost_ret (v := .agg (setV a)) (results_cell_row (by rfl) _ _ w.heap.size _ _ _ _ rfl Hr.out Try.underlying70 rfl (by rw [setV_size]; exact sizeSet)) rfl ⟨rfl, below_setRow Hb.out (Nat.le_refl _) _⟩
end Go.Proofs.Ytgchcgllpceghaa
