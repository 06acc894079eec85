/- Own work: which lines a patch touches: plain laws, and rows of truths. -/
import Derived.Test.YtabdgocfbmcobaaHunkFits
import Derived.Deep.CutBlock
import Derived.Deep.CutRange
namespace Go.Proofs.Ytabdgocfbmcobaa
open Go.RowKit Go.Sort

def coverH (i : Nat) (h : HunkI) : Bool := decide (h.at_ ≤ (i : Int)) && decide ((i : Int) < h.at_ + h.old.length)
def coverB (l : List HunkI) (i : Nat) : Bool := l.any (coverH i)
def rowL (n : Nat) (f : Nat → Bool) : List Bool := (List.range n).map f
theorem rowL_len (n : Nat) (f : Nat → Bool) : (rowL n f).length = n := by simp [rowL]
theorem rowL_get (n : Nat) (f : Nat → Bool) (i : Nat) (h : i < n) : (rowL n f)[i]? = some (f i) := by simp [rowL, h]
theorem rowL_eq {n : Nat} {f g : Nat → Bool} (h : ∀ i, i < n → f i = g i) : rowL n f = rowL n g := by
  unfold rowL
  exact List.map_congr_left fun i hi => h i (List.mem_range.1 hi)
theorem rowL_set (n : Nat) (f : Nat → Bool) (q : Nat) (b : Bool) : (rowL n f).set q b = rowL n (fun i => if i = q then b else f i) := by
  refine List.ext_getElem? fun i => ?_
  rw [List.getElem?_set]
  by_cases e : q = i
  · subst e
    rw [if_pos rfl]
    by_cases hq : q < n
    · rw [if_pos (by rw [rowL_len]; exact hq), rowL_get _ _ _ hq, if_pos rfl]
    · rw [if_neg (by rw [rowL_len]; exact hq), List.getElem?_eq_none (by rw [rowL_len]; omega)]
  · rw [if_neg e]
    by_cases hi : i < n
    · rw [rowL_get _ _ _ hi, rowL_get _ _ _ hi, if_neg (fun h => e h.symm)]
    · rw [List.getElem?_eq_none (by rw [rowL_len]; omega), List.getElem?_eq_none (by rw [rowL_len]; omega)]
theorem cover_take {l : List HunkI} {k : Nat} (hk : k < l.length) (i : Nat) : coverB (l.take (k + 1)) i = (coverB (l.take k) i || coverH i (l[k]'hk)) := by
  unfold coverB
  rw [List.take_succ_eq_append_getElem hk, List.any_append]
  simp
def withinE (N : Int) (h : HunkI) : Bool := decide (h.at_ + h.old.length ≤ N)
/-- what is told when it is asked which of N lines are touched -/
def touchE (l : List HunkI) (N : Int) : Nat := if (chkL l).2 ≠ 0 ∨ N < 0 ∨ 1048576 < N then 80 else if l.all (withinE N) then 0 else 81
theorem touch_80 {l : List HunkI} {N : Int} (h : (chkL l).2 ≠ 0 ∨ N < 0 ∨ 1048576 < N) : touchE l N = 80 := by rw [touchE, if_pos h]
theorem touch_81 {l : List HunkI} {N : Int} (h0 : (chkL l).2 = 0) (h1 : 0 ≤ N) (h2 : N ≤ 1048576) (k : Nat) (hk : k < l.length) (h : ¬ (l[k]'hk).at_ + (l[k]'hk).old.length ≤ N) : touchE l N = 81 := by
  rw [touchE, if_neg (by omega), if_neg]
  intro e
  rw [List.all_eq_true] at e
  have := e _ (List.getElem_mem hk)
  simp only [withinE, decide_eq_true_eq] at this
  exact h this
theorem touch_0 {l : List HunkI} {N : Int} (h0 : (chkL l).2 = 0) (h1 : 0 ≤ N) (h2 : N ≤ 1048576) (h : ∀ (k : Nat) (hk : k < l.length), (l[k]'hk).at_ + (l[k]'hk).old.length ≤ N) : touchE l N = 0 := by
  rw [touchE, if_neg (by omega), if_pos]
  rw [List.all_eq_true]
  intro x hx
  obtain ⟨k, hk, rfl⟩ := List.getElem_of_mem hx
  simp only [withinE, decide_eq_true_eq]
  exact h k hk

/-- a row of truths that is the call's own -/
def OwnB (w : World) (B : Nat) (v : Value) (n : Nat) (f : Nat → Bool) : Prop := w.ownsRow B 4 1 v n ((rowL n f).map Value.bool)
theorem OwnB.below {w w' : World} {B : Nat} {v : Value} {n : Nat} {f : Nat → Bool} (h : OwnB w B v n f) (hb : Below w.heap.size w w') : OwnB w' B v n f := own_kept h hb
theorem OwnB.base {w : World} {B B' : Nat} {v : Value} {n : Nat} {f : Nat → Bool} (h : OwnB w B v n f) (hb : B' ≤ B) : OwnB w B' v n f := own_base h hb
theorem OwnB.same {w : World} {B : Nat} {v : Value} {n : Nat} {f g : Nat → Bool} (h : OwnB w B v n f) (e : ∀ i, i < n → f i = g i) : OwnB w B v n g := by
  unfold OwnB at *
  rw [rowL_eq (fun i hi => (e i hi).symm)]
  exact h
theorem OwnB.cell {w : World} {B g n cap : Nat} {f : Nat → Bool} (h : OwnB w B (.slice (some ⟨g, 0, none⟩) n cap) n f) (i : Nat) (hi : i < n) : w.cell? ⟨g, i, none⟩ = some (.bool (f i)) := by
  refine (h.cellAt i (by omega)).trans ?_
  rw [List.getElem?_map, rowL_get _ _ _ hi]
  rfl
theorem OwnB.set {w : World} {B g n cap : Nat} {f : Nat → Bool} (h : OwnB w B (.slice (some ⟨g, 0, none⟩) n cap) n f) (q : Nat) (b : Bool) : OwnB (w.setCell ⟨g, q, none⟩ (.bool b)) B (.slice (some ⟨g, 0, none⟩) n cap) n (fun i => if i = q then b else f i) := by
  have h2 := own_setCell (j := q) h (.bool b)
  unfold OwnB
  rw [← rowL_set, List.map_set]
  exact h2
theorem OwnB.frozen {w : World} {B g n cap : Nat} {f : Nat → Bool} (h : OwnB w B (.slice (some ⟨g, 0, none⟩) n cap) n f) (q : Nat) : w.frozen? ⟨g, q, none⟩ = false := own_frozen h q
def falses (n : Nat) : Array Value := madeCells (Value.bool false).cells n
theorem Try.info4 : (Try.prog.info? 4).map (fun i => (i.zero, i.size, i.bytes)) = some (some (.bool false), 1, 1) := by kernel_rfl
theorem run_makeB (n : Nat) (hn : n ≤ 2097152) (w : World) : (Instr.makeSlice 44 (.int .i64 (n : Int)) (.int .i64 (n : Int))).run Try.prog w = .ok (.slice (some ⟨w.heap.size, 0, none⟩) n n) (w.alloc (.cells (falses n) 4)) := by
  obtain ⟨i0, hi, hz0, hz1, hz2⟩ := info_parts Try.info4
  have := run_make (P := Try.prog) w 44 4 i0 (.bool false) Try.underlying44 hi hz0 .i64 .i64 (n : Int) (n : Int) (by omega) (Int.le_refl _) (by rw [hz2]; omega) (by omega)
  rw [hz1] at this
  simp only [Int.toNat_natCast, Nat.mul_one] at this
  exact this
theorem falses_list (n : Nat) : (falses n).toList = (rowL n (fun _ => false)).map Value.bool := by
  refine List.ext_getElem? fun i => ?_
  by_cases hi : i < n
  · rw [List.getElem?_map, rowL_get _ _ _ hi]
    simp [falses, madeCells, hi, Value.cells, Nat.mod_one]
  · rw [List.getElem?_eq_none (by simp [falses, madeCells]; omega), List.getElem?_eq_none (by rw [List.length_map, rowL_len]; omega)]
theorem own_falses (w : World) (n B : Nat) (hB : B ≤ w.heap.size) (hn : n ≤ 2097152) : OwnB (w.alloc (.cells (falses n) 4)) B (.slice (some ⟨w.heap.size, 0, none⟩) n n) n (fun _ => false) := by
  unfold OwnB
  rw [← falses_list]
  exact World.ownsRow_lit w _ n hB (by unfold maxLen; omega) (by simp [falses, madeCells])
end Go.Proofs.Ytabdgocfbmcobaa
