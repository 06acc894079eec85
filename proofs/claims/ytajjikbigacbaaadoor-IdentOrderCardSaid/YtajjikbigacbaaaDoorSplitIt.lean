/- Own work: strings.splitSeq's closure as an iterator that writes its own box. -/
import Derived.RangeFuncNested
import Derived.RangeFuncLeaves
import Derived.Shelf.Abstract
import Derived.WalkKit
import Derived.OwnWalkIn
import Derived.TacticsInMore
import Derived.LoopNIn
import Derived.LoopIn
import Derived.Test.YtajjikbigacbaaaDoorShelf
import Derived.Test.YtajjikbigacbaaaDoorNumMath
import Derived.Test.YtajjikbigacbaaaDoorSeqBox
import Derived.Test.YtajjikbigacbaaaDoorLabBase
namespace Go.Proofs.YtajjikbigacbaaaDoor
open Go.RowKit Go.Shelf

attribute [local go_sem] Oper.semAt_some

def restOf (W : World) (g : Nat) : Nat := match W.cell? ⟨g, 0, none⟩ with | some (.string s) => s.size | _ => 0
theorem restOf_eq {W : World} {g : Nat} {t : TypeId} {s : ByteArray} (h : Boxed W g t (.string s)) : restOf W g = s.size := by rw [restOf, h.cell]

/-- the three boxes lie as they lay -/
def Keeps3 (g : Nat) (A B : World) : Prop := ∀ k, g ≤ k → k ≤ g + 2 → B.heap[k]? = A.heap[k]?
theorem keeps3_t {g : Nat} {A B C : World} (h : Keeps3 g A B) (k : Keeps3 g B C) : Keeps3 g A C := fun i h1 h2 => (k i h1 h2).trans (h i h1 h2)
theorem keeps3_b {g : Nat} {w : World} (hg : g + 2 < w.heap.size) (W : World) (l : Nat) (o o' : Obj) (hl : w.heap.size ≤ l) (_ : W.heap[l]? = some o) (_ : o.isCells = false) (_ : o.isWalk = false) : Keeps3 g W (W.putObj l o') :=
  fun k _ h2 => World.putObj_heap_other (by omega)
theorem keeps3_set {g b : Nat} (A : World) (v : Value) (h : b < g) : Keeps3 g A (A.setCell ⟨b, 0, none⟩ v) := fun k h1 _ => heap_setCell_other _ _ _ _ (show k ≠ b by omega)
theorem keeps3_below {g : Nat} {A B : World} (h : Below A.heap.size A B) (hg : g + 2 < A.heap.size) : Keeps3 g A B := fun k _ h2 => h.block k (by omega)
theorem Boxed.keep3 {g k : Nat} {A B : World} {t : TypeId} {v : Value} (h : Boxed A k t v) (hb : Keeps3 g A B) (h1 : g ≤ k) (h2 : k ≤ g + 2) : Boxed B k t v := (hb k h1 h2).trans h
/-- a text that is not too long -/
abbrev BS := { x : ByteArray // x.size ≤ 140737488355328 }
def onlyAt (g : Nat) : Nat → Prop := fun r => r = g

theorem Boxed.below {n₀ : Nat} {A B : World} {g : Nat} {t : TypeId} {v : Value} (h : Boxed A g t v) (hb : Below n₀ A B) (hg : g < n₀) : Boxed B g t v := (hb.block g hg).trans h

set_option maxRecDepth 100000 in
set_option maxHeartbeats 2000000 in
theorem split_in (n : Nat) (hn : 1 ≤ n) (l g B : Nat) (c : UInt8) (s0 : ByteArray) (hs0 : s0.size ≤ 140737488355328) (J Jx : List BS → World → Prop) (hJ : BoxAbides (onlyAt g) B J)
    (hY : ∀ pre x W, J pre W → pre.length < (parts c s0.data.toList).length → YieldAt Fence.wide (n - 1) Tryd.prog l #[.string (x : BS).1] W fun e W' =>
      (e = .returned (.bool true) ∧ J (pre ++ [x]) W' ∧ Keeps3 g W W') ∨ (e = .returned (.bool false) ∧ Jx (pre ++ [x]) W'))
    (W : World) (h1 : Boxed W g 9 (.string s0)) (h2 : Boxed W (g + 1) 9 (.string ⟨#[c]⟩)) (h3 : Boxed W (g + 2) 3 (.int .i64 0)) (h0 : J [] W) :
    CallsIn Fence.wide n Tryd.prog 64 #[.func (.yield l) #[] #[], .pointer (some ⟨g + 1, 0, none⟩), .pointer (some ⟨g, 0, none⟩), .pointer (some ⟨g + 2, 0, none⟩)] W fun e W' => (∃ v, e = .returned v) ∧
      ((∃ ys : List BS, ys.map (fun y : BS => y.1.data.toList) = parts c s0.data.toList ∧ J ys W') ∨ (∃ pre : List BS, pre.map (fun y : BS => y.1.data.toList) <+: parts c s0.data.toList ∧ Jx pre W')) := by
  refine callsIn_of_wp Tryd.func64 rfl trivial ?_ rfl
  simp only [Tryd.ntmps64, List.size_toArray, List.length_cons, List.length_nil, Nat.reduceAdd, Nat.reduceSub, Array.replicate_succ, Array.replicate_zero, List.push_toArray, List.append_toArray, List.nil_append, List.cons_append]
  have k2 := h2.cell
  have H1 := Lib.hid h1
  have H2 := Lib.hid h2
  have H3 := Lib.hid h3
  clear h1 h2 h3
  gi_wp2
  clear k2
  gi_loopw [7] (fun _ wr => ∃ (pre : List BS) (rest : ByteArray), rest.size ≤ s0.size ∧ Hid (pre.map (fun y : BS => y.1.data.toList) ++ parts c rest.data.toList = parts c s0.data.toList) ∧ J pre wr ∧
    Boxed wr g 9 (.string rest) ∧ Boxed wr (g + 1) 9 (.string ⟨#[c]⟩) ∧ Boxed wr (g + 2) 3 (.int .i64 0)) (fun _ wr => restOf wr g)
  case atStart => exact ⟨[], s0, Nat.le_refl _, rfl, h0, H1.out, H2.out, H3.out⟩
  case round =>
    obtain ⟨pre, rest, hle, Hp, hj, b1, b2, b3⟩ := hrel
    have c1 := b1.cell
    have c2 := b2.cell
    have c3 := b3.cell
    have Hlen : Hid (pre.length + (parts c rest.data.toList).length = (parts c s0.data.toList).length) := by
      have h := congrArg List.length Hp.out
      rw [List.length_append, List.length_map] at h
      exact h
    by_cases h : Lib.indexByte rest.data.toList c = -1
    · have hpr := parts_miss h
      have hplen : pre.length < (parts c s0.data.toList).length := by have := Hlen.out; rw [hpr] at this; simp at this; omega
      obtain ⟨fn, tmps, assign, body, hy, hR⟩ := hY pre ⟨rest, by omega⟩ wr hj hplen
      have HR := Lib.hid hR
      clear hR b1 b2 b3 hj hplen
      gi_wp2_with (refine ⟨trivial, ?_⟩; gi_at_call 66; refine (callsIn_wide.2 (Tryd.strings_Index_one rest c _)).mono ?_; rintro e w' ⟨rfl, rfl⟩; rw [h])
      refine HR.out.mono ?_
      have Hall : Hid ((pre ++ [(⟨rest, by have := hle; omega⟩ : BS)]).map (fun y : BS => y.1.data.toList) = parts c s0.data.toList) := by
        show _ = _
        rw [List.map_append, ← Hp.out, hpr]; rfl
      clear hpr
      rintro e W3 (⟨rfl, hJ3, hk3⟩ | ⟨rfl, hJx3⟩)
      · clear hk3 hy
        gi_wp2
        go_end0
        exact ⟨⟨_, rfl⟩, .inl ⟨pre ++ [⟨rest, by omega⟩], Hall.out, hJ3⟩⟩
      · clear hy
        gi_wp2
        go_end0
        exact ⟨⟨_, rfl⟩, .inr ⟨pre ++ [⟨rest, by omega⟩], by rw [Hall.out]; exact List.prefix_rfl, hJx3⟩⟩
    · obtain ⟨i, hi⟩ : ∃ i : Nat, Lib.indexByte rest.data.toList c = i := ⟨(Lib.indexByte rest.data.toList c).toNat, by have := Lib.indexByte_ge rest.data.toList c; omega⟩
      obtain ⟨hil, hpr⟩ := parts_hit hi
      have hil2 : i < rest.size := by simpa using hil
      have hxs : (rest.extract 0 i).size ≤ 140737488355328 := by rw [ByteArray.size_extract]; omega
      have hplen : pre.length < (parts c s0.data.toList).length := by have := Hlen.out; rw [hpr] at this; simp at this; omega
      obtain ⟨fn, tmps, assign, body, hy, hR⟩ := hY pre ⟨rest.extract 0 i, hxs⟩ wr hj hplen
      have HR := Lib.hid hR
      have Hpr := Lib.hid hpr
      clear hR hj hplen h hil hpr
      have hw0 : IntKind.i64.wrap ((i : Int) + 0) = (i : Int) := by rw [Int.add_zero]; simp only [IntKind.wrap, IntKind.bits, IntKind.signed]; simp; omega
      have hlt : ((i : Int) < 0) = False := by simp
      gi_wp2_with (refine ⟨trivial, ?_⟩; gi_at_call 66; refine (callsIn_wide.2 (Tryd.strings_Index_one rest c _)).mono ?_; rintro e w' ⟨rfl, rfl⟩; rw [hi])
      refine HR.out.mono ?_
      have e0 : (rest.extract 0 i).data.toList = rest.data.toList.take i := by rw [Lib.extract_data]; simp
      have e1 : (rest.extract (i + 1) rest.size).data.toList = rest.data.toList.drop (i + 1) := by
        rw [Lib.extract_data]; exact List.take_of_length_le (by simp)
      have Hnext : Hid ((pre ++ [(⟨rest.extract 0 i, hxs⟩ : BS)]).map (fun y : BS => y.1.data.toList) ++ parts c (rest.extract (i + 1) rest.size).data.toList = parts c s0.data.toList) := by
        show _ = _
        rw [← Hp.out, Hpr.out, List.map_append, e1, ← e0, List.append_assoc]; rfl
      clear e0 e1
      rintro e W3 (⟨rfl, hJ3, hk3⟩ | ⟨rfl, hJx3⟩)
      · have B1 := Lib.hid (Boxed.keep3 b1 hk3 (by omega) (by omega))
        have B2 := Lib.hid (Boxed.keep3 b2 hk3 (by omega) (by omega))
        have B3 := Lib.hid (Boxed.keep3 b3 hk3 (by omega) (by omega))
        have Hold := Lib.hid (restOf_eq b1)
        clear b1 b2 b3 c1 c2 c3 hk3 hy
        have c1 := B1.out.cell
        have c2 := B2.out.cell
        have c3 := B3.out.cell
        have f1 := B1.out.frozen
        have hw1 : IntKind.i64.wrap ((i : Int) + 1) = (i : Int) + 1 := by simp only [IntKind.wrap, IntKind.bits, IntKind.signed]; simp; omega
        gi_wp2
        go_roundw
        case rel =>
          refine ⟨pre ++ [(⟨rest.extract 0 i, hxs⟩ : BS)], rest.extract (i + 1) rest.size, by rw [ByteArray.size_extract]; omega, Hnext, ?_, B1.out.set _, B2.out.other (by omega) _, B3.out.other (by omega) _⟩
          exact hJ _ W3 _ (some g) hJ3 (grownBy_setCell' W3 g _) (fun r e => .inl (by cases e; rfl))
        case measure =>
          rw [Hold.out, restOf_eq (B1.out.set _), ByteArray.size_extract]; omega
      · clear hy
        gi_wp2
        (try simp only [Exit.inBlock, Exit.then])
        refine bodyPost_ret (results_none rfl _ _ _) rfl ?_
        refine ⟨⟨_, rfl⟩, .inr ⟨pre ++ [(⟨rest.extract 0 i, hxs⟩ : BS)], ?_, hJx3⟩⟩
        rw [← Hnext.out]; exact List.prefix_append _ _

/-- the parts come one by one, in their order -/
theorem split_seq (n : Nat) (hn : 1 ≤ n) (g : Nat) (c : UInt8) (s0 : ByteArray) (hs0 : s0.size ≤ 140737488355328) (w : World)
    (h1 : Boxed w g 9 (.string s0)) (h2 : Boxed w (g + 1) 9 (.string ⟨#[c]⟩)) (h3 : Boxed w (g + 2) 3 (.int .i64 0)) :
    SeqBox Fence.wide n Tryd.prog 64 #[.pointer (some ⟨g + 1, 0, none⟩), .pointer (some ⟨g, 0, none⟩), .pointer (some ⟨g + 2, 0, none⟩)] (fun x : BS => #[Value.string x.1]) (onlyAt g) (Keeps3 g)
      (fun ys => ys.map (fun y : BS => y.1.data.toList) = parts c s0.data.toList) (fun pre => pre.map (fun y : BS => y.1.data.toList) <+: parts c s0.data.toList) (parts c s0.data.toList).length w := fun l J Jx W hW hJ _ hY h0 =>
  split_in n hn l g W.heap.size c s0 hs0 J Jx hJ hY W (Boxed.below h1 hW h1.lt) (Boxed.below h2 hW h2.lt) (Boxed.below h3 hW h3.lt) h0

end Go.Proofs.YtajjikbigacbaaaDoor
/- Own work: strings.SplitSeq at a separator of one byte. -/
namespace Go.Proofs.YtajjikbigacbaaaDoor
open Go.RowKit

/-- the closure over three new boxes: the text, the separator, nothing saved of it -/
def SplitPost (w : World) (s : ByteArray) (c : UInt8) (e : Ending) (w' : World) : Prop :=
  e = .returned (.func (.func 64) #[] #[.pointer (some ⟨w.heap.size + 1, 0, none⟩), .pointer (some ⟨w.heap.size, 0, none⟩), .pointer (some ⟨w.heap.size + 2, 0, none⟩)]) ∧
  w'.heap.size = w.heap.size + 3 ∧ Below w.heap.size w w' ∧ Boxed w' w.heap.size 9 (.string s) ∧ Boxed w' (w.heap.size + 1) 9 (.string ⟨#[c]⟩) ∧ Boxed w' (w.heap.size + 2) 3 (.int .i64 0)

set_option maxRecDepth 100000 in
set_option maxHeartbeats 2000000 in
theorem splitSeq_boxes (s : ByteArray) (c : UInt8) (w : World) : Calls Tryd.prog 45 #[.string s, .string ⟨#[c]⟩, .int .i64 0] w (SplitPost w s c) := by
  go_enter Tryd.func45, Tryd.ntmps45
  go_wp2_with fail
  go_ret
  obtain ⟨h1, h2, h3, h4, h5⟩ := three_cells w (.string s) (.string ⟨#[c]⟩) (.int .i64 0) 9 9 3
  exact ⟨rfl, h1, h2, h3, h4, h5⟩

set_option maxRecDepth 100000 in
set_option maxHeartbeats 2000000 in
theorem split_any (s : ByteArray) (c : UInt8) (w : World) : Calls Tryd.prog 32 #[.string s, .string ⟨#[c]⟩] w (SplitPost w s c) := by
  go_enter Tryd.func32, Tryd.ntmps32
  go_wp2_with fail
  refine (splitSeq_boxes s c w).mono ?_
  rintro e w' ⟨rfl, h1, h2, h3, h4, h5⟩
  go_wp2_with fail
  go_ret
  exact ⟨rfl, h1, h2, h3, h4, h5⟩
end Go.Proofs.YtajjikbigacbaaaDoor
