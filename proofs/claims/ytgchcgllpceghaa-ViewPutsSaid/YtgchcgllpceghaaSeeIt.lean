/- Own work: what view's iterators go over. -/
import Derived.RangeFuncBox
import Derived.RangeFuncLeaves
import Derived.RangeFuncFrom
import Derived.RangeFuncCalls
import Derived.Shelf.Abstract
import Derived.WalkKit
import Derived.OwnWalkIn
import Derived.TacticsInMore
import Derived.LoopNIn
import Derived.LoopIn
import Derived.Test.YtgchcgllpceghaaSeeA
namespace Go.Proofs.Ytgchcgllpceghaa
open Go.RowKit Go.Shelf

attribute [local go_sem] Oper.semAt_some

/-- the lines of which something is so, each with its place -/
def pickL (p : LineV → Bool) : Nat → List LineV → List (Nat × LineV)
  | _, [] => []
  | i, x :: r => if p x then (i, x) :: pickL p (i + 1) r else pickL p (i + 1) r
def encP (q : Nat × LineV) : Array Value := #[.int .i64 (q.1 : Int), q.2.agg]
theorem pickL_at (p : LineV → Bool) {ls : List LineV} {i : Nat} (h : i < ls.length) :
    pickL p i (ls.drop i) = if p (ls[i]'h) then (i, ls[i]'h) :: pickL p (i + 1) (ls.drop (i + 1)) else pickL p (i + 1) (ls.drop (i + 1)) := by
  rw [List.drop_eq_getElem_cons h]; rfl
theorem pickL_end (p : LineV → Bool) {ls : List LineV} {i : Nat} (h : ls.length ≤ i) : pickL p i (ls.drop i) = [] := by
  rw [List.drop_eq_nil_of_le h]; rfl
theorem pickL_len (p : LineV → Bool) : ∀ (i : Nat) (ls : List LineV), (pickL p i ls).length ≤ ls.length
  | _, [] => Nat.le_refl _
  | i, x :: r => by
    have := pickL_len p (i + 1) r
    rw [pickL]
    split
    · simp; omega
    · simp; omega
theorem pickL_lines (p : LineV → Bool) : ∀ (i : Nat) (ls : List LineV), (pickL p i ls).map Prod.snd = ls.filter p
  | _, [] => rfl
  | i, x :: r => by
    have := pickL_lines p (i + 1) r
    rw [pickL, List.filter_cons]
    split <;> simp [this]
theorem abides_alloc {β : Type} {B : Nat} {J : β → World → Prop} (h : AbidesFrom B J) {s : β} {W W' : World} (hs : J s W) (hb : Below W.heap.size W W') : J s W' :=
  h s W W' none hs ⟨hb.os, hb.tape, hb.output, hb.size, fun k hk _ => hb.block k hk⟩ (fun r e => by cases e)

set_option maxRecDepth 100000 in
set_option maxHeartbeats 4000000 in
theorem allLines_in (n : Nat) (hn : 1 ≤ n) (l g n₀ : Nat) (v : Value) (ls : List LineV) (J Jx : List (Nat × LineV) → World → Prop) (W : World) (hJ : AbidesFrom W.heap.size J) (hn0 : n₀ ≤ W.heap.size)
    (hY : ∀ pre x W1, J pre W1 → pre.length < (pickL (fun _ => true) 0 ls).length → YieldAt Fence.wide (n - 1) Try.prog l (encP x) W1 fun e W' =>
      (e = .returned (.bool true) ∧ J (pre ++ [x]) W' ∧ Below n₀ W1 W') ∨ (e = .returned (.bool false) ∧ Jx (pre ++ [x]) W'))
    (hv : Lns W v ls) (hf : ∀ x ∈ ls, x.fine) (hvb : ∀ b o k, v = .slice (some ⟨b, o, none⟩) ls.length k → 0 < ls.length → b < n₀)
    (hg : g < n₀) (h1 : W.heap[g]? = some (.cells #[v] 22 (0, 0))) (h0 : J [] W) :
    CallsIn Fence.wide n Try.prog 56 #[.func (.yield l) #[] #[], .pointer (some ⟨g, 0, none⟩)] W fun e W' => (∃ v, e = .returned v) ∧
      ((∃ ys, ys = pickL (fun _ => true) 0 ls ∧ J ys W') ∨ (∃ pre, pre <+: pickL (fun _ => true) 0 ls ∧ Jx pre W')) := by
  obtain ⟨ao, cap, b, o, rfl, hao, hml, hc4⟩ := hv.form
  unfold maxLen at hml
  have Hb : Hid (0 < ls.length → b < n₀) := fun h0 => hvb b o cap (by rw [hao h0]) h0
  obtain ⟨N, hN⟩ : ∃ N, ls.length = N := ⟨_, rfl⟩
  have HN := Lib.hid hN
  rw [hN] at hao hml h1
  have Hao := Lib.hid hao
  have Hc4 := Lib.hid hc4
  have Hf := Lib.hid hf
  have HJ := Lib.hid hJ
  have Hn0 := Lib.hid hn0
  have HY := Lib.hid hY
  have H1 := Lib.hid h1
  have Hg := Lib.hid hg
  have cv := cell_of_one h1
  clear hv hvb hao hc4 hf hJ hn0 hY h1 hN hg 
  refine callsIn_of_wp Try.func56 rfl trivial ?_ rfl
  simp only [Try.ntmps56, List.size_toArray, List.length_cons, List.length_nil, Nat.reduceAdd, Nat.reduceSub, Array.replicate_succ, Array.replicate_zero, List.push_toArray, List.append_toArray, List.nil_append, List.cons_append]
  gi_wp2_with fail
  clear cv
  gi_loopw [7] (fun t wr => ∃ (i : Nat) (pre : List (Nat × LineV)), i ≤ N ∧ t = .int .i64 (i : Int) ∧ Hid (pickL (fun _ => true) 0 ls = pre ++ pickL (fun _ => true) i (ls.drop i)) ∧ J pre wr ∧ Below n₀ W wr) (fun t _ => N - (intOf t).toNat)
  case atStart => exact ⟨0, [], Nat.zero_le _, rfl, by show _ = _; simp, h0, Below.refl _ _⟩
  case round =>
    obtain ⟨i, pre, hi, rfl, Hpre, hJ, hbw⟩ := hrel
    have HJp := Lib.hid hJ
    have HB := Lib.hid hbw
    clear hJ hbw
    by_cases hlt : i < N
    · have hil : i < ls.length := by rw [HN.out]; exact hlt
      obtain rfl := Hao.out (by omega)
      have hbn := Hb.out (by rw [HN.out]; omega)
      obtain ⟨c0, c1, c2, c3⟩ := Hc4.out i hil
      have c0 := (HB.out.cell (p := ⟨b, o + i * 4, none⟩) hbn).trans c0
      have c1 := (HB.out.cell (p := ⟨b, o + i * 4 + 1, none⟩) hbn).trans c1
      have c2 := (HB.out.cell (p := ⟨b, o + i * 4 + 2, none⟩) hbn).trans c2
      have c3 := (HB.out.cell (p := ⟨b, o + i * 4 + 3, none⟩) hbn).trans c3
      have Hx := Lib.hid (Hf.out _ (List.getElem_mem hil))
      have Hpk := Lib.hid (pickL_at (fun _ => true) hil)
      obtain ⟨x, hx⟩ : ∃ x, ls[i]'hil = x := ⟨_, rfl⟩
      rw [hx] at c0 c1 c2 c3 Hx Hpk
      obtain ⟨x1, x2, x3, x4⟩ := x
      dsimp only at c0 c1 c2 c3
      have hi0 : (0 : Int) ≤ (i : Int) := by omega
      have hi1 : (i : Int) < (N : Int) := by omega
      have hWs := HB.out.size
      clear hx hbn
      have hal := (Below.refl wr.heap.size wr).alloc (Nat.le_refl _) (.cells #[.int .u64 x1, .int .i64 x2, .int .i64 x3, .string x4] 26)
      have HAL := Lib.hid hal
      have HBn := Lib.hid (HB.out.trans (hal.mono (by have := Hn0.out; omega)))
      have HJn := Lib.hid (abides_alloc HJ.out HJp.out hal)
      have d0 := cell_row _ _ 0 _ _ _ (heap_alloc_new wr (.cells #[.int .u64 x1, .int .i64 x2, .int .i64 x3, .string x4] 26)) rfl
      have d1 := cell_row _ _ 1 _ _ _ (heap_alloc_new wr (.cells #[.int .u64 x1, .int .i64 x2, .int .i64 x3, .string x4] 26)) rfl
      have d2 := cell_row _ _ 2 _ _ _ (heap_alloc_new wr (.cells #[.int .u64 x1, .int .i64 x2, .int .i64 x3, .string x4] 26)) rfl
      have d3 := cell_row _ _ 3 _ _ _ (heap_alloc_new wr (.cells #[.int .u64 x1, .int .i64 x2, .int .i64 x3, .string x4] 26)) rfl
      clear hal
      have hpk : pickL (fun _ => true) i (ls.drop i) = (i, ⟨x1, x2, x3, x4⟩) :: pickL (fun _ => true) (i + 1) (ls.drop (i + 1)) := Hpk.out
      have Hpk2 := Lib.hid hpk
      clear hpk
      obtain ⟨fn, tmps, assign, body, hy, hR⟩ := HY.out pre (i, ⟨x1, x2, x3, x4⟩) _ HJn.out (by
        have h := congrArg List.length Hpre.out
        rw [Hpk2.out, List.length_append, List.length_cons] at h
        omega)
      have HR := Lib.hid hR
      clear hR
      dsimp only [encP, LineV.agg] at hy
      gi_wp2_with fail
      refine HR.out.mono ?_
      rintro e W3 (⟨rfl, hJ3, hk3⟩ | ⟨rfl, hJx3⟩)
      · have B3 := Lib.hid (HBn.out.trans hk3)
        have HJ3 := Lib.hid hJ3
        clear hJ3 hk3 hy c0 c1 c2 c3 d0 d1 d2 d3
        gi_wp2
        go_roundw
        case rel =>
          refine ⟨i + 1, pre ++ [(i, ⟨x1, x2, x3, x4⟩)], by omega, by go_num, ?_, HJ3.out, B3.out⟩
          show _ = _
          rw [Hpre.out, Hpk2.out]
          simp
        case measure => simp [intOf]; omega
      · clear hy c0 c1 c2 c3 d0 d1 d2 d3
        gi_wp2
        refine bodyPost_ret (results_none rfl _ _ _) rfl ?_
        refine ⟨⟨_, rfl⟩, .inr ⟨pre ++ [(i, ⟨x1, x2, x3, x4⟩)], ⟨pickL (fun _ => true) (i + 1) (ls.drop (i + 1)), ?_⟩, hJx3⟩⟩
        rw [Hpre.out, Hpk2.out]
        simp
    · obtain rfl : i = N := by omega
      gi_wp2_with fail
      go_end0
      refine ⟨⟨_, rfl⟩, .inl ?_⟩
      rw [Hpre.out, pickL_end _ (by rw [HN.out]; exact Nat.le_refl _), List.append_nil]
      first | exact HJp.out | exact ⟨_, rfl, HJp.out⟩

set_option maxRecDepth 100000 in
set_option maxHeartbeats 4000000 in
theorem whereSeen_in (n : Nat) (hn : 1 ≤ n) (l g h n₀ : Nat) (c : Nat) (hc : c < 18446744073709551616) (v : Value) (ls : List LineV) (J Jx : List (Nat × LineV) → World → Prop) (W : World) (hJ : AbidesFrom W.heap.size J) (hn0 : n₀ ≤ W.heap.size)
    (hY : ∀ pre x W1, J pre W1 → pre.length < (pickL (LineV.seen c) 0 ls).length → YieldAt Fence.wide (n - 1) Try.prog l (encP x) W1 fun e W' =>
      (e = .returned (.bool true) ∧ J (pre ++ [x]) W' ∧ Below n₀ W1 W') ∨ (e = .returned (.bool false) ∧ Jx (pre ++ [x]) W'))
    (hv : Lns W v ls) (hf : ∀ x ∈ ls, x.fine) (hvb : ∀ b o k, v = .slice (some ⟨b, o, none⟩) ls.length k → 0 < ls.length → b < n₀)
    (hg : g + 1 < n₀) (hh : h < n₀) (h1 : W.heap[g]? = some (.cells #[v] 22 (0, 0))) (h2 : W.heap[g + 1]? = some (.cells #[.func (.func 54) #[] #[.pointer (some ⟨h, 0, none⟩)]] 59 (0, 0))) (h3 : W.heap[h]? = some (.cells #[.int .u64 c] 24 (0, 0))) (h0 : J [] W) :
    CallsIn Fence.wide n Try.prog 55 #[.func (.yield l) #[] #[], .pointer (some ⟨g, 0, none⟩), .pointer (some ⟨g + 1, 0, none⟩)] W fun e W' => (∃ v, e = .returned v) ∧
      ((∃ ys, ys = pickL (LineV.seen c) 0 ls ∧ J ys W') ∨ (∃ pre, pre <+: pickL (LineV.seen c) 0 ls ∧ Jx pre W')) := by
  obtain ⟨ao, cap, b, o, rfl, hao, hml, hc4⟩ := hv.form
  unfold maxLen at hml
  have Hb : Hid (0 < ls.length → b < n₀) := fun h0 => hvb b o cap (by rw [hao h0]) h0
  obtain ⟨N, hN⟩ : ∃ N, ls.length = N := ⟨_, rfl⟩
  have HN := Lib.hid hN
  rw [hN] at hao hml h1
  have Hao := Lib.hid hao
  have Hc4 := Lib.hid hc4
  have Hf := Lib.hid hf
  have HJ := Lib.hid hJ
  have Hn0 := Lib.hid hn0
  have HY := Lib.hid hY
  have H1 := Lib.hid h1
  have H2 := Lib.hid h2
  have H3 := Lib.hid h3
  have Hh := Lib.hid hh
  have Hg := Lib.hid hg
  have cv := cell_of_one h1
  clear hv hvb hao hc4 hf hJ hn0 hY h1 hN hg h2 h3 hh
  refine callsIn_of_wp Try.func55 rfl trivial ?_ rfl
  simp only [Try.ntmps55, List.size_toArray, List.length_cons, List.length_nil, Nat.reduceAdd, Nat.reduceSub, Array.replicate_succ, Array.replicate_zero, List.push_toArray, List.append_toArray, List.nil_append, List.cons_append]
  gi_wp2_with fail
  clear cv
  gi_loopw [8] (fun t wr => ∃ (i : Nat) (pre : List (Nat × LineV)), i ≤ N ∧ t = .int .i64 (i : Int) ∧ Hid (pickL (LineV.seen c) 0 ls = pre ++ pickL (LineV.seen c) i (ls.drop i)) ∧ J pre wr ∧ Below n₀ W wr) (fun t _ => N - (intOf t).toNat)
  case atStart => exact ⟨0, [], Nat.zero_le _, rfl, by show _ = _; simp, h0, Below.refl _ _⟩
  case round =>
    obtain ⟨i, pre, hi, rfl, Hpre, hJ, hbw⟩ := hrel
    have HJp := Lib.hid hJ
    have HB := Lib.hid hbw
    clear hJ hbw
    by_cases hlt : i < N
    · have hil : i < ls.length := by rw [HN.out]; exact hlt
      obtain rfl := Hao.out (by omega)
      have hbn := Hb.out (by rw [HN.out]; omega)
      obtain ⟨c0, c1, c2, c3⟩ := Hc4.out i hil
      have c0 := (HB.out.cell (p := ⟨b, o + i * 4, none⟩) hbn).trans c0
      have c1 := (HB.out.cell (p := ⟨b, o + i * 4 + 1, none⟩) hbn).trans c1
      have c2 := (HB.out.cell (p := ⟨b, o + i * 4 + 2, none⟩) hbn).trans c2
      have c3 := (HB.out.cell (p := ⟨b, o + i * 4 + 3, none⟩) hbn).trans c3
      have Hx := Lib.hid (Hf.out _ (List.getElem_mem hil))
      have Hpk := Lib.hid (pickL_at (LineV.seen c) hil)
      obtain ⟨x, hx⟩ : ∃ x, ls[i]'hil = x := ⟨_, rfl⟩
      rw [hx] at c0 c1 c2 c3 Hx Hpk
      obtain ⟨x1, x2, x3, x4⟩ := x
      dsimp only at c0 c1 c2 c3
      have hi0 : (0 : Int) ≤ (i : Int) := by omega
      have hi1 : (i : Int) < (N : Int) := by omega
      have hWs := HB.out.size
      clear hx hbn
      have hal := (Below.refl wr.heap.size wr).alloc (Nat.le_refl _) (.cells #[.int .u64 x1, .int .i64 x2, .int .i64 x3, .string x4] 26)
      have HAL := Lib.hid hal
      have HBn := Lib.hid (HB.out.trans (hal.mono (by have := Hn0.out; omega)))
      have HJn := Lib.hid (abides_alloc HJ.out HJp.out hal)
      have d0 := cell_row _ _ 0 _ _ _ (heap_alloc_new wr (.cells #[.int .u64 x1, .int .i64 x2, .int .i64 x3, .string x4] 26)) rfl
      have d1 := cell_row _ _ 1 _ _ _ (heap_alloc_new wr (.cells #[.int .u64 x1, .int .i64 x2, .int .i64 x3, .string x4] 26)) rfl
      have d2 := cell_row _ _ 2 _ _ _ (heap_alloc_new wr (.cells #[.int .u64 x1, .int .i64 x2, .int .i64 x3, .string x4] 26)) rfl
      have d3 := cell_row _ _ 3 _ _ _ (heap_alloc_new wr (.cells #[.int .u64 x1, .int .i64 x2, .int .i64 x3, .string x4] 26)) rfl
      clear hal
      have hpk : pickL (LineV.seen c) i (ls.drop i) = if (belowN x1.toNat c) then (i, ⟨x1, x2, x3, x4⟩) :: pickL (LineV.seen c) (i + 1) (ls.drop (i + 1)) else pickL (LineV.seen c) (i + 1) (ls.drop (i + 1)) := Hpk.out
      have f2 := cell_kept HAL.out ((HB.out.cell (p := ⟨g + 1, 0, none⟩) Hg.out).trans (cell_of_one H2.out))
      have f3 := cell_kept HAL.out ((HB.out.cell (p := ⟨h, 0, none⟩) Hh.out).trans (cell_of_one H3.out))
      have HXf := Lib.hid (show 0 ≤ x1 ∧ x1 < 18446744073709551616 from Hx.out)
      cases hq : (belowN x1.toNat c) with
      | true =>
        have Hpk2 := Lib.hid (hpk.trans (if_pos hq))
        have Hq := Lib.hid hq
        clear hpk hq
        gi_wp2_with fail
        refine ⟨trivial, (callsIn_wide.2 (seen1_any c h x1 x2 x3 x4 _ hc HXf.out.1 HXf.out.2 f3)).mono ?_⟩
        rintro e w3 ⟨rfl, hb3⟩
        rw [Hq.out]
        have d0 := cell_kept hb3 d0
        have d1 := cell_kept hb3 d1
        have d2 := cell_kept hb3 d2
        have d3 := cell_kept hb3 d3
        have HBm := Lib.hid (HBn.out.trans (hb3.mono (by have := HAL.out.size; have := Hn0.out; omega)))
        have HJm := Lib.hid (abides_alloc (fun s A B row hs hg hr => HJ.out s A B row hs hg hr) HJn.out hb3)
        clear hb3
        obtain ⟨fn, tmps, assign, body, hy, hR⟩ := HY.out pre (i, ⟨x1, x2, x3, x4⟩) _ HJm.out (by
          have h := congrArg List.length Hpre.out
          rw [Hpk2.out, List.length_append, List.length_cons] at h
          omega)
        have HR := Lib.hid hR
        clear hR
        dsimp only [encP, LineV.agg] at hy
        gi_wp2_with fail
        refine HR.out.mono ?_
        rintro e W3 (⟨rfl, hJ3, hk3⟩ | ⟨rfl, hJx3⟩)
        · have B3 := Lib.hid (HBm.out.trans hk3)
          have HJ3 := Lib.hid hJ3
          clear hJ3 hk3 hy c0 c1 c2 c3 d0 d1 d2 d3
          gi_wp2
          go_roundw
          case rel =>
            refine ⟨i + 1, pre ++ [(i, ⟨x1, x2, x3, x4⟩)], by omega, by go_num, ?_, HJ3.out, B3.out⟩
            show _ = _
            rw [Hpre.out, Hpk2.out]
            simp
          case measure => simp [intOf]; omega
        · clear hy c0 c1 c2 c3 d0 d1 d2 d3
          gi_wp2
          refine bodyPost_ret (results_none rfl _ _ _) rfl ?_
          refine ⟨⟨_, rfl⟩, .inr ⟨pre ++ [(i, ⟨x1, x2, x3, x4⟩)], ⟨pickL (LineV.seen c) (i + 1) (ls.drop (i + 1)), ?_⟩, hJx3⟩⟩
          rw [Hpre.out, Hpk2.out]
          simp
      | false =>
        have Hpk2 := Lib.hid (hpk.trans (if_neg (by rw [hq]; decide)))
        have Hq := Lib.hid hq
        clear hpk hq
        gi_wp2_with fail
        refine ⟨trivial, (callsIn_wide.2 (seen1_any c h x1 x2 x3 x4 _ hc HXf.out.1 HXf.out.2 f3)).mono ?_⟩
        rintro e w3 ⟨rfl, hb3⟩
        rw [Hq.out]
        have HBm := Lib.hid (HBn.out.trans (hb3.mono (by have := HAL.out.size; have := Hn0.out; omega)))
        have HJm := Lib.hid (abides_alloc (fun s A B row hs hg hr => HJ.out s A B row hs hg hr) HJn.out hb3)
        clear hb3 c0 c1 c2 c3 d0 d1 d2 d3 f2 f3
        gi_wp2_with fail
        refine ⟨fun f h => (by cases h), ?_⟩
        gi_wp2_with fail
        go_roundw
        case rel =>
          refine ⟨i + 1, pre, by omega, by go_num, ?_, HJm.out, HBm.out⟩
          show _ = _
          rw [Hpre.out, Hpk2.out]
        case measure => simp [intOf]; omega
    · obtain rfl : i = N := by omega
      gi_wp2_with fail
      go_end0
      refine ⟨⟨_, rfl⟩, .inl ?_⟩
      rw [Hpre.out, pickL_end _ (by rw [HN.out]; exact Nat.le_refl _), List.append_nil]
      first | exact HJp.out | exact ⟨_, rfl, HJp.out⟩

set_option maxRecDepth 100000 in
set_option maxHeartbeats 4000000 in
theorem whereHid_in (n : Nat) (hn : 1 ≤ n) (l g h n₀ : Nat) (c : Nat) (hc : c < 18446744073709551616) (v : Value) (ls : List LineV) (J Jx : List (Nat × LineV) → World → Prop) (W : World) (hJ : AbidesFrom W.heap.size J) (hn0 : n₀ ≤ W.heap.size)
    (hY : ∀ pre x W1, J pre W1 → pre.length < (pickL (fun x => !x.seen c) 0 ls).length → YieldAt Fence.wide (n - 1) Try.prog l (encP x) W1 fun e W' =>
      (e = .returned (.bool true) ∧ J (pre ++ [x]) W' ∧ Below n₀ W1 W') ∨ (e = .returned (.bool false) ∧ Jx (pre ++ [x]) W'))
    (hv : Lns W v ls) (hf : ∀ x ∈ ls, x.fine) (hvb : ∀ b o k, v = .slice (some ⟨b, o, none⟩) ls.length k → 0 < ls.length → b < n₀)
    (hg : g + 1 < n₀) (hh : h < n₀) (h1 : W.heap[g]? = some (.cells #[v] 22 (0, 0))) (h2 : W.heap[g + 1]? = some (.cells #[.func (.func 39) #[] #[.pointer (some ⟨h, 0, none⟩)]] 59 (0, 0))) (h3 : W.heap[h]? = some (.cells #[.int .u64 c] 24 (0, 0))) (h0 : J [] W) :
    CallsIn Fence.wide n Try.prog 55 #[.func (.yield l) #[] #[], .pointer (some ⟨g, 0, none⟩), .pointer (some ⟨g + 1, 0, none⟩)] W fun e W' => (∃ v, e = .returned v) ∧
      ((∃ ys, ys = pickL (fun x => !x.seen c) 0 ls ∧ J ys W') ∨ (∃ pre, pre <+: pickL (fun x => !x.seen c) 0 ls ∧ Jx pre W')) := by
  obtain ⟨ao, cap, b, o, rfl, hao, hml, hc4⟩ := hv.form
  unfold maxLen at hml
  have Hb : Hid (0 < ls.length → b < n₀) := fun h0 => hvb b o cap (by rw [hao h0]) h0
  obtain ⟨N, hN⟩ : ∃ N, ls.length = N := ⟨_, rfl⟩
  have HN := Lib.hid hN
  rw [hN] at hao hml h1
  have Hao := Lib.hid hao
  have Hc4 := Lib.hid hc4
  have Hf := Lib.hid hf
  have HJ := Lib.hid hJ
  have Hn0 := Lib.hid hn0
  have HY := Lib.hid hY
  have H1 := Lib.hid h1
  have H2 := Lib.hid h2
  have H3 := Lib.hid h3
  have Hh := Lib.hid hh
  have Hg := Lib.hid hg
  have cv := cell_of_one h1
  clear hv hvb hao hc4 hf hJ hn0 hY h1 hN hg h2 h3 hh
  refine callsIn_of_wp Try.func55 rfl trivial ?_ rfl
  simp only [Try.ntmps55, List.size_toArray, List.length_cons, List.length_nil, Nat.reduceAdd, Nat.reduceSub, Array.replicate_succ, Array.replicate_zero, List.push_toArray, List.append_toArray, List.nil_append, List.cons_append]
  gi_wp2_with fail
  clear cv
  gi_loopw [8] (fun t wr => ∃ (i : Nat) (pre : List (Nat × LineV)), i ≤ N ∧ t = .int .i64 (i : Int) ∧ Hid (pickL (fun x => !x.seen c) 0 ls = pre ++ pickL (fun x => !x.seen c) i (ls.drop i)) ∧ J pre wr ∧ Below n₀ W wr) (fun t _ => N - (intOf t).toNat)
  case atStart => exact ⟨0, [], Nat.zero_le _, rfl, by show _ = _; simp, h0, Below.refl _ _⟩
  case round =>
    obtain ⟨i, pre, hi, rfl, Hpre, hJ, hbw⟩ := hrel
    have HJp := Lib.hid hJ
    have HB := Lib.hid hbw
    clear hJ hbw
    by_cases hlt : i < N
    · have hil : i < ls.length := by rw [HN.out]; exact hlt
      obtain rfl := Hao.out (by omega)
      have hbn := Hb.out (by rw [HN.out]; omega)
      obtain ⟨c0, c1, c2, c3⟩ := Hc4.out i hil
      have c0 := (HB.out.cell (p := ⟨b, o + i * 4, none⟩) hbn).trans c0
      have c1 := (HB.out.cell (p := ⟨b, o + i * 4 + 1, none⟩) hbn).trans c1
      have c2 := (HB.out.cell (p := ⟨b, o + i * 4 + 2, none⟩) hbn).trans c2
      have c3 := (HB.out.cell (p := ⟨b, o + i * 4 + 3, none⟩) hbn).trans c3
      have Hx := Lib.hid (Hf.out _ (List.getElem_mem hil))
      have Hpk := Lib.hid (pickL_at (fun x => !x.seen c) hil)
      obtain ⟨x, hx⟩ : ∃ x, ls[i]'hil = x := ⟨_, rfl⟩
      rw [hx] at c0 c1 c2 c3 Hx Hpk
      obtain ⟨x1, x2, x3, x4⟩ := x
      dsimp only at c0 c1 c2 c3
      have hi0 : (0 : Int) ≤ (i : Int) := by omega
      have hi1 : (i : Int) < (N : Int) := by omega
      have hWs := HB.out.size
      clear hx hbn
      have hal := (Below.refl wr.heap.size wr).alloc (Nat.le_refl _) (.cells #[.int .u64 x1, .int .i64 x2, .int .i64 x3, .string x4] 26)
      have HAL := Lib.hid hal
      have HBn := Lib.hid (HB.out.trans (hal.mono (by have := Hn0.out; omega)))
      have HJn := Lib.hid (abides_alloc HJ.out HJp.out hal)
      have d0 := cell_row _ _ 0 _ _ _ (heap_alloc_new wr (.cells #[.int .u64 x1, .int .i64 x2, .int .i64 x3, .string x4] 26)) rfl
      have d1 := cell_row _ _ 1 _ _ _ (heap_alloc_new wr (.cells #[.int .u64 x1, .int .i64 x2, .int .i64 x3, .string x4] 26)) rfl
      have d2 := cell_row _ _ 2 _ _ _ (heap_alloc_new wr (.cells #[.int .u64 x1, .int .i64 x2, .int .i64 x3, .string x4] 26)) rfl
      have d3 := cell_row _ _ 3 _ _ _ (heap_alloc_new wr (.cells #[.int .u64 x1, .int .i64 x2, .int .i64 x3, .string x4] 26)) rfl
      clear hal
      have hpk : pickL (fun x => !x.seen c) i (ls.drop i) = if (!belowN x1.toNat c) then (i, ⟨x1, x2, x3, x4⟩) :: pickL (fun x => !x.seen c) (i + 1) (ls.drop (i + 1)) else pickL (fun x => !x.seen c) (i + 1) (ls.drop (i + 1)) := Hpk.out
      have f2 := cell_kept HAL.out ((HB.out.cell (p := ⟨g + 1, 0, none⟩) Hg.out).trans (cell_of_one H2.out))
      have f3 := cell_kept HAL.out ((HB.out.cell (p := ⟨h, 0, none⟩) Hh.out).trans (cell_of_one H3.out))
      have HXf := Lib.hid (show 0 ≤ x1 ∧ x1 < 18446744073709551616 from Hx.out)
      cases hq : (!belowN x1.toNat c) with
      | true =>
        have Hpk2 := Lib.hid (hpk.trans (if_pos hq))
        have Hq := Lib.hid hq
        clear hpk hq
        gi_wp2_with fail
        refine ⟨trivial, (callsIn_wide.2 (hid1_any c h x1 x2 x3 x4 _ hc HXf.out.1 HXf.out.2 f3)).mono ?_⟩
        rintro e w3 ⟨rfl, hb3⟩
        rw [Hq.out]
        have d0 := cell_kept hb3 d0
        have d1 := cell_kept hb3 d1
        have d2 := cell_kept hb3 d2
        have d3 := cell_kept hb3 d3
        have HBm := Lib.hid (HBn.out.trans (hb3.mono (by have := HAL.out.size; have := Hn0.out; omega)))
        have HJm := Lib.hid (abides_alloc (fun s A B row hs hg hr => HJ.out s A B row hs hg hr) HJn.out hb3)
        clear hb3
        obtain ⟨fn, tmps, assign, body, hy, hR⟩ := HY.out pre (i, ⟨x1, x2, x3, x4⟩) _ HJm.out (by
          have h := congrArg List.length Hpre.out
          rw [Hpk2.out, List.length_append, List.length_cons] at h
          omega)
        have HR := Lib.hid hR
        clear hR
        dsimp only [encP, LineV.agg] at hy
        gi_wp2_with fail
        refine HR.out.mono ?_
        rintro e W3 (⟨rfl, hJ3, hk3⟩ | ⟨rfl, hJx3⟩)
        · have B3 := Lib.hid (HBm.out.trans hk3)
          have HJ3 := Lib.hid hJ3
          clear hJ3 hk3 hy c0 c1 c2 c3 d0 d1 d2 d3
          gi_wp2
          go_roundw
          case rel =>
            refine ⟨i + 1, pre ++ [(i, ⟨x1, x2, x3, x4⟩)], by omega, by go_num, ?_, HJ3.out, B3.out⟩
            show _ = _
            rw [Hpre.out, Hpk2.out]
            simp
          case measure => simp [intOf]; omega
        · clear hy c0 c1 c2 c3 d0 d1 d2 d3
          gi_wp2
          refine bodyPost_ret (results_none rfl _ _ _) rfl ?_
          refine ⟨⟨_, rfl⟩, .inr ⟨pre ++ [(i, ⟨x1, x2, x3, x4⟩)], ⟨pickL (fun x => !x.seen c) (i + 1) (ls.drop (i + 1)), ?_⟩, hJx3⟩⟩
          rw [Hpre.out, Hpk2.out]
          simp
      | false =>
        have Hpk2 := Lib.hid (hpk.trans (if_neg (by rw [hq]; decide)))
        have Hq := Lib.hid hq
        clear hpk hq
        gi_wp2_with fail
        refine ⟨trivial, (callsIn_wide.2 (hid1_any c h x1 x2 x3 x4 _ hc HXf.out.1 HXf.out.2 f3)).mono ?_⟩
        rintro e w3 ⟨rfl, hb3⟩
        rw [Hq.out]
        have HBm := Lib.hid (HBn.out.trans (hb3.mono (by have := HAL.out.size; have := Hn0.out; omega)))
        have HJm := Lib.hid (abides_alloc (fun s A B row hs hg hr => HJ.out s A B row hs hg hr) HJn.out hb3)
        clear hb3 c0 c1 c2 c3 d0 d1 d2 d3 f2 f3
        gi_wp2_with fail
        refine ⟨fun f h => (by cases h), ?_⟩
        gi_wp2_with fail
        go_roundw
        case rel =>
          refine ⟨i + 1, pre, by omega, by go_num, ?_, HJm.out, HBm.out⟩
          show _ = _
          rw [Hpre.out, Hpk2.out]
        case measure => simp [intOf]; omega
    · obtain rfl : i = N := by omega
      gi_wp2_with fail
      go_end0
      refine ⟨⟨_, rfl⟩, .inl ?_⟩
      rw [Hpre.out, pickL_end _ (by rw [HN.out]; exact Nat.le_refl _), List.append_nil]
      first | exact HJp.out | exact ⟨_, rfl, HJp.out⟩
end Go.Proofs.Ytgchcgllpceghaa
