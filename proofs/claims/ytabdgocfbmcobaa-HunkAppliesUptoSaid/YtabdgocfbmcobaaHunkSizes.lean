/- Own work: sizes of a patch, and what a hunk touches, by the program and by the document. -/
import Derived.Test.YtabdgocfbmcobaaHunkCheck
import Derived.Test.YtabdgocfbmcobaaSums
import Derived.OwnWalk
namespace Go.Proofs.Ytabdgocfbmcobaa
open Go.RowKit

def olds (l : List HunkI) : Int := sumI (l.map fun h => h.old.length)
def news (l : List HunkI) : Int := sumI (l.map fun h => h.new.length)
theorem olds_at {l : List HunkV} {k : Nat} (hk : k < l.length) : olds ((l.map HunkV.txt).take (k + 1)) = wrap64 (olds ((l.map HunkV.txt).take k) + (l[k]'hk).old.length) := by
  have h := sumI_at (fun h : HunkI => h.old.length) (l.map HunkV.txt) k (by simpa using hk)
  rw [List.getElem_map] at h
  simp only [olds, List.map_take]
  rw [← List.map_take] at *
  exact h
theorem news_at {l : List HunkV} {k : Nat} (hk : k < l.length) : news ((l.map HunkV.txt).take (k + 1)) = wrap64 (news ((l.map HunkV.txt).take k) + (l[k]'hk).new.length) := by
  have h := sumI_at (fun h : HunkI => h.new.length) (l.map HunkV.txt) k (by simpa using hk)
  rw [List.getElem_map] at h
  simp only [news, List.map_take]
  rw [← List.map_take] at *
  exact h
/-- what is told of a patch's sizes -/
noncomputable def sizesL (l : List HunkI) : Int × Int × Nat := if (chkL l).2 = 0 then (olds l, news l, 0) else (0, 0, (chkL l).2)

set_option maxRecDepth 100000 in
set_option maxHeartbeats 4000000 in
theorem sums_any (v : Value) (l : List HunkV) (w : World) (hv : Hks w v l) :
    Calls Try.prog 36 #[v] w fun e w' => e = .returned (.tuple #[.int .i64 (olds (l.map HunkV.txt)), .int .i64 (news (l.map HunkV.txt))]) ∧ Below w.heap.size w w' := by
  obtain ⟨ao, cap, b, o, rfl, hao, hm, hc⟩ := hv
  obtain ⟨n, hn⟩ : ∃ n, l.length = n := ⟨_, rfl⟩
  have Hn := Lib.hid hn
  rw [hn] at hao hm ⊢
  have Hao := Lib.hid hao
  have Hc := Lib.hid hc
  have HT : Hid ((l.map HunkV.txt).take n = l.map HunkV.txt) := List.take_of_length_le (by rw [List.length_map, hn]; exact Nat.le_refl _)
  have HA : Hid (∀ (k : Nat) (hk : k < l.length), olds ((l.map HunkV.txt).take (k + 1)) = wrap64 (olds ((l.map HunkV.txt).take k) + (l[k]'hk).old.length)) := fun k hk => olds_at hk
  have HB2 : Hid (∀ (k : Nat) (hk : k < l.length), news ((l.map HunkV.txt).take (k + 1)) = wrap64 (news ((l.map HunkV.txt).take k) + (l[k]'hk).new.length)) := fun k hk => news_at hk
  obtain ⟨L, hL⟩ : ∃ L, l.map HunkV.txt = L := ⟨_, rfl⟩
  rw [hL] at HT HA HB2 ⊢
  clear hao hc hn hL
  unfold maxLen at hm
  go_enter Try.func36, Try.ntmps36
  go_wp2_with fail
  go_loopw [2, 3, 8] (fun s t i wr => ∃ k : Nat, k ≤ n ∧ i = .int .i64 k ∧ s = .int .i64 (olds (L.take k)) ∧ t = .int .i64 (news (L.take k)) ∧ Hid (Below w.heap.size w wr)) (fun _ _ i _ => n - (intOf i).toNat)
  case atStart => exact ⟨0, Nat.zero_le _, rfl, rfl, rfl, Below.refl _ _⟩
  case round =>
    obtain ⟨k, hk, rfl, rfl, rfl, HB⟩ := hrel
    by_cases hlt : k < n
    · have hkl : k < l.length := by have := Hn.out; omega
      obtain rfl := Hao.out (by omega)
      obtain ⟨c0, c1, c2, t1, t2⟩ := Hc.out k hkl
      have S1 := Lib.hid (HA.out k hkl)
      have S2 := Lib.hid (HB2.out k hkl)
      obtain ⟨x, hx⟩ : ∃ x, l[k]'hkl = x := ⟨_, rfl⟩
      rw [hx] at c0 c1 c2 t1 t2 S1 S2
      obtain ⟨x1, x2, x3, x4, x5⟩ := x
      dsimp only at c0 c1 c2 t1 t2 S1 S2
      obtain ⟨o1, p1, rfl⟩ := t1.lenForm
      obtain ⟨o2, p2, rfl⟩ := t2.lenForm
      have c0 := cell_kept HB.out c0
      have c1 := cell_kept HB.out c1
      have c2 := cell_kept HB.out c2
      have hi0 : (0 : Int) ≤ (k : Int) := by omega
      have hi1 : (k : Int) < (n : Int) := by omega
      clear hx t1 t2
      go_wp2_with fail
      go_roundw
      case rel => exact ⟨k + 1, by omega, by go_num, by rw [S1.out], by rw [S2.out], (HB.out).alloc (Nat.le_trans (Nat.le_refl _) HB.out.size) _⟩
      case measure => simp [intOf]; omega
    · obtain rfl : k = n := by omega
      go_wp2_with fail
      go_ret2
      rw [HT.out]
      exact ⟨rfl, HB.out⟩

set_option maxRecDepth 100000 in
set_option maxHeartbeats 4000000 in
theorem sizes_any (v : Value) (l : List HunkV) (w : World) (hv : Hks w v l) (hf : ∀ m ∈ l, m.Fit) (hl : l.length * 56 ≤ 140737488355328) :
    Calls Try.prog 25 #[v] w fun e w' => e = .returned (.tuple #[.int .i64 (sizesL (l.map HunkV.txt)).1, .int .i64 (sizesL (l.map HunkV.txt)).2.1, .int .i64 ((sizesL (l.map HunkV.txt)).2.2 : Int)]) ∧ Below w.heap.size w w' := by
  have Hv := Lib.hid hv
  obtain ⟨ao, cap, rfl⟩ := hv.lenForm
  have HC := Lib.hid (check_any _ l w Hv.out hf hl)
  clear hv hf hl
  go_enter Try.func25, Try.ntmps25
  go_wp2_with fail
  refine HC.out.mono ?_
  rintro e w1 ⟨rfl, hb1⟩
  have B1 := Lib.hid hb1
  clear hb1 HC
  have HS := Lib.hid (sums_any _ l w1 (Hv.out.kept B1.out))
  rcases chk_cases (l.map HunkV.txt) with ⟨hc, _⟩ | ⟨k, hk, hc⟩
  · have HZ : Hid (sizesL (l.map HunkV.txt) = (olds (l.map HunkV.txt), news (l.map HunkV.txt), 0)) := by show _ = _; rw [sizesL, hc, if_pos rfl]
    rw [hc]
    clear hc
    go_wp2_with fail
    refine HS.out.mono ?_
    rintro e w2 ⟨rfl, hb2⟩
    have B2 := Lib.hid (below_join B1.out hb2)
    clear hb2 HS
    go_wp2_with fail
    go_ret3
    rw [HZ.out]
    exact ⟨rfl, B2.out⟩
  · have HZ : Hid (sizesL (l.map HunkV.txt) = (0, 0, 80)) := by show _ = _; rw [sizesL, hc, if_neg (by simp)]
    rw [hc]
    clear hc HS
    go_wp2_with fail
    go_ret3
    rw [HZ.out]
    exact ⟨rfl, B1.out⟩

set_option maxRecDepth 100000 in
set_option maxHeartbeats 4000000 in
theorem refSizes_any (v : Value) (l : List HunkV) (w : World) (hv : Hks w v l) (hf : ∀ m ∈ l, m.Fit) (hl : l.length * 56 ≤ 140737488355328) :
    Calls Try.prog 24 #[v] w fun e w' => e = .returned (.tuple #[.int .i64 (sizesL (l.map HunkV.txt)).1, .int .i64 (sizesL (l.map HunkV.txt)).2.1, .int .i64 ((sizesL (l.map HunkV.txt)).2.2 : Int)]) ∧ Below w.heap.size w w' := by
  have Hv := Lib.hid hv
  have HC := Lib.hid (refCheck_any v l w hv hf hl)
  obtain ⟨ao, cap, b, o, rfl, hao, hm, hc⟩ := hv
  obtain ⟨n, hn⟩ : ∃ n, l.length = n := ⟨_, rfl⟩
  have Hn := Lib.hid hn
  rw [hn] at hao hm HC ⊢
  have Hao := Lib.hid hao
  have Hc := Lib.hid hc
  have HT : Hid ((l.map HunkV.txt).take n = l.map HunkV.txt) := List.take_of_length_le (by rw [List.length_map, hn]; exact Nat.le_refl _)
  have HA : Hid (∀ (k : Nat) (hk : k < l.length), olds ((l.map HunkV.txt).take (k + 1)) = wrap64 (olds ((l.map HunkV.txt).take k) + (l[k]'hk).old.length)) := fun k hk => olds_at hk
  have HB2 : Hid (∀ (k : Nat) (hk : k < l.length), news ((l.map HunkV.txt).take (k + 1)) = wrap64 (news ((l.map HunkV.txt).take k) + (l[k]'hk).new.length)) := fun k hk => news_at hk
  obtain ⟨L, hL⟩ : ∃ L, l.map HunkV.txt = L := ⟨_, rfl⟩
  rw [hL] at HT HA HB2 HC ⊢
  clear hao hc hn hL hf hl Hv
  unfold maxLen at hm
  go_enter Try.func24, Try.ntmps24
  go_wp2_with fail
  refine HC.out.mono ?_
  rintro e w1 ⟨rfl, hb1⟩
  have B1 := Lib.hid hb1
  clear hb1 HC
  rcases chk_cases L with ⟨hc, _⟩ | ⟨k, hk, hc⟩
  rotate_left
  · have HZ : Hid (sizesL L = (0, 0, 80)) := by show _ = _; rw [sizesL, hc, if_neg (by simp)]
    rw [hc]
    clear hc
    go_wp2_with fail
    go_ret3
    rw [HZ.out]
    exact ⟨rfl, B1.out⟩
  · have HZ : Hid (sizesL L = (olds L, news L, 0)) := by show _ = _; rw [sizesL, hc, if_pos rfl]
    rw [hc]
    clear hc
    go_wp2_with fail
    go_loopw [7, 8, 9] (fun s t i wr => ∃ k : Nat, k ≤ n ∧ i = .int .i64 k ∧ s = .int .i64 (olds (L.take k)) ∧ t = .int .i64 (news (L.take k)) ∧ Hid (Below w.heap.size w wr)) (fun _ _ i _ => n - (intOf i).toNat)
    case atStart => exact ⟨0, Nat.zero_le _, rfl, rfl, rfl, B1.out⟩
    case round =>
      obtain ⟨k, hk, rfl, rfl, rfl, HB⟩ := hrel
      by_cases hlt : k < n
      · have hkl : k < l.length := by have := Hn.out; omega
        obtain rfl := Hao.out (by omega)
        obtain ⟨c0, c1, c2, t1, t2⟩ := Hc.out k hkl
        have S1 := Lib.hid (HA.out k hkl)
        have S2 := Lib.hid (HB2.out k hkl)
        obtain ⟨x, hx⟩ : ∃ x, l[k]'hkl = x := ⟨_, rfl⟩
        rw [hx] at c0 c1 c2 t1 t2 S1 S2
        obtain ⟨x1, x2, x3, x4, x5⟩ := x
        dsimp only at c0 c1 c2 t1 t2 S1 S2
        obtain ⟨o1, p1, rfl⟩ := t1.lenForm
        obtain ⟨o2, p2, rfl⟩ := t2.lenForm
        have c1 := cell_kept HB.out c1
        have c2 := cell_kept HB.out c2
        have hi0 : (0 : Int) ≤ (k : Int) := by omega
        have hi1 : (k : Int) < (n : Int) := by omega
        clear hx t1 t2 c0
        go_wp2_with fail
        go_quiet (fail)
        go_wp2_with fail
        go_roundw
        case rel => exact ⟨k + 1, by omega, by go_num, by rw [S1.out], by rw [S2.out], below_drewN HB.out _⟩
        case measure => simp [intOf]; omega
      · obtain rfl : k = n := by omega
        go_wp2_with fail
        go_ret3
        rw [HZ.out]
        rw [HT.out]
        exact ⟨rfl, HB.out⟩

set_option maxRecDepth 100000 in
set_option maxHeartbeats 4000000 in
theorem touch_any (at_ : Int) (o1 : Option Addr) (on p1 : Nat) (o2 : Option Addr) (nn p2 : Nat) (w : World) (h1 : on * 16 ≤ 140737488355328) (h2 : nn * 16 ≤ 140737488355328) :
    Calls Try.prog 28 #[.agg #[.int .i64 at_, .slice o1 on p1, .slice o2 nn p2]] w fun e w' => e = .returned (.tuple #[.int .i64 ((min on nn : Nat) : Int), .int .i64 ((on - min on nn : Nat) : Int), .int .i64 ((nn - min on nn : Nat) : Int)]) ∧ Below w.heap.size w w' := by
  have hra := heap_alloc_new w (.cells #[.int .i64 at_, .slice o1 on p1, .slice o2 nn p2] 43)
  have a1 := cell_of_row _ _ 1 _ _ _ hra
  have a2 := cell_of_row _ _ 2 _ _ _ hra
  have hal : Below w.heap.size w (w.alloc (.cells #[.int .i64 at_, .slice o1 on p1, .slice o2 nn p2] 43)) := (Below.refl _ _).alloc (Nat.le_refl _) _
  have HAL := Lib.hid hal
  clear hra hal
  go_enter Try.func28, Try.ntmps28
  by_cases hc : on ≤ nn
  · have e1 : min on nn = on := by omega
    have e2 : ((on : Int)) ≤ (nn : Int) := by omega
    have e3 : min (on : Int) (nn : Int) = (on : Int) := by omega
    go_wp2_with fail
    go_quiet (fail)
    go_wp2_with fail
    go_ret3
    rw [e1]
    exact ⟨by simp; omega, below_drewN HAL.out _⟩
  · have e1 : min on nn = nn := by omega
    have e2 : ¬ ((on : Int)) ≤ (nn : Int) := by omega
    have e3 : min (on : Int) (nn : Int) = (nn : Int) := by omega
    go_wp2_with fail
    go_quiet (fail)
    go_wp2_with fail
    go_ret3
    rw [e1]
    exact ⟨by simp; omega, below_drewN HAL.out _⟩
set_option maxRecDepth 100000 in
set_option maxHeartbeats 4000000 in
theorem refTouch_any (at_ : Int) (o1 : Option Addr) (on p1 : Nat) (o2 : Option Addr) (nn p2 : Nat) (w : World) (h1 : on * 16 ≤ 140737488355328) (h2 : nn * 16 ≤ 140737488355328) :
    Calls Try.prog 27 #[.agg #[.int .i64 at_, .slice o1 on p1, .slice o2 nn p2]] w fun e w' => e = .returned (.tuple #[.int .i64 ((min on nn : Nat) : Int), .int .i64 ((on - min on nn : Nat) : Int), .int .i64 ((nn - min on nn : Nat) : Int)]) ∧ Below w.heap.size w w' := by
  have hra := heap_alloc_new w (.cells #[.int .i64 at_, .slice o1 on p1, .slice o2 nn p2] 43)
  have a1 := cell_of_row _ _ 1 _ _ _ hra
  have a2 := cell_of_row _ _ 2 _ _ _ hra
  have hal : Below w.heap.size w (w.alloc (.cells #[.int .i64 at_, .slice o1 on p1, .slice o2 nn p2] 43)) := (Below.refl _ _).alloc (Nat.le_refl _) _
  have HAL := Lib.hid hal
  clear hra hal
  go_enter Try.func27, Try.ntmps27
  by_cases hc : on ≤ nn
  · have e1 : min on nn = on := by omega
    have e2 : ((on : Int)) ≤ (nn : Int) := by omega
    have e3 : min (on : Int) (nn : Int) = (on : Int) := by omega
    go_wp2_with fail
    go_quiet (fail)
    go_wp2_with fail
    go_ret3
    rw [e1]
    exact ⟨by simp; omega, below_drewN HAL.out _⟩
  · have e1 : min on nn = nn := by omega
    have e2 : ¬ ((on : Int)) ≤ (nn : Int) := by omega
    have e3 : min (on : Int) (nn : Int) = (nn : Int) := by omega
    go_wp2_with fail
    go_quiet (fail)
    go_wp2_with fail
    go_ret3
    rw [e1]
    exact ⟨by simp; omega, below_drewN HAL.out _⟩
end Go.Proofs.Ytabdgocfbmcobaa
