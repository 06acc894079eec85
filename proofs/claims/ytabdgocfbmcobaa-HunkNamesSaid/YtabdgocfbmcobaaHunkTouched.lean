/- Own work: the program's Touched. -/
import Derived.Test.YtabdgocfbmcobaaHunkTouchM
namespace Go.Proofs.Ytabdgocfbmcobaa
open Go.RowKit Go.Sort

set_option maxRecDepth 100000 in
set_option maxHeartbeats 16000000 in
theorem touched_any (u : Value) (l : List HunkV) (N : Int) (w : World) (hv : Hks w u l) (hf : ∀ m ∈ l, m.Fit) (hl : l.length * 56 ≤ 140737488355328) :
    Calls Try.prog 30 #[u, .int .i64 N] w fun e w' => ∃ r, e = .returned (.tuple #[r, .int .i64 ((touchE (l.map HunkV.txt) N : Nat) : Int)]) ∧ (touchE (l.map HunkV.txt) N ≠ 0 → r = .slice none 0 0) ∧ (touchE (l.map HunkV.txt) N = 0 → ∃ g, r = .slice (some ⟨g, 0, none⟩) N.toNat N.toNat ∧ OwnB w' w.heap.size r N.toNat (coverB (l.map HunkV.txt))) ∧ Below w.heap.size w w' := by
  have Hv := Lib.hid hv
  have Hf := Lib.hid hf
  obtain ⟨uo, uc, ub, uof, rfl, huo, hum, hcu⟩ := hv
  have Huo := Lib.hid huo
  have Hcu := Lib.hid hcu
  obtain ⟨n, hn⟩ : ∃ n, l.length = n := ⟨_, rfl⟩
  have Hn := Lib.hid hn
  have HL : Hid ((l.map HunkV.txt).length = n) := by show _ = _; rw [List.length_map, hn]
  have HCk := Lib.hid (check_any _ l w Hv.out hf hl)
  rw [hn] at hum hl Huo HCk ⊢
  obtain ⟨L, hL⟩ : ∃ L, l.map HunkV.txt = L := ⟨_, rfl⟩
  have HLe := Lib.hid hL
  rw [hL] at HL HCk ⊢
  clear hf huo hcu hn hL Hv
  unfold maxLen at hum
  go_enter Try.func30, Try.ntmps30
  go_wp2_with fail
  refine HCk.out.mono ?_
  rintro e w1 ⟨rfl, hb1⟩
  have B1 := Lib.hid hb1
  clear hb1 HCk
  by_cases hbad : (chkL L).2 ≠ 0 ∨ N < 0 ∨ 1048576 < N
  · have HE := Lib.hid (touch_80 hbad)
    rcases chk_cases L with ⟨hc, hok⟩ | ⟨k, hk, hc⟩
    rotate_left
    · rw [hc]
      clear hc hbad
      go_wp2_with fail
      go_ret2
      rw [HE.out]
      exact ⟨_, rfl, fun _ => rfl, fun h => absurd h (by simp), B1.out⟩
    · rw [hc] at hbad ⊢
      clear hc
      by_cases h0 : N < 0
      · clear hbad
        go_wp2_with fail
        go_ret2
        rw [HE.out]
        exact ⟨_, rfl, fun _ => rfl, fun h => absurd h (by simp), B1.out⟩
      · have h1 : 1048576 < N := by rcases hbad with h | h | h <;> first | exact absurd rfl h | omega
        clear hbad
        go_wp2_with fail
        go_ret2
        rw [HE.out]
        exact ⟨_, rfl, fun _ => rfl, fun h => absurd h (by simp), B1.out⟩
  · have h0 : 0 ≤ N := by omega
    have h1 : N ≤ 1048576 := by omega
    obtain ⟨t, rfl⟩ : ∃ t : Nat, N = t := ⟨N.toNat, by omega⟩
    rcases chk_cases L with ⟨hc, hok⟩ | ⟨k, hk, hc⟩
    rotate_left
    · exact absurd (.inl (by rw [hc]; simp)) hbad
    · have HC : Hid ((chkL L).2 = 0) := by show _ = _; rw [hc]
      have HOK := Lib.hid hok
      rw [hc]
      have h2 : t ≤ 1048576 := by omega
      have hmk := fun w => run_makeB t (by omega) w
      have HO0 := Lib.hid (own_falses w1 t w1.heap.size (Nat.le_refl _) (by omega))
      have hal : Below w1.heap.size w1 (w1.alloc (.cells (falses t) 4)) := (Below.refl _ _).alloc (Nat.le_refl _) _
      have B2 := Lib.hid (below_join B1.out hal)
      have h3 : ¬ ((t : Int) < 0) := by omega
      have h4 : ¬ ((1048576 : Int) < (t : Int)) := by omega
      have HB1s := Lib.hid B1.out.size
      clear hc hok hbad hal
      go_wp2_with fail
      obtain ⟨w2, hw2⟩ : ∃ w2, w1.alloc (.cells (falses t) 4) = w2 := ⟨_, rfl⟩
      rw [hw2] at HO0 B2 ⊢
      obtain ⟨g, hg⟩ : ∃ g, w1.heap.size = g := ⟨_, rfl⟩
      rw [hg] at HO0 HB1s ⊢
      clear hw2 hg hmk
      go_loopw [31] (fun i wr => ∃ (k : Nat) (f : Nat → Bool), k ≤ n ∧ i = .int .i64 k ∧ Hid (∀ j (hj : j < L.length), j < k → (L[j]'hj).at_ + (L[j]'hj).old.length ≤ (t : Int)) ∧ Hid (∀ i, f i = coverB (L.take k) i) ∧ Hid (OwnB wr g (.slice (some ⟨g, 0, none⟩) t t) t f) ∧ Hid (Below w.heap.size w wr)) (fun i _ => n - (intOf i).toNat)
      case atStart => exact ⟨0, fun _ => false, Nat.zero_le _, rfl, (fun j _ h => absurd h (by omega)), (fun i => by simp [coverB]), HO0.out, B2.out⟩
      case round =>
        obtain ⟨k, f, hk, rfl, HO, HFv, HW, HB⟩ := hrel
        by_cases hlt : k < n
        · have hkl : k < l.length := by have := Hn.out; omega
          have hkL : k < L.length := by have := HL.out; omega
          obtain rfl := Huo.out (by omega)
          obtain ⟨c0, c1, c2, t1, t2⟩ := Hcu.out k hkl
          have HF := Lib.hid (Hf.out _ (List.getElem_mem hkl))
          have HP := ok_place HOK.out hkL
          have HLk : L[k]'hkL = (l[k]'hkl).txt := by simp only [← HLe.out, List.getElem_map]
          have HCv : Hid (∀ i, coverB (L.take (k + 1)) i = (coverB (L.take k) i || coverH i (l[k]'hkl).txt)) := by intro i; rw [← HLk]; exact cover_take hkL i
          have H81 : Hid (¬ (l[k]'hkl).at_ + (l[k]'hkl).old.length ≤ (t : Int) → touchE L t = 81) := by
            intro h
            refine touch_81 HC.out h0 h1 k hkL ?_
            rw [HLk]; exact h
          have HNx : Hid ((l[k]'hkl).at_ + (l[k]'hkl).old.length ≤ (t : Int) → ∀ j (hj : j < L.length), j < k + 1 → (L[j]'hj).at_ + (L[j]'hj).old.length ≤ (t : Int)) := by
            intro h j hj hjk
            by_cases e : j = k
            · subst e; rw [HLk]; exact h
            · exact HO.out j hj (by omega)
          rw [HLk] at HP
          clear HLk
          obtain ⟨x, hx⟩ : ∃ x, l[k]'hkl = x := ⟨_, rfl⟩
          rw [hx] at c0 c1 c2 t1 t2 HF HP HCv H81 HNx
          obtain ⟨x1, x2, x3, x4, x5⟩ := x
          dsimp only [HunkV.txt] at c0 c1 c2 t1 t2 HP H81 HNx
          obtain ⟨an, rfl⟩ : ∃ an : Nat, x1 = an := ⟨x1.toNat, by omega⟩
          obtain ⟨o1, p1, rfl⟩ := t1.lenForm
          obtain ⟨o2, p2, rfl⟩ := t2.lenForm
          obtain ⟨on, hon⟩ : ∃ on, x4.length = on := ⟨_, rfl⟩
          obtain ⟨nn, hnn⟩ : ∃ nn, x5.length = nn := ⟨_, rfl⟩
          have Hon := Lib.hid hon
          rw [hon] at c1 H81 HNx
          rw [hnn] at c2
          have hlo : on * 16 ≤ 140737488351232 := by have := HF.out.lo; simp only at this; omega
          have han : an ≤ 2147483647 := by omega
          clear hx t1 t2 hon hnn HP
          have c0 := cell_kept HB.out c0
          have c1 := cell_kept HB.out c1
          have c2 := cell_kept HB.out c2
          have ki0 : (0 : Int) ≤ (k : Int) := by omega
          have ki1 : (k : Int) < (n : Int) := by omega
          have hra := heap_alloc_new wr (.cells #[.int .i64 (an : Int), .slice o1 on p1, .slice o2 nn p2] 43)
          have hal : Below wr.heap.size wr (wr.alloc (.cells #[.int .i64 (an : Int), .slice o1 on p1, .slice o2 nn p2] 43)) := (Below.refl _ _).alloc (Nat.le_refl _) _
          have HB3 := Lib.hid (HB.out.trans (hal.mono HB.out.size))
          have HW3 := Lib.hid (HW.out.below hal)
          have hgl := (World.ownsRow.lt HW.out g rfl).2
          go_upto_region 8 with fail
          obtain ⟨w3, hw3⟩ : ∃ w3, wr.alloc (.cells #[.int .i64 (an : Int), .slice o1 on p1, .slice o2 nn p2] 43) = w3 := ⟨_, rfl⟩
          rw [hw3] at hra HB3 HW3 ⊢
          obtain ⟨A, hA⟩ : ∃ A, wr.heap.size = A := ⟨_, rfl⟩
          rw [hA] at hra hgl ⊢
          clear c0 c1 c2 hw3 hal hA
          have a0 : w3.cell? ⟨A, 0, none⟩ = some (.int .i64 (an : Int)) := cell_of_row _ _ 0 _ _ _ hra
          have a1 : w3.cell? ⟨A, 1, none⟩ = some (.slice o1 on p1) := cell_of_row _ _ 1 _ _ _ hra
          have a2 : w3.cell? ⟨A, 2, none⟩ = some (.slice o2 nn p2) := cell_of_row _ _ 2 _ _ _ hra
          clear hra
          go_wp2_with fail
          refine (within_any an o1 on p1 (.slice o2 nn p2) t w3 han (by omega)).mono ?_
          rintro e w4 ⟨rfl, hb4⟩
          have HB4 := Lib.hid (below_join HB3.out hb4)
          have HW4 := Lib.hid (HW3.out.below hb4)
          have a0 := cell_kept hb4 a0
          have a1 := cell_kept hb4 a1
          clear hb4 a2
          by_cases hr : an + on ≤ t
          · have hq : decide (an + on ≤ t) = true := by simp; omega
            have HNx2 := Lib.hid (HNx.out (by omega))
            rw [hq]
            clear hq
            go_wp2_with fail
            go_loopw [42] (fun jv wq => ∃ (j : Nat) (f2 : Nat → Bool), j ≤ on ∧ jv = .int .i64 j ∧ wq.cell? ⟨A, 0, none⟩ = some (.int .i64 (an : Int)) ∧ wq.cell? ⟨A, 1, none⟩ = some (.slice o1 on p1) ∧ Hid (∀ i, f2 i = (f i || (decide (an ≤ i) && decide (i < an + j)))) ∧ Hid (OwnB wq g (.slice (some ⟨g, 0, none⟩) t t) t f2) ∧ Hid (Below w.heap.size w wq)) (fun jv _ => on - (intOf jv).toNat)
            case atStart => exact ⟨0, f, Nat.zero_le _, rfl, a0, a1, (fun i => by rw [← Bool.decide_and, decide_eq_false (by omega), Bool.or_false]), HW4.out, HB4.out⟩
            case round =>
              clear a0 a1
              obtain ⟨j, f2, hj, rfl, a0, a1, HF2, HWj, HBj⟩ := hrel
              by_cases hjl : j < on
              · have z0 := HWj.out.cell (an + j) (by omega)
                have z1 := HWj.out.frozen (an + j)
                have j2 : (0 : Int) ≤ (an : Int) + (j : Int) := by omega
                have j3 : (an : Int) + (j : Int) < (t : Int) := by omega
                have j4 : ((an : Int) + (j : Int)).toNat = an + j := by omega
                have j0 : (0 : Int) ≤ (j : Int) := by omega
                have j1 : (j : Int) < (on : Int) := by omega
                have HWs := Lib.hid (HWj.out.set (an + j) true)
                have HBs : Hid (Below w.heap.size w (wr.setCell ⟨g, an + j, none⟩ (.bool true))) := HBj.out.setCell (p := ⟨g, an + j, none⟩) HB1s.out _
                have e0 := Lib.hid (cell_stays a0 (grown_setCell wr g (an + j) (.bool true)) (fun e => by have := Option.some.inj e; omega))
                have e1 := Lib.hid (cell_stays a1 (grown_setCell wr g (an + j) (.bool true)) (fun e => by have := Option.some.inj e; omega))
                have HF3 : Hid (∀ i, (if i = an + j then true else f2 i) = (f i || (decide (an ≤ i) && decide (i < an + (j + 1))))) := by
                  intro i
                  rw [HF2.out, ← Bool.decide_and, ← Bool.decide_and]
                  by_cases e : i = an + j
                  · rw [if_pos e, decide_eq_true (by omega : an ≤ i ∧ i < an + (j + 1)), Bool.or_true]
                  · rw [if_neg e]
                    congr 1
                    rw [Bool.eq_iff_iff, decide_eq_true_eq, decide_eq_true_eq]
                    omega
                go_wp2_with fail
                go_roundw
                case rel => exact ⟨j + 1, _, by omega, by go_num, e0.out, e1.out, HF3, HWs, HBs⟩
                case measure => simp [intOf]; omega
              · obtain rfl : j = on := by omega
                go_wp2_with fail
                go_roundw
                case rel =>
                  refine ⟨k + 1, f2, by omega, by go_num, HNx2, fun i => ?_, HWj, HBj⟩
                  rw [HF2.out, HCv.out, HFv.out]
                  congr 1
                  simp only [coverH, HunkV.txt, Hon.out]
                  congr 1
                  · simp
                  · rw [Bool.eq_iff_iff, decide_eq_true_eq, decide_eq_true_eq]; omega
                case measure => simp [intOf]; omega
          · have hq : decide (an + on ≤ t) = false := by simp; omega
            have HE := Lib.hid (H81.out (by omega))
            rw [hq]
            clear hr hq
            go_wp2_with fail
            go_ret2
            rw [HE.out]
            exact ⟨_, rfl, fun _ => rfl, fun h => absurd h (by simp), HB4.out⟩
        · obtain rfl : k = n := by omega
          have HE := Lib.hid (touch_0 HC.out h0 h1 fun j hj => HO.out j hj (by have := HL.out; omega))
          have HT : Hid (L.take k = L) := List.take_of_length_le (by rw [HL.out]; exact Nat.le_refl _)
          go_wp2_with fail
          go_ret2
          rw [HE.out]
          refine ⟨_, rfl, fun h => absurd rfl h, fun _ => ⟨g, rfl, ?_⟩, HB.out⟩
          exact (HW.out.base HB1s.out).same fun i _ => by rw [HFv.out, HT.out]
end Go.Proofs.Ytabdgocfbmcobaa
