/- Own work: the program's Fits. -/
import Derived.Test.YtabdgocfbmcobaaHunkFitR
import Derived.Test.YtabdgocfbmcobaaHunkCheck
import Derived.Test.YtabdgocfbmcobaaHunkEq
namespace Go.Proofs.Ytabdgocfbmcobaa
open Go.RowKit

set_option maxRecDepth 100000 in
set_option maxHeartbeats 16000000 in
theorem fits_any (u v : Value) (l : List HunkV) (a : List ByteArray) (w : World) (hv : Hks w u l) (hf : ∀ m ∈ l, m.Fit) (hl : l.length * 56 ≤ 140737488355328) (hu : Texts w v a) (ha : a.length * 16 ≤ 140737488355328) :
    Calls Try.prog 14 #[u, v] w fun e w' => e = .returned (.tuple #[.int .i64 ((fitsL a (l.map HunkV.txt)).1 : Int), .int .i64 ((fitsL a (l.map HunkV.txt)).2 : Int)]) ∧ Below w.heap.size w w' := by
  have Hv := Lib.hid hv
  have Hf := Lib.hid hf
  have Hu := Lib.hid hu
  obtain ⟨uo, uc, ub, uof, rfl, huo, hum, hcu⟩ := hv
  obtain ⟨vo, vc, rfl⟩ := hu.lenForm
  have Huo := Lib.hid huo
  have Hcu := Lib.hid hcu
  obtain ⟨n, hn⟩ : ∃ n, l.length = n := ⟨_, rfl⟩
  obtain ⟨t, ht⟩ : ∃ t, a.length = t := ⟨_, rfl⟩
  have Hn := Lib.hid hn
  have Ht := Lib.hid ht
  have HL : Hid ((l.map HunkV.txt).length = n) := by show _ = _; rw [List.length_map, hn]
  have HCk := Lib.hid (check_any _ l w Hv.out hf hl)
  rw [hn] at hum hl Huo HCk ⊢
  rw [ht] at ha Hu ⊢
  have hcap : t ≤ vc := (Hu.out.cap).2
  obtain ⟨L, hL⟩ : ∃ L, l.map HunkV.txt = L := ⟨_, rfl⟩
  have HLe := Lib.hid hL
  rw [hL] at HL HCk ⊢
  clear hu hf huo hcu hn ht hL Hv
  unfold maxLen at hum
  go_enter Try.func14, Try.ntmps14
  go_wp2_with fail
  refine HCk.out.mono ?_
  rintro e w1 ⟨rfl, hb1⟩
  have B1 := Lib.hid hb1
  clear hb1 HCk
  rcases chk_cases L with ⟨hc, hok⟩ | ⟨k, hk, hc⟩
  rotate_left
  · have HE := Lib.hid ((fits_chk (a := a) (l := L) (by rw [hc]; simp)).trans hc)
    rw [hc]
    clear hc
    go_wp2_with fail
    go_ret2
    rw [HE.out]
    exact ⟨rfl, B1.out⟩
  · have HC : Hid ((chkL L).2 = 0) := by show _ = _; rw [hc]
    have HOK := Lib.hid hok
    rw [hc]
    clear hc hok
    go_wp2_with fail
    go_loopw [21] (fun i wr => ∃ k : Nat, k ≤ n ∧ i = .int .i64 k ∧ Hid (∀ j, j < k → fitAt a L j = 0) ∧ Hid (Below w.heap.size w wr)) (fun i _ => n - (intOf i).toNat)
    case atStart => exact ⟨0, Nat.zero_le _, rfl, (fun j h => absurd h (by omega)), B1.out⟩
    case round =>
      obtain ⟨k, hk, rfl, HO, HB⟩ := hrel
      by_cases hlt : k < n
      · have hkl : k < l.length := by have := Hn.out; omega
        have hkL : k < L.length := by have := HL.out; omega
        obtain rfl := Huo.out (by omega)
        obtain ⟨c0, c1, c2, t1, t2⟩ := Hcu.out k hkl
        have HF := Lib.hid (Hf.out _ (List.getElem_mem hkl))
        have HP := ok_place HOK.out hkL
        have HG : Hid (fitAt a L k = fitE a (l[k]'hkl).txt) := by show _ = _; rw [fitAt_get hkL]; simp only [← HLe.out, List.getElem_map]
        have HLk : (L[k]'hkL).at_ = (l[k]'hkl).at_ := by simp only [← HLe.out, List.getElem_map, HunkV.txt]
        rw [HLk] at HP
        obtain ⟨x, hx⟩ : ∃ x, l[k]'hkl = x := ⟨_, rfl⟩
        rw [hx] at c0 c1 c2 t1 t2 HF HG HP
        obtain ⟨x1, x2, x3, x4, x5⟩ := x
        dsimp only at c0 c1 c2 t1 t2 HP
        obtain ⟨an, rfl⟩ : ∃ an : Nat, x1 = an := ⟨x1.toNat, by omega⟩
        have T1 := Lib.hid t1
        obtain ⟨o1, p1, rfl⟩ := t1.lenForm
        obtain ⟨o2, p2, rfl⟩ := t2.lenForm
        obtain ⟨on, hon⟩ : ∃ on, x4.length = on := ⟨_, rfl⟩
        obtain ⟨nn, hnn⟩ : ∃ nn, x5.length = nn := ⟨_, rfl⟩
        have Hon := Lib.hid hon
        rw [hon] at c1 T1
        rw [hnn] at c2
        have hlo : on * 16 ≤ 140737488351232 := by have := HF.out.lo; simp only at this; omega
        have han : an ≤ 2147483647 := by omega
        clear hx t1 t2 hon hnn HP HLk
        have c0 := cell_kept HB.out c0
        have c1 := cell_kept HB.out c1
        have c2 := cell_kept HB.out c2
        have ki0 : (0 : Int) ≤ (k : Int) := by omega
        have ki1 : (k : Int) < (n : Int) := by omega
        have hra := heap_alloc_new wr (.cells #[.int .i64 (an : Int), .slice o1 on p1, .slice o2 nn p2] 43)
        have hal : Below wr.heap.size wr (wr.alloc (.cells #[.int .i64 (an : Int), .slice o1 on p1, .slice o2 nn p2] 43)) := (Below.refl _ _).alloc (Nat.le_refl _) _
        have HB3 := Lib.hid (HB.out.trans (hal.mono HB.out.size))
        go_upto_region 7 with fail
        obtain ⟨w3, hw3⟩ : ∃ w3, wr.alloc (.cells #[.int .i64 (an : Int), .slice o1 on p1, .slice o2 nn p2] 43) = w3 := ⟨_, rfl⟩
        rw [hw3] at hra HB3 ⊢
        obtain ⟨A, hA⟩ : ∃ A, wr.heap.size = A := ⟨_, rfl⟩
        rw [hA] at hra ⊢
        clear c0 c1 c2 hw3 hal hA
        have a0 : w3.cell? ⟨A, 0, none⟩ = some (.int .i64 (an : Int)) := cell_of_row _ _ 0 _ _ _ hra
        have a1 : w3.cell? ⟨A, 1, none⟩ = some (.slice o1 on p1) := cell_of_row _ _ 1 _ _ _ hra
        have a2 : w3.cell? ⟨A, 2, none⟩ = some (.slice o2 nn p2) := cell_of_row _ _ 2 _ _ _ hra
        clear hra
        go_wp2_with fail
        refine (within_any an o1 on p1 (.slice o2 nn p2) t w3 han (by omega)).mono ?_
        rintro e w4 ⟨rfl, hb4⟩
        have HB4 := Lib.hid (below_join HB3.out hb4)
        have a0 := cell_kept hb4 a0
        have a1 := cell_kept hb4 a1
        clear hb4 a2
        by_cases hr : an + on ≤ t
        · have HI := Lib.hid (HG.out.trans (fitE_in (a := a) rfl Hon.out (by have := Ht.out; omega)))
          have hq : decide (an + on ≤ t) = true := by simp; omega
          have hs1 : ∀ W, (Instr.slice 23 (.slice vo t vc) (some (.int .i64 (an : Int))) (some (.int .i64 ((an : Int) + (on : Int)))) none).run Try.prog W = .ok (subV vo vc an (an + on)) W := by
            intro W
            rw [show (an : Int) + (on : Int) = ((an + on : Nat) : Int) by omega]
            exact run_sub vo t vc an (an + on) (by omega) (by omega) W
          have HT : Hid (Texts w (subV vo vc an (an + on)) ((a.drop an).take on)) := by
            have h := texts_sub Hu.out an (an + on) (by omega) hr
            rw [Nat.add_sub_cancel_left] at h
            exact h
          have TT : ∀ n, Texts (w4.drewN n) (subV vo vc an (an + on)) ((a.drop an).take on) := fun n => HT.out.kept (below_drewN HB4.out n)
          have TO : ∀ n, Texts (w4.drewN n) (.slice o1 on p1) x4 := fun n => T1.out.kept (below_drewN HB4.out n)
          rw [hq]
          by_cases he : x4 = (a.drop an).take on
          · have he2 : decide (x4 = (a.drop an).take on) = true := by simpa using he
            have HZ := Lib.hid (HI.out.trans (if_pos he))
            have HS : Hid (∀ i, i < k + 1 → fitAt a L i = 0) := by
              intro i hi
              by_cases e : i = k
              · subst e; exact HZ.out
              · exact HO.out i (by omega)
            clear he hq
            go_wp2_with fail
            go_quiet (first | (go_at_call 35; refine Calls.quiet_of (equal_any _ _ x4 ((a.drop an).take on) _ ?_ ?_); (exact TO _); (exact TT _)))
            go_wp2_with fail
            go_roundw
            case rel => exact ⟨k + 1, by omega, by go_num, HS, below_drewN HB4.out _⟩
            case measure => simp [intOf]; omega
          · have he2 : decide (x4 = (a.drop an).take on) = false := by simpa using he
            have HZ := Lib.hid (HI.out.trans (if_neg he))
            have HE := Lib.hid (fits_bad (a := a) HC.out hkL HO.out (by rw [HZ.out]; simp))
            clear he hq
            go_wp2_with fail
            go_quiet (first | (go_at_call 35; refine Calls.quiet_of (equal_any _ _ x4 ((a.drop an).take on) _ ?_ ?_); (exact TO _); (exact TT _)))
            go_wp2_with fail
            go_ret2
            rw [HE.out, HZ.out]
            exact ⟨rfl, below_drewN HB4.out _⟩
        · have HI := Lib.hid (HG.out.trans (fitE_off (a := a) rfl Hon.out (by have := Ht.out; omega)))
          have HE := Lib.hid (fits_bad (a := a) HC.out hkL HO.out (by rw [HI.out]; simp))
          have hq : decide (an + on ≤ t) = false := by simp; omega
          rw [hq]
          clear hr
          go_wp2_with fail
          go_ret2
          rw [HE.out, HI.out]
          exact ⟨rfl, HB4.out⟩
      · obtain rfl : k = n := by omega
        have HE := Lib.hid (fits_ok (a := a) (l := L) HC.out fun j hj => HO.out j (by have := HL.out; omega))
        go_wp2_with fail
        go_ret2
        rw [HE.out]
        exact ⟨rfl, HB.out⟩
end Go.Proofs.Ytabdgocfbmcobaa
