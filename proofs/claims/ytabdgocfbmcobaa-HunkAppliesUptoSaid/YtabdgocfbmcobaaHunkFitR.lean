/- Own work: the document's Fits. -/
import Derived.Test.YtabdgocfbmcobaaHunkRefC
namespace Go.Proofs.Ytabdgocfbmcobaa
open Go.RowKit

/-- what a hunk of a patch is, in numbers -/
theorem ok_place {L : List HunkI} (hok : ∀ k, k < L.length → okAt L k = true) {k : Nat} (hk : k < L.length) : 0 ≤ (L[k]'hk).at_ ∧ (L[k]'hk).at_ ≤ 2147483647 := by
  have h := hok k hk
  rw [okAt_get hk, okH_iff] at h
  have g := behind_ge (l := L) (k := k) (fun j hj => hok j (by omega)) (by omega)
  omega
theorem fitE_off {a : List ByteArray} {h : HunkI} {an on : Nat} (h1 : h.at_ = an) (h2 : h.old.length = on) (h3 : ¬ an + on ≤ a.length) : fitE a h = 81 := by
  rw [fitE, if_neg (by omega)]
theorem fitE_in {a : List ByteArray} {h : HunkI} {an on : Nat} (h1 : h.at_ = an) (h2 : h.old.length = on) (h3 : an + on ≤ a.length) : fitE a h = if h.old = (a.drop an).take on then 0 else 82 := by
  rw [fitE, if_pos (by omega), h1, h2]
  simp

set_option maxRecDepth 100000 in
set_option maxHeartbeats 16000000 in
theorem refFits_any (u v : Value) (l : List HunkV) (a : List ByteArray) (w : World) (hv : Hks w u l) (hf : ∀ m ∈ l, m.Fit) (hl : l.length * 56 ≤ 140737488355328) (hu : Texts w v a) (ha : a.length * 16 ≤ 140737488355328) :
    Calls Try.prog 13 #[u, v] w fun e w' => e = .returned (.tuple #[.int .i64 ((fitsL a (l.map HunkV.txt)).1 : Int), .int .i64 ((fitsL a (l.map HunkV.txt)).2 : Int)]) ∧ Below w.heap.size w w' := by
  have Hv := Lib.hid hv
  have Hf := Lib.hid hf
  obtain ⟨uo, uc, ub, uof, rfl, huo, hum, hcu⟩ := hv
  obtain ⟨vo, vc, vb, vof, rfl, hvo, hvm, hcv⟩ := hu.form
  have Huo := Lib.hid huo
  have Hvo := Lib.hid hvo
  have Hcu := Lib.hid hcu
  have Hcv := Lib.hid hcv
  obtain ⟨n, hn⟩ : ∃ n, l.length = n := ⟨_, rfl⟩
  obtain ⟨t, ht⟩ : ∃ t, a.length = t := ⟨_, rfl⟩
  have Hn := Lib.hid hn
  have Ht := Lib.hid ht
  have HL : Hid ((l.map HunkV.txt).length = n) := by show _ = _; rw [List.length_map, hn]
  have HCk := Lib.hid (refCheck_any _ l w Hv.out hf hl)
  rw [hn] at hum hl Huo HCk ⊢
  rw [ht] at hvm ha Hvo ⊢
  obtain ⟨L, hL⟩ : ∃ L, l.map HunkV.txt = L := ⟨_, rfl⟩
  have HLe := Lib.hid hL
  rw [hL] at HL HCk ⊢
  clear hu hf huo hvo hcu hcv hn ht hL Hv
  unfold maxLen at hum hvm
  go_enter Try.func13, Try.ntmps13
  go_wp2_with fail
  refine HCk.out.mono ?_
  rintro e w1 ⟨rfl, hb1⟩
  have B1 := Lib.hid hb1
  clear hb1 HCk
  rcases chk_cases L with ⟨hc, hok⟩ | ⟨k, hk, hc⟩
  rotate_left
  · have HE := Lib.hid ((fits_chk (a := a) (l := L) (by rw [hc]; simp)).trans hc)
    rw [hc]
    clear hc
    go_wp2_with fail
    go_ret2
    rw [HE.out]
    exact ⟨rfl, B1.out⟩
  · have HC : Hid ((chkL L).2 = 0) := by show _ = _; rw [hc]
    have HOK := Lib.hid hok
    rw [hc]
    clear hc hok
    go_wp2_with fail
    go_loopw [8] (fun i wr => ∃ k : Nat, k ≤ n ∧ i = .int .i64 k ∧ Hid (∀ j, j < k → fitAt a L j = 0) ∧ Hid (Below w.heap.size w wr)) (fun i _ => n - (intOf i).toNat)
    case atStart => exact ⟨0, Nat.zero_le _, rfl, (fun j h => absurd h (by omega)), B1.out⟩
    case round =>
      obtain ⟨k, hk, rfl, HO, HB⟩ := hrel
      by_cases hlt : k < n
      · have hkl : k < l.length := by have := Hn.out; omega
        have hkL : k < L.length := by have := HL.out; omega
        obtain rfl := Huo.out (by omega)
        obtain ⟨c0, c1, c2, t1, t2⟩ := Hcu.out k hkl
        have HF := Lib.hid (Hf.out _ (List.getElem_mem hkl))
        have HP := ok_place HOK.out hkL
        have HG : Hid (fitAt a L k = fitE a (l[k]'hkl).txt) := by show _ = _; rw [fitAt_get hkL]; simp only [← HLe.out, List.getElem_map]
        have HLk : (L[k]'hkL).at_ = (l[k]'hkl).at_ := by simp only [← HLe.out, List.getElem_map, HunkV.txt]
        rw [HLk] at HP
        obtain ⟨x, hx⟩ : ∃ x, l[k]'hkl = x := ⟨_, rfl⟩
        rw [hx] at c0 c1 c2 t1 t2 HF HG HP
        obtain ⟨x1, x2, x3, x4, x5⟩ := x
        dsimp only at c0 c1 c2 t1 t2 HP
        obtain ⟨an, rfl⟩ : ∃ an : Nat, x1 = an := ⟨x1.toNat, by omega⟩
        obtain ⟨o1, p1, b1, of1, rfl, ho1, hom1, hoc1⟩ := t1.form
        obtain ⟨on, hon⟩ : ∃ on, x4.length = on := ⟨_, rfl⟩
        have Hon := Lib.hid hon
        have Ho1 := Lib.hid ho1
        have Hoc1 := Lib.hid hoc1
        rw [hon] at c1 hom1 Ho1
        have hlo : on * 16 ≤ 140737488351232 := by have := HF.out.lo; simp only at this; omega
        have han : an ≤ 2147483647 := by omega
        clear hx t1 t2 hon ho1 hoc1 hom1 HP HLk c2
        have c0 := cell_kept HB.out c0
        have c1 := cell_kept HB.out c1
        have ki0 : (0 : Int) ≤ (k : Int) := by omega
        have ki1 : (k : Int) < (n : Int) := by omega
        by_cases hr : an + on ≤ t
        · have HI := Lib.hid (HG.out.trans (fitE_in (a := a) rfl Hon.out (by have := Ht.out; omega)))
          have q1 : decide ((t : Int) < (an : Int)) = false := by simp; omega
          have q2 : ¬ ((t : Int) < (an : Int)) := by omega
          have q3 : ¬ ((t : Int) - (an : Int) < (on : Int)) := by omega
          have q5 : decide (t < an) = false := by simp; omega
          have q4 : decide ((t : Int) - (an : Int) < (on : Int)) = false := by simp; omega
          go_wp2_with fail
          go_quiet (fail)
          go_wp2_with fail
          clear q1 q2 q3 q4 q5
          have HC1 := Lib.hid (And.intro c0 c1)
          obtain ⟨wo, rfl⟩ : ∃ wo : World, wo = wr := ⟨_, rfl⟩
          clear c0 c1
          go_loopw [9] (fun jv wq => ∃ j : Nat, j ≤ on ∧ jv = .int .i64 j ∧ Hid (∀ i, i < j → x4[i]? = a[an + i]?) ∧ Hid (Below wo.heap.size wo wq)) (fun jv _ => on - (intOf jv).toNat)
          case atStart => exact ⟨0, Nat.zero_le _, rfl, (fun i h => absurd h (by omega)), below_drewN (Below.refl _ _) _⟩
          case round =>
            obtain ⟨j, hj, rfl, HJ, HQ⟩ := hrel
            have c0 := cell_kept HQ.out HC1.out.1
            have c1 := cell_kept HQ.out HC1.out.2
            have HBQ := Lib.hid (below_join HB.out HQ.out)
            by_cases hjl : j < on
            · have hjx : j < x4.length := by have := Hon.out; omega
              have hja : an + j < a.length := by have := Ht.out; omega
              obtain rfl := Ho1.out (by omega)
              obtain rfl := Hvo.out (by omega)
              have d1 := cell_kept HBQ.out (Hoc1.out j hjx)
              have d2 := cell_kept HBQ.out (Hcv.out (an + j) hja)
              have HN : Hid (¬ x4[j]'hjx = a[an + j]'hja → fitAt a L k = 82) := by
                intro h
                rw [HI.out, if_neg]
                intro e
                apply h
                have e2 : x4[j]? = ((a.drop an).take on)[j]? := by rw [← e]; rfl
                rw [List.getElem?_take_of_lt hjl, List.getElem?_drop, List.getElem?_eq_getElem hjx, List.getElem?_eq_getElem hja] at e2
                exact Option.some.inj e2
              have HS : Hid (x4[j]'hjx = a[an + j]'hja → ∀ i, i < j + 1 → x4[i]? = a[an + i]?) := by
                intro h i hi
                by_cases e : i = j
                · subst e
                  rw [List.getElem?_eq_getElem hjx, List.getElem?_eq_getElem hja, h]
                · exact HJ.out i (by omega)
              obtain ⟨x, hx⟩ : ∃ x, x4[j]'hjx = x := ⟨_, rfl⟩
              obtain ⟨y, hy⟩ : ∃ y, a[an + j]'hja = y := ⟨_, rfl⟩
              rw [hx] at d1 HN HS
              rw [hy] at d2 HN HS
              clear hx hy
              have j0 : (0 : Int) ≤ (j : Int) := by omega
              have j1 : (j : Int) < (on : Int) := by omega
              have j2 : (0 : Int) ≤ (an : Int) + (j : Int) := by omega
              have j3 : (an : Int) + (j : Int) < (t : Int) := by omega
              have j4 : ((an : Int) + (j : Int)).toNat = an + j := by omega
              by_cases he : x = y
              · have HS2 := Lib.hid (HS.out he)
                have hq := bytes_beq he
                clear he
                go_wp2_with fail
                go_quiet (fail)
                go_wp2_with fail
                go_roundw
                case rel => exact ⟨j + 1, by omega, by go_num, HS2, below_drewN HQ.out _⟩
                case measure => simp [intOf]; omega
              · have HN2 := Lib.hid (HN.out he)
                have HE := Lib.hid (fits_bad (a := a) HC.out hkL HO.out (by rw [HN2.out]; simp))
                have hq := bytes_bne he
                clear he
                go_wp2_with fail
                go_quiet (fail)
                go_wp2_with fail
                go_ret2
                rw [HE.out, HN2.out]
                exact ⟨rfl, below_drewN HBQ.out _⟩
            · obtain rfl : j = on := by omega
              have HZ : Hid (fitAt a L k = 0) := by
                show _ = _
                rw [HI.out, if_pos]
                refine List.ext_getElem? fun i => ?_
                show x4[i]? = ((a.drop an).take j)[i]?
                by_cases hi : i < j
                · rw [List.getElem?_take_of_lt hi, List.getElem?_drop]
                  exact HJ.out i hi
                · rw [List.getElem?_eq_none (by have := Hon.out; omega), List.getElem?_eq_none (by rw [List.length_take]; omega)]
              have HS : Hid (∀ i, i < k + 1 → fitAt a L i = 0) := by
                intro i hi
                by_cases e : i = k
                · subst e; exact HZ.out
                · exact HO.out i (by omega)
              go_wp2_with fail
              go_roundw
              case rel => exact ⟨k + 1, by omega, by go_num, HS, HBQ.out⟩
              case measure => simp [intOf]; omega
        · have HI := Lib.hid (HG.out.trans (fitE_off (a := a) rfl Hon.out (by have := Ht.out; omega)))
          have HE := Lib.hid (fits_bad (a := a) HC.out hkL HO.out (by rw [HI.out]; simp))
          by_cases hr2 : t < an
          · have q1 : decide ((t : Int) < (an : Int)) = true := by simp; omega
            have q5 : decide (t < an) = true := by simp; omega
            have q2 : ((t : Int) < (an : Int)) := by omega
            clear hr hr2
            go_wp2_with fail
            go_quiet (fail)
            go_wp2_with fail
            go_ret2
            rw [HE.out, HI.out]
            exact ⟨rfl, below_drewN HB.out _⟩
          · have q1 : decide ((t : Int) < (an : Int)) = false := by simp; omega
            have q5 : decide (t < an) = false := by simp; omega
            have q2 : ¬ ((t : Int) < (an : Int)) := by omega
            have q3 : ((t : Int) - (an : Int) < (on : Int)) := by omega
            have q4 : decide ((t : Int) - (an : Int) < (on : Int)) = true := by simp; omega
            clear hr hr2
            go_wp2_with fail
            go_quiet (fail)
            go_wp2_with fail
            go_ret2
            rw [HE.out, HI.out]
            exact ⟨rfl, below_drewN HB.out _⟩
      · obtain rfl : k = n := by omega
        have HE := Lib.hid (fits_ok (a := a) (l := L) HC.out fun j hj => HO.out j (by have := HL.out; omega))
        go_wp2_with fail
        go_ret2
        rw [HE.out]
        exact ⟨rfl, HB.out⟩
end Go.Proofs.Ytabdgocfbmcobaa
