/- Own work: HunkCounted's walk. -/
import Derived.Test.YtabdgocfbmcobaaHunkUndone
import Derived.Test.YtabdgocfbmcobaaHunkTouched
import Derived.Test.YtabdgocfbmcobaaHunkCtM
namespace Go.Proofs.Ytabdgocfbmcobaa
open Go.RowKit Go.Sort

set_option maxRecDepth 100000 in
set_option maxHeartbeats 16000000 in
theorem counted_walk (u v : Value) (l : List HunkV) (a : List ByteArray) (w : World) (hv : Hks w u l) (hf : ∀ m ∈ l, m.Fit) (hu : Texts w v a) (hfu : SliceForm v) (hb : bulks l + a.length ≤ 1048576) :
    Calls Try.prog 9 #[u, v] w fun e w' => e = .returned (.bool true) ∧ Below w.heap.size w w' := by
  have hbs := bulks_sums l
  have Hv := Lib.hid hv
  have Hf := Lib.hid hf
  have Hu := Lib.hid hu
  have Hfu := Lib.hid hfu
  obtain ⟨uo, uc, ub, uof, rfl, huo, hum, hcu⟩ := hv
  obtain ⟨vo, vc, vb, vof, rfl, hvo, _, hcv⟩ := hu.form
  have Huo := Lib.hid huo
  have Hvo := Lib.hid hvo
  have Hcu := Lib.hid hcu
  have Hcv := Lib.hid hcv
  have hl : Hid (l.length * 56 ≤ 140737488355328) := by show _ ≤ _; omega
  have ha : a.length ≤ 1048576 := by omega
  have hN : Hid (sumN (l.map HunkV.txt) ≤ 1048576) := by show _ ≤ _; omega
  have hO : Hid (sumO (l.map HunkV.txt) ≤ 1048576) := by show _ ≤ _; omega
  have hA : Hid (a.length + sumN (l.map HunkV.txt) ≤ 1048576) := by show _ ≤ _; omega
  have HAp := Lib.hid (fun w1 h1 h2 h3 => apply_any (.slice vo a.length vc) (.slice uo l.length uc) l a w1 h1 hfu h2 hf (by omega) ha h3)
  have HSz := Lib.hid (fun w1 h1 => sizes_any (.slice uo l.length uc) l w1 h1 hf (by omega))
  have HTc := Lib.hid (fun w1 N h1 => touched_any (.slice uo l.length uc) l N w1 h1 hf (by omega))
  obtain ⟨n, hn⟩ : ∃ n, l.length = n := ⟨_, rfl⟩
  obtain ⟨t, ht⟩ : ∃ t, a.length = t := ⟨_, rfl⟩
  have hnB : n ≤ 1048576 := by omega
  have Hn := Lib.hid hn
  have Ht := Lib.hid ht
  have HLn : Hid ((l.map HunkV.txt).length = n) := by show _ = _; rw [List.length_map, hn]
  rw [hn] at Hv HAp HSz HTc Huo ⊢
  rw [ht] at Hu Hfu HAp Hvo ha ⊢
  obtain ⟨L, hL⟩ : ∃ L, l.map HunkV.txt = L := ⟨_, rfl⟩
  have HLk : Hid (∀ (k : Nat) (h1 : k < L.length) (h2 : k < l.length), L[k]'h1 = (l[k]'h2).txt) := by intro k h1 h2; subst hL; simp
  simp only [hL] at HAp HSz HTc HLn hN hO hA
  clear huo hcu hvo hcv hf hu hfu hn ht hbs hb hL
  go_enter Try.func9, Try.ntmps9
  go_wp2_with fail
  refine (awake_any w).mono ?_
  rintro e w1 ⟨rfl, hb1⟩
  have B1 := Lib.hid hb1
  clear hb1
  go_wp2_with fail
  refine (HAp.out w1 (Hu.out.kept B1.out) (Hv.out.kept B1.out) hN.out).mono ?_
  rintro e w2 ⟨r2, rfl, hz2, ho2, hb2⟩
  have B2 := Lib.hid (below_join B1.out hb2)
  go_wp2_with fail
  refine (HSz.out w2 (Hv.out.kept B2.out)).mono ?_
  rintro e w3 ⟨rfl, hb3⟩
  have B3 := Lib.hid (below_join B2.out hb3)
  have B23 := Lib.hid hb3
  go_wp2_with fail
  refine (HTc.out w3 (t : Int) (Hv.out.kept B3.out)).mono ?_
  rintro e w4 ⟨r4, rfl, _, ho4, hb4⟩
  have B4 := Lib.hid (below_join B3.out hb4)
  have B24 := Lib.hid (below_join B23.out hb4)
  by_cases hE : (fitsL a L).2 = 0
  rotate_left
  · obtain ⟨y, hy⟩ : ∃ y, (fitsL a L).2 = y := ⟨_, rfl⟩
    obtain ⟨⟨z1, z2, z3⟩, hz⟩ : ∃ z, sizesL L = z := ⟨_, rfl⟩
    obtain ⟨z4, hz4⟩ : ∃ z, touchE L (t : Int) = z := ⟨_, rfl⟩
    rw [hy] at hE
    rw [hy, hz, hz4]
    have q1 : ((y : Int) != 0) = true := by rw [bne_iff_ne]; omega
    clear hz2 ho2 hb2 hb3 ho4 hb4 hE hy hz hz4
    go_wp2_with fail
    go_ret
    exact ⟨rfl, B4.out⟩
  · have hF := fits_all hE
    have HF := Lib.hid hF
    obtain ⟨hc, _⟩ := fits_back hF
    have hlen := appF_len hF
    have HO2 := Lib.hid ((ho2 hE).texts.kept B24.out)
    have hsz : sizesL L = ((sumO L : Int), (sumN L : Int), 0) := by
      rw [sizesL, hc, if_pos rfl]
      have h1 : olds L = (sumO L : Int) := sumI_eq _ (by show sumO L ≤ _; have := hO.out; omega)
      have h2 : news L = (sumN L : Int) := sumI_eq _ (by show sumN L ≤ _; have := hN.out; omega)
      rw [h1, h2]
    have htc : touchE L (t : Int) = 0 := touch_0 (by rw [hc]) (by omega) (by omega) fun k hk => by
      have h := fitsF_get hF k hk
      have h2 := h.2.2.2.1
      rw [Ht.out] at h2
      omega
    obtain ⟨g, rfl, hob⟩ := ho4 htc
    rw [Int.toNat_natCast] at hob ⊢
    have HB := Lib.hid hob
    rw [hE, hsz, htc]
    obtain ⟨b, hbb⟩ : ∃ b, appL a L = b := ⟨_, rfl⟩
    have Hbb := Lib.hid hbb
    rw [hbb] at HO2
    obtain ⟨bo, bc, bb, bof, rfl, hbo, _, hcb⟩ := HO2.out.form
    have Hbo := Lib.hid hbo
    have Hcb := Lib.hid hcb
    obtain ⟨m, hm⟩ : ∃ m, b.length = m := ⟨_, rfl⟩
    have Hm := Lib.hid hm
    obtain ⟨so, hso⟩ : ∃ so, sumO L = so := ⟨_, rfl⟩
    obtain ⟨sn, hsn⟩ : ∃ sn, sumN L = sn := ⟨_, rfl⟩
    have hms : m + so = t + sn := by have h := hlen.1; rw [Ht.out, hso, hsn] at h; rw [← hm, ← hbb, appL]; omega
    have hms2 : so ≤ t := by have h := hlen.2; rw [Ht.out, hso] at h; omega
    have hsn2 : sn ≤ 1048576 := by rw [← hsn]; exact hN.out
    rw [hso, hsn]
    rw [hm] at Hbo ⊢
    have q1 : ((m : Int) != (t : Int) - (so : Int) + (sn : Int)) = false := by simp; omega
    clear hz2 ho2 hb2 hb3 ho4 hb4 hE hF hc hlen hsz htc hob hbb hbo hcb hm hso hsn
    have HAt : Hid (∀ (j : Nat) (h1 : j < L.length) (h2 : j < l.length), (L[j]'h1).at_ = (l[j]'h2).at_ ∧ (L[j]'h1).old = (l[j]'h2).old ∧ (L[j]'h1).new = (l[j]'h2).new ∧ 0 ≤ (l[j]'h2).at_ ∧ (l[j]'h2).at_ ≤ 2147483647) := by
      intro j h1 h2
      have e := HLk.out j h1 h2
      have f := fitsF_get HF.out j h1
      rw [e] at f ⊢
      exact ⟨rfl, rfl, rfl, f.1, f.2.1⟩
    go_wp2_with fail
    go_loopw [12, 13, 14] (fun pv iv kv wr => ∃ (k i p : Nat), k ≤ t + 1 ∧ kv = .int .i64 (k : Int) ∧ iv = .int .i64 (i : Int) ∧ pv = .int .i64 (p : Int) ∧ i ≤ n ∧ p ≤ m ∧ Hid (k ≤ t → St a L b k i p) ∧ Hid (k = t + 1 → i = n ∧ p = m) ∧ Hid (Below w4.heap.size w4 wr)) (fun _ _ kv _ => t + 1 - (intOf kv).toNat)
    case atStart => exact ⟨0, 0, 0, Nat.zero_le _, rfl, rfl, rfl, Nat.zero_le _, Nat.zero_le _, fun _ => by rw [← Hbb.out]; exact St.start HF.out, fun h => absurd h (by omega), Below.refl _ _⟩
    case round =>
      obtain ⟨k, i, p, hk, rfl, rfl, rfl, hi, hp, HS0, HZ, HB1⟩ := hrel
      by_cases hkt : k ≤ t
      · have HS := Lib.hid (HS0.out hkt)
        have hk1 : (k : Int) ≤ (t : Int) := by omega
        clear hk HZ HS0
        go_wp2_with fail
        obtain ⟨wo, rfl⟩ : ∃ wo : World, wo = wr := ⟨_, rfl⟩
        go_loopw [12, 13] (fun pv iv wr => ∃ (i p : Nat), iv = .int .i64 (i : Int) ∧ pv = .int .i64 (p : Int) ∧ i ≤ n ∧ p ≤ m ∧ Hid (St a L b k i p) ∧ Hid (Below w4.heap.size w4 wr)) (fun _ iv _ => n - (intOf iv).toNat)
        case atStart => exact ⟨i, p, rfl, rfl, hi, hp, HS, HB1⟩
        case round =>
          clear HS HB1 hi hp
          obtain ⟨i, p, rfl, rfl, hi, hp, HS, HB1⟩ := hrel
          have B4r := Lib.hid (below_join B4.out HB1.out)
          obtain ⟨wi, rfl⟩ : ∃ wi : World, wi = wr := ⟨_, rfl⟩
          by_cases hx : ∃ hi : i < l.length, (l[i]'hi).at_ = (k : Int)
          · obtain ⟨hil, hat⟩ := hx
            have hin : i < n := by have := Hn.out; omega
            have hiL : i < L.length := by have := HLn.out; omega
            obtain rfl := Huo.out (by omega)
            obtain ⟨c0, c1, c2, t1, t2⟩ := Hcu.out i hil
            have HFt := Lib.hid (Hf.out _ (List.getElem_mem hil))
            obtain ⟨e1, e2, e3, _, _⟩ := HAt.out i hiL hil
            obtain ⟨⟨rst, hrst⟩, hS2⟩ := St.hunk HF.out HS.out hiL (by rw [e1, hat]; simp)
            rw [e3] at hrst hS2
            have Hrst := Lib.hid hrst
            have HS2 := Lib.hid hS2
            clear e1 e2 e3 hS2 hrst
            obtain ⟨x, hxx⟩ : ∃ x, l[i]'hil = x := ⟨_, rfl⟩
            rw [hxx] at c0 c1 c2 t1 t2 HFt hat Hrst HS2
            obtain ⟨x1, x2, x3, x4, x5⟩ := x
            dsimp only at c0 c1 c2 t1 t2 hat Hrst HS2
            subst hat
            obtain ⟨o1, p1, rfl⟩ := t1.lenForm
            obtain ⟨o2, p2, b2, of2, rfl, ho2, hom2, hoc2⟩ := t2.form
            have Ho2 := Lib.hid ho2
            have Hoc2 := Lib.hid hoc2
            obtain ⟨on, hon⟩ : ∃ on, x4.length = on := ⟨_, rfl⟩
            obtain ⟨nn, hnn⟩ : ∃ nn, x5.length = nn := ⟨_, rfl⟩
            have Hnn := Lib.hid hnn
            have h4 : on * 16 ≤ 140737488355328 := by have := HFt.out.lo; simp only at this; omega
            have h5 : nn * 16 ≤ 140737488355328 := by have := HFt.out.ln; simp only at this; omega
            rw [hon] at c1
            rw [hnn] at c2 Ho2 HS2
            have hpm : p + nn ≤ m := by have h := HS2.out.le; rw [Hm.out] at h; exact h
            clear hxx t1 t2 hon hnn HFt ho2 hoc2 hom2
            have HC := Lib.hid (And.intro c0 (And.intro c1 c2))
            have c0 := cell_kept B4r.out c0
            have c1 := cell_kept B4r.out c1
            have c2 := cell_kept B4r.out c2
            have ki0 : (0 : Int) ≤ (i : Int) := by omega
            have ki1 : (i : Int) < (n : Int) := by omega
            have ki2 : ((k : Int) == (k : Int)) = true := by simp
            go_wp2_with fail
            refine (touch_any (k : Int) o1 on p1 o2 nn p2 wi h4 h5).mono ?_
            rintro e w8 ⟨rfl, hb8⟩
            have B8 := Lib.hid (below_join B4r.out hb8)
            have B48 := Lib.hid (below_join HB1.out hb8)
            clear hb8 c0 c1 c2
            have c0 := cell_kept B8.out HC.out.1
            have c1 := cell_kept B8.out HC.out.2.1
            have c2 := cell_kept B8.out HC.out.2.2
            obtain ⟨y1, y2, y3, hy1, hy2, hy3, hy4, hy5, hy6⟩ : ∃ y1 y2 y3 : Nat, min on nn = y1 ∧ on - y1 = y2 ∧ nn - y1 = y3 ∧ y1 + y2 = on ∧ y1 + y3 = nn ∧ (y2 = 0 ∨ y3 = 0) := ⟨_, _, _, rfl, rfl, rfl, by omega, by omega, by omega⟩
            rw [hy1, hy2, hy3]
            obtain ⟨Y1, hY1⟩ : ∃ Y : Int, (y1 : Int) = Y := ⟨_, rfl⟩
            obtain ⟨Y2, hY2⟩ : ∃ Y : Int, (y2 : Int) = Y := ⟨_, rfl⟩
            obtain ⟨Y3, hY3⟩ : ∃ Y : Int, (y3 : Int) = Y := ⟨_, rfl⟩
            rw [hY1, hY2, hY3]
            have z1 : (Y1 + Y2 != (on : Int)) = false := by simp; omega
            have z2 : (Y1 + Y3 != (nn : Int)) = false := by simp; omega
            have z3 : decide (Y1 < 0) = false := by simp; omega
            have z4 : decide (Y2 < 0) = false := by simp; omega
            have z5 : decide (Y3 < 0) = false := by simp; omega
            have z11 : Y1 ≤ 8796093022208 := by omega
            have z12 : Y2 ≤ 8796093022208 := by omega
            have z13 : Y3 ≤ 8796093022208 := by omega
            have z14 : 0 ≤ Y1 := by omega
            have z15 : 0 ≤ Y2 := by omega
            have z16 : 0 ≤ Y3 := by omega
            have HY : Hid (Y2 = 0 ∨ Y3 = 0) := by show _ ∨ _; omega
            clear hy1 hy2 hy3 hy4 hy5 hy6 hY1 hY2 hY3
            go_upto_region 18 with fail
            go_cut [138] from 97 to 138 (fun c wx => c = .bool false ∧ wx = w8)
            case first =>
              as_aux_lemma =>
              by_cases h2 : Y2 = 0
              · have z6 : decide (0 < Y2) = false := by simp; omega
                clear h2
                go_wp2_with fail
                go_meet
                exact ⟨rfl, rfl⟩
              · have z6 : decide (0 < Y2) = true := by simp; omega
                have z9 : decide (0 < Y3) = false := by have := HY.out; simp; omega
                clear h2
                go_wp2_with fail
                go_meet
                exact ⟨rfl, rfl⟩
            case rest =>
              as_aux_lemma =>
              obtain ⟨rfl, hwx⟩ := hcut
              obtain rfl : w8 = wc := hwx.symm
              clear hwx z1 z2 z3 z4 z5 z11 z12 z13 z14 z15 z16 c0 c1 c2
              go_wp2_with fail
              go_loopw [12, 18] (fun pv jv wr => ∃ j : Nat, j ≤ nn ∧ jv = .int .i64 (j : Int) ∧ pv = .int .i64 ((p : Int) + (j : Int)) ∧ Hid (Below w8.heap.size w8 wr)) (fun _ jv _ => nn - (intOf jv).toNat)
              case atStart => exact ⟨0, Nat.zero_le _, rfl, by simp, Below.refl _ _⟩
              case round =>
                obtain ⟨j, hj, rfl, rfl, HBj⟩ := hrel
                have B8j := Lib.hid (below_join B8.out HBj.out)
                have B4j := Lib.hid (below_join B48.out HBj.out)
                have c2 := cell_kept B8j.out HC.out.2.2
                by_cases hjn : j < nn
                · have hjx : j < x5.length := by have := Hnn.out; omega
                  obtain ⟨hpb, hpe⟩ := drop_gets Hrst.out j hjx
                  obtain rfl := Ho2.out (by omega)
                  obtain rfl := Hbo.out (by omega)
                  have d1 := cell_kept B8j.out (Hoc2.out j hjx)
                  have d2 := cell_kept B4j.out (Hcb.out (p + j) hpb)
                  rw [hpe] at d2
                  obtain ⟨y, hy⟩ : ∃ y, x5[j]'hjx = y := ⟨_, rfl⟩
                  rw [hy] at d1 d2
                  have hq := bytes_beq (rfl : y = y)
                  have j0 : (0 : Int) ≤ (j : Int) := by omega
                  have j1 : (j : Int) < (nn : Int) := by omega
                  have j2 : (0 : Int) ≤ (p : Int) + (j : Int) := by omega
                  have j3 : (p : Int) + (j : Int) < (m : Int) := by omega
                  have j4 : ((p : Int) + (j : Int)).toNat = p + j := by omega
                  have j5 : decide ((m : Int) ≤ (p : Int) + (j : Int)) = false := by simp; omega
                  have j6 : ¬ ((m : Int) ≤ (p : Int) + (j : Int)) := by omega
                  clear hy hpe hpb
                  go_wp2_with fail
                  go_quiet (fail)
                  go_wp2_with fail
                  go_roundw
                  case rel => exact ⟨j + 1, by omega, by go_num, by go_num, below_drewN HBj.out _⟩
                  case measure => simp [intOf]; omega
                · obtain rfl : j = nn := by omega
                  go_wp2_with fail
                  go_roundw
                  case rel => exact ⟨i + 1, p + j, by go_num, by go_num, by omega, hpm, HS2, B4j⟩
                  case measure => simp [intOf]; omega
          · have hne : ∀ hi : i < L.length, (L[i]'hi).at_.toNat ≠ k := by
              intro hi2 e
              have hil : i < l.length := by have := HLn.out; have := Hn.out; omega
              have f := HAt.out i hi2 hil
              exact hx ⟨hil, by have := f.1; have := f.2.2.2.1; omega⟩
            have Hne := Lib.hid hne
            have Hx := Lib.hid hx
            clear hx hne
            go_upto_region 16 with fail
            go_cut [87] from 75 to 87 (fun c wx => c = .bool false ∧ wx = wi)
            case first =>
              as_aux_lemma =>
              by_cases hin : i < n
              · have hil : i < l.length := by have := Hn.out; omega
                obtain rfl := Huo.out (by omega)
                have c0 := cell_kept B4r.out (Hcu.out i hil).1
                obtain ⟨an, han⟩ : ∃ an, (l[i]'hil).at_ = an := ⟨_, rfl⟩
                rw [han] at c0
                have q3 : (an == (k : Int)) = false := by
                  rw [beq_eq_false_iff_ne]
                  intro e
                  exact Hx.out ⟨hil, han.trans e⟩
                have ki0 : (0 : Int) ≤ (i : Int) := by omega
                have ki1 : (i : Int) < (n : Int) := by omega
                clear han
                go_wp2_with fail
                go_meet
                exact ⟨rfl, rfl⟩
              · have ki1 : ¬ ((i : Int) < (n : Int)) := by omega
                go_wp2_with fail
                go_meet
                exact ⟨rfl, rfl⟩
            case rest =>
              as_aux_lemma =>
              obtain ⟨rfl, hwx⟩ := hcut
              obtain rfl : wi = wc := hwx.symm
              clear hwx
              by_cases hkl : k < t
              · have hka : k < a.length := by have := Ht.out; omega
                have HPs := Lib.hid (St.pass HF.out (by rw [HLn.out]; exact hi) HS.out Hne.out hka)
                have d0 := cell_kept HB1.out (HB.out.cell k hkl)
                obtain ⟨cv, hcv⟩ : ∃ cv, coverB L k = cv := ⟨_, rfl⟩
                rw [hcv] at d0 HPs
                have ki2 : (k : Int) < (t : Int) := by omega
                have ki3 : (0 : Int) ≤ (k : Int) := by omega
                clear hcv
                cases cv with
                | true =>
                  have HSt := Lib.hid (HPs.out.1 rfl)
                  go_wp2_with fail
                  go_roundw
                  case rel => exact ⟨k + 1, i, p, by omega, by go_num, rfl, rfl, hi, hp, fun _ => HSt.out, fun h => absurd h (by omega), HB1⟩
                  case measure => simp [intOf]; omega
                | false =>
                  obtain ⟨⟨rst, hrst⟩, hst⟩ := HPs.out.2 rfl
                  have HSt := Lib.hid hst
                  obtain ⟨hpb, hpe⟩ := drop_get hrst
                  have hpm : p < m := by have := Hm.out; omega
                  obtain rfl := Hvo.out (by omega)
                  obtain rfl := Hbo.out (by omega)
                  have d1 := cell_kept B4r.out (Hcv.out k hka)
                  have d2 := cell_kept HB1.out (Hcb.out p hpb)
                  rw [hpe] at d2
                  obtain ⟨y, hy⟩ : ∃ y, a[k]'hka = y := ⟨_, rfl⟩
                  rw [hy] at d1 d2
                  have hq := bytes_beq (rfl : y = y)
                  have j2 : (0 : Int) ≤ (p : Int) := by omega
                  have j3 : (p : Int) < (m : Int) := by omega
                  have j5 : decide ((m : Int) ≤ (p : Int)) = false := by simp; omega
                  have j6 : ¬ ((m : Int) ≤ (p : Int)) := by omega
                  have j7 : decide (m ≤ p) = false := by simp; omega
                  clear hy hpe hpb hrst hst
                  go_wp2_with fail
                  go_quiet (fail)
                  go_wp2_with fail
                  go_roundw
                  case rel => exact ⟨k + 1, i, p + 1, by omega, by go_num, rfl, by go_num, hi, by omega, fun _ => HSt.out, fun h => absurd h (by omega), below_drewN HB1.out _⟩
                  case measure => simp [intOf]; omega
              · obtain rfl : k = t := by omega
                have HZe := Lib.hid (St.stop HF.out (by rw [HLn.out]; exact hi) (by rw [Ht.out]; exact HS.out) (by rw [Ht.out]; exact Hne.out))
                have ki2 : ¬ ((k : Int) < (k : Int)) := by omega
                go_wp2_with fail
                go_roundw
                case rel => exact ⟨k + 1, i, p, Nat.le_refl _, by go_num, rfl, rfl, hi, hp, fun h => absurd h (by omega), fun _ => ⟨by rw [HZe.out.1, HLn.out], by rw [HZe.out.2, Hm.out]⟩, HB1⟩
                case measure => simp [intOf]; try omega
      · obtain rfl : k = t + 1 := by omega
        obtain ⟨rfl, rfl⟩ := HZ.out rfl
        have q2 : ¬ ((t : Int) + 1 ≤ (t : Int)) := by omega
        go_wp2_with fail
        go_ret
        exact ⟨by simp, below_join B4.out HB1.out⟩
end Go.Proofs.Ytabdgocfbmcobaa
