/- Own work: DiffLeast's walk. -/
import Derived.Test.YtncamoafdimpcaaDiffLeast
namespace Go.Proofs.Ytncamoafdimpcaa
open Go.RowKit

theorem pick_mod (P : Int) (n : Nat) (h0 : 0 < n) (hn : n ≤ 100) : ∃ c : Nat, c < n ∧ wrap64 ((IntKind.u64.wrap P).tmod (n : Int)) = (c : Int) := by
  have h1 : 0 ≤ IntKind.u64.wrap P := by
    simp only [IntKind.wrap, IntKind.signed, IntKind.bits]
    simp
    omega
  generalize IntKind.u64.wrap P = Q at h1
  have h2 : Q.tmod (n : Int) = Q % (n : Int) := Int.tmod_eq_emod_of_nonneg h1
  have h3 := Int.emod_nonneg Q (show (n : Int) ≠ 0 by omega)
  have h4 := Int.emod_lt_of_pos Q (show (0 : Int) < (n : Int) by omega)
  rw [h2]
  generalize Q % (n : Int) = R at h3 h4
  refine ⟨R.toNat, by omega, ?_⟩
  unfold wrap64
  omega

set_option maxRecDepth 100000 in
set_option maxHeartbeats 16000000 in
theorem least_walk (u v pv : Value) (a0 b0 : List ByteArray) (ps : List Int) (w : World) (hu : Texts w u a0) (hv : Texts w v b0) (hp : Nums .i64 w pv ps) (hlp : ps.length ≤ 70368744177664) (hps : ∀ x ∈ ps, -9223372036854775808 ≤ x ∧ x ≤ 9223372036854775807) :
    Calls Try.prog 7 #[u, v, pv] w fun e w' => e = .returned (.bool true) ∧ Below w.heap.size w w' := by
  have Hu0 := Lib.hid hu
  have Hv0 := Lib.hid hv
  have Hps := Lib.hid hps
  obtain ⟨uo, uc, _, _, rfl, _⟩ := hu.form
  obtain ⟨vo, vc, _, _, rfl, _⟩ := hv.form
  obtain ⟨po, pc, pb, pof, rfl, hpo, hpm, hpc⟩ := hp.form
  have Hpo := Lib.hid hpo
  have Hpc := Lib.hid hpc
  obtain ⟨np, hnp⟩ : ∃ np, ps.length = np := ⟨_, rfl⟩
  have Hnp := Lib.hid hnp
  rw [hnp] at hpm Hpo hlp ⊢
  unfold maxLen at hpm
  obtain ⟨n0, hn0⟩ : ∃ n0, a0.length = n0 := ⟨_, rfl⟩
  obtain ⟨m0, hm0⟩ : ∃ m0, b0.length = m0 := ⟨_, rfl⟩
  rw [hn0] at Hu0 ⊢
  rw [hm0] at Hv0 ⊢
  have hucn := Hu0.out.cap.2
  have hvcn := Hv0.out.cap.2
  obtain ⟨n, hn⟩ : ∃ n, min n0 100 = n := ⟨_, rfl⟩
  obtain ⟨m, hm⟩ : ∃ m, min m0 100 = m := ⟨_, rfl⟩
  have Hna := Lib.hid hn
  have Hma := Lib.hid hm
  have hn100 : n ≤ 100 := by omega
  have hm100 : m ≤ 100 := by omega
  have Hu := Lib.hid (texts_take Hu0.out n (by omega))
  have Hv := Lib.hid (texts_take Hv0.out m (by omega))
  obtain ⟨a, ha⟩ : ∃ a, a0.take n = a := ⟨_, rfl⟩
  obtain ⟨b, hb⟩ : ∃ b, b0.take m = b := ⟨_, rfl⟩
  have Hn : Hid (a.length = n) := by show _ = _; rw [← ha, List.length_take]; omega
  have Hm : Hid (b.length = m) := by show _ = _; rw [← hb, List.length_take]; omega
  rw [ha] at Hu
  rw [hb] at Hv
  have hs1 := run_front uo n0 uc n (by omega)
  have hs2 := run_front vo m0 vc m (by omega)
  clear hu hv hps hp hpo hpc hnp hn0 hm0 hn hm ha hb hucn hvcn
  obtain ⟨uo1, uc1, ub, uof, hue, huo, _, hcu⟩ := Hu.out.form
  rw [Hn.out] at hue
  cases hue
  obtain ⟨vo1, vc1, vb, vof, hve, hvo, _, hcv⟩ := Hv.out.form
  rw [Hm.out] at hve
  cases hve
  have Huo := Lib.hid huo
  have Hvo := Lib.hid hvo
  have Hcu := Lib.hid hcu
  have Hcv := Lib.hid hcv
  clear huo hvo hcu hcv
  obtain ⟨z, hz⟩ : ∃ z, mostL a b = z := ⟨_, rfl⟩
  have HZ := Lib.hid hz
  have hzn : z ≤ 100 := by have h := mostL_le a b; have := Hn.out; omega
  have HC1 : Hid ((commonL a b).length = z) := by show _ = _; rw [small_most a b (by rw [Hn.out]; exact hn100) (by rw [Hm.out]; exact hm100), hz]
  have HC2 : Hid ((commonL b a).length = z) := by show _ = _; rw [small_most b a (by rw [Hm.out]; exact hm100) (by rw [Hn.out]; exact hn100), mostL_comm, hz]
  have HC3 : Hid ((commonL a.reverse b.reverse).length = z) := by show _ = _; rw [small_most _ _ (by rw [List.length_reverse, Hn.out]; exact hn100) (by rw [List.length_reverse, Hm.out]; exact hm100), mostL_rev, hz]
  clear hz
  go_enter Try.func7, Try.ntmps7
  go_wp2_with fail
  refine (works_any _).mono ?_
  rintro e w1 ⟨rfl, hb1⟩
  have B1 := Lib.hid hb1
  clear hb1
  go_upto_region 3 with fail
  go_cut [0] from 24 to 28 (fun y wx => y = .slice uo n uc ∧ wx = w1)
  case first =>
    by_cases hc : ¬ 100 < n0
    · obtain rfl : n0 = n := by have := Hna.out; omega
      have hc' : ¬ (100 : Int) < (n0 : Int) := by omega
      go_wp2_with fail
      all_goals
        first
        | omega
        | (go_meet; exact ⟨rfl, rfl⟩)
    · obtain rfl : n = 100 := by have := Hna.out; omega
      have hc' : (100 : Int) < (n0 : Int) := by omega
      have hs1 : ∀ W, (Instr.slice 23 (.slice uo n0 uc) none (some (.int .i64 100)) none).run Try.prog W = .ok (.slice uo 100 uc) W := hs1
      go_wp2_with fail
      all_goals
        first
        | omega
        | (go_meet; exact ⟨rfl, rfl⟩)
  case rest =>
    obtain ⟨rfl, hwx⟩ := hcut
    obtain rfl : w1 = wc := hwx.symm
    clear hwx
    go_upto_region 4 with fail
    go_cut [1] from 29 to 33 (fun y wx => y = .slice vo m vc ∧ wx = w1)
    case first =>
      by_cases hc : ¬ 100 < m0
      · obtain rfl : m0 = m := by have := Hma.out; omega
        have hc' : ¬ (100 : Int) < (m0 : Int) := by omega
        go_wp2_with fail
        all_goals
          first
          | omega
          | (go_meet; exact ⟨rfl, rfl⟩)
      · obtain rfl : m = 100 := by have := Hma.out; omega
        have hc' : (100 : Int) < (m0 : Int) := by omega
        have hs2 : ∀ W, (Instr.slice 23 (.slice vo m0 vc) none (some (.int .i64 100)) none).run Try.prog W = .ok (.slice vo 100 vc) W := hs2
        go_wp2_with fail
        all_goals
          first
          | omega
          | (go_meet; exact ⟨rfl, rfl⟩)
    case rest =>
      obtain ⟨rfl, hwx⟩ := hcut
      obtain rfl : w1 = wc := hwx.symm
      clear hwx hs1 hs2
      go_wp2_with fail
      refine (common_any _ _ a b w1 (Hu.out.kept B1.out) (Hv.out.kept B1.out) (by rw [Hn.out]; omega) (by rw [Hm.out]; omega)).mono ?_
      rintro e w2 ⟨p2, rfl, ho2, hb2⟩
      obtain ⟨_, _, hp2⟩ : ∃ qo qc, p2 = .slice qo (commonL a b).length qc := by obtain ⟨qo, qc, _, h, _⟩ := ho2.form; exact ⟨qo, qc, h⟩
      subst hp2
      rw [HC1.out]
      have B2 := Lib.hid (below_join B1.out hb2)
      clear ho2 hb2
      have hmk : ∀ W : World, (Instr.makeSlice 44 (.int .i64 ((m : Int) + 1)) (.int .i64 ((m : Int) + 1))).run Try.prog W = .ok (.slice (some ⟨W.heap.size, 0, none⟩) (m + 1) (m + 1)) (W.alloc (.cells (zerosI (m + 1)) 3)) := fun W => run_makeI (m + 1) (by omega) W
      go_upto_block 0 with fail
      have HN0 := Lib.hid (ninv_start w2 (m + 1) (by unfold maxLen; omega))
      generalize w2.alloc (.cells (zerosI (m + 1)) 3) = w3 at HN0 ⊢
      obtain ⟨g0, hg0⟩ : ∃ g0, w2.heap.size = g0 := ⟨_, rfl⟩
      rw [hg0] at HN0 ⊢
      clear hg0
      go_cut [8] from 42 to 96 (fun y wx => ∃ g, y = .slice (some ⟨g, 0, none⟩) (m + 1) (m + 1) ∧ wx.cell? ⟨g, m, none⟩ = some (.int .i64 (z : Int)) ∧ Below w2.heap.size w2 wx)
      case first =>
        go_wp2_with fail
        go_loopw [8, 9] (fun bv iv wr => ∃ (i g : Nat), i ≤ n ∧ iv = .int .i64 (i : Int) ∧ bv = .slice (some ⟨g, 0, none⟩) (m + 1) (m + 1) ∧ Hid (∀ j, j ≤ m → wr.cell? ⟨g, j, none⟩ = some (.int .i64 (fwd a b i j : Nat))) ∧ Hid (Below w2.heap.size w2 wr)) (fun _ iv _ => n - (intOf iv).toNat)
        case atStart =>
          refine ⟨0, g0, Nat.zero_le _, rfl, rfl, fun j hj => ?_, HN0.out.below⟩
          rw [HN0.out.own.cellAt j (by omega), zerosI_get _ _ (by omega), fwd_zero']
          rfl
        case round =>
          obtain ⟨i, g, hi, rfl, rfl, HG, HB⟩ := hrel
          by_cases hlt : i < n
          · have hka : i < a.length := by have := Hn.out; omega
            have ki1 : (i : Int) < (n : Int) := by omega
            have ki0 : (0 : Int) ≤ (i : Int) := by omega
            obtain ⟨wo, rfl⟩ : ∃ wo : World, wo = wr := ⟨_, rfl⟩
            have HNN := Lib.hid (ninv_start wo (m + 1) (by unfold maxLen; omega))
            go_upto_block 2 with fail
            generalize wo.alloc (.cells (zerosI (m + 1)) 3) = wn at HNN ⊢
            obtain ⟨gn, hgn⟩ : ∃ gn, wo.heap.size = gn := ⟨_, rfl⟩
            rw [hgn] at HNN ⊢
            clear hgn
            go_wp2_with fail
            go_loopw [11] (fun jv wq => ∃ (j : Nat) (ys : List Value), j ≤ m ∧ jv = .int .i64 (j : Int) ∧ Hid (∀ j', j' ≤ j → ys[j']? = some (.int .i64 (fwd a b (i + 1) j' : Nat))) ∧ Hid (NInv wo wq gn (m + 1) ys)) (fun jv _ => m - (intOf jv).toNat)
            case atStart =>
              refine ⟨0, _, Nat.zero_le _, rfl, fun j hj => ?_, HNN⟩
              obtain rfl : j = 0 := by omega
              rw [zerosI_get _ _ (by omega), fwd_zero]
              rfl
            case round =>
              clear HNN
              obtain ⟨j, ys, hj, rfl, HY, HN1⟩ := hrel
              by_cases hjl : j < m
              · have hkb : j < b.length := by have := Hm.out; omega
                have HF := Lib.hid (fwd_step a b i j hka hkb)
                have hyl : ys.length = m + 1 := by have := HN1.out.own.1; simpa using this
                have x1 : wr.cell? ⟨gn, j, none⟩ = some (.int .i64 (fwd a b (i + 1) j : Nat)) := (HN1.out.own.cellAt j (by omega)).trans (HY.out j (Nat.le_refl _))
                have y1 : wr.cell? ⟨g, j + 1, none⟩ = some (.int .i64 (fwd a b i (j + 1) : Nat)) := cell_kept HN1.out.below (HG.out (j + 1) (by omega))
                have d1 : wr.cell? ⟨g, j, none⟩ = some (.int .i64 (fwd a b i j : Nat)) := cell_kept HN1.out.below (HG.out j (by omega))
                obtain ⟨old, hold⟩ : ∃ old, ys[j + 1]? = some old := ⟨_, List.getElem?_eq_getElem (by omega)⟩
                have o1 : wr.cell? ⟨gn, j + 1, none⟩ = some old := (HN1.out.own.cellAt (j + 1) (by omega)).trans hold
                have z1 := own_frozen HN1.out.own (j + 1)
                have lx := fwd_le a b (i + 1) j
                have ly := fwd_le a b i (j + 1)
                have ld := fwd_le a b i j
                rw [Hn.out] at lx ly ld
                obtain ⟨X, hX⟩ : ∃ X, fwd a b (i + 1) j = X := ⟨_, rfl⟩
                obtain ⟨Y, hY⟩ : ∃ Y, fwd a b i (j + 1) = Y := ⟨_, rfl⟩
                obtain ⟨D, hD⟩ : ∃ D, fwd a b i j = D := ⟨_, rfl⟩
                rw [hX] at x1 lx HF
                rw [hY] at y1 ly HF
                rw [hD] at d1 ld HF
                have HDD := Lib.hid hD
                clear hX hY hD hold
                have kj0 : (0 : Int) ≤ (j : Int) := by omega
                have kj1 : (j : Int) < (m : Int) := by omega
                have kj2 : (j : Int) + 1 < (m : Int) + 1 := by omega
                have kj3 : (j : Int) < (m : Int) + 1 := by omega
                have kj4 : ((j : Int) + 1).toNat = j + 1 := by omega
                have HGn : Hid (g < wo.heap.size ∧ wo.heap.size ≤ gn) := by
                  refine ⟨World.block_lt_of_cell? _ _ (HG.out 0 (by omega)), (HN1.out.own.lt gn rfl).1⟩
                go_upto_region 14 with fail
                go_cut [11] from 52 to 95 (fun y wx => y = .int .i64 (j : Int) ∧ ∃ q, wx = (wr.drewN q).setCell ⟨gn, j + 1, none⟩ (.int .i64 ((max X Y : Nat) : Int)))
                case first =>
                  have x2 : wr.drew.cell? ⟨gn, j, none⟩ = some (.int .i64 (X : Int)) := x1
                  have y2 : wr.drew.cell? ⟨g, j + 1, none⟩ = some (.int .i64 (Y : Int)) := y1
                  have o2 : wr.drew.cell? ⟨gn, j + 1, none⟩ = some old := o1
                  have z2 : wr.drew.frozen? ⟨gn, j + 1, none⟩ = false := z1
                  by_cases hxy : X < Y
                  · have h1 : (X : Int) < (Y : Int) := by omega
                    have HE : Hid (max X Y = Y) := by show _ = _; omega
                    clear hxy
                    go_region
                    all_goals
                      go_wp2_with fail
                      go_meet
                      refine ⟨rfl, 1, ?_⟩
                      rw [HE.out]
                      rfl
                  · have h1 : ¬ ((X : Int) < (Y : Int)) := by omega
                    have HE : Hid (max X Y = X) := by show _ = _; omega
                    clear hxy
                    go_region
                    all_goals
                      go_wp2_with fail
                      go_meet
                      refine ⟨rfl, 1, ?_⟩
                      rw [HE.out]
                      rfl
                case rest =>
                  obtain ⟨rfl, q, hwx⟩ := hcut
                  have HN2 := Lib.hid ((HN1.out.drew q).set (j + 1) (.int .i64 ((max X Y : Nat) : Int)))
                  rw [← hwx] at HN2
                  clear hwx x1 y1 d1 o1 z1
                  have HY2 : Hid (∀ j', j' ≤ j → (ys.set (j + 1) (.int .i64 ((max X Y : Nat) : Int)))[j']? = some (.int .i64 (fwd a b (i + 1) j' : Nat))) := by
                    intro j' hj'
                    rw [List.getElem?_set_ne (by omega)]
                    exact HY.out j' hj'
                  obtain ⟨M, hM⟩ : ∃ M, max X Y = M := ⟨_, rfl⟩
                  have lM : M ≤ n := by omega
                  rw [hM] at HN2 HY2 HF
                  clear hM lx ly
                  have BO := Lib.hid (below_join B2.out HB.out)
                  obtain rfl := Huo.out (by omega)
                  obtain rfl := Hvo.out (by omega)
                  have c1 := cell_kept HN2.out.below (cell_kept BO.out (Hcu.out i hka))
                  have c2 := cell_kept HN2.out.below (cell_kept BO.out (Hcv.out j hkb))
                  have m1 : wc.cell? ⟨gn, j + 1, none⟩ = some (.int .i64 (M : Int)) := by
                    rw [HN2.out.own.cellAt (j + 1) (by omega), List.getElem?_set_self (by omega)]
                  have d1 : wc.cell? ⟨g, j, none⟩ = some (.int .i64 (D : Int)) := by
                    have h := cell_kept HN2.out.below (HG.out j (by omega))
                    have hD : fwd a b i j = D := HDD.out
                    rwa [hD] at h
                  have z1 := own_frozen HN2.out.own (j + 1)
                  obtain ⟨x, hx⟩ : ∃ x, a[i]'hka = x := ⟨_, rfl⟩
                  obtain ⟨y, hy⟩ : ∃ y, b[j]'hkb = y := ⟨_, rfl⟩
                  rw [hx] at c1 HF
                  rw [hy] at c2 HF
                  clear hx hy
                  by_cases hxy : x = y
                  · have hq := bytes_beq hxy
                    have HF2 : Hid (fwd a b (i + 1) (j + 1) = max M (D + 1)) := by show _ = _; rw [HF.out, if_pos hxy]
                    clear hxy
                    go_wp2_with fail
                    go_quiet (fail)
                    go_upto_region 16 with fail
                    have HN3 := Lib.hid (HN2.out.drew nq)
                    have m1 : (wc.drewN nq).cell? ⟨gn, j + 1, none⟩ = some (.int .i64 (M : Int)) := m1
                    have d1 : (wc.drewN nq).cell? ⟨g, j, none⟩ = some (.int .i64 (D : Int)) := d1
                    have z1 : (wc.drewN nq).frozen? ⟨gn, j + 1, none⟩ = false := z1
                    generalize wc.drewN nq = wd at HN3 m1 d1 z1 ⊢
                    have m2 : wd.drew.cell? ⟨gn, j + 1, none⟩ = some (.int .i64 (M : Int)) := m1
                    have d2 : wd.drew.cell? ⟨g, j, none⟩ = some (.int .i64 (D : Int)) := d1
                    have z2 : wd.drew.frozen? ⟨gn, j + 1, none⟩ = false := z1
                    by_cases hmd : M < D + 1
                    · have h1 : (M : Int) < (D : Int) + 1 := by omega
                      have HE : Hid (max M (D + 1) = D + 1) := by show _ = _; omega
                      have HN4 := Lib.hid ((HN3.out.drew 1).set (j + 1) (.int .i64 ((D : Int) + 1)))
                      clear hmd
                      go_region
                      all_goals
                        go_wp2_with fail
                        go_roundw
                        case rel =>
                          refine ⟨j + 1, _, by omega, by go_num, fun j' hj' => ?_, HN4⟩
                          by_cases e : j' = j + 1
                          · subst e
                            rw [List.getElem?_set_self (by rw [List.length_set]; omega), HF2.out, HE.out]
                            try rfl
                          · rw [List.getElem?_set_ne (fun h => e h.symm)]
                            exact HY2.out j' (by omega)
                        case measure => simp [intOf]; omega
                    · have h1 : ¬ ((M : Int) < (D : Int) + 1) := by omega
                      have HE : Hid (max M (D + 1) = M) := by show _ = _; omega
                      have HN4 := Lib.hid ((HN3.out.drew 1).set (j + 1) (.int .i64 (M : Int)))
                      clear hmd
                      go_region
                      all_goals
                        go_wp2_with fail
                        go_roundw
                        case rel =>
                          refine ⟨j + 1, _, by omega, by go_num, fun j' hj' => ?_, HN4⟩
                          by_cases e : j' = j + 1
                          · subst e
                            rw [List.getElem?_set_self (by rw [List.length_set]; omega), HF2.out, HE.out]
                            try rfl
                          · rw [List.getElem?_set_ne (fun h => e h.symm)]
                            exact HY2.out j' (by omega)
                        case measure => simp [intOf]; omega
                  · have hq := bytes_bne hxy
                    have HF2 : Hid (fwd a b (i + 1) (j + 1) = M) := by show _ = _; rw [HF.out, if_neg hxy]
                    clear hxy
                    go_wp2_with fail
                    go_quiet (fail)
                    go_wp2_with fail
                    go_roundw
                    case rel =>
                      refine ⟨j + 1, _, by omega, by go_num, fun j' hj' => ?_, HN2.out.drew _⟩
                      by_cases e : j' = j + 1
                      · subst e
                        rw [List.getElem?_set_self (by omega), HF2.out]
                      · exact HY2.out j' (by omega)
                    case measure => simp [intOf]; omega
              · obtain rfl : j = m := by omega
                go_wp2_with fail
                go_roundw
                case rel => exact ⟨i + 1, gn, by omega, by go_num, rfl, fun j' hj' => (HN1.out.own.cellAt j' (by omega)).trans (HY.out j' hj'), HB.out.trans (HN1.out.below.mono HB.out.size)⟩
                case measure => simp [intOf]; omega
          · obtain rfl : i = n := by omega
            have h := HG.out m (Nat.le_refl _)
            rw [fwd_all a b i m (by rw [Hn.out]; exact Nat.le_refl _) (by rw [Hm.out]; exact Nat.le_refl _), HZ.out] at h
            have h := Lib.hid h
            go_wp2_with fail
            go_meet
            exact ⟨g, rfl, h.out, HB.out⟩
      case rest =>
        obtain ⟨g, rfl, hcz, hb4⟩ := hcut
        have HCZ := Lib.hid hcz
        have B4 := Lib.hid (below_join B2.out hb4)
        clear hcz hb4 HN0 hmk
        obtain ⟨w4, rfl⟩ : ∃ w4 : World, w4 = wc := ⟨_, rfl⟩
        go_upto_block 4 with fail
        go_cut [12] from 100 to 110 (fun y wx => OwnT wx w4.heap.size y a.reverse ∧ Below w4.heap.size w4 wx)
        case first =>
          go_wp2_with fail
          go_loopw [12, 14] (fun xv iv wr => ∃ k : Nat, k ≤ n ∧ iv = .int .i64 ((k : Int) - 1) ∧ Hid (OwnT wr w4.heap.size xv ((a.drop k).reverse)) ∧ Hid (Below w4.heap.size w4 wr)) (fun _ iv _ => (intOf iv + 1).toNat)
          case atStart => exact ⟨n, Nat.le_refl _, rfl, by show OwnT _ _ _ _; rw [List.drop_eq_nil_of_le (by rw [Hn.out]; exact Nat.le_refl _)]; exact ownT_nil _ _, Below.refl _ _⟩
          case round =>
            obtain ⟨K, hk, rfl, HO, HB5⟩ := hrel
            by_cases hK0 : 0 < K
            · obtain ⟨k, rfl⟩ : ∃ k, K = k + 1 := ⟨K - 1, by omega⟩
              have ek : (((k + 1 : Nat) : Int)) - 1 = (k : Int) := by omega
              rw [ek]
              have hkl : k < a.length := by have := Hn.out; omega
              have ki0 : (0 : Int) ≤ (k : Int) := by omega
              have ki1 : (k : Int) < (n : Int) := by omega
              obtain rfl := Huo.out (by omega)
              have c1 := cell_kept HB5.out (cell_kept B4.out (Hcu.out k hkl))
              have HD : Hid ((a.drop k).reverse = (a.drop (k + 1)).reverse ++ [a[k]'hkl]) := by show _ = _; rw [List.drop_eq_getElem_cons hkl, List.reverse_cons]
              obtain ⟨x, hx⟩ : ∃ x, a[k]'hkl = x := ⟨_, rfl⟩
              rw [hx] at c1 HD
              have hlen : (((a.drop (k + 1)).reverse).length + 1) * 16 ≤ 140737488355328 := by have := Hn.out; rw [List.length_reverse, List.length_drop]; omega
              clear hx
              go_wp2_with (at_builtin; refine wpList_append_one rfl _ _ rfl w4.heap.size u12 _ x rfl HO.out _ wr.heap.size rfl rfl hlen HB5.out.size ?_)
              intro v' w' ho' hb'
              have HO' := Lib.hid ho'
              have HB' := Lib.hid (HB5.out.trans hb')
              clear ho' hb'
              go_wp2_with fail
              go_roundw
              case rel =>
                refine ⟨k, by omega, rfl, ?_, HB'⟩
                show OwnT _ _ _ _
                rw [HD.out]
                exact HO'.out
              case measure => simp [intOf]
            · obtain rfl : K = 0 := by omega
              rw [List.drop_zero] at HO
              go_wp2_with fail
              go_meet
              exact ⟨HO.out, HB5.out⟩
        case rest =>
          obtain ⟨hox, hb5⟩ := hcut
          have HOX := Lib.hid hox
          have B5 := Lib.hid (below_join B4.out hb5)
          have HCZ5 := Lib.hid (cell_kept hb5 HCZ.out)
          obtain ⟨xo, xc, hxv⟩ := hox.texts.lenForm
          subst hxv
          rw [List.length_reverse, Hn.out] at HOX ⊢
          clear hox hb5
          obtain ⟨w5, rfl⟩ : ∃ w5 : World, w5 = wc := ⟨_, rfl⟩
          go_upto_block 6 with fail
          go_cut [13] from 114 to 124 (fun y wx => OwnT wx w5.heap.size y b.reverse ∧ Below w5.heap.size w5 wx)
          case first =>
            go_wp2_with fail
            go_loopw [13, 15] (fun xv iv wr => ∃ k : Nat, k ≤ m ∧ iv = .int .i64 ((k : Int) - 1) ∧ Hid (OwnT wr w5.heap.size xv ((b.drop k).reverse)) ∧ Hid (Below w5.heap.size w5 wr)) (fun _ iv _ => (intOf iv + 1).toNat)
            case atStart => exact ⟨m, Nat.le_refl _, rfl, by show OwnT _ _ _ _; rw [List.drop_eq_nil_of_le (by rw [Hm.out]; exact Nat.le_refl _)]; exact ownT_nil _ _, Below.refl _ _⟩
            case round =>
              obtain ⟨K, hk, rfl, HO, HB5⟩ := hrel
              by_cases hK0 : 0 < K
              · obtain ⟨k, rfl⟩ : ∃ k, K = k + 1 := ⟨K - 1, by omega⟩
                have ek : (((k + 1 : Nat) : Int)) - 1 = (k : Int) := by omega
                rw [ek]
                have hkl : k < b.length := by have := Hm.out; omega
                have ki0 : (0 : Int) ≤ (k : Int) := by omega
                have ki1 : (k : Int) < (m : Int) := by omega
                obtain rfl := Hvo.out (by omega)
                have c1 := cell_kept HB5.out (cell_kept B5.out (Hcv.out k hkl))
                have HD : Hid ((b.drop k).reverse = (b.drop (k + 1)).reverse ++ [b[k]'hkl]) := by show _ = _; rw [List.drop_eq_getElem_cons hkl, List.reverse_cons]
                obtain ⟨x, hx⟩ : ∃ x, b[k]'hkl = x := ⟨_, rfl⟩
                rw [hx] at c1 HD
                have hlen : (((b.drop (k + 1)).reverse).length + 1) * 16 ≤ 140737488355328 := by have := Hm.out; rw [List.length_reverse, List.length_drop]; omega
                clear hx
                go_wp2_with (at_builtin; refine wpList_append_one rfl _ _ rfl w5.heap.size u13 _ x rfl HO.out _ wr.heap.size rfl rfl hlen HB5.out.size ?_)
                intro v' w' ho' hb'
                have HO' := Lib.hid ho'
                have HB' := Lib.hid (HB5.out.trans hb')
                clear ho' hb'
                go_wp2_with fail
                go_roundw
                case rel =>
                  refine ⟨k, by omega, rfl, ?_, HB'⟩
                  show OwnT _ _ _ _
                  rw [HD.out]
                  exact HO'.out
                case measure => simp [intOf]
              · obtain rfl : K = 0 := by omega
                rw [List.drop_zero] at HO
                go_wp2_with fail
                go_meet
                exact ⟨HO.out, HB5.out⟩
          case rest =>
            obtain ⟨hoy, hb6⟩ := hcut
            have HOY := Lib.hid hoy
            have HOX6 := Lib.hid (HOX.out.below hb6)
            have B6 := Lib.hid (below_join B5.out hb6)
            have HCZ6 := Lib.hid (cell_kept hb6 HCZ5.out)
            obtain ⟨yo, yc, hyv⟩ := hoy.texts.lenForm
            subst hyv
            rw [List.length_reverse, Hm.out] at HOY ⊢
            clear hoy hb6
            obtain ⟨w6, rfl⟩ : ∃ w6 : World, w6 = wc := ⟨_, rfl⟩
            go_upto_block 8 with fail
            go_cut [18] from 125 to 185 (fun y wx => (∃ f : Nat, f ≤ z ∧ y = .int .i64 (f : Int)) ∧ Below w6.heap.size w6 wx)
            case first =>
              go_wp2_with fail
              go_loopw [16, 17, 18, 19] (fun iv jv fv kv wr => ∃ (I J f k : Nat), iv = .int .i64 ((I : Int) - 1) ∧ jv = .int .i64 ((J : Int) - 1) ∧ fv = .int .i64 (f : Int) ∧ kv = .int .i64 (k : Int) ∧ k ≤ np + 1 ∧ I ≤ n ∧ J ≤ m ∧ Hid (Found a b I J f) ∧ Hid (Below w6.heap.size w6 wr)) (fun _ _ _ kv _ => np + 4 - (intOf kv).toNat)
              case atStart => exact ⟨0, 0, 0, 0, rfl, rfl, rfl, rfl, by omega, by omega, by omega, found_zero a b, Below.refl _ _⟩
              case round =>
                obtain ⟨I, J, f, k, rfl, rfl, rfl, rfl, hk, hI, hJ, HF, HB⟩ := hrel
                have hfz := HF.out.le
                rw [HZ.out] at hfz
                by_cases hcond : k + 1 < np ∧ 0 < n ∧ 0 < m
                · obtain ⟨hk1, hn1, hm1⟩ := hcond
                  have kk1 : (k : Int) + 1 < (np : Int) := by omega
                  have kn1 : (0 : Int) < (n : Int) := by omega
                  have km1 : (0 : Int) < (m : Int) := by omega
                  have hka : k < ps.length := by have := Hnp.out; omega
                  have hkb : k + 1 < ps.length := by have := Hnp.out; omega
                  obtain rfl := Hpo.out (by omega)
                  have c1 := cell_kept HB.out (cell_kept B6.out (Hpc.out k hka))
                  have c2 := cell_kept HB.out (cell_kept B6.out (Hpc.out (k + 1) hkb))
                  have r1 := Hps.out _ (List.getElem_mem hka)
                  have r2 := Hps.out _ (List.getElem_mem hkb)
                  obtain ⟨P, hP⟩ : ∃ P, ps[k]'hka = P := ⟨_, rfl⟩
                  obtain ⟨Q, hQ⟩ : ∃ Q, ps[k + 1]'hkb = Q := ⟨_, rfl⟩
                  rw [hP] at c1 r1
                  rw [hQ] at c2 r2
                  clear hP hQ
                  have ki0 : (0 : Int) ≤ (k : Int) := by omega
                  have ki1 : (k : Int) < (np : Int) := by omega
                  obtain ⟨c, hcn, hc⟩ := pick_mod P n hn1 hn100
                  obtain ⟨d, hdm, hd⟩ := pick_mod Q m hm1 hm100
                  have hca : c < a.length := by have := Hn.out; omega
                  have hdb : d < b.length := by have := Hm.out; omega
                  obtain rfl := Huo.out (by omega)
                  obtain rfl := Hvo.out (by omega)
                  have e1 := cell_kept HB.out (cell_kept B6.out (Hcu.out c hca))
                  have e2 := cell_kept HB.out (cell_kept B6.out (Hcv.out d hdb))
                  obtain ⟨x, hx⟩ : ∃ x, a[c]'hca = x := ⟨_, rfl⟩
                  obtain ⟨y, hy⟩ : ∃ y, b[d]'hdb = y := ⟨_, rfl⟩
                  have Hx := Lib.hid hx
                  have Hy := Lib.hid hy
                  rw [hx] at e1
                  rw [hy] at e2
                  have kc0 : (0 : Int) ≤ (c : Int) := by omega
                  have kc1 : (c : Int) < (n : Int) := by omega
                  have kd0 : (0 : Int) ≤ (d : Int) := by omega
                  have kd1 : (d : Int) < (m : Int) := by omega
                  have kt : ((k : Int) + 1).toNat = k + 1 := by omega
                  clear hx hy
                  by_cases h1 : I ≤ c
                  · have g1 : (I : Int) - 1 < (c : Int) := by omega
                    by_cases h2 : J ≤ d
                    · have g2 : (J : Int) - 1 < (d : Int) := by omega
                      by_cases hxy : x = y
                      · have hq := bytes_beq hxy
                        have HF2 := Lib.hid (HF.out.step h1 h2 hca hdb (by rw [Hx.out, Hy.out, hxy]))
                        clear hxy
                        go_wp2_with fail
                        go_quiet (fail)
                        go_wp2_with fail
                        go_roundw
                        case rel => exact ⟨c + 1, d + 1, f + 1, k + 2, by congr 1; omega, by congr 1; omega, by go_num, by go_num, by omega, by omega, by omega, HF2, below_drewN HB.out _⟩
                        case measure => simp [intOf]; omega
                      · have hq := bytes_bne hxy
                        clear hxy
                        go_wp2_with fail
                        go_quiet (fail)
                        go_wp2_with fail
                        go_roundw
                        case rel => exact ⟨I, J, f, k + 2, rfl, rfl, rfl, by go_num, by omega, hI, hJ, HF, below_drewN HB.out _⟩
                        case measure => simp [intOf]; omega
                    · have g2 : ¬ ((J : Int) - 1 < (d : Int)) := by omega
                      have g3 : decide ((J : Int) - 1 < (d : Int)) = false := by simp; omega
                      have g4 : decide ((I : Int) - 1 < (c : Int)) = true := by simp; omega
                      clear h2
                      go_wp2_with fail
                      go_quiet (fail)
                      go_wp2_with fail
                      go_roundw
                      case rel => exact ⟨I, J, f, k + 2, rfl, rfl, rfl, by go_num, by omega, hI, hJ, HF, below_drewN HB.out _⟩
                      case measure => simp [intOf]; omega
                  · have g1 : ¬ ((I : Int) - 1 < (c : Int)) := by omega
                    have g3 : decide ((I : Int) - 1 < (c : Int)) = false := by simp; omega
                    clear h1
                    go_wp2_with fail
                    go_quiet (fail)
                    go_wp2_with fail
                    go_roundw
                    case rel => exact ⟨I, J, f, k + 2, rfl, rfl, rfl, by go_num, by omega, hI, hJ, HF, below_drewN HB.out _⟩
                    case measure => simp [intOf]; omega
                · by_cases q1 : k + 1 < np
                  · have q1' : (k : Int) + 1 < (np : Int) := by omega
                    by_cases q2 : 0 < n
                    · have q2' : (0 : Int) < (n : Int) := by omega
                      have q3' : ¬ ((0 : Int) < (m : Int)) := by omega
                      clear hcond q1 q2
                      go_wp2_with fail
                      go_meet
                      exact ⟨⟨f, hfz, rfl⟩, HB.out⟩
                    · have q2' : ¬ ((0 : Int) < (n : Int)) := by omega
                      clear hcond q1 q2
                      go_wp2_with fail
                      go_meet
                      exact ⟨⟨f, hfz, rfl⟩, HB.out⟩
                  · have q1' : ¬ ((k : Int) + 1 < (np : Int)) := by omega
                    clear hcond q1
                    go_wp2_with fail
                    go_meet
                    exact ⟨⟨f, hfz, rfl⟩, HB.out⟩
            case rest =>
              obtain ⟨⟨f, hfz, rfl⟩, hb7⟩ := hcut
              have B7 := Lib.hid (below_join B6.out hb7)
              have HB7 := Lib.hid hb7
              have cz := cell_kept hb7 HCZ6.out
              clear hb7
              obtain ⟨w7, rfl⟩ : ∃ w7 : World, w7 = wc := ⟨_, rfl⟩
              have km0 : (0 : Int) ≤ (m : Int) := by omega
              have km1 : (m : Int) < (m : Int) + 1 := by omega
              have kf : (f : Int) ≤ (z : Int) := by omega
              go_wp2_with fail
              refine (common_any _ _ a.reverse b.reverse w7 (HOX6.out.texts.kept HB7.out) (HOY.out.texts.kept HB7.out) (by rw [List.length_reverse, Hn.out]; omega) (by rw [List.length_reverse, Hm.out]; omega)).mono ?_
              rintro e w8 ⟨p8, rfl, ho8, hb8⟩
              obtain ⟨_, _, hp8⟩ : ∃ qo qc, p8 = .slice qo (commonL a.reverse b.reverse).length qc := by obtain ⟨qo, qc, _, h, _⟩ := ho8.form; exact ⟨qo, qc, h⟩
              subst hp8
              rw [HC3.out]
              have B8 := Lib.hid (below_join B7.out hb8)
              clear ho8 hb8
              go_wp2_with fail
              refine (common_any _ _ b a w8 (Hv.out.kept B8.out) (Hu.out.kept B8.out) (by rw [Hm.out]; omega) (by rw [Hn.out]; omega)).mono ?_
              rintro e w9 ⟨p9, rfl, ho9, hb9⟩
              obtain ⟨_, _, hp9⟩ : ∃ qo qc, p9 = .slice qo (commonL b a).length qc := by obtain ⟨qo, qc, _, h, _⟩ := ho9.form; exact ⟨qo, qc, h⟩
              subst hp9
              rw [HC2.out]
              have B9 := Lib.hid (below_join B8.out hb9)
              clear ho9 hb9
              go_wp2_with fail
              go_ret
              exact ⟨by simp, B9.out⟩
end Go.Proofs.Ytncamoafdimpcaa
