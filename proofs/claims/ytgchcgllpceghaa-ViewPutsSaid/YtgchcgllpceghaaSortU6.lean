/- Own work: slices.Sort at labels, part 6: a few steps of insertion. -/
import Derived.Test.YtgchcgllpceghaaSortU4
import Derived.Sort.WalkA6
namespace Go.Proofs.Ytgchcgllpceghaa
open Go.RowKit Go.Shelf Go.Sort

set_option maxHeartbeats 64000000 in
set_option maxRecDepth 1000000 in
theorem partU_any (g o cap a b : Nat) (d : Array Int) (w : World) (hH : Holds (Value.int .u64) w g o d) (hab : a < b) (hb : b ≤ d.size) (hn : d.size < 4611686018427387904) :
    Calls Try.prog 65 #[.slice (some ⟨g, o, none⟩) d.size cap, .int .i64 a, .int .i64 b] w fun e w' => e = .returned (.bool (partialInsertionSort ltInt d a b).2) ∧ ∃ q, w' = RowU w g o q (partialInsertionSort ltInt d a b).1 := by
  have Hc := Lib.hid (fun (m : Nat) (c : Array Int) (hs : c.size = d.size) => rowU_cell hH (m := m) hs)
  have Hf := Lib.hid (fun (m : Nat) (c : Array Int) => rowU_open hH (m := m) (c := c))
  have H0 := Lib.hid (putRow_self _ _ _ _ _ hH)
  obtain ⟨R, hR⟩ : ∃ R, partialInsertionSort ltInt d a b = R := ⟨_, rfl⟩
  have HR := Lib.hid hR
  rw [hR]
  clear hH hR
  go_enter Try.func65, Try.ntmps65
  go_wp2
  go_loopw [7, 8] (fun u v wr => ∃ (i s q : Nat) (c : Array Int), u = .int .i64 i ∧ v = .int .i64 s ∧ a < i ∧ i ≤ b ∧ s ≤ 5 ∧ c.size = d.size ∧ Hid (wr = RowU w g o q c) ∧ Hid (partialIns ltInt a b (5 - s) i c = R)) (fun _ v _ => 5 - (intOf v).toNat)
  case atStart => exact ⟨a + 1, 0, 0, d, by go_num, rfl, by omega, by omega, by omega, rfl, H0.out.symm, HR.out⟩
  case round =>
    obtain ⟨i, s, q, c, rfl, rfl, hai, hib, hs5, hsc, HW0, HP⟩ := hrel
    by_cases hs : s < 5
    · have hsz : (s : Int) < 5 := by omega
      go_wp2
      go_loopw [7] (fun u wr => ∃ (k q : Nat), u = .int .i64 k ∧ i ≤ k ∧ k ≤ b ∧ Hid (wr = RowU w g o q c) ∧ Hid (scanSorted ltInt c b k = scanSorted ltInt c b i)) (fun u _ => b - (intOf u).toNat)
      case atStart => exact ⟨i, q, rfl, Nat.le_refl _, hib, HW0, rfl⟩
      case round =>
        obtain ⟨k, q, rfl, hik, hkb, HW, HK⟩ := hrel
        obtain ⟨G, hG⟩ : ∃ G : Nat → Int, ∀ t, G t = c[t]! := ⟨fun t => c[t]!, fun _ => rfl⟩
        have hcw : ∀ t, t < d.size → wr.cell? ⟨g, o + t, none⟩ = some (.int .u64 (G t)) := fun t ht => by rw [HW.out, hG]; exact Hc.out _ _ hsc t ht
        have hfw : ∀ t, t < d.size → wr.frozen? ⟨g, o + t, none⟩ = false := fun t ht => by rw [HW.out]; exact Hf.out _ _ t ht
        have HG := Lib.hid hG
        clear hG
        go_wp2
        by_cases hlt : k < b
        · have e1 : ((k : Int) == (b : Int)) = false := beq_eq_false_iff_ne.2 (by omega)
          go_quiet (first | (go_at_call 66; refine Calls.quiet_of_same (lessU_any _ _ _)))
          go_wp2
          · have hl : ltInt (G k) (G (k - 1)) = false := by
              have h : (!ltInt (G k) (G (k - 1))) = true := by assumption
              simpa using h
            rw [HG.out, HG.out] at hl
            go_roundw
            case rel => exact ⟨k + 1, q + nq, by go_num, by omega, by omega, rowU_on HW.out nq, by show _ = _; rw [← HK.out, ← scanSorted_go ltInt c b k hlt hl]⟩
            case measure => simp [intOf]; omega
          · have hl : ltInt (G k) (G (k - 1)) = true := by
              have h : (!ltInt (G k) (G (k - 1))) = false := by assumption
              simpa using h
            rw [HG.out, HG.out] at hl
            have HK2 := Lib.hid (show scanSorted ltInt c b i = k by rw [← HK.out, scanSorted_stop ltInt c b k (.inr hl)])
            go_ret
            rw [← HP.out, pi_short ltInt a b s i c hs (by rw [HK2.out]; omega) (by omega)]
            exact ⟨rfl, q + nq, rowU_on HW.out nq⟩
          · have hl : ltInt (G k) (G (k - 1)) = true := by
              have h : (!ltInt (G k) (G (k - 1))) = false := by assumption
              simpa using h
            have h50 : ¬ b - a < 50 := by omega
            revert nq; intro nq2
            have HW2 := Lib.hid (rowU_on HW.out nq2)
            have hcx : ∀ t, t < d.size → (wr.drewN nq2).cell? ⟨g, o + t, none⟩ = some (.int .u64 (G t)) := hcw
            have hfx : ∀ t, t < d.size → (wr.drewN nq2).frozen? ⟨g, o + t, none⟩ = false := hfw
            clear hcw hfw HW
            generalize wr.drewN nq2 = wr2 at hcx hfx HW2 ⊢
            rw [HG.out, HG.out] at hl
            have HK2 := Lib.hid (show scanSorted ltInt c b i = k by rw [← HK.out, scanSorted_stop ltInt c b k (.inr hl)])
            go_region
            have HW3 := Lib.hid (swap_world (Value.int .u64) (i := k) (j := k - 1) (by omega) (by omega) HW2.out (x := .int .u64 (G (k - 1))) (y := .int .u64 (G k)) (by rw [HG.out]) (by rw [HG.out]))
            generalize ((wr2.setCell ⟨g, o + k, none⟩ (.int .u64 (G (k - 1)))).setCell ⟨g, o + (k - 1), none⟩ (.int .u64 (G k))).drew = wr3 at HW3 ⊢
            clear hcx hfx HW2 HG
            obtain ⟨c3, hc3⟩ : ∃ c3, swp c k (k - 1) = c3 := ⟨_, rfl⟩
            have hs3 : c3.size = d.size := by rw [← hc3, size_swp]; exact hsc
            rw [hc3] at HW3
            have HC3 := Lib.hid hc3
            clear hc3
            by_cases hu : b - k ≥ 2
            · have hu2 : (2 : Int) ≤ (b : Int) - (k : Int) := by omega
              by_cases hd : k - a ≥ 2
              · have hd2 : (2 : Int) ≤ (k : Int) - (a : Int) := by omega
                have HD0 := Lib.hid (show shiftDown ltInt (k - 1) c3 = fixDown ltInt a k (swp c k (k - 1)) by rw [fixDown, if_pos hd, HC3.out])
                go_wp2
                go_loopw [9] (fun u wr => ∃ (j q : Nat) (e : Array Int), u = .int .i64 j ∧ j ≤ k - 1 ∧ e.size = d.size ∧ Hid (wr = RowU w g o q e) ∧ Hid (shiftDown ltInt j e = fixDown ltInt a k (swp c k (k - 1)))) (fun u _ => (intOf u).toNat)
                case atStart => exact ⟨k - 1, _, c3, by go_num, Nat.le_refl _, hs3, HW3, HD0.out⟩
                case round =>
                  obtain ⟨j, q4, e, rfl, hjk, hse, HWe, HD⟩ := hrel
                  by_cases hj1 : 1 ≤ j
                  · have hjz : (1 : Int) ≤ (j : Int) := by omega
                    obtain ⟨G, hG⟩ : ∃ G : Nat → Int, ∀ t, G t = e[t]! := ⟨fun t => e[t]!, fun _ => rfl⟩
                    have hcw : ∀ t, t < d.size → wr.cell? ⟨g, o + t, none⟩ = some (.int .u64 (G t)) := fun t ht => by rw [HWe.out, hG]; exact Hc.out _ _ hse t ht
                    have hfw : ∀ t, t < d.size → wr.frozen? ⟨g, o + t, none⟩ = false := fun t ht => by rw [HWe.out]; exact Hf.out _ _ t ht
                    have HG := Lib.hid hG
                    clear hG
                    go_wp2
                    go_quiet (first | (go_at_call 66; refine Calls.quiet_of_same (lessU_any _ _ _)))
                    go_wp2
                    · have hl : ltInt (G j) (G (j - 1)) = false := by
                        have h : (!ltInt (G j) (G (j - 1))) = true := by assumption
                        simpa using h
                      revert nq; intro nq5
                      have HW5 := Lib.hid (rowU_on HWe.out nq5)
                      have hcx : ∀ t, t < d.size → (wr.drewN nq5).cell? ⟨g, o + t, none⟩ = some (.int .u64 (G t)) := hcw
                      have hfx : ∀ t, t < d.size → (wr.drewN nq5).frozen? ⟨g, o + t, none⟩ = false := hfw
                      clear hcw hfw HWe
                      generalize wr.drewN nq5 = wr5 at hcx hfx HW5 ⊢
                      rw [HG.out, HG.out] at hl
                      have HE0 := Lib.hid (show e = fixDown ltInt a k (swp c k (k - 1)) by rw [← HD.out, shiftDown_stop ltInt j e (.inr hl)])
                      have HWe := HW5
                      clear hcx hfx HG HW5
                      have HU0 := Lib.hid (show shiftUp ltInt b (k + 1) e = fixUp ltInt b k e by rw [fixUp, if_pos hu])
                      (try go_wp2)
                      go_loopw [10] (fun u wr => ∃ (j q : Nat) (f : Array Int), u = .int .i64 j ∧ k + 1 ≤ j ∧ j ≤ b ∧ f.size = d.size ∧ Hid (wr = RowU w g o q f) ∧ Hid (shiftUp ltInt b j f = fixUp ltInt b k e)) (fun u _ => b - (intOf u).toNat)
                      case atStart => exact ⟨k + 1, _, e, by go_num, by omega, by omega, hse, HWe, HU0.out⟩
                      case round =>
                        obtain ⟨j, q5, f, rfl, hj1, hj2, hsf, HWf, HU⟩ := hrel
                        by_cases hjb : j < b
                        · have hjz : (j : Int) < (b : Int) := by omega
                          obtain ⟨G, hG⟩ : ∃ G : Nat → Int, ∀ t, G t = f[t]! := ⟨fun t => f[t]!, fun _ => rfl⟩
                          have hcw : ∀ t, t < d.size → wr.cell? ⟨g, o + t, none⟩ = some (.int .u64 (G t)) := fun t ht => by rw [HWf.out, hG]; exact Hc.out _ _ hsf t ht
                          have hfw : ∀ t, t < d.size → wr.frozen? ⟨g, o + t, none⟩ = false := fun t ht => by rw [HWf.out]; exact Hf.out _ _ t ht
                          have HG := Lib.hid hG
                          clear hG
                          go_wp2
                          go_quiet (first | (go_at_call 66; refine Calls.quiet_of_same (lessU_any _ _ _)))
                          go_wp2
                          · have hl : ltInt (G j) (G (j - 1)) = false := by
                              have h : (!ltInt (G j) (G (j - 1))) = true := by assumption
                              simpa using h
                            rw [HG.out, HG.out] at hl
                            have HF := Lib.hid (show f = fixUp ltInt b k e by rw [← HU.out, shiftUp_stop ltInt b j f (.inr hl)])
                            have HE := Lib.hid (show partialIns ltInt a b (5 - (s + 1)) k f = R by rw [HF.out, HE0.out, ← HP.out, pi_go ltInt a b s i k c hs HK2.out (by omega) h50])
                            go_wp2
                            go_roundw
                            case rel => exact ⟨k, s + 1, _, f, rfl, by go_num, by omega, by omega, by omega, hsf, rowU_on HWf.out nq, HE.out⟩
                            case measure => simp [intOf]; omega
                          · have hl : ltInt (G j) (G (j - 1)) = true := by
                              have h : (!ltInt (G j) (G (j - 1))) = false := by assumption
                              simpa using h
                            revert nq; intro nq6
                            have HW6 := Lib.hid (rowU_on HWf.out nq6)
                            have hcx : ∀ t, t < d.size → (wr.drewN nq6).cell? ⟨g, o + t, none⟩ = some (.int .u64 (G t)) := hcw
                            have hfx : ∀ t, t < d.size → (wr.drewN nq6).frozen? ⟨g, o + t, none⟩ = false := hfw
                            clear hcw hfw HWf
                            generalize wr.drewN nq6 = wr6 at hcx hfx HW6 ⊢
                            rw [HG.out, HG.out] at hl
                            go_region
                            go_wp2
                            go_roundw
                            case rel => exact ⟨j + 1, q5 + nq6 + 1, swp f j (j - 1), by go_num, by omega, by omega, by rw [size_swp]; exact hsf, swap_world (Value.int .u64) (by omega) (by omega) HW6.out (by rw [HG.out]) (by rw [HG.out]), by show _ = _; rw [← HU.out, shiftUp_go ltInt b j f hjb hl]⟩
                            case measure => simp [intOf]; omega
                        · have hjz : ¬ ((j : Int) < (b : Int)) := by omega
                          have HF := Lib.hid (show f = fixUp ltInt b k e by rw [← HU.out, shiftUp_stop ltInt b j f (.inl hjb)])
                          have HE := Lib.hid (show partialIns ltInt a b (5 - (s + 1)) k f = R by rw [HF.out, HE0.out, ← HP.out, pi_go ltInt a b s i k c hs HK2.out (by omega) h50])
                          go_wp2
                          go_roundw
                          case rel => exact ⟨k, s + 1, _, f, rfl, by go_num, by omega, by omega, by omega, hsf, HWf, HE.out⟩
                          case measure => simp [intOf]; omega
                    · have hl : ltInt (G j) (G (j - 1)) = true := by
                        have h : (!ltInt (G j) (G (j - 1))) = false := by assumption
                        simpa using h
                      revert nq; intro nq5
                      have HW5 := Lib.hid (rowU_on HWe.out nq5)
                      have hcx : ∀ t, t < d.size → (wr.drewN nq5).cell? ⟨g, o + t, none⟩ = some (.int .u64 (G t)) := hcw
                      have hfx : ∀ t, t < d.size → (wr.drewN nq5).frozen? ⟨g, o + t, none⟩ = false := hfw
                      clear hcw hfw HWe
                      generalize wr.drewN nq5 = wr5 at hcx hfx HW5 ⊢
                      rw [HG.out, HG.out] at hl
                      go_region
                      go_wp2
                      go_roundw
                      case rel => exact ⟨j - 1, q4 + nq5 + 1, swp e j (j - 1), by go_num, by omega, by rw [size_swp]; exact hse, swap_world (Value.int .u64) (by omega) (by omega) HW5.out (by rw [HG.out]) (by rw [HG.out]), by show _ = _; rw [← HD.out, shiftDown_go ltInt j e hj1 hl]⟩
                      case measure => simp [intOf]; omega
                  · obtain rfl : j = 0 := by omega
                    have HE0 := Lib.hid (show e = fixDown ltInt a k (swp c k (k - 1)) by rw [← HD.out, shiftDown_stop ltInt 0 e (.inl rfl)])
                    (try go_wp2)
                    have HU0 := Lib.hid (show shiftUp ltInt b (k + 1) e = fixUp ltInt b k e by rw [fixUp, if_pos hu])
                    (try go_wp2)
                    go_loopw [10] (fun u wr => ∃ (j q : Nat) (f : Array Int), u = .int .i64 j ∧ k + 1 ≤ j ∧ j ≤ b ∧ f.size = d.size ∧ Hid (wr = RowU w g o q f) ∧ Hid (shiftUp ltInt b j f = fixUp ltInt b k e)) (fun u _ => b - (intOf u).toNat)
                    case atStart => exact ⟨k + 1, _, e, by go_num, by omega, by omega, hse, HWe, HU0.out⟩
                    case round =>
                      obtain ⟨j, q5, f, rfl, hj1, hj2, hsf, HWf, HU⟩ := hrel
                      by_cases hjb : j < b
                      · have hjz : (j : Int) < (b : Int) := by omega
                        obtain ⟨G, hG⟩ : ∃ G : Nat → Int, ∀ t, G t = f[t]! := ⟨fun t => f[t]!, fun _ => rfl⟩
                        have hcw : ∀ t, t < d.size → wr.cell? ⟨g, o + t, none⟩ = some (.int .u64 (G t)) := fun t ht => by rw [HWf.out, hG]; exact Hc.out _ _ hsf t ht
                        have hfw : ∀ t, t < d.size → wr.frozen? ⟨g, o + t, none⟩ = false := fun t ht => by rw [HWf.out]; exact Hf.out _ _ t ht
                        have HG := Lib.hid hG
                        clear hG
                        go_wp2
                        go_quiet (first | (go_at_call 66; refine Calls.quiet_of_same (lessU_any _ _ _)))
                        go_wp2
                        · have hl : ltInt (G j) (G (j - 1)) = false := by
                            have h : (!ltInt (G j) (G (j - 1))) = true := by assumption
                            simpa using h
                          rw [HG.out, HG.out] at hl
                          have HF := Lib.hid (show f = fixUp ltInt b k e by rw [← HU.out, shiftUp_stop ltInt b j f (.inr hl)])
                          have HE := Lib.hid (show partialIns ltInt a b (5 - (s + 1)) k f = R by rw [HF.out, HE0.out, ← HP.out, pi_go ltInt a b s i k c hs HK2.out (by omega) h50])
                          go_wp2
                          go_roundw
                          case rel => exact ⟨k, s + 1, _, f, rfl, by go_num, by omega, by omega, by omega, hsf, rowU_on HWf.out nq, HE.out⟩
                          case measure => simp [intOf]; omega
                        · have hl : ltInt (G j) (G (j - 1)) = true := by
                            have h : (!ltInt (G j) (G (j - 1))) = false := by assumption
                            simpa using h
                          revert nq; intro nq6
                          have HW6 := Lib.hid (rowU_on HWf.out nq6)
                          have hcx : ∀ t, t < d.size → (wr.drewN nq6).cell? ⟨g, o + t, none⟩ = some (.int .u64 (G t)) := hcw
                          have hfx : ∀ t, t < d.size → (wr.drewN nq6).frozen? ⟨g, o + t, none⟩ = false := hfw
                          clear hcw hfw HWf
                          generalize wr.drewN nq6 = wr6 at hcx hfx HW6 ⊢
                          rw [HG.out, HG.out] at hl
                          go_region
                          go_wp2
                          go_roundw
                          case rel => exact ⟨j + 1, q5 + nq6 + 1, swp f j (j - 1), by go_num, by omega, by omega, by rw [size_swp]; exact hsf, swap_world (Value.int .u64) (by omega) (by omega) HW6.out (by rw [HG.out]) (by rw [HG.out]), by show _ = _; rw [← HU.out, shiftUp_go ltInt b j f hjb hl]⟩
                          case measure => simp [intOf]; omega
                      · have hjz : ¬ ((j : Int) < (b : Int)) := by omega
                        have HF := Lib.hid (show f = fixUp ltInt b k e by rw [← HU.out, shiftUp_stop ltInt b j f (.inl hjb)])
                        have HE := Lib.hid (show partialIns ltInt a b (5 - (s + 1)) k f = R by rw [HF.out, HE0.out, ← HP.out, pi_go ltInt a b s i k c hs HK2.out (by omega) h50])
                        go_wp2
                        go_roundw
                        case rel => exact ⟨k, s + 1, _, f, rfl, by go_num, by omega, by omega, by omega, hsf, HWf, HE.out⟩
                        case measure => simp [intOf]; omega
              · have hd2 : decide ((2 : Int) ≤ (k : Int) - (a : Int)) = false := decide_eq_false (by omega)
                have HE0 := Lib.hid (show c3 = fixDown ltInt a k (swp c k (k - 1)) by rw [fixDown, if_neg hd, HC3.out])
                obtain ⟨e, he⟩ : ∃ e, c3 = e := ⟨_, rfl⟩
                have hse : e.size = d.size := by rw [← he]; exact hs3
                have HWe := HW3
                rw [he] at HE0 HWe
                clear he
                (try go_wp2)
                have HU0 := Lib.hid (show shiftUp ltInt b (k + 1) e = fixUp ltInt b k e by rw [fixUp, if_pos hu])
                (try go_wp2)
                go_loopw [10] (fun u wr => ∃ (j q : Nat) (f : Array Int), u = .int .i64 j ∧ k + 1 ≤ j ∧ j ≤ b ∧ f.size = d.size ∧ Hid (wr = RowU w g o q f) ∧ Hid (shiftUp ltInt b j f = fixUp ltInt b k e)) (fun u _ => b - (intOf u).toNat)
                case atStart => exact ⟨k + 1, _, e, by go_num, by omega, by omega, hse, HWe, HU0.out⟩
                case round =>
                  obtain ⟨j, q5, f, rfl, hj1, hj2, hsf, HWf, HU⟩ := hrel
                  by_cases hjb : j < b
                  · have hjz : (j : Int) < (b : Int) := by omega
                    obtain ⟨G, hG⟩ : ∃ G : Nat → Int, ∀ t, G t = f[t]! := ⟨fun t => f[t]!, fun _ => rfl⟩
                    have hcw : ∀ t, t < d.size → wr.cell? ⟨g, o + t, none⟩ = some (.int .u64 (G t)) := fun t ht => by rw [HWf.out, hG]; exact Hc.out _ _ hsf t ht
                    have hfw : ∀ t, t < d.size → wr.frozen? ⟨g, o + t, none⟩ = false := fun t ht => by rw [HWf.out]; exact Hf.out _ _ t ht
                    have HG := Lib.hid hG
                    clear hG
                    go_wp2
                    go_quiet (first | (go_at_call 66; refine Calls.quiet_of_same (lessU_any _ _ _)))
                    go_wp2
                    · have hl : ltInt (G j) (G (j - 1)) = false := by
                        have h : (!ltInt (G j) (G (j - 1))) = true := by assumption
                        simpa using h
                      rw [HG.out, HG.out] at hl
                      have HF := Lib.hid (show f = fixUp ltInt b k e by rw [← HU.out, shiftUp_stop ltInt b j f (.inr hl)])
                      have HE := Lib.hid (show partialIns ltInt a b (5 - (s + 1)) k f = R by rw [HF.out, HE0.out, ← HP.out, pi_go ltInt a b s i k c hs HK2.out (by omega) h50])
                      go_wp2
                      go_roundw
                      case rel => exact ⟨k, s + 1, _, f, rfl, by go_num, by omega, by omega, by omega, hsf, rowU_on HWf.out nq, HE.out⟩
                      case measure => simp [intOf]; omega
                    · have hl : ltInt (G j) (G (j - 1)) = true := by
                        have h : (!ltInt (G j) (G (j - 1))) = false := by assumption
                        simpa using h
                      revert nq; intro nq6
                      have HW6 := Lib.hid (rowU_on HWf.out nq6)
                      have hcx : ∀ t, t < d.size → (wr.drewN nq6).cell? ⟨g, o + t, none⟩ = some (.int .u64 (G t)) := hcw
                      have hfx : ∀ t, t < d.size → (wr.drewN nq6).frozen? ⟨g, o + t, none⟩ = false := hfw
                      clear hcw hfw HWf
                      generalize wr.drewN nq6 = wr6 at hcx hfx HW6 ⊢
                      rw [HG.out, HG.out] at hl
                      go_region
                      go_wp2
                      go_roundw
                      case rel => exact ⟨j + 1, q5 + nq6 + 1, swp f j (j - 1), by go_num, by omega, by omega, by rw [size_swp]; exact hsf, swap_world (Value.int .u64) (by omega) (by omega) HW6.out (by rw [HG.out]) (by rw [HG.out]), by show _ = _; rw [← HU.out, shiftUp_go ltInt b j f hjb hl]⟩
                      case measure => simp [intOf]; omega
                  · have hjz : ¬ ((j : Int) < (b : Int)) := by omega
                    have HF := Lib.hid (show f = fixUp ltInt b k e by rw [← HU.out, shiftUp_stop ltInt b j f (.inl hjb)])
                    have HE := Lib.hid (show partialIns ltInt a b (5 - (s + 1)) k f = R by rw [HF.out, HE0.out, ← HP.out, pi_go ltInt a b s i k c hs HK2.out (by omega) h50])
                    go_wp2
                    go_roundw
                    case rel => exact ⟨k, s + 1, _, f, rfl, by go_num, by omega, by omega, by omega, hsf, HWf, HE.out⟩
                    case measure => simp [intOf]; omega
            · have hu2 : decide ((2 : Int) ≤ (b : Int) - (k : Int)) = false := decide_eq_false (by omega)
              by_cases hd : k - a ≥ 2
              · have hd2 : (2 : Int) ≤ (k : Int) - (a : Int) := by omega
                have HD0 := Lib.hid (show shiftDown ltInt (k - 1) c3 = fixDown ltInt a k (swp c k (k - 1)) by rw [fixDown, if_pos hd, HC3.out])
                go_wp2
                go_loopw [9] (fun u wr => ∃ (j q : Nat) (e : Array Int), u = .int .i64 j ∧ j ≤ k - 1 ∧ e.size = d.size ∧ Hid (wr = RowU w g o q e) ∧ Hid (shiftDown ltInt j e = fixDown ltInt a k (swp c k (k - 1)))) (fun u _ => (intOf u).toNat)
                case atStart => exact ⟨k - 1, _, c3, by go_num, Nat.le_refl _, hs3, HW3, HD0.out⟩
                case round =>
                  obtain ⟨j, q4, e, rfl, hjk, hse, HWe, HD⟩ := hrel
                  by_cases hj1 : 1 ≤ j
                  · have hjz : (1 : Int) ≤ (j : Int) := by omega
                    obtain ⟨G, hG⟩ : ∃ G : Nat → Int, ∀ t, G t = e[t]! := ⟨fun t => e[t]!, fun _ => rfl⟩
                    have hcw : ∀ t, t < d.size → wr.cell? ⟨g, o + t, none⟩ = some (.int .u64 (G t)) := fun t ht => by rw [HWe.out, hG]; exact Hc.out _ _ hse t ht
                    have hfw : ∀ t, t < d.size → wr.frozen? ⟨g, o + t, none⟩ = false := fun t ht => by rw [HWe.out]; exact Hf.out _ _ t ht
                    have HG := Lib.hid hG
                    clear hG
                    go_wp2
                    go_quiet (first | (go_at_call 66; refine Calls.quiet_of_same (lessU_any _ _ _)))
                    go_wp2
                    · have hl : ltInt (G j) (G (j - 1)) = false := by
                        have h : (!ltInt (G j) (G (j - 1))) = true := by assumption
                        simpa using h
                      revert nq; intro nq5
                      have HW5 := Lib.hid (rowU_on HWe.out nq5)
                      have hcx : ∀ t, t < d.size → (wr.drewN nq5).cell? ⟨g, o + t, none⟩ = some (.int .u64 (G t)) := hcw
                      have hfx : ∀ t, t < d.size → (wr.drewN nq5).frozen? ⟨g, o + t, none⟩ = false := hfw
                      clear hcw hfw HWe
                      generalize wr.drewN nq5 = wr5 at hcx hfx HW5 ⊢
                      rw [HG.out, HG.out] at hl
                      have HE0 := Lib.hid (show e = fixDown ltInt a k (swp c k (k - 1)) by rw [← HD.out, shiftDown_stop ltInt j e (.inr hl)])
                      have HWe := HW5
                      clear hcx hfx HG HW5
                      have HF := Lib.hid (show e = fixUp ltInt b k e by rw [fixUp, if_neg hu])
                      have HE := Lib.hid (show partialIns ltInt a b (5 - (s + 1)) k e = R by rw [← HP.out, pi_go ltInt a b s i k c hs HK2.out (by omega) h50, ← HE0.out, ← HF.out])
                      go_wp2
                      go_roundw
                      case rel => exact ⟨k, s + 1, _, e, rfl, by go_num, by omega, by omega, by omega, hse, HWe, HE.out⟩
                      case measure => simp [intOf]; omega
                    · have hl : ltInt (G j) (G (j - 1)) = true := by
                        have h : (!ltInt (G j) (G (j - 1))) = false := by assumption
                        simpa using h
                      revert nq; intro nq5
                      have HW5 := Lib.hid (rowU_on HWe.out nq5)
                      have hcx : ∀ t, t < d.size → (wr.drewN nq5).cell? ⟨g, o + t, none⟩ = some (.int .u64 (G t)) := hcw
                      have hfx : ∀ t, t < d.size → (wr.drewN nq5).frozen? ⟨g, o + t, none⟩ = false := hfw
                      clear hcw hfw HWe
                      generalize wr.drewN nq5 = wr5 at hcx hfx HW5 ⊢
                      rw [HG.out, HG.out] at hl
                      go_region
                      go_wp2
                      go_roundw
                      case rel => exact ⟨j - 1, q4 + nq5 + 1, swp e j (j - 1), by go_num, by omega, by rw [size_swp]; exact hse, swap_world (Value.int .u64) (by omega) (by omega) HW5.out (by rw [HG.out]) (by rw [HG.out]), by show _ = _; rw [← HD.out, shiftDown_go ltInt j e hj1 hl]⟩
                      case measure => simp [intOf]; omega
                  · obtain rfl : j = 0 := by omega
                    have HE0 := Lib.hid (show e = fixDown ltInt a k (swp c k (k - 1)) by rw [← HD.out, shiftDown_stop ltInt 0 e (.inl rfl)])
                    (try go_wp2)
                    have HF := Lib.hid (show e = fixUp ltInt b k e by rw [fixUp, if_neg hu])
                    have HE := Lib.hid (show partialIns ltInt a b (5 - (s + 1)) k e = R by rw [← HP.out, pi_go ltInt a b s i k c hs HK2.out (by omega) h50, ← HE0.out, ← HF.out])
                    go_wp2
                    go_roundw
                    case rel => exact ⟨k, s + 1, _, e, rfl, by go_num, by omega, by omega, by omega, hse, HWe, HE.out⟩
                    case measure => simp [intOf]; omega
              · have hd2 : decide ((2 : Int) ≤ (k : Int) - (a : Int)) = false := decide_eq_false (by omega)
                have HE0 := Lib.hid (show c3 = fixDown ltInt a k (swp c k (k - 1)) by rw [fixDown, if_neg hd, HC3.out])
                obtain ⟨e, he⟩ : ∃ e, c3 = e := ⟨_, rfl⟩
                have hse : e.size = d.size := by rw [← he]; exact hs3
                have HWe := HW3
                rw [he] at HE0 HWe
                clear he
                (try go_wp2)
                have HF := Lib.hid (show e = fixUp ltInt b k e by rw [fixUp, if_neg hu])
                have HE := Lib.hid (show partialIns ltInt a b (5 - (s + 1)) k e = R by rw [← HP.out, pi_go ltInt a b s i k c hs HK2.out (by omega) h50, ← HE0.out, ← HF.out])
                go_wp2
                go_roundw
                case rel => exact ⟨k, s + 1, _, e, rfl, by go_num, by omega, by omega, by omega, hse, HWe, HE.out⟩
                case measure => simp [intOf]; omega
        · obtain rfl : k = b := by omega
          have e1 : ((k : Int) == (k : Int)) = true := by simp
          go_quiet (first | (go_at_call 66; refine Calls.quiet_of_same (lessU_any _ _ _)))
          have HT := Lib.hid (show R = (c, true) by rw [← HP.out, pi_true ltInt a k s i c hs (by rw [← HK.out, scanSorted_stop ltInt c k k (.inl hlt)])])
          go_wp2
          go_ret
          rw [HT.out]
          exact ⟨rfl, q + nq, rowU_on HW.out nq⟩
    · have hsz : ¬ ((s : Int) < 5) := by omega
      go_wp2
      go_ret
      obtain rfl : s = 5 := by omega
      rw [← HP.out, show partialIns ltInt a b (5 - 5) i c = (c, false) from pi_end ltInt a b i c]
      exact ⟨rfl, q, HW0.out⟩
end Go.Proofs.Ytgchcgllpceghaa
