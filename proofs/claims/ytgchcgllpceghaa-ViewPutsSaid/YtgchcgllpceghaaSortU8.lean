/- Own work: slices.Sort at labels, part 8: parting by the pivot. -/
import Derived.Test.YtgchcgllpceghaaSortU7
import Derived.Sort.WalkC4
namespace Go.Proofs.Ytgchcgllpceghaa
open Go.RowKit Go.Shelf Go.Sort

set_option maxHeartbeats 64000000 in
set_option maxRecDepth 1000000 in
theorem partitionU_any (g o cap a b p : Nat) (d : Array Int) (w : World) (hH : Holds (Value.int .u64) w g o d) (hap : a ≤ p) (hpb : p < b) (hb : b ≤ d.size) (hn : d.size < 4611686018427387904) :
    Calls Try.prog 68 #[.slice (some ⟨g, o, none⟩) d.size cap, .int .i64 a, .int .i64 b, .int .i64 p] w fun e w' => e = .returned (.tuple #[.int .i64 (partition ltInt d a b p).1, .bool (partition ltInt d a b p).2.1]) ∧ ∃ q, w' = RowU w g o q (partition ltInt d a b p).2.2 := by
  have Hc := Lib.hid (fun (m : Nat) (c : Array Int) (hs : c.size = d.size) => rowU_cell hH (m := m) hs)
  have Hf := Lib.hid (fun (m : Nat) (c : Array Int) => rowU_open hH (m := m) (c := c))
  have H0 := Lib.hid (putRow_self _ _ _ _ _ hH)
  obtain ⟨R, hR⟩ : ∃ R, partition ltInt d a b p = R := ⟨_, rfl⟩
  have HR := Lib.hid hR
  rw [hR]
  have ca := (hH a (by omega)).1
  have fa := (hH a (by omega)).2
  have cp := (hH p (by omega)).1
  have fp := (hH p (by omega)).2
  obtain ⟨x, hx⟩ : ∃ x, d[a]! = x := ⟨_, rfl⟩
  obtain ⟨y, hy⟩ : ∃ y, d[p]! = y := ⟨_, rfl⟩
  rw [hx] at ca
  rw [hy] at cp
  obtain ⟨z, hz⟩ := cell?_setCell_some (w := w) (p := ⟨g, o + a, none⟩) (x := .int .u64 y) (q := ⟨g, o + p, none⟩) cp
  have HX := Lib.hid hx
  have HY := Lib.hid hy
  obtain ⟨bj, hbj⟩ : ∃ bj, bj = b - 1 := ⟨_, rfl⟩
  have hbz : (b : Int) - 1 = (bj : Int) := by omega
  have hbj1 : bj < b := by omega
  have hbj2 : b ≤ bj + 1 := by omega
  have HBJ := Lib.hid hbj
  clear hbj
  clear hH hR hx hy
  go_enter Try.func68, Try.ntmps68
  go_wp2
  go_region
  have HWc := Lib.hid (swap_world (Value.int .u64) (w := w) (wr := w) (n := 0) (i := a) (j := p) (by omega) (by omega) H0.out.symm (x := .int .u64 y) (y := .int .u64 x) (by rw [HY.out]) (by rw [HX.out]))
  generalize ((w.setCell ⟨g, o + a, none⟩ (.int .u64 y)).setCell ⟨g, o + p, none⟩ (.int .u64 x)).drew = w1 at HWc ⊢
  clear ca fa cp fp hz
  obtain ⟨c, hc⟩ : ∃ c, c = swp d a p := ⟨_, rfl⟩
  have hsc : c.size = d.size := by rw [hc, size_swp]
  rw [← hc] at HWc
  have HC := Lib.hid hc
  clear hc
  (try go_wp2)
  go_loopw [10] (fun u wr => ∃ (k q : Nat), u = .int .i64 k ∧ a + 1 ≤ k ∧ k ≤ bj + 1 ∧ Hid (wr = RowU w g o q c) ∧ Hid (scanUp (fun x => ltInt x c[a]!) c (bj) k = scanUp (fun x => ltInt x c[a]!) c (bj) (a + 1))) (fun u _ => bj + 1 - (intOf u).toNat)
  case atStart => exact ⟨a + 1, _, by go_num, Nat.le_refl _, by omega, HWc, rfl⟩
  case round =>
    obtain ⟨k, q, rfl, hik, hkj, HW, HK⟩ := hrel
    by_cases hlt : k ≤ bj
    · have hlz2 : (k : Int) ≤ ((bj : Nat) : Int) := by omega
      obtain ⟨G, hG⟩ : ∃ G : Nat → Int, ∀ t, G t = c[t]! := ⟨fun t => c[t]!, fun _ => rfl⟩
      have hcw : ∀ t, t < d.size → wr.cell? ⟨g, o + t, none⟩ = some (.int .u64 (G t)) := fun t ht => by rw [HW.out, hG]; exact Hc.out _ _ hsc t ht
      have hfw : ∀ t, t < d.size → wr.frozen? ⟨g, o + t, none⟩ = false := fun t ht => by rw [HW.out]; exact Hf.out _ _ t ht
      have HG := Lib.hid hG
      clear hG
      go_wp2
      go_quiet (first | (go_at_call 66; refine Calls.quiet_of_same (lessU_any _ _ _)))
      go_wp2
      · have hl : ltInt (G k) (G a) = true := by assumption
        rw [HG.out, HG.out] at hl
        go_roundw
        case rel => exact ⟨k + 1, q + nq, by go_num, by omega, by omega, rowU_on HW.out nq, by show _ = _; rw [← HK.out, scanUp_go _ c (bj) k hlt hl]⟩
        case measure => simp [intOf]; omega
      · have hl : ltInt (G k) (G a) = false := by assumption
        rw [HG.out, HG.out] at hl
        have HU := Lib.hid (show k = scanUp (fun x => ltInt x c[a]!) c (bj) (a + 1) by rw [← HK.out, scanUp_end _ c (bj) k (.inr hl)])
        have HW1 := Lib.hid (rowU_on HW.out nq)
        generalize wr.drewN nq = wr1 at HW1 ⊢
        clear hcw hfw HG HW
        (try go_wp2)
        go_loopw [11] (fun u wr => ∃ (m q : Nat), u = .int .i64 m ∧ m ≤ bj ∧ k ≤ m + 1 ∧ Hid (wr = RowU w g o q c) ∧ Hid (scanDown (fun x => !ltInt x c[a]!) c k m = scanDown (fun x => !ltInt x c[a]!) c k (bj))) (fun u _ => (intOf u).toNat)
        case atStart => exact ⟨bj, _, by go_num, Nat.le_refl _, by omega, HW1, rfl⟩
        case round =>
          obtain ⟨m, q3, rfl, hmj, hkm, HW2, HD⟩ := hrel
          by_cases hlm : k ≤ m
          · have hlz : (k : Int) ≤ (m : Int) := by omega
            have hgz : decide ((m : Int) < (k : Int)) = false := decide_eq_false (by omega)
            obtain ⟨G, hG⟩ : ∃ G : Nat → Int, ∀ t, G t = c[t]! := ⟨fun t => c[t]!, fun _ => rfl⟩
            have hcw : ∀ t, t < d.size → wr.cell? ⟨g, o + t, none⟩ = some (.int .u64 (G t)) := fun t ht => by rw [HW2.out, hG]; exact Hc.out _ _ hsc t ht
            have hfw : ∀ t, t < d.size → wr.frozen? ⟨g, o + t, none⟩ = false := fun t ht => by rw [HW2.out]; exact Hf.out _ _ t ht
            have HG := Lib.hid hG
            clear hG
            go_wp2
            go_quiet (first | (go_at_call 66; refine Calls.quiet_of_same (lessU_any _ _ _)))
            go_wp2
            · have hl : ltInt (G m) (G a) = false := by
                have h : (!ltInt (G m) (G a)) = true := by assumption
                simpa using h
              rw [HG.out, HG.out] at hl
              go_roundw
              case rel => exact ⟨m - 1, q3 + nq, by go_num, by omega, by omega, rowU_on HW2.out nq, by show _ = _; rw [← HD.out, scanDown_go _ c k m hlm (by omega) (by simp [hl])]⟩
              case measure => simp [intOf]; omega
            · have hl : ltInt (G m) (G a) = true := by
                have h : (!ltInt (G m) (G a)) = false := by assumption
                simpa using h
              have HM := Lib.hid (show m = scanDown (fun x => !ltInt x c[a]!) c k (bj) by rw [← HD.out, scanDown_end _ c k m (.inr (by rw [← HG.out, ← HG.out, hl]; rfl))])
              have hkm2 : k < m := part_scans_lt ltInt a (a + 1) (bj) c (by omega) HU.out HM.out hlm
              revert nq; intro nq4
              have HW4 := Lib.hid (rowU_on HW2.out nq4)
              have hcx : ∀ t, t < d.size → (wr.drewN nq4).cell? ⟨g, o + t, none⟩ = some (.int .u64 (G t)) := hcw
              have hfx : ∀ t, t < d.size → (wr.drewN nq4).frozen? ⟨g, o + t, none⟩ = false := hfw
              clear hcw hfw HW2
              generalize wr.drewN nq4 = wr4 at hcx hfx HW4 ⊢
              go_region
              have HW5 := Lib.hid (swap_world (Value.int .u64) (i := k) (j := m) (by omega) (by omega) HW4.out (x := .int .u64 (G m)) (y := .int .u64 (G k)) (by rw [HG.out]) (by rw [HG.out]))
              generalize ((wr4.setCell ⟨g, o + k, none⟩ (.int .u64 (G m))).setCell ⟨g, o + m, none⟩ (.int .u64 (G k))).drew = wr5 at HW5 ⊢
              clear hcx hfx HW4 HG
              obtain ⟨S, hS⟩ : ∃ S, partLoop ltInt a (k + 1) (m - 1) (swp c k m) = S := ⟨_, rfl⟩
              have HRS := Lib.hid (show R = (S.1, false, swp S.2 S.1 a) by rw [← HR.out, part_first_go ltInt d a b p rfl HBJ.out HC.out HU.out HM.out (by omega), hS])
              have HS := Lib.hid hS
              clear hS
              go_wp2
              go_loopw [10, 11] (fun u v wr => ∃ (i j q : Nat) (e : Array Int), u = .int .i64 i ∧ v = .int .i64 j ∧ a < i ∧ i ≤ j + 1 ∧ j < b ∧ e.size = d.size ∧ Hid (wr = RowU w g o q e) ∧ Hid (partLoop ltInt a i j e = S)) (fun u v _ => (intOf v).toNat + 1 - (intOf u).toNat)
              case atStart => exact ⟨k + 1, m - 1, _, swp c k m, by go_num, by go_num, by omega, by omega, by omega, by rw [size_swp]; exact hsc, HW5, HS.out⟩
              case round =>
                obtain ⟨i, j, q, e, rfl, rfl, hai, hij, hjb, hse, HWe, HP⟩ := hrel
                (try go_wp2)
                go_loopw [10] (fun u wr => ∃ (k q : Nat), u = .int .i64 k ∧ i ≤ k ∧ k ≤ j + 1 ∧ Hid (wr = RowU w g o q e) ∧ Hid (scanUp (fun x => ltInt x e[a]!) e (j) k = scanUp (fun x => ltInt x e[a]!) e (j) (i))) (fun u _ => j + 1 - (intOf u).toNat)
                case atStart => exact ⟨i, _, by go_num, Nat.le_refl _, by omega, HWe, rfl⟩
                case round =>
                  obtain ⟨k, q, rfl, hik, hkj, HW, HK⟩ := hrel
                  by_cases hlt : k ≤ j
                  · have hlz2 : (k : Int) ≤ ((j : Nat) : Int) := by omega
                    obtain ⟨G, hG⟩ : ∃ G : Nat → Int, ∀ t, G t = e[t]! := ⟨fun t => e[t]!, fun _ => rfl⟩
                    have hcw : ∀ t, t < d.size → wr.cell? ⟨g, o + t, none⟩ = some (.int .u64 (G t)) := fun t ht => by rw [HW.out, hG]; exact Hc.out _ _ hse t ht
                    have hfw : ∀ t, t < d.size → wr.frozen? ⟨g, o + t, none⟩ = false := fun t ht => by rw [HW.out]; exact Hf.out _ _ t ht
                    have HG := Lib.hid hG
                    clear hG
                    go_wp2
                    go_quiet (first | (go_at_call 66; refine Calls.quiet_of_same (lessU_any _ _ _)))
                    go_wp2
                    · have hl : ltInt (G k) (G a) = true := by assumption
                      rw [HG.out, HG.out] at hl
                      go_roundw
                      case rel => exact ⟨k + 1, q + nq, by go_num, by omega, by omega, rowU_on HW.out nq, by show _ = _; rw [← HK.out, scanUp_go _ e (j) k hlt hl]⟩
                      case measure => simp [intOf]; omega
                    · have hl : ltInt (G k) (G a) = false := by assumption
                      rw [HG.out, HG.out] at hl
                      have HU := Lib.hid (show k = scanUp (fun x => ltInt x e[a]!) e (j) (i) by rw [← HK.out, scanUp_end _ e (j) k (.inr hl)])
                      have HW1 := Lib.hid (rowU_on HW.out nq)
                      generalize wr.drewN nq = wr1 at HW1 ⊢
                      clear hcw hfw HG HW
                      (try go_wp2)
                      go_loopw [11] (fun u wr => ∃ (m q : Nat), u = .int .i64 m ∧ m ≤ j ∧ k ≤ m + 1 ∧ Hid (wr = RowU w g o q e) ∧ Hid (scanDown (fun x => !ltInt x e[a]!) e k m = scanDown (fun x => !ltInt x e[a]!) e k (j))) (fun u _ => (intOf u).toNat)
                      case atStart => exact ⟨j, _, by go_num, Nat.le_refl _, by omega, HW1, rfl⟩
                      case round =>
                        obtain ⟨m, q3, rfl, hmj, hkm, HW2, HD⟩ := hrel
                        by_cases hlm : k ≤ m
                        · have hlz : (k : Int) ≤ (m : Int) := by omega
                          have hgz : decide ((m : Int) < (k : Int)) = false := decide_eq_false (by omega)
                          obtain ⟨G, hG⟩ : ∃ G : Nat → Int, ∀ t, G t = e[t]! := ⟨fun t => e[t]!, fun _ => rfl⟩
                          have hcw : ∀ t, t < d.size → wr.cell? ⟨g, o + t, none⟩ = some (.int .u64 (G t)) := fun t ht => by rw [HW2.out, hG]; exact Hc.out _ _ hse t ht
                          have hfw : ∀ t, t < d.size → wr.frozen? ⟨g, o + t, none⟩ = false := fun t ht => by rw [HW2.out]; exact Hf.out _ _ t ht
                          have HG := Lib.hid hG
                          clear hG
                          go_wp2
                          go_quiet (first | (go_at_call 66; refine Calls.quiet_of_same (lessU_any _ _ _)))
                          go_wp2
                          · have hl : ltInt (G m) (G a) = false := by
                              have h : (!ltInt (G m) (G a)) = true := by assumption
                              simpa using h
                            rw [HG.out, HG.out] at hl
                            go_roundw
                            case rel => exact ⟨m - 1, q3 + nq, by go_num, by omega, by omega, rowU_on HW2.out nq, by show _ = _; rw [← HD.out, scanDown_go _ e k m hlm (by omega) (by simp [hl])]⟩
                            case measure => simp [intOf]; omega
                          · have hl : ltInt (G m) (G a) = true := by
                              have h : (!ltInt (G m) (G a)) = false := by assumption
                              simpa using h
                            have HM := Lib.hid (show m = scanDown (fun x => !ltInt x e[a]!) e k (j) by rw [← HD.out, scanDown_end _ e k m (.inr (by rw [← HG.out, ← HG.out, hl]; rfl))])
                            have hkm2 : k < m := part_scans_lt ltInt a (i) (j) e (by omega) HU.out HM.out hlm
                            revert nq; intro nq4
                            have HW4 := Lib.hid (rowU_on HW2.out nq4)
                            have hcx : ∀ t, t < d.size → (wr.drewN nq4).cell? ⟨g, o + t, none⟩ = some (.int .u64 (G t)) := hcw
                            have hfx : ∀ t, t < d.size → (wr.drewN nq4).frozen? ⟨g, o + t, none⟩ = false := hfw
                            clear hcw hfw HW2
                            generalize wr.drewN nq4 = wr4 at hcx hfx HW4 ⊢
                            go_region
                            go_wp2
                            go_roundw
                            case rel => exact ⟨k + 1, m - 1, q3 + nq4 + 1, swp e k m, by go_num, by go_num, by omega, by omega, by omega, by rw [size_swp]; exact hse, swap_world (Value.int .u64) (by omega) (by omega) HW4.out (by rw [HG.out]) (by rw [HG.out]), by show _ = _; rw [← HP.out, part_go ltInt a i j e HU.out HM.out (by omega)]⟩
                            case measure => simp [intOf]; omega
                        · have hlz : decide ((k : Int) ≤ (m : Int)) = false := decide_eq_false (by omega)
                          have hgz : (m : Int) < (k : Int) := by omega
                          obtain ⟨G, hG⟩ : ∃ G : Nat → Int, ∀ t, G t = e[t]! := ⟨fun t => e[t]!, fun _ => rfl⟩
                          have hcw : ∀ t, t < d.size → wr.cell? ⟨g, o + t, none⟩ = some (.int .u64 (G t)) := fun t ht => by rw [HW2.out, hG]; exact Hc.out _ _ hse t ht
                          have hfw : ∀ t, t < d.size → wr.frozen? ⟨g, o + t, none⟩ = false := fun t ht => by rw [HW2.out]; exact Hf.out _ _ t ht
                          have HG := Lib.hid hG
                          clear hG
                          go_wp2
                          go_quiet (first | (go_at_call 66; refine Calls.quiet_of_same (lessU_any _ _ _)))
                          have HM := Lib.hid (show m = scanDown (fun x => !ltInt x e[a]!) e k (j) by rw [← HD.out, scanDown_end _ e k m (.inl hlm)])
                          revert nq; intro nq4
                          have HW4 := Lib.hid (rowU_on HW2.out nq4)
                          have hcx : ∀ t, t < d.size → (wr.drewN nq4).cell? ⟨g, o + t, none⟩ = some (.int .u64 (G t)) := hcw
                          have hfx : ∀ t, t < d.size → (wr.drewN nq4).frozen? ⟨g, o + t, none⟩ = false := hfw
                          clear hcw hfw HW2
                          generalize wr.drewN nq4 = wr4 at hcx hfx HW4 ⊢
                          go_wp2
                          obtain ⟨z, hz⟩ := cell?_setCell_some (w := wr4) (p := ⟨g, o + m, none⟩) (x := .int .u64 (G a)) (q := ⟨g, o + a, none⟩) (hcx a (by omega))
                          have HT := Lib.hid (show R = (m, false, swp e m a) by rw [HRS.out, ← HP.out, part_break ltInt a i j e HU.out HM.out (by omega)])
                          go_region
                          go_wp2
                          go_ret2
                          rw [HT.out]
                          exact ⟨rfl, _, swap_world (Value.int .u64) (i := m) (j := a) (by omega) (by omega) HW4.out (by rw [HG.out]) (by rw [HG.out])⟩
                  · have hlz : decide ((k : Int) ≤ ((j : Nat) : Int)) = false := decide_eq_false (by omega)
                    obtain ⟨G, hG⟩ : ∃ G : Nat → Int, ∀ t, G t = e[t]! := ⟨fun t => e[t]!, fun _ => rfl⟩
                    have hcw : ∀ t, t < d.size → wr.cell? ⟨g, o + t, none⟩ = some (.int .u64 (G t)) := fun t ht => by rw [HW.out, hG]; exact Hc.out _ _ hse t ht
                    have hfw : ∀ t, t < d.size → wr.frozen? ⟨g, o + t, none⟩ = false := fun t ht => by rw [HW.out]; exact Hf.out _ _ t ht
                    have HG := Lib.hid hG
                    clear hG
                    go_wp2
                    go_quiet (first | (go_at_call 66; refine Calls.quiet_of_same (lessU_any _ _ _)))
                    have HU := Lib.hid (show k = scanUp (fun x => ltInt x e[a]!) e (j) (i) by rw [← HK.out, scanUp_end _ e (j) k (.inl hlt)])
                    have HW1 := Lib.hid (rowU_on HW.out nq)
                    generalize wr.drewN nq = wr1 at HW1 ⊢
                    clear hcw hfw HG HW
                    (try go_wp2)
                    go_loopw [11] (fun u wr => ∃ (m q : Nat), u = .int .i64 m ∧ m ≤ j ∧ k ≤ m + 1 ∧ Hid (wr = RowU w g o q e) ∧ Hid (scanDown (fun x => !ltInt x e[a]!) e k m = scanDown (fun x => !ltInt x e[a]!) e k (j))) (fun u _ => (intOf u).toNat)
                    case atStart => exact ⟨j, _, by go_num, Nat.le_refl _, by omega, HW1, rfl⟩
                    case round =>
                      obtain ⟨m, q3, rfl, hmj, hkm, HW2, HD⟩ := hrel
                      by_cases hlm : k ≤ m
                      · exact absurd hlm (by omega)
                      · have hlz : decide ((k : Int) ≤ (m : Int)) = false := decide_eq_false (by omega)
                        have hgz : (m : Int) < (k : Int) := by omega
                        obtain ⟨G, hG⟩ : ∃ G : Nat → Int, ∀ t, G t = e[t]! := ⟨fun t => e[t]!, fun _ => rfl⟩
                        have hcw : ∀ t, t < d.size → wr.cell? ⟨g, o + t, none⟩ = some (.int .u64 (G t)) := fun t ht => by rw [HW2.out, hG]; exact Hc.out _ _ hse t ht
                        have hfw : ∀ t, t < d.size → wr.frozen? ⟨g, o + t, none⟩ = false := fun t ht => by rw [HW2.out]; exact Hf.out _ _ t ht
                        have HG := Lib.hid hG
                        clear hG
                        go_wp2
                        go_quiet (first | (go_at_call 66; refine Calls.quiet_of_same (lessU_any _ _ _)))
                        have HM := Lib.hid (show m = scanDown (fun x => !ltInt x e[a]!) e k (j) by rw [← HD.out, scanDown_end _ e k m (.inl hlm)])
                        revert nq; intro nq4
                        have HW4 := Lib.hid (rowU_on HW2.out nq4)
                        have hcx : ∀ t, t < d.size → (wr.drewN nq4).cell? ⟨g, o + t, none⟩ = some (.int .u64 (G t)) := hcw
                        have hfx : ∀ t, t < d.size → (wr.drewN nq4).frozen? ⟨g, o + t, none⟩ = false := hfw
                        clear hcw hfw HW2
                        generalize wr.drewN nq4 = wr4 at hcx hfx HW4 ⊢
                        go_wp2
                        obtain ⟨z, hz⟩ := cell?_setCell_some (w := wr4) (p := ⟨g, o + m, none⟩) (x := .int .u64 (G a)) (q := ⟨g, o + a, none⟩) (hcx a (by omega))
                        have HT := Lib.hid (show R = (m, false, swp e m a) by rw [HRS.out, ← HP.out, part_break ltInt a i j e HU.out HM.out (by omega)])
                        go_region
                        go_wp2
                        go_ret2
                        rw [HT.out]
                        exact ⟨rfl, _, swap_world (Value.int .u64) (i := m) (j := a) (by omega) (by omega) HW4.out (by rw [HG.out]) (by rw [HG.out])⟩
          · have hlz : decide ((k : Int) ≤ (m : Int)) = false := decide_eq_false (by omega)
            have hgz : (m : Int) < (k : Int) := by omega
            obtain ⟨G, hG⟩ : ∃ G : Nat → Int, ∀ t, G t = c[t]! := ⟨fun t => c[t]!, fun _ => rfl⟩
            have hcw : ∀ t, t < d.size → wr.cell? ⟨g, o + t, none⟩ = some (.int .u64 (G t)) := fun t ht => by rw [HW2.out, hG]; exact Hc.out _ _ hsc t ht
            have hfw : ∀ t, t < d.size → wr.frozen? ⟨g, o + t, none⟩ = false := fun t ht => by rw [HW2.out]; exact Hf.out _ _ t ht
            have HG := Lib.hid hG
            clear hG
            go_wp2
            go_quiet (first | (go_at_call 66; refine Calls.quiet_of_same (lessU_any _ _ _)))
            have HM := Lib.hid (show m = scanDown (fun x => !ltInt x c[a]!) c k (bj) by rw [← HD.out, scanDown_end _ c k m (.inl hlm)])
            revert nq; intro nq4
            have HW4 := Lib.hid (rowU_on HW2.out nq4)
            have hcx : ∀ t, t < d.size → (wr.drewN nq4).cell? ⟨g, o + t, none⟩ = some (.int .u64 (G t)) := hcw
            have hfx : ∀ t, t < d.size → (wr.drewN nq4).frozen? ⟨g, o + t, none⟩ = false := hfw
            clear hcw hfw HW2
            generalize wr.drewN nq4 = wr4 at hcx hfx HW4 ⊢
            go_wp2
            obtain ⟨z, hz⟩ := cell?_setCell_some (w := wr4) (p := ⟨g, o + m, none⟩) (x := .int .u64 (G a)) (q := ⟨g, o + a, none⟩) (hcx a (by omega))
            have HT := Lib.hid (show R = (m, true, swp c m a) by rw [← HR.out, part_first_break ltInt d a b p rfl HBJ.out HC.out HU.out HM.out (by omega)])
            go_region
            go_wp2
            go_ret2
            rw [HT.out]
            exact ⟨rfl, _, swap_world (Value.int .u64) (i := m) (j := a) (by omega) (by omega) HW4.out (by rw [HG.out]) (by rw [HG.out])⟩
    · have hlz : decide ((k : Int) ≤ ((bj : Nat) : Int)) = false := decide_eq_false (by omega)
      obtain ⟨G, hG⟩ : ∃ G : Nat → Int, ∀ t, G t = c[t]! := ⟨fun t => c[t]!, fun _ => rfl⟩
      have hcw : ∀ t, t < d.size → wr.cell? ⟨g, o + t, none⟩ = some (.int .u64 (G t)) := fun t ht => by rw [HW.out, hG]; exact Hc.out _ _ hsc t ht
      have hfw : ∀ t, t < d.size → wr.frozen? ⟨g, o + t, none⟩ = false := fun t ht => by rw [HW.out]; exact Hf.out _ _ t ht
      have HG := Lib.hid hG
      clear hG
      go_wp2
      go_quiet (first | (go_at_call 66; refine Calls.quiet_of_same (lessU_any _ _ _)))
      have HU := Lib.hid (show k = scanUp (fun x => ltInt x c[a]!) c (bj) (a + 1) by rw [← HK.out, scanUp_end _ c (bj) k (.inl hlt)])
      have HW1 := Lib.hid (rowU_on HW.out nq)
      generalize wr.drewN nq = wr1 at HW1 ⊢
      clear hcw hfw HG HW
      (try go_wp2)
      go_loopw [11] (fun u wr => ∃ (m q : Nat), u = .int .i64 m ∧ m ≤ bj ∧ k ≤ m + 1 ∧ Hid (wr = RowU w g o q c) ∧ Hid (scanDown (fun x => !ltInt x c[a]!) c k m = scanDown (fun x => !ltInt x c[a]!) c k (bj))) (fun u _ => (intOf u).toNat)
      case atStart => exact ⟨bj, _, by go_num, Nat.le_refl _, by omega, HW1, rfl⟩
      case round =>
        obtain ⟨m, q3, rfl, hmj, hkm, HW2, HD⟩ := hrel
        by_cases hlm : k ≤ m
        · exact absurd hlm (by omega)
        · have hlz : decide ((k : Int) ≤ (m : Int)) = false := decide_eq_false (by omega)
          have hgz : (m : Int) < (k : Int) := by omega
          obtain ⟨G, hG⟩ : ∃ G : Nat → Int, ∀ t, G t = c[t]! := ⟨fun t => c[t]!, fun _ => rfl⟩
          have hcw : ∀ t, t < d.size → wr.cell? ⟨g, o + t, none⟩ = some (.int .u64 (G t)) := fun t ht => by rw [HW2.out, hG]; exact Hc.out _ _ hsc t ht
          have hfw : ∀ t, t < d.size → wr.frozen? ⟨g, o + t, none⟩ = false := fun t ht => by rw [HW2.out]; exact Hf.out _ _ t ht
          have HG := Lib.hid hG
          clear hG
          go_wp2
          go_quiet (first | (go_at_call 66; refine Calls.quiet_of_same (lessU_any _ _ _)))
          have HM := Lib.hid (show m = scanDown (fun x => !ltInt x c[a]!) c k (bj) by rw [← HD.out, scanDown_end _ c k m (.inl hlm)])
          revert nq; intro nq4
          have HW4 := Lib.hid (rowU_on HW2.out nq4)
          have hcx : ∀ t, t < d.size → (wr.drewN nq4).cell? ⟨g, o + t, none⟩ = some (.int .u64 (G t)) := hcw
          have hfx : ∀ t, t < d.size → (wr.drewN nq4).frozen? ⟨g, o + t, none⟩ = false := hfw
          clear hcw hfw HW2
          generalize wr.drewN nq4 = wr4 at hcx hfx HW4 ⊢
          go_wp2
          obtain ⟨z, hz⟩ := cell?_setCell_some (w := wr4) (p := ⟨g, o + m, none⟩) (x := .int .u64 (G a)) (q := ⟨g, o + a, none⟩) (hcx a (by omega))
          have HT := Lib.hid (show R = (m, true, swp c m a) by rw [← HR.out, part_first_break ltInt d a b p rfl HBJ.out HC.out HU.out HM.out (by omega)])
          go_region
          go_wp2
          go_ret2
          rw [HT.out]
          exact ⟨rfl, _, swap_world (Value.int .u64) (i := m) (j := a) (by omega) (by omega) HW4.out (by rw [HG.out]) (by rw [HG.out])⟩
end Go.Proofs.Ytgchcgllpceghaa
