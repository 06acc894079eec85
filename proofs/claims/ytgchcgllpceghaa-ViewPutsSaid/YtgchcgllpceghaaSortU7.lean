/- Own work: slices.Sort at labels, part 7: those who are equal to the pivot. -/
import Derived.Test.YtgchcgllpceghaaSortU6
import Derived.Sort.WalkC
namespace Go.Proofs.Ytgchcgllpceghaa
open Go.RowKit Go.Shelf Go.Sort

set_option maxHeartbeats 64000000 in
set_option maxRecDepth 1000000 in
theorem equalU_any (g o cap a b p : Nat) (d : Array Int) (w : World) (hH : Holds (Value.int .u64) w g o d) (hap : a ≤ p) (hpb : p < b) (hb : b ≤ d.size) (hn : d.size < 4611686018427387904) :
    Calls Try.prog 67 #[.slice (some ⟨g, o, none⟩) d.size cap, .int .i64 a, .int .i64 b, .int .i64 p] w fun e w' => e = .returned (.int .i64 (partitionEqual ltInt d a b p).1) ∧ ∃ q, w' = RowU w g o q (partitionEqual ltInt d a b p).2 := by
  have Hc := Lib.hid (fun (m : Nat) (c : Array Int) (hs : c.size = d.size) => rowU_cell hH (m := m) hs)
  have Hf := Lib.hid (fun (m : Nat) (c : Array Int) => rowU_open hH (m := m) (c := c))
  have H0 := Lib.hid (putRow_self _ _ _ _ _ hH)
  obtain ⟨R, hR⟩ : ∃ R, partitionEqual ltInt d a b p = R := ⟨_, rfl⟩
  have HR := Lib.hid hR
  rw [hR]
  have ca := (hH a (by omega)).1
  have fa := (hH a (by omega)).2
  have cp := (hH p (by omega)).1
  have fp := (hH p (by omega)).2
  obtain ⟨x, hx⟩ : ∃ x, d[a]! = x := ⟨_, rfl⟩
  obtain ⟨y, hy⟩ : ∃ y, d[p]! = y := ⟨_, rfl⟩
  rw [hx] at ca
  rw [hy] at cp
  obtain ⟨z, hz⟩ := cell?_setCell_some (w := w) (p := ⟨g, o + a, none⟩) (x := .int .u64 y) (q := ⟨g, o + p, none⟩) cp
  have HX := Lib.hid hx
  have HY := Lib.hid hy
  clear hH hR hx hy
  go_enter Try.func67, Try.ntmps67
  go_wp2
  go_region
  have HW1 := Lib.hid (swap_world (Value.int .u64) (w := w) (wr := w) (n := 0) (i := a) (j := p) (by omega) (by omega) H0.out.symm (x := .int .u64 y) (y := .int .u64 x) (by rw [HY.out]) (by rw [HX.out]))
  generalize ((w.setCell ⟨g, o + a, none⟩ (.int .u64 y)).setCell ⟨g, o + p, none⟩ (.int .u64 x)).drew = w1 at HW1 ⊢
  clear ca fa cp fp hz
  go_wp2
  go_loopw [9, 10] (fun u v wr => ∃ (i j q : Nat) (c : Array Int), u = .int .i64 i ∧ v = .int .i64 j ∧ a < i ∧ i ≤ j + 1 ∧ j < b ∧ c.size = d.size ∧ Hid (wr = RowU w g o q c) ∧ Hid (partEqLoop ltInt a i j c = R)) (fun u v _ => (intOf v).toNat + 1 - (intOf u).toNat)
  case atStart => exact ⟨a + 1, b - 1, 0 + 1, swp d a p, by go_num, by go_num, by omega, by omega, by omega, by rw [size_swp], HW1, HR.out⟩
  case round =>
    obtain ⟨i, j, q, c, rfl, rfl, hai, hij, hjb, hsc, HW0, HP⟩ := hrel
    clear HW1
    go_wp2
    go_loopw [9] (fun u wr => ∃ (k q : Nat), u = .int .i64 k ∧ i ≤ k ∧ k ≤ j + 1 ∧ Hid (wr = RowU w g o q c) ∧ Hid (scanUp (fun x => !ltInt c[a]! x) c j k = scanUp (fun x => !ltInt c[a]! x) c j i)) (fun u _ => j + 1 - (intOf u).toNat)
    case atStart => exact ⟨i, q, rfl, Nat.le_refl _, hij, HW0, rfl⟩
    case round =>
      obtain ⟨k, q, rfl, hik, hkj, HW, HK⟩ := hrel
      by_cases hlt : k ≤ j
      · have hlz : (k : Int) ≤ (j : Int) := by omega
        obtain ⟨G, hG⟩ : ∃ G : Nat → Int, ∀ t, G t = c[t]! := ⟨fun t => c[t]!, fun _ => rfl⟩
        have hcw : ∀ t, t < d.size → wr.cell? ⟨g, o + t, none⟩ = some (.int .u64 (G t)) := fun t ht => by rw [HW.out, hG]; exact Hc.out _ _ hsc t ht
        have hfw : ∀ t, t < d.size → wr.frozen? ⟨g, o + t, none⟩ = false := fun t ht => by rw [HW.out]; exact Hf.out _ _ t ht
        have HG := Lib.hid hG
        clear hG
        go_wp2
        go_quiet (first | (go_at_call 66; refine Calls.quiet_of_same (lessU_any _ _ _)))
        go_wp2
        · have hl : ltInt (G a) (G k) = false := by
            have h : (!ltInt (G a) (G k)) = true := by assumption
            simpa using h
          rw [HG.out, HG.out] at hl
          go_roundw
          case rel => exact ⟨k + 1, q + nq, by go_num, by omega, by omega, rowU_on HW.out nq, by show _ = _; rw [← HK.out, scanUp_go _ c j k hlt (by simp [hl])]⟩
          case measure => simp [intOf]; omega
        · have hl : ltInt (G a) (G k) = true := by
            have h : (!ltInt (G a) (G k)) = false := by assumption
            simpa using h
          rw [HG.out, HG.out] at hl
          have HU := Lib.hid (show k = scanUp (fun x => !ltInt c[a]! x) c j i by rw [← HK.out, scanUp_end _ c j k (.inr (by simp [hl]))])
          have HW1 := Lib.hid (rowU_on HW.out nq)
          generalize wr.drewN nq = wr1 at HW1 ⊢
          clear hcw hfw HG HW
          (try go_wp2)
          go_loopw [10] (fun u wr => ∃ (m q : Nat), u = .int .i64 m ∧ m ≤ j ∧ k ≤ m + 1 ∧ Hid (wr = RowU w g o q c) ∧ Hid (scanDown (fun x => ltInt c[a]! x) c k m = scanDown (fun x => ltInt c[a]! x) c k j)) (fun u _ => (intOf u).toNat)
          case atStart => exact ⟨j, _, rfl, Nat.le_refl _, by omega, HW1, rfl⟩
          case round =>
            obtain ⟨m, q3, rfl, hmj, hkm, HW2, HD⟩ := hrel
            by_cases hlm : k ≤ m
            · have hlz : (k : Int) ≤ (m : Int) := by omega
              have hgz : decide ((m : Int) < (k : Int)) = false := decide_eq_false (by omega)
              obtain ⟨G, hG⟩ : ∃ G : Nat → Int, ∀ t, G t = c[t]! := ⟨fun t => c[t]!, fun _ => rfl⟩
              have hcw : ∀ t, t < d.size → wr.cell? ⟨g, o + t, none⟩ = some (.int .u64 (G t)) := fun t ht => by rw [HW2.out, hG]; exact Hc.out _ _ hsc t ht
              have hfw : ∀ t, t < d.size → wr.frozen? ⟨g, o + t, none⟩ = false := fun t ht => by rw [HW2.out]; exact Hf.out _ _ t ht
              have HG := Lib.hid hG
              clear hG
              go_wp2
              go_quiet (first | (go_at_call 66; refine Calls.quiet_of_same (lessU_any _ _ _)))
              go_wp2
              · have hl : ltInt (G a) (G m) = true := by assumption
                rw [HG.out, HG.out] at hl
                go_roundw
                case rel => exact ⟨m - 1, q3 + nq, by go_num, by omega, by omega, rowU_on HW2.out nq, by show _ = _; rw [← HD.out, scanDown_go _ c k m hlm (by omega) hl]⟩
                case measure => simp [intOf]; omega
              · have hl : ltInt (G a) (G m) = false := by assumption
                have HM := Lib.hid (show m = scanDown (fun x => ltInt c[a]! x) c k j by rw [← HD.out, scanDown_end _ c k m (.inr (by rw [← HG.out, ← HG.out]; exact hl))])
                have hkm2 : k < m := scans_lt ltInt a i j c (by omega) HU.out HM.out hlm
                revert nq; intro nq4
                have HW4 := Lib.hid (rowU_on HW2.out nq4)
                have hcx : ∀ t, t < d.size → (wr.drewN nq4).cell? ⟨g, o + t, none⟩ = some (.int .u64 (G t)) := hcw
                have hfx : ∀ t, t < d.size → (wr.drewN nq4).frozen? ⟨g, o + t, none⟩ = false := hfw
                clear hcw hfw HW2
                generalize wr.drewN nq4 = wr4 at hcx hfx HW4 ⊢
                go_region
                go_wp2
                go_roundw
                case rel => exact ⟨k + 1, m - 1, q3 + nq4 + 1, swp c k m, by go_num, by go_num, by omega, by omega, by omega, by rw [size_swp]; exact hsc, swap_world (Value.int .u64) (by omega) (by omega) HW4.out (by rw [HG.out]) (by rw [HG.out]), by show _ = _; rw [← HP.out, partEq_go ltInt a i j c HU.out HM.out (by omega)]⟩
                case measure => simp [intOf]; omega
            · have hlz : decide ((k : Int) ≤ (m : Int)) = false := decide_eq_false (by omega)
              have hgz : (m : Int) < (k : Int) := by omega
              obtain ⟨G, hG⟩ : ∃ G : Nat → Int, ∀ t, G t = c[t]! := ⟨fun t => c[t]!, fun _ => rfl⟩
              have hcw : ∀ t, t < d.size → wr.cell? ⟨g, o + t, none⟩ = some (.int .u64 (G t)) := fun t ht => by rw [HW2.out, hG]; exact Hc.out _ _ hsc t ht
              have hfw : ∀ t, t < d.size → wr.frozen? ⟨g, o + t, none⟩ = false := fun t ht => by rw [HW2.out]; exact Hf.out _ _ t ht
              have HG := Lib.hid hG
              clear hG
              go_wp2
              go_quiet (first | (go_at_call 66; refine Calls.quiet_of_same (lessU_any _ _ _)))
              have HM := Lib.hid (show m = scanDown (fun x => ltInt c[a]! x) c k j by rw [← HD.out, scanDown_end _ c k m (.inl hlm)])
              have HT := Lib.hid (show R = (k, c) by rw [← HP.out, partEq_break ltInt a i j c HU.out HM.out (by omega)])
              go_wp2
              go_ret
              rw [HT.out]
              exact ⟨rfl, _, rowU_on HW2.out nq⟩
      · have hlz : decide ((k : Int) ≤ (j : Int)) = false := decide_eq_false (by omega)
        obtain ⟨G, hG⟩ : ∃ G : Nat → Int, ∀ t, G t = c[t]! := ⟨fun t => c[t]!, fun _ => rfl⟩
        have hcw : ∀ t, t < d.size → wr.cell? ⟨g, o + t, none⟩ = some (.int .u64 (G t)) := fun t ht => by rw [HW.out, hG]; exact Hc.out _ _ hsc t ht
        have hfw : ∀ t, t < d.size → wr.frozen? ⟨g, o + t, none⟩ = false := fun t ht => by rw [HW.out]; exact Hf.out _ _ t ht
        have HG := Lib.hid hG
        clear hG
        go_wp2
        go_quiet (first | (go_at_call 66; refine Calls.quiet_of_same (lessU_any _ _ _)))
        have HU := Lib.hid (show k = scanUp (fun x => !ltInt c[a]! x) c j i by rw [← HK.out, scanUp_end _ c j k (.inl hlt)])
        have HW1 := Lib.hid (rowU_on HW.out nq)
        generalize wr.drewN nq = wr1 at HW1 ⊢
        clear hcw hfw HG HW
        (try go_wp2)
        go_loopw [10] (fun u wr => ∃ (m q : Nat), u = .int .i64 m ∧ m ≤ j ∧ k ≤ m + 1 ∧ Hid (wr = RowU w g o q c) ∧ Hid (scanDown (fun x => ltInt c[a]! x) c k m = scanDown (fun x => ltInt c[a]! x) c k j)) (fun u _ => (intOf u).toNat)
        case atStart => exact ⟨j, _, rfl, Nat.le_refl _, by omega, HW1, rfl⟩
        case round =>
          obtain ⟨m, q3, rfl, hmj, hkm, HW2, HD⟩ := hrel
          by_cases hlm : k ≤ m
          · exact absurd hlm (by omega)
          · have hlz : decide ((k : Int) ≤ (m : Int)) = false := decide_eq_false (by omega)
            have hgz : (m : Int) < (k : Int) := by omega
            obtain ⟨G, hG⟩ : ∃ G : Nat → Int, ∀ t, G t = c[t]! := ⟨fun t => c[t]!, fun _ => rfl⟩
            have hcw : ∀ t, t < d.size → wr.cell? ⟨g, o + t, none⟩ = some (.int .u64 (G t)) := fun t ht => by rw [HW2.out, hG]; exact Hc.out _ _ hsc t ht
            have hfw : ∀ t, t < d.size → wr.frozen? ⟨g, o + t, none⟩ = false := fun t ht => by rw [HW2.out]; exact Hf.out _ _ t ht
            have HG := Lib.hid hG
            clear hG
            go_wp2
            go_quiet (first | (go_at_call 66; refine Calls.quiet_of_same (lessU_any _ _ _)))
            have HM := Lib.hid (show m = scanDown (fun x => ltInt c[a]! x) c k j by rw [← HD.out, scanDown_end _ c k m (.inl hlm)])
            have HT := Lib.hid (show R = (k, c) by rw [← HP.out, partEq_break ltInt a i j c HU.out HM.out (by omega)])
            go_wp2
            go_ret
            rw [HT.out]
            exact ⟨rfl, _, rowU_on HW2.out nq⟩
end Go.Proofs.Ytgchcgllpceghaa
