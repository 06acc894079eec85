/- Own work: slices.Sort at labels, part 2: the row turned round, the heap. -/
import Derived.Test.YtajjikbigacbaaaGreatDoorSortU1
import Derived.Sort.WalkB3
namespace Go.Proofs.YtajjikbigacbaaaGreatDoor
open Go.RowKit Go.Shelf Go.Sort

/-- the row is c, q draws on: what a walk may use of it -/
theorem rowU_on {w wr : World} {g o q : Nat} {c : Array Int} (h : wr = RowU w g o q c) (m : Nat) : wr.drewN m = RowU w g o (q + m) c := drewN_world (Value.int .u64) h m

set_option maxHeartbeats 32000000 in
set_option maxRecDepth 1000000 in
theorem revU_any (g o cap a b : Nat) (d : Array Int) (w : World) (hH : Holds (Value.int .u64) w g o d) (hab : a ≤ b) (hb : b ≤ d.size) (hn : d.size < 4611686018427387904) :
    Calls Tryz.prog 136 #[.slice (some ⟨g, o, none⟩) d.size cap, .int .i64 a, .int .i64 b] w fun e w' => e = .returned (.tuple #[]) ∧ ∃ q, w' = RowU w g o q (reverseRange d a b) := by
  have Hc := Lib.hid (fun (m : Nat) (c : Array Int) (hs : c.size = d.size) => rowU_cell hH (m := m) hs)
  have Hf := Lib.hid (fun (m : Nat) (c : Array Int) => rowU_open hH (m := m) (c := c))
  have H0 := Lib.hid (putRow_self _ _ _ _ _ hH)
  clear hH
  go_enter Tryz.func136, Tryz.ntmps136
  go_wp2
  go_loopw [6, 7] (fun u v wr => ∃ (i : Nat) (j : Int) (q : Nat) (c : Array Int), u = .int .i64 i ∧ v = .int .i64 j ∧ i ≤ d.size ∧ -1 ≤ j ∧ j < d.size ∧ c.size = d.size ∧ Hid (wr = RowU w g o q c) ∧ Hid (reverseLoop i j.toNat c = reverseRange d a b)) (fun u v _ => (intOf v - intOf u).toNat)
  case atStart => exact ⟨a, (b : Int) - 1, 0, d, rfl, rfl, by omega, by omega, by omega, rfl, H0.out.symm, by show _ = _; rw [reverseRange, show ((b : Int) - 1).toNat = b - 1 by omega]⟩
  case round =>
    obtain ⟨i, j, q, c, rfl, rfl, hi, hj0, hj, hs, HW, HR⟩ := hrel
    by_cases hlt : (i : Int) < j
    · obtain ⟨k, rfl⟩ : ∃ k : Nat, j = k := ⟨j.toNat, by omega⟩
      obtain ⟨G, hG⟩ : ∃ G : Nat → Int, ∀ t, G t = c[t]! := ⟨fun t => c[t]!, fun _ => rfl⟩
      have hcw : ∀ t, t < d.size → wr.cell? ⟨g, o + t, none⟩ = some (.int .u64 (G t)) := fun t ht => by rw [HW.out, hG]; exact Hc.out _ _ hs t ht
      have hfw : ∀ t, t < d.size → wr.frozen? ⟨g, o + t, none⟩ = false := fun t ht => by rw [HW.out]; exact Hf.out _ _ t ht
      have HG := Lib.hid hG
      clear hG
      go_wp2_with fail
      go_region
      all_goals go_wp2
      go_roundw
      case rel =>
        refine ⟨i + 1, (k : Int) - 1, q + 1, swp c i k, by go_num, rfl, by omega, by omega, by omega, by rw [size_swp]; exact hs, swap_world (Value.int .u64) (by omega) (by omega) HW.out (by rw [HG.out]) (by rw [HG.out]), ?_⟩
        show _ = _
        rw [← HR.out, show ((k : Int) - 1).toNat = k - 1 by omega, Int.toNat_natCast]
        conv => rhs; rw [reverseLoop, if_pos (show i < k by omega)]
      case measure => simp [intOf]; omega
    · go_wp2
      go_end0
      refine ⟨rfl, q, ?_⟩
      rw [← HR.out, reverseLoop, if_neg (by omega)]
      exact HW.out

set_option maxHeartbeats 32000000 in
set_option maxRecDepth 1000000 in
theorem siftU_any (g o cap n : Nat) (d : Array Int) (hdn : d.size = n) (lo hi first : Nat) (w : World) (hH : Holds (Value.int .u64) w g o d) (hlo : lo ≤ hi) (hb : first + hi ≤ d.size) (hn : d.size < 4611686018427387904) :
    Calls Tryz.prog 165 #[.slice (some ⟨g, o, none⟩) n cap, .int .i64 lo, .int .i64 hi, .int .i64 first] w fun e w' => e = .returned (.tuple #[]) ∧ ∃ q, w' = RowU w g o q (siftDown ltInt hi first lo d) := by
  subst hdn
  have Hc := Lib.hid (fun (m : Nat) (c : Array Int) (hs : c.size = d.size) => rowU_cell hH (m := m) hs)
  have Hf := Lib.hid (fun (m : Nat) (c : Array Int) => rowU_open hH (m := m) (c := c))
  have H0 := Lib.hid (putRow_self _ _ _ _ _ hH)
  clear hH
  go_enter Tryz.func165, Tryz.ntmps165
  go_wp2
  go_loopw [8] (fun v wr => ∃ (root q : Nat) (c : Array Int), v = .int .i64 root ∧ root ≤ hi ∧ c.size = d.size ∧ Hid (wr = RowU w g o q c) ∧ Hid (siftDown ltInt hi first root c = siftDown ltInt hi first lo d)) (fun v _ => hi - (intOf v).toNat)
  case atStart => exact ⟨lo, 0, d, rfl, hlo, rfl, H0.out.symm, rfl⟩
  case round =>
    obtain ⟨root, q, c, rfl, hr, hs, HW, HR⟩ := hrel
    obtain ⟨G, hG⟩ : ∃ G : Nat → Int, ∀ t, G t = c[t]! := ⟨fun t => c[t]!, fun _ => rfl⟩
    have hcw : ∀ t, t < d.size → wr.cell? ⟨g, o + t, none⟩ = some (.int .u64 (G t)) := fun t ht => by rw [HW.out, hG]; exact Hc.out _ _ hs t ht
    have hfw : ∀ t, t < d.size → wr.frozen? ⟨g, o + t, none⟩ = false := fun t ht => by rw [HW.out]; exact Hf.out _ _ t ht
    have HG := Lib.hid hG
    clear hG
    by_cases h0 : hi ≤ 2 * root + 1
    · have h0z : (hi : Int) ≤ 2 * (root : Int) + 1 := by omega
      go_wp2
      go_end0
      refine ⟨rfl, q, ?_⟩
      rw [← HR.out, sd_end ltInt c h0]
      exact HW.out
    · have h0z : ¬ ((hi : Int) ≤ 2 * (root : Int) + 1) := by omega
      by_cases h1 : 2 * root + 2 < hi
      · have h1z : 2 * (root : Int) + 1 + 1 < (hi : Int) := by omega
        go_wp2_with fail
        go_big_quiet (first | (go_at_call 138; refine Calls.quiet_of_same (lessU_any _ _ _)))
        go_wp2_with fail
        · have hL : ltInt (G (first + 2 * root + 1)) (G (first + 2 * root + 2)) = true := by assumption
          rw [HG.out, HG.out] at hL
          revert nq; intro nq1
          have HW2 := Lib.hid (rowU_on HW.out nq1)
          have hcw2 : ∀ t, t < d.size → (wr.drewN nq1).cell? ⟨g, o + t, none⟩ = some (.int .u64 (G t)) := hcw
          have hfw2 : ∀ t, t < d.size → (wr.drewN nq1).frozen? ⟨g, o + t, none⟩ = false := hfw
          clear hcw hfw HW
          generalize wr.drewN nq1 = wr2 at hcw2 hfw2 HW2 ⊢
          go_big_quiet (first | (go_at_call 138; refine Calls.quiet_of_same (lessU_any _ _ _)))
          go_wp2_with fail
          · have hS : ltInt (G (first + root)) (G (first + 2 * root + 2)) = false := by
              have : (!ltInt (G (first + root)) (G (first + 2 * root + 2))) = true := by assumption
              simpa using this
            (try simp only [Exit.inBlock, Exit.then])
            refine bodyPost_ret (results_none rfl _ _ _) rfl ?_
            refine ⟨rfl, q + nq1 + nq, ?_⟩
            rw [HG.out, HG.out] at hS
            rw [rowU_on HW2.out nq, ← HR.out, sd_right_stop ltInt c h1 hL hS]
          · have hS : ltInt (G (first + root)) (G (first + 2 * root + 2)) = true := by
              have : (!ltInt (G (first + root)) (G (first + 2 * root + 2))) = false := by assumption
              simpa using this
            have HW3 := Lib.hid (rowU_on HW2.out nq)
            have hcw3 : ∀ t, t < d.size → (wr2.drewN nq).cell? ⟨g, o + t, none⟩ = some (.int .u64 (G t)) := hcw2
            have hfw3 : ∀ t, t < d.size → (wr2.drewN nq).frozen? ⟨g, o + t, none⟩ = false := hfw2
            clear hcw2 hfw2 HW2
            generalize wr2.drewN nq = wr3 at hcw3 hfw3 HW3 ⊢
            rw [HG.out, HG.out] at hS
            go_region
            go_wp2
            go_roundw
            case rel =>
              refine ⟨2 * root + 2, q + nq1 + nq + 1, swp c (first + root) (first + (2 * root + 2)), by simp <;> omega, by omega, by rw [size_swp]; exact hs, swap_world (Value.int .u64) (by omega) (by omega) HW3.out (by rw [HG.out]; congr 2) (by rw [HG.out]), ?_⟩
              show _ = _
              rw [← HR.out, sd_right_go ltInt c h1 hL hS]
            case measure => simp [intOf]; omega
        · have hL : ltInt (G (first + 2 * root + 1)) (G (first + 2 * root + 2)) = false := by assumption
          rw [HG.out, HG.out] at hL
          revert nq; intro nq1
          have HW2 := Lib.hid (rowU_on HW.out nq1)
          have hcw2 : ∀ t, t < d.size → (wr.drewN nq1).cell? ⟨g, o + t, none⟩ = some (.int .u64 (G t)) := hcw
          have hfw2 : ∀ t, t < d.size → (wr.drewN nq1).frozen? ⟨g, o + t, none⟩ = false := hfw
          clear hcw hfw HW
          generalize wr.drewN nq1 = wr2 at hcw2 hfw2 HW2 ⊢
          go_big_quiet (first | (go_at_call 138; refine Calls.quiet_of_same (lessU_any _ _ _)))
          go_wp2_with fail
          · have hS : ltInt (G (first + root)) (G (first + 2 * root + 1)) = false := by
              have : (!ltInt (G (first + root)) (G (first + 2 * root + 1))) = true := by assumption
              simpa using this
            (try simp only [Exit.inBlock, Exit.then])
            refine bodyPost_ret (results_none rfl _ _ _) rfl ?_
            refine ⟨rfl, q + nq1 + nq, ?_⟩
            rw [HG.out, HG.out] at hS
            rw [rowU_on HW2.out nq, ← HR.out, sd_left_stop ltInt c (by omega) (fun _ => hL) hS]
          · have hS : ltInt (G (first + root)) (G (first + 2 * root + 1)) = true := by
              have : (!ltInt (G (first + root)) (G (first + 2 * root + 1))) = false := by assumption
              simpa using this
            have HW3 := Lib.hid (rowU_on HW2.out nq)
            have hcw3 : ∀ t, t < d.size → (wr2.drewN nq).cell? ⟨g, o + t, none⟩ = some (.int .u64 (G t)) := hcw2
            have hfw3 : ∀ t, t < d.size → (wr2.drewN nq).frozen? ⟨g, o + t, none⟩ = false := hfw2
            clear hcw2 hfw2 HW2
            generalize wr2.drewN nq = wr3 at hcw3 hfw3 HW3 ⊢
            rw [HG.out, HG.out] at hS
            go_region
            go_wp2
            go_roundw
            case rel =>
              refine ⟨2 * root + 1, q + nq1 + nq + 1, swp c (first + root) (first + (2 * root + 1)), by simp <;> omega, by omega, by rw [size_swp]; exact hs, swap_world (Value.int .u64) (by omega) (by omega) HW3.out (by rw [HG.out]; congr 2) (by rw [HG.out]), ?_⟩
              show _ = _
              rw [← HR.out, sd_left_go ltInt c (by omega) (fun _ => hL) hS]
            case measure => simp [intOf]; omega
      · have h1z : decide (2 * (root : Int) + 1 + 1 < (hi : Int)) = false := decide_eq_false (by omega)
        go_wp2_with fail
        go_big_quiet (first | (go_at_call 138; refine Calls.quiet_of_same (lessU_any _ _ _)))
        go_wp2_with fail
        revert nq; intro nq1
        have HW2 := Lib.hid (rowU_on HW.out nq1)
        have hcw2 : ∀ t, t < d.size → (wr.drewN nq1).cell? ⟨g, o + t, none⟩ = some (.int .u64 (G t)) := hcw
        have hfw2 : ∀ t, t < d.size → (wr.drewN nq1).frozen? ⟨g, o + t, none⟩ = false := hfw
        clear hcw hfw HW
        generalize wr.drewN nq1 = wr2 at hcw2 hfw2 HW2 ⊢
        go_big_quiet (first | (go_at_call 138; refine Calls.quiet_of_same (lessU_any _ _ _)))
        go_wp2_with fail
        · have hS : ltInt (G (first + root)) (G (first + 2 * root + 1)) = false := by
            have : (!ltInt (G (first + root)) (G (first + 2 * root + 1))) = true := by assumption
            simpa using this
          (try simp only [Exit.inBlock, Exit.then])
          refine bodyPost_ret (results_none rfl _ _ _) rfl ?_
          refine ⟨rfl, q + nq1 + nq, ?_⟩
          rw [HG.out, HG.out] at hS
          rw [rowU_on HW2.out nq, ← HR.out, sd_left_stop ltInt c (by omega) (fun h => absurd h h1) hS]
        · have hS : ltInt (G (first + root)) (G (first + 2 * root + 1)) = true := by
            have : (!ltInt (G (first + root)) (G (first + 2 * root + 1))) = false := by assumption
            simpa using this
          have HW3 := Lib.hid (rowU_on HW2.out nq)
          have hcw3 : ∀ t, t < d.size → (wr2.drewN nq).cell? ⟨g, o + t, none⟩ = some (.int .u64 (G t)) := hcw2
          have hfw3 : ∀ t, t < d.size → (wr2.drewN nq).frozen? ⟨g, o + t, none⟩ = false := hfw2
          clear hcw2 hfw2 HW2
          generalize wr2.drewN nq = wr3 at hcw3 hfw3 HW3 ⊢
          rw [HG.out, HG.out] at hS
          go_region
          go_wp2
          go_roundw
          case rel =>
            refine ⟨2 * root + 1, q + nq1 + nq + 1, swp c (first + root) (first + (2 * root + 1)), by simp <;> omega, by omega, by rw [size_swp]; exact hs, swap_world (Value.int .u64) (by omega) (by omega) HW3.out (by rw [HG.out]; congr 2) (by rw [HG.out]), ?_⟩
            show _ = _
            rw [← HR.out, sd_left_go ltInt c (by omega) (fun h => absurd h h1) hS]
          case measure => simp [intOf]; omega
end Go.Proofs.YtajjikbigacbaaaGreatDoor
