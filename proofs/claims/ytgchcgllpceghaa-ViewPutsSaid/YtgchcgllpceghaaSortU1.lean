/- Own work: slices.Sort at labels, part 1: less, and sorting by insertion. -/
import Derived.Test.YtgchcgllpceghaaSortZ
import Derived.Sort.WalkA
import Derived.Sort.WalkB3
namespace Go.Proofs.Ytgchcgllpceghaa
open Go.RowKit Go.Shelf Go.Sort

set_option maxHeartbeats 1000000 in
theorem lessU_any (x y : Int) (w : World) : Calls Try.prog 66 #[.int .u64 x, .int .u64 y] w fun e w' => e = .returned (.bool (ltInt x y)) ∧ w' = w := by
  go_enter Try.func66, Try.ntmps66
  go_wp2_with fail
  refine (nan_any x _).mono ?_
  rintro e w' ⟨rfl, rfl⟩
  go_wp2_with fail
  go_ret
  exact ⟨rfl, rfl⟩

/-- the world in which the row at g, o has become d, q draws on -/
abbrev RowU (w : World) (g o q : Nat) (d : Array Int) : World := putRow (Value.int .u64) (Sort.ahead w q) g o d
theorem rowU_cell {w : World} {g o : Nat} {d : Array Int} (h : Holds (Value.int .u64) w g o d) {m : Nat} {c : Array Int} (hs : c.size = d.size) (t : Nat) (ht : t < d.size) :
    (RowU w g o m c).cell? ⟨g, o + t, none⟩ = some (.int .u64 c[t]!) := cell?_putRow _ _ _ _ d c (holds_ahead _ _ _ _ _ _ h) hs t (by omega)
theorem rowU_open {w : World} {g o : Nat} {d : Array Int} (h : Holds (Value.int .u64) w g o d) {m : Nat} {c : Array Int} (t : Nat) (ht : t < d.size) :
    (RowU w g o m c).frozen? ⟨g, o + t, none⟩ = false := by
  rw [frozen?_putRow]; exact ((holds_ahead _ _ m _ _ _ h) t ht).2

set_option maxHeartbeats 32000000 in
set_option maxRecDepth 1000000 in
theorem insU_any (g o cap a b : Nat) (d : Array Int) (w : World) (hH : Holds (Value.int .u64) w g o d) (hab : a ≤ b) (hb : b ≤ d.size) (hn : d.size < 4611686018427387904) :
    Calls Try.prog 60 #[.slice (some ⟨g, o, none⟩) d.size cap, .int .i64 a, .int .i64 b] w fun e w' => e = .returned (.tuple #[]) ∧ ∃ q, w' = RowU w g o q (insertionSort ltInt d a b) := by
  have Hc := Lib.hid (fun (m : Nat) (c : Array Int) (hs : c.size = d.size) => rowU_cell hH (m := m) hs)
  have Hf := Lib.hid (fun (m : Nat) (c : Array Int) => rowU_open hH (m := m) (c := c))
  have H0 := Lib.hid (putRow_self _ _ _ _ _ hH)
  clear hH
  go_enter Try.func60, Try.ntmps60
  go_wp2
  go_loopw [6] (fun v wr => ∃ (i q : Nat) (c : Array Int), v = .int .i64 i ∧ a < i ∧ i ≤ b + 1 ∧ c.size = d.size ∧ Hid (wr = RowU w g o q c) ∧ Hid (insOuter ltInt a b i c = insertionSort ltInt d a b)) (fun v _ => b + 1 - (intOf v).toNat)
  case atStart => exact ⟨a + 1, 0, d, by go_num, by omega, by omega, rfl, H0.out.symm, rfl⟩
  case round =>
    obtain ⟨i, q, c, rfl, hai, hib, hs, HW, HO⟩ := hrel
    go_wp2
    · have hlt : i < b := by assumption
      go_loopw [7] (fun v wr => ∃ (j q : Nat) (e : Array Int), v = .int .i64 j ∧ a ≤ j ∧ j ≤ i ∧ e.size = d.size ∧ Hid (wr = RowU w g o q e) ∧ Hid (insInner ltInt a j e = insInner ltInt a i c)) (fun v _ => (intOf v).toNat)
      case atStart => exact ⟨i, q, c, rfl, by omega, Nat.le_refl _, hs, HW, rfl⟩
      case round =>
        obtain ⟨j, q2, e, rfl, haj, hji, hse, HW2, HI⟩ := hrel
        obtain ⟨G, hG⟩ : ∃ G : Nat → Int, ∀ t, G t = e[t]! := ⟨fun t => e[t]!, fun _ => rfl⟩
        have hcw : ∀ t, t < d.size → wr.cell? ⟨g, o + t, none⟩ = some (.int .u64 (G t)) := fun t ht => by rw [HW2.out, hG]; exact Hc.out _ _ hse t ht
        have hfw : ∀ t, t < d.size → wr.frozen? ⟨g, o + t, none⟩ = false := fun t ht => by rw [HW2.out]; exact Hf.out _ _ t ht
        have HG := Lib.hid hG
        clear hG
        have Hend := Lib.hid (show (j ≤ a ∨ ltInt e[j]! e[j - 1]! = false) → insOuter ltInt a b (i + 1) e = insertionSort ltInt d a b from fun h => by
          rw [← HO.out, insOuter_go _ _ _ _ _ hlt, ← HI.out, insInner_stop _ _ _ _ h])
        go_wp2
        by_cases hja : a < j
        · go_quiet (first | (go_at_call 66; refine Calls.quiet_of_same (lessU_any _ _ _)))
          go_wp2
          · have hl : ltInt (G j) (G (j - 1)) = true := by assumption
            go_region
            all_goals go_wp2
            go_roundw
            case rel =>
              refine ⟨j - 1, q2 + (nq + 1), swp e j (j - 1), by congr 1; omega, by omega, by omega, by rw [size_swp]; exact hse, ?_, ?_⟩
              · show _ = _
                rw [HW2.out, HG.out, HG.out]
                exact swap_worldA _ w q2 (nq + 1) g o e j (j - 1) (by omega) (by omega)
              · show _ = _
                rw [← HI.out, insInner_go ltInt a j e hja (by rw [← HG.out, ← HG.out]; exact hl)]
            case measure => simp [intOf]; omega
          · have hl : ltInt (G j) (G (j - 1)) = false := by assumption
            go_roundw
            case rel => exact ⟨i + 1, q2 + nq, e, by go_num, by omega, by omega, hse, by show _ = _; rw [HW2.out]; exact putRow_drewN _ _ _ _ _ _ _, Hend.out (.inr (by rw [← HG.out, ← HG.out]; exact hl))⟩
            case measure => simp [intOf]; omega
        · go_quiet (first | (go_at_call 66; refine Calls.quiet_of_same (lessU_any _ _ _)))
          go_wp2
          go_roundw
          case rel => exact ⟨i + 1, q2 + nq, e, by go_num, by omega, by omega, hse, by show _ = _; rw [HW2.out]; exact putRow_drewN _ _ _ _ _ _ _, Hend.out (.inl (by omega))⟩
          case measure => simp [intOf]; omega
    · have hge : ¬ i < b := by assumption
      go_end0
      refine ⟨rfl, q, ?_⟩
      rw [← HO.out, insOuter_stop _ _ _ _ _ hge]
      exact HW.out
end Go.Proofs.Ytgchcgllpceghaa
/- Own work: slices.Sort at labels, part 2: the row turned round, the heap. -/
namespace Go.Proofs.Ytgchcgllpceghaa
open Go.RowKit Go.Shelf Go.Sort

/-- the row is c, q draws on: what a walk may use of it -/
theorem rowU_on {w wr : World} {g o q : Nat} {c : Array Int} (h : wr = RowU w g o q c) (m : Nat) : wr.drewN m = RowU w g o (q + m) c := drewN_world (Value.int .u64) h m

set_option maxHeartbeats 32000000 in
set_option maxRecDepth 1000000 in
theorem revU_any (g o cap a b : Nat) (d : Array Int) (w : World) (hH : Holds (Value.int .u64) w g o d) (hab : a ≤ b) (hb : b ≤ d.size) (hn : d.size < 4611686018427387904) :
    Calls Try.prog 64 #[.slice (some ⟨g, o, none⟩) d.size cap, .int .i64 a, .int .i64 b] w fun e w' => e = .returned (.tuple #[]) ∧ ∃ q, w' = RowU w g o q (reverseRange d a b) := by
  have Hc := Lib.hid (fun (m : Nat) (c : Array Int) (hs : c.size = d.size) => rowU_cell hH (m := m) hs)
  have Hf := Lib.hid (fun (m : Nat) (c : Array Int) => rowU_open hH (m := m) (c := c))
  have H0 := Lib.hid (putRow_self _ _ _ _ _ hH)
  clear hH
  go_enter Try.func64, Try.ntmps64
  go_wp2
  go_loopw [6, 7] (fun u v wr => ∃ (i : Nat) (j : Int) (q : Nat) (c : Array Int), u = .int .i64 i ∧ v = .int .i64 j ∧ i ≤ d.size ∧ -1 ≤ j ∧ j < d.size ∧ c.size = d.size ∧ Hid (wr = RowU w g o q c) ∧ Hid (reverseLoop i j.toNat c = reverseRange d a b)) (fun u v _ => (intOf v - intOf u).toNat)
  case atStart => exact ⟨a, (b : Int) - 1, 0, d, rfl, rfl, by omega, by omega, by omega, rfl, H0.out.symm, by show _ = _; rw [reverseRange, show ((b : Int) - 1).toNat = b - 1 by omega]⟩
  case round =>
    obtain ⟨i, j, q, c, rfl, rfl, hi, hj0, hj, hs, HW, HR⟩ := hrel
    by_cases hlt : (i : Int) < j
    · obtain ⟨k, rfl⟩ : ∃ k : Nat, j = k := ⟨j.toNat, by omega⟩
      obtain ⟨G, hG⟩ : ∃ G : Nat → Int, ∀ t, G t = c[t]! := ⟨fun t => c[t]!, fun _ => rfl⟩
      have hcw : ∀ t, t < d.size → wr.cell? ⟨g, o + t, none⟩ = some (.int .u64 (G t)) := fun t ht => by rw [HW.out, hG]; exact Hc.out _ _ hs t ht
      have hfw : ∀ t, t < d.size → wr.frozen? ⟨g, o + t, none⟩ = false := fun t ht => by rw [HW.out]; exact Hf.out _ _ t ht
      have HG := Lib.hid hG
      clear hG
      go_wp2_with fail
      go_region
      all_goals go_wp2
      go_roundw
      case rel =>
        refine ⟨i + 1, (k : Int) - 1, q + 1, swp c i k, by go_num, rfl, by omega, by omega, by omega, by rw [size_swp]; exact hs, swap_world (Value.int .u64) (by omega) (by omega) HW.out (by rw [HG.out]) (by rw [HG.out]), ?_⟩
        show _ = _
        rw [← HR.out, show ((k : Int) - 1).toNat = k - 1 by omega, Int.toNat_natCast]
        conv => rhs; rw [reverseLoop, if_pos (show i < k by omega)]
      case measure => simp [intOf]; omega
    · go_wp2
      go_end0
      refine ⟨rfl, q, ?_⟩
      rw [← HR.out, reverseLoop, if_neg (by omega)]
      exact HW.out

set_option maxHeartbeats 32000000 in
set_option maxRecDepth 1000000 in
theorem siftU_any (g o cap n : Nat) (d : Array Int) (hdn : d.size = n) (lo hi first : Nat) (w : World) (hH : Holds (Value.int .u64) w g o d) (hlo : lo ≤ hi) (hb : first + hi ≤ d.size) (hn : d.size < 4611686018427387904) :
    Calls Try.prog 71 #[.slice (some ⟨g, o, none⟩) n cap, .int .i64 lo, .int .i64 hi, .int .i64 first] w fun e w' => e = .returned (.tuple #[]) ∧ ∃ q, w' = RowU w g o q (siftDown ltInt hi first lo d) := by
  subst hdn
  have Hc := Lib.hid (fun (m : Nat) (c : Array Int) (hs : c.size = d.size) => rowU_cell hH (m := m) hs)
  have Hf := Lib.hid (fun (m : Nat) (c : Array Int) => rowU_open hH (m := m) (c := c))
  have H0 := Lib.hid (putRow_self _ _ _ _ _ hH)
  clear hH
  go_enter Try.func71, Try.ntmps71
  go_wp2
  go_loopw [8] (fun v wr => ∃ (root q : Nat) (c : Array Int), v = .int .i64 root ∧ root ≤ hi ∧ c.size = d.size ∧ Hid (wr = RowU w g o q c) ∧ Hid (siftDown ltInt hi first root c = siftDown ltInt hi first lo d)) (fun v _ => hi - (intOf v).toNat)
  case atStart => exact ⟨lo, 0, d, rfl, hlo, rfl, H0.out.symm, rfl⟩
  case round =>
    obtain ⟨root, q, c, rfl, hr, hs, HW, HR⟩ := hrel
    obtain ⟨G, hG⟩ : ∃ G : Nat → Int, ∀ t, G t = c[t]! := ⟨fun t => c[t]!, fun _ => rfl⟩
    have hcw : ∀ t, t < d.size → wr.cell? ⟨g, o + t, none⟩ = some (.int .u64 (G t)) := fun t ht => by rw [HW.out, hG]; exact Hc.out _ _ hs t ht
    have hfw : ∀ t, t < d.size → wr.frozen? ⟨g, o + t, none⟩ = false := fun t ht => by rw [HW.out]; exact Hf.out _ _ t ht
    have HG := Lib.hid hG
    clear hG
    by_cases h0 : hi ≤ 2 * root + 1
    · have h0z : (hi : Int) ≤ 2 * (root : Int) + 1 := by omega
      go_wp2
      go_end0
      refine ⟨rfl, q, ?_⟩
      rw [← HR.out, sd_end ltInt c h0]
      exact HW.out
    · have h0z : ¬ ((hi : Int) ≤ 2 * (root : Int) + 1) := by omega
      by_cases h1 : 2 * root + 2 < hi
      · have h1z : 2 * (root : Int) + 1 + 1 < (hi : Int) := by omega
        go_wp2_with fail
        go_big_quiet (first | (go_at_call 66; refine Calls.quiet_of_same (lessU_any _ _ _)))
        go_wp2_with fail
        · have hL : ltInt (G (first + 2 * root + 1)) (G (first + 2 * root + 2)) = true := by assumption
          rw [HG.out, HG.out] at hL
          revert nq; intro nq1
          have HW2 := Lib.hid (rowU_on HW.out nq1)
          have hcw2 : ∀ t, t < d.size → (wr.drewN nq1).cell? ⟨g, o + t, none⟩ = some (.int .u64 (G t)) := hcw
          have hfw2 : ∀ t, t < d.size → (wr.drewN nq1).frozen? ⟨g, o + t, none⟩ = false := hfw
          clear hcw hfw HW
          generalize wr.drewN nq1 = wr2 at hcw2 hfw2 HW2 ⊢
          go_big_quiet (first | (go_at_call 66; refine Calls.quiet_of_same (lessU_any _ _ _)))
          go_wp2_with fail
          · have hS : ltInt (G (first + root)) (G (first + 2 * root + 2)) = false := by
              have : (!ltInt (G (first + root)) (G (first + 2 * root + 2))) = true := by assumption
              simpa using this
            (try simp only [Exit.inBlock, Exit.then])
            refine bodyPost_ret (results_none rfl _ _ _) rfl ?_
            refine ⟨rfl, q + nq1 + nq, ?_⟩
            rw [HG.out, HG.out] at hS
            rw [rowU_on HW2.out nq, ← HR.out, sd_right_stop ltInt c h1 hL hS]
          · have hS : ltInt (G (first + root)) (G (first + 2 * root + 2)) = true := by
              have : (!ltInt (G (first + root)) (G (first + 2 * root + 2))) = false := by assumption
              simpa using this
            have HW3 := Lib.hid (rowU_on HW2.out nq)
            have hcw3 : ∀ t, t < d.size → (wr2.drewN nq).cell? ⟨g, o + t, none⟩ = some (.int .u64 (G t)) := hcw2
            have hfw3 : ∀ t, t < d.size → (wr2.drewN nq).frozen? ⟨g, o + t, none⟩ = false := hfw2
            clear hcw2 hfw2 HW2
            generalize wr2.drewN nq = wr3 at hcw3 hfw3 HW3 ⊢
            rw [HG.out, HG.out] at hS
            go_region
            go_wp2
            go_roundw
            case rel =>
              refine ⟨2 * root + 2, q + nq1 + nq + 1, swp c (first + root) (first + (2 * root + 2)), by simp <;> omega, by omega, by rw [size_swp]; exact hs, swap_world (Value.int .u64) (by omega) (by omega) HW3.out (by rw [HG.out]; congr 2) (by rw [HG.out]), ?_⟩
              show _ = _
              rw [← HR.out, sd_right_go ltInt c h1 hL hS]
            case measure => simp [intOf]; omega
        · have hL : ltInt (G (first + 2 * root + 1)) (G (first + 2 * root + 2)) = false := by assumption
          rw [HG.out, HG.out] at hL
          revert nq; intro nq1
          have HW2 := Lib.hid (rowU_on HW.out nq1)
          have hcw2 : ∀ t, t < d.size → (wr.drewN nq1).cell? ⟨g, o + t, none⟩ = some (.int .u64 (G t)) := hcw
          have hfw2 : ∀ t, t < d.size → (wr.drewN nq1).frozen? ⟨g, o + t, none⟩ = false := hfw
          clear hcw hfw HW
          generalize wr.drewN nq1 = wr2 at hcw2 hfw2 HW2 ⊢
          go_big_quiet (first | (go_at_call 66; refine Calls.quiet_of_same (lessU_any _ _ _)))
          go_wp2_with fail
          · have hS : ltInt (G (first + root)) (G (first + 2 * root + 1)) = false := by
              have : (!ltInt (G (first + root)) (G (first + 2 * root + 1))) = true := by assumption
              simpa using this
            (try simp only [Exit.inBlock, Exit.then])
            refine bodyPost_ret (results_none rfl _ _ _) rfl ?_
            refine ⟨rfl, q + nq1 + nq, ?_⟩
            rw [HG.out, HG.out] at hS
            rw [rowU_on HW2.out nq, ← HR.out, sd_left_stop ltInt c (by omega) (fun _ => hL) hS]
          · have hS : ltInt (G (first + root)) (G (first + 2 * root + 1)) = true := by
              have : (!ltInt (G (first + root)) (G (first + 2 * root + 1))) = false := by assumption
              simpa using this
            have HW3 := Lib.hid (rowU_on HW2.out nq)
            have hcw3 : ∀ t, t < d.size → (wr2.drewN nq).cell? ⟨g, o + t, none⟩ = some (.int .u64 (G t)) := hcw2
            have hfw3 : ∀ t, t < d.size → (wr2.drewN nq).frozen? ⟨g, o + t, none⟩ = false := hfw2
            clear hcw2 hfw2 HW2
            generalize wr2.drewN nq = wr3 at hcw3 hfw3 HW3 ⊢
            rw [HG.out, HG.out] at hS
            go_region
            go_wp2
            go_roundw
            case rel =>
              refine ⟨2 * root + 1, q + nq1 + nq + 1, swp c (first + root) (first + (2 * root + 1)), by simp <;> omega, by omega, by rw [size_swp]; exact hs, swap_world (Value.int .u64) (by omega) (by omega) HW3.out (by rw [HG.out]; congr 2) (by rw [HG.out]), ?_⟩
              show _ = _
              rw [← HR.out, sd_left_go ltInt c (by omega) (fun _ => hL) hS]
            case measure => simp [intOf]; omega
      · have h1z : decide (2 * (root : Int) + 1 + 1 < (hi : Int)) = false := decide_eq_false (by omega)
        go_wp2_with fail
        go_big_quiet (first | (go_at_call 66; refine Calls.quiet_of_same (lessU_any _ _ _)))
        go_wp2_with fail
        revert nq; intro nq1
        have HW2 := Lib.hid (rowU_on HW.out nq1)
        have hcw2 : ∀ t, t < d.size → (wr.drewN nq1).cell? ⟨g, o + t, none⟩ = some (.int .u64 (G t)) := hcw
        have hfw2 : ∀ t, t < d.size → (wr.drewN nq1).frozen? ⟨g, o + t, none⟩ = false := hfw
        clear hcw hfw HW
        generalize wr.drewN nq1 = wr2 at hcw2 hfw2 HW2 ⊢
        go_big_quiet (first | (go_at_call 66; refine Calls.quiet_of_same (lessU_any _ _ _)))
        go_wp2_with fail
        · have hS : ltInt (G (first + root)) (G (first + 2 * root + 1)) = false := by
            have : (!ltInt (G (first + root)) (G (first + 2 * root + 1))) = true := by assumption
            simpa using this
          (try simp only [Exit.inBlock, Exit.then])
          refine bodyPost_ret (results_none rfl _ _ _) rfl ?_
          refine ⟨rfl, q + nq1 + nq, ?_⟩
          rw [HG.out, HG.out] at hS
          rw [rowU_on HW2.out nq, ← HR.out, sd_left_stop ltInt c (by omega) (fun h => absurd h h1) hS]
        · have hS : ltInt (G (first + root)) (G (first + 2 * root + 1)) = true := by
            have : (!ltInt (G (first + root)) (G (first + 2 * root + 1))) = false := by assumption
            simpa using this
          have HW3 := Lib.hid (rowU_on HW2.out nq)
          have hcw3 : ∀ t, t < d.size → (wr2.drewN nq).cell? ⟨g, o + t, none⟩ = some (.int .u64 (G t)) := hcw2
          have hfw3 : ∀ t, t < d.size → (wr2.drewN nq).frozen? ⟨g, o + t, none⟩ = false := hfw2
          clear hcw2 hfw2 HW2
          generalize wr2.drewN nq = wr3 at hcw3 hfw3 HW3 ⊢
          rw [HG.out, HG.out] at hS
          go_region
          go_wp2
          go_roundw
          case rel =>
            refine ⟨2 * root + 1, q + nq1 + nq + 1, swp c (first + root) (first + (2 * root + 1)), by simp <;> omega, by omega, by rw [size_swp]; exact hs, swap_world (Value.int .u64) (by omega) (by omega) HW3.out (by rw [HG.out]; congr 2) (by rw [HG.out]), ?_⟩
            show _ = _
            rw [← HR.out, sd_left_go ltInt c (by omega) (fun h => absurd h h1) hS]
          case measure => simp [intOf]; omega
end Go.Proofs.Ytgchcgllpceghaa
/- Own work: slices.Sort at labels, part 3: sorting by a heap. -/
namespace Go.Proofs.Ytgchcgllpceghaa
open Go.RowKit Go.Shelf Go.Sort

theorem rowU_holds {w : World} {g o q : Nat} {d c : Array Int} (h : Holds (Value.int .u64) w g o d) (hs : c.size = d.size) : Holds (Value.int .u64) (RowU w g o q c) g o c := holds_putRow _ _ _ _ d c (holds_ahead _ _ q _ _ _ h) hs
theorem rowU_join (w : World) (g o q m : Nat) {c e : Array Int} (hs : e.size = c.size) : RowU (RowU w g o q c) g o m e = RowU w g o (q + m) e := putRow_ahead_putRow _ w q m g o c e hs
theorem sift_same (hi first root : Nat) (c : Array Int) : (siftDown ltInt hi first root c).size = c.size := size_siftDown ltInt _ _ _ _ _ (Nat.le_refl _)

set_option maxHeartbeats 32000000 in
set_option maxRecDepth 1000000 in
theorem heapU_any (g o cap a b : Nat) (d : Array Int) (w : World) (hH : Holds (Value.int .u64) w g o d) (hab : a ≤ b) (hb : b ≤ d.size) (hn : d.size < 4611686018427387904) :
    Calls Try.prog 61 #[.slice (some ⟨g, o, none⟩) d.size cap, .int .i64 a, .int .i64 b] w fun e w' => e = .returned (.tuple #[]) ∧ ∃ q, w' = RowU w g o q (heapSort ltInt d a b) := by
  have Hc := Lib.hid (fun (m : Nat) (c : Array Int) (hs : c.size = d.size) => rowU_cell hH (m := m) hs)
  have Hf := Lib.hid (fun (m : Nat) (c : Array Int) => rowU_open hH (m := m) (c := c))
  have Hh := Lib.hid (fun (q : Nat) (c : Array Int) (hs : c.size = d.size) => rowU_holds (q := q) hH hs)
  have H0 := Lib.hid (putRow_self _ _ _ _ _ hH)
  have hba : ((b - a : Nat) : Int) = (b : Int) - (a : Int) := by omega
  clear hH
  go_enter Try.func61, Try.ntmps61
  go_wp2
  go_loopw [9] (fun v wr => ∃ (k q : Nat) (c : Array Int), v = .int .i64 ((k : Int) - 1) ∧ k ≤ (b - a - 1) / 2 + 1 ∧ c.size = d.size ∧ Hid (wr = RowU w g o q c) ∧ Hid (heapBuild ltInt (b - a) a k c = heapBuild ltInt (b - a) a ((b - a - 1) / 2 + 1) d)) (fun v _ => (intOf v + 1).toNat)
  case atStart => exact ⟨_, 0, d, by rw [half_start hab], Nat.le_refl _, rfl, H0.out.symm, rfl⟩
  case round =>
    obtain ⟨k, q, c, rfl, hk, hs, HW, HB⟩ := hrel
    by_cases h0 : k = 0
    · subst h0
      have HD := Lib.hid (show c = heapBuild ltInt (b - a) a ((b - a - 1) / 2 + 1) d from HB.out)
      clear HB hk
      rw [show ((0 : Nat) : Int) - 1 = -1 from rfl]
      go_wp2
      go_loopw [10] (fun v wr => ∃ (k q : Nat) (e : Array Int), v = .int .i64 ((k : Int) - 1) ∧ k ≤ b - a ∧ e.size = d.size ∧ Hid (wr = RowU w g o q e) ∧ Hid (heapPop ltInt a k e = heapSort ltInt d a b)) (fun v _ => (intOf v + 1).toNat)
      case atStart => exact ⟨b - a, q, c, by rw [hba], Nat.le_refl _, hs, HW, by show _ = _; rw [heapSort, ← HD.out]⟩
      case round =>
        obtain ⟨k, q2, e, rfl, hk, hse, HW2, HP⟩ := hrel
        by_cases h0 : k = 0
        · subst h0
          go_wp2
          go_end0
          refine ⟨rfl, q2, ?_⟩
          rw [← HP.out]
          exact HW2.out
        · obtain ⟨t, rfl⟩ : ∃ t, k = t + 1 := ⟨k - 1, by omega⟩
          obtain ⟨G, hG⟩ : ∃ G : Nat → Int, ∀ t, G t = e[t]! := ⟨fun t => e[t]!, fun _ => rfl⟩
          have hcw : ∀ t, t < d.size → wr.cell? ⟨g, o + t, none⟩ = some (.int .u64 (G t)) := fun t ht => by rw [HW2.out, hG]; exact Hc.out _ _ hse t ht
          have hfw : ∀ t, t < d.size → wr.frozen? ⟨g, o + t, none⟩ = false := fun t ht => by rw [HW2.out]; exact Hf.out _ _ t ht
          have HG := Lib.hid hG
          clear hG
          by_cases ht : t = 0
          · subst ht
            go_wp2_with fail
            go_region
            go_wp2_with fail
            rw [swap_world (Value.int .u64) (i := a) (j := a) (by omega) (by omega) HW2.out (by rw [HG.out]) (by rw [HG.out])]
            refine (siftU_any g o cap d.size (swp e a (a)) (by rw [size_swp]; exact hse) 0 0 a _ (Hh.out _ _ (by rw [size_swp]; exact hse)) (Nat.zero_le _) (by rw [size_swp]; omega) (by rw [size_swp]; omega)).mono ?_
            rintro e1 w1 ⟨rfl, m, hw1⟩
            go_wp2
            go_roundw
            case rel =>
              refine ⟨0, q2 + 1 + m, siftDown ltInt 0 a 0 (swp e a (a)), by go_num, by omega, by rw [sift_same, size_swp]; exact hse, ?_, HP.out⟩
              show _ = _
              first
                | (rw [hw1]; exact rowU_join _ _ _ _ _ (sift_same _ _ _ _))
                | exact rowU_join _ _ _ _ _ (sift_same _ _ _ _)
            case measure => first | (simp [intOf]; done) | (simp [intOf]; omega)
          · go_wp2_with fail
            go_region
            go_wp2_with fail
            rw [swap_world (Value.int .u64) (i := a) (j := a + t) (by omega) (by omega) HW2.out (by rw [HG.out]) (by rw [HG.out])]
            refine (siftU_any g o cap d.size (swp e a (a + t)) (by rw [size_swp]; exact hse) 0 t a _ (Hh.out _ _ (by rw [size_swp]; exact hse)) (Nat.zero_le _) (by rw [size_swp]; omega) (by rw [size_swp]; omega)).mono ?_
            rintro e1 w1 ⟨rfl, m, hw1⟩
            go_wp2
            go_roundw
            case rel =>
              refine ⟨t, q2 + 1 + m, siftDown ltInt t a 0 (swp e a (a + t)), by go_num, by omega, by rw [sift_same, size_swp]; exact hse, ?_, HP.out⟩
              show _ = _
              first
                | (rw [hw1]; exact rowU_join _ _ _ _ _ (sift_same _ _ _ _))
                | exact rowU_join _ _ _ _ _ (sift_same _ _ _ _)
            case measure => first | (simp [intOf]; done) | (simp [intOf]; omega)
    · obtain ⟨t, rfl⟩ : ∃ t, k = t + 1 := ⟨k - 1, by omega⟩
      have Hcall := Lib.hid (siftU_any g o cap d.size c hs t (b - a) a wr (by rw [HW.out]; exact Hh.out _ _ hs) (by omega) (by omega) (by omega))
      rw [hba] at Hcall
      go_wp2_with (go_at_call 71; refine Hcall.out.mono ?_; rintro e w1 ⟨rfl, m, hw1⟩)
      go_roundw
      case rel =>
        refine ⟨t, q + m, siftDown ltInt (b - a) a t c, by go_num, by omega, by rw [sift_same]; exact hs, ?_, HB.out⟩
        show _ = _
        rw [HW.out]
        exact rowU_join _ _ _ _ _ (sift_same _ _ _ _)
      case measure => first | (simp [intOf]; done) | (simp [intOf]; omega)
end Go.Proofs.Ytgchcgllpceghaa
