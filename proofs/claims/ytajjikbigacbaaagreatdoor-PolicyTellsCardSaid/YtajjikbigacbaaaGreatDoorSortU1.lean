/- Own work: slices.Sort at labels, part 1: less, and sorting by insertion. -/
import Derived.Test.YtajjikbigacbaaaGreatDoorSortZ
import Derived.Sort.WalkA
namespace Go.Proofs.YtajjikbigacbaaaGreatDoor
open Go.RowKit Go.Shelf Go.Sort

set_option maxHeartbeats 1000000 in
theorem lessU_any (x y : Int) (w : World) : Calls Tryz.prog 138 #[.int .u64 x, .int .u64 y] w fun e w' => e = .returned (.bool (ltInt x y)) ∧ w' = w := by
  go_enter Tryz.func138, Tryz.ntmps138
  go_wp2_with fail
  refine (nan_any x _).mono ?_
  rintro e w' ⟨rfl, rfl⟩
  go_wp2_with fail
  go_ret
  exact ⟨rfl, rfl⟩

/-- the world in which the row at g, o has become d, q draws on -/
abbrev RowU (w : World) (g o q : Nat) (d : Array Int) : World := putRow (Value.int .u64) (Sort.ahead w q) g o d
theorem rowU_cell {w : World} {g o : Nat} {d : Array Int} (h : Holds (Value.int .u64) w g o d) {m : Nat} {c : Array Int} (hs : c.size = d.size) (t : Nat) (ht : t < d.size) :
    (RowU w g o m c).cell? ⟨g, o + t, none⟩ = some (.int .u64 c[t]!) := cell?_putRow _ _ _ _ d c (holds_ahead _ _ _ _ _ _ h) hs t (by omega)
theorem rowU_open {w : World} {g o : Nat} {d : Array Int} (h : Holds (Value.int .u64) w g o d) {m : Nat} {c : Array Int} (t : Nat) (ht : t < d.size) :
    (RowU w g o m c).frozen? ⟨g, o + t, none⟩ = false := by
  rw [frozen?_putRow]; exact ((holds_ahead _ _ m _ _ _ h) t ht).2

set_option maxHeartbeats 32000000 in
set_option maxRecDepth 1000000 in
theorem insU_any (g o cap a b : Nat) (d : Array Int) (w : World) (hH : Holds (Value.int .u64) w g o d) (hab : a ≤ b) (hb : b ≤ d.size) (hn : d.size < 4611686018427387904) :
    Calls Tryz.prog 132 #[.slice (some ⟨g, o, none⟩) d.size cap, .int .i64 a, .int .i64 b] w fun e w' => e = .returned (.tuple #[]) ∧ ∃ q, w' = RowU w g o q (insertionSort ltInt d a b) := by
  have Hc := Lib.hid (fun (m : Nat) (c : Array Int) (hs : c.size = d.size) => rowU_cell hH (m := m) hs)
  have Hf := Lib.hid (fun (m : Nat) (c : Array Int) => rowU_open hH (m := m) (c := c))
  have H0 := Lib.hid (putRow_self _ _ _ _ _ hH)
  clear hH
  go_enter Tryz.func132, Tryz.ntmps132
  go_wp2
  go_loopw [6] (fun v wr => ∃ (i q : Nat) (c : Array Int), v = .int .i64 i ∧ a < i ∧ i ≤ b + 1 ∧ c.size = d.size ∧ Hid (wr = RowU w g o q c) ∧ Hid (insOuter ltInt a b i c = insertionSort ltInt d a b)) (fun v _ => b + 1 - (intOf v).toNat)
  case atStart => exact ⟨a + 1, 0, d, by go_num, by omega, by omega, rfl, H0.out.symm, rfl⟩
  case round =>
    obtain ⟨i, q, c, rfl, hai, hib, hs, HW, HO⟩ := hrel
    go_wp2
    · have hlt : i < b := by assumption
      go_loopw [7] (fun v wr => ∃ (j q : Nat) (e : Array Int), v = .int .i64 j ∧ a ≤ j ∧ j ≤ i ∧ e.size = d.size ∧ Hid (wr = RowU w g o q e) ∧ Hid (insInner ltInt a j e = insInner ltInt a i c)) (fun v _ => (intOf v).toNat)
      case atStart => exact ⟨i, q, c, rfl, by omega, Nat.le_refl _, hs, HW, rfl⟩
      case round =>
        obtain ⟨j, q2, e, rfl, haj, hji, hse, HW2, HI⟩ := hrel
        obtain ⟨G, hG⟩ : ∃ G : Nat → Int, ∀ t, G t = e[t]! := ⟨fun t => e[t]!, fun _ => rfl⟩
        have hcw : ∀ t, t < d.size → wr.cell? ⟨g, o + t, none⟩ = some (.int .u64 (G t)) := fun t ht => by rw [HW2.out, hG]; exact Hc.out _ _ hse t ht
        have hfw : ∀ t, t < d.size → wr.frozen? ⟨g, o + t, none⟩ = false := fun t ht => by rw [HW2.out]; exact Hf.out _ _ t ht
        have HG := Lib.hid hG
        clear hG
        have Hend := Lib.hid (show (j ≤ a ∨ ltInt e[j]! e[j - 1]! = false) → insOuter ltInt a b (i + 1) e = insertionSort ltInt d a b from fun h => by
          rw [← HO.out, insOuter_go _ _ _ _ _ hlt, ← HI.out, insInner_stop _ _ _ _ h])
        go_wp2
        by_cases hja : a < j
        · go_quiet (first | (go_at_call 138; refine Calls.quiet_of_same (lessU_any _ _ _)))
          go_wp2
          · have hl : ltInt (G j) (G (j - 1)) = true := by assumption
            go_region
            all_goals go_wp2
            go_roundw
            case rel =>
              refine ⟨j - 1, q2 + (nq + 1), swp e j (j - 1), by congr 1; omega, by omega, by omega, by rw [size_swp]; exact hse, ?_, ?_⟩
              · show _ = _
                rw [HW2.out, HG.out, HG.out]
                exact swap_worldA _ w q2 (nq + 1) g o e j (j - 1) (by omega) (by omega)
              · show _ = _
                rw [← HI.out, insInner_go ltInt a j e hja (by rw [← HG.out, ← HG.out]; exact hl)]
            case measure => simp [intOf]; omega
          · have hl : ltInt (G j) (G (j - 1)) = false := by assumption
            go_roundw
            case rel => exact ⟨i + 1, q2 + nq, e, by go_num, by omega, by omega, hse, by show _ = _; rw [HW2.out]; exact putRow_drewN _ _ _ _ _ _ _, Hend.out (.inr (by rw [← HG.out, ← HG.out]; exact hl))⟩
            case measure => simp [intOf]; omega
        · go_quiet (first | (go_at_call 138; refine Calls.quiet_of_same (lessU_any _ _ _)))
          go_wp2
          go_roundw
          case rel => exact ⟨i + 1, q2 + nq, e, by go_num, by omega, by omega, hse, by show _ = _; rw [HW2.out]; exact putRow_drewN _ _ _ _ _ _ _, Hend.out (.inl (by omega))⟩
          case measure => simp [intOf]; omega
    · have hge : ¬ i < b := by assumption
      go_end0
      refine ⟨rfl, q, ?_⟩
      rw [← HO.out, insOuter_stop _ _ _ _ _ hge]
      exact HW.out
end Go.Proofs.YtajjikbigacbaaaGreatDoor
