/- Own work: slices.Sort at labels, part 3: sorting by a heap. -/
import Derived.Test.YtajjikbigacbaaaGreatDoorSortU2
namespace Go.Proofs.YtajjikbigacbaaaGreatDoor
open Go.RowKit Go.Shelf Go.Sort

theorem rowU_holds {w : World} {g o q : Nat} {d c : Array Int} (h : Holds (Value.int .u64) w g o d) (hs : c.size = d.size) : Holds (Value.int .u64) (RowU w g o q c) g o c := holds_putRow _ _ _ _ d c (holds_ahead _ _ q _ _ _ h) hs
theorem rowU_join (w : World) (g o q m : Nat) {c e : Array Int} (hs : e.size = c.size) : RowU (RowU w g o q c) g o m e = RowU w g o (q + m) e := putRow_ahead_putRow _ w q m g o c e hs
theorem sift_same (hi first root : Nat) (c : Array Int) : (siftDown ltInt hi first root c).size = c.size := size_siftDown ltInt _ _ _ _ _ (Nat.le_refl _)

set_option maxHeartbeats 32000000 in
set_option maxRecDepth 1000000 in
theorem heapU_any (g o cap a b : Nat) (d : Array Int) (w : World) (hH : Holds (Value.int .u64) w g o d) (hab : a ≤ b) (hb : b ≤ d.size) (hn : d.size < 4611686018427387904) :
    Calls Tryz.prog 133 #[.slice (some ⟨g, o, none⟩) d.size cap, .int .i64 a, .int .i64 b] w fun e w' => e = .returned (.tuple #[]) ∧ ∃ q, w' = RowU w g o q (heapSort ltInt d a b) := by
  have Hc := Lib.hid (fun (m : Nat) (c : Array Int) (hs : c.size = d.size) => rowU_cell hH (m := m) hs)
  have Hf := Lib.hid (fun (m : Nat) (c : Array Int) => rowU_open hH (m := m) (c := c))
  have Hh := Lib.hid (fun (q : Nat) (c : Array Int) (hs : c.size = d.size) => rowU_holds (q := q) hH hs)
  have H0 := Lib.hid (putRow_self _ _ _ _ _ hH)
  have hba : ((b - a : Nat) : Int) = (b : Int) - (a : Int) := by omega
  clear hH
  go_enter Tryz.func133, Tryz.ntmps133
  go_wp2
  go_loopw [9] (fun v wr => ∃ (k q : Nat) (c : Array Int), v = .int .i64 ((k : Int) - 1) ∧ k ≤ (b - a - 1) / 2 + 1 ∧ c.size = d.size ∧ Hid (wr = RowU w g o q c) ∧ Hid (heapBuild ltInt (b - a) a k c = heapBuild ltInt (b - a) a ((b - a - 1) / 2 + 1) d)) (fun v _ => (intOf v + 1).toNat)
  case atStart => exact ⟨_, 0, d, by rw [half_start hab], Nat.le_refl _, rfl, H0.out.symm, rfl⟩
  case round =>
    obtain ⟨k, q, c, rfl, hk, hs, HW, HB⟩ := hrel
    by_cases h0 : k = 0
    · subst h0
      have HD := Lib.hid (show c = heapBuild ltInt (b - a) a ((b - a - 1) / 2 + 1) d from HB.out)
      clear HB hk
      rw [show ((0 : Nat) : Int) - 1 = -1 from rfl]
      go_wp2
      go_loopw [10] (fun v wr => ∃ (k q : Nat) (e : Array Int), v = .int .i64 ((k : Int) - 1) ∧ k ≤ b - a ∧ e.size = d.size ∧ Hid (wr = RowU w g o q e) ∧ Hid (heapPop ltInt a k e = heapSort ltInt d a b)) (fun v _ => (intOf v + 1).toNat)
      case atStart => exact ⟨b - a, q, c, by rw [hba], Nat.le_refl _, hs, HW, by show _ = _; rw [heapSort, ← HD.out]⟩
      case round =>
        obtain ⟨k, q2, e, rfl, hk, hse, HW2, HP⟩ := hrel
        by_cases h0 : k = 0
        · subst h0
          go_wp2
          go_end0
          refine ⟨rfl, q2, ?_⟩
          rw [← HP.out]
          exact HW2.out
        · obtain ⟨t, rfl⟩ : ∃ t, k = t + 1 := ⟨k - 1, by omega⟩
          obtain ⟨G, hG⟩ : ∃ G : Nat → Int, ∀ t, G t = e[t]! := ⟨fun t => e[t]!, fun _ => rfl⟩
          have hcw : ∀ t, t < d.size → wr.cell? ⟨g, o + t, none⟩ = some (.int .u64 (G t)) := fun t ht => by rw [HW2.out, hG]; exact Hc.out _ _ hse t ht
          have hfw : ∀ t, t < d.size → wr.frozen? ⟨g, o + t, none⟩ = false := fun t ht => by rw [HW2.out]; exact Hf.out _ _ t ht
          have HG := Lib.hid hG
          clear hG
          by_cases ht : t = 0
          · subst ht
            go_wp2_with fail
            go_region
            go_wp2_with fail
            rw [swap_world (Value.int .u64) (i := a) (j := a) (by omega) (by omega) HW2.out (by rw [HG.out]) (by rw [HG.out])]
            refine (siftU_any g o cap d.size (swp e a (a)) (by rw [size_swp]; exact hse) 0 0 a _ (Hh.out _ _ (by rw [size_swp]; exact hse)) (Nat.zero_le _) (by rw [size_swp]; omega) (by rw [size_swp]; omega)).mono ?_
            rintro e1 w1 ⟨rfl, m, hw1⟩
            go_wp2
            go_roundw
            case rel =>
              refine ⟨0, q2 + 1 + m, siftDown ltInt 0 a 0 (swp e a (a)), by go_num, by omega, by rw [sift_same, size_swp]; exact hse, ?_, HP.out⟩
              show _ = _
              first
                | (rw [hw1]; exact rowU_join _ _ _ _ _ (sift_same _ _ _ _))
                | exact rowU_join _ _ _ _ _ (sift_same _ _ _ _)
            case measure => first | (simp [intOf]; done) | (simp [intOf]; omega)
          · go_wp2_with fail
            go_region
            go_wp2_with fail
            rw [swap_world (Value.int .u64) (i := a) (j := a + t) (by omega) (by omega) HW2.out (by rw [HG.out]) (by rw [HG.out])]
            refine (siftU_any g o cap d.size (swp e a (a + t)) (by rw [size_swp]; exact hse) 0 t a _ (Hh.out _ _ (by rw [size_swp]; exact hse)) (Nat.zero_le _) (by rw [size_swp]; omega) (by rw [size_swp]; omega)).mono ?_
            rintro e1 w1 ⟨rfl, m, hw1⟩
            go_wp2
            go_roundw
            case rel =>
              refine ⟨t, q2 + 1 + m, siftDown ltInt t a 0 (swp e a (a + t)), by go_num, by omega, by rw [sift_same, size_swp]; exact hse, ?_, HP.out⟩
              show _ = _
              first
                | (rw [hw1]; exact rowU_join _ _ _ _ _ (sift_same _ _ _ _))
                | exact rowU_join _ _ _ _ _ (sift_same _ _ _ _)
            case measure => first | (simp [intOf]; done) | (simp [intOf]; omega)
    · obtain ⟨t, rfl⟩ : ∃ t, k = t + 1 := ⟨k - 1, by omega⟩
      have Hcall := Lib.hid (siftU_any g o cap d.size c hs t (b - a) a wr (by rw [HW.out]; exact Hh.out _ _ hs) (by omega) (by omega) (by omega))
      rw [hba] at Hcall
      go_wp2_with (go_at_call 165; refine Hcall.out.mono ?_; rintro e w1 ⟨rfl, m, hw1⟩)
      go_roundw
      case rel =>
        refine ⟨t, q + m, siftDown ltInt (b - a) a t c, by go_num, by omega, by rw [sift_same]; exact hs, ?_, HB.out⟩
        show _ = _
        rw [HW.out]
        exact rowU_join _ _ _ _ _ (sift_same _ _ _ _)
      case measure => first | (simp [intOf]; done) | (simp [intOf]; omega)
end Go.Proofs.YtajjikbigacbaaaGreatDoor
