/- Own work: slices.symMergeCmpFunc at lines. -/
import Derived.Test.YtajjikbigacbaaaDoorStabC
namespace Go.Proofs.YtajjikbigacbaaaDoor
open Go.RowKit Go.Sort Go.Shelf

abbrev tgT : TL → Nat := Prod.snd
abbrev PT : TL → TL → Bool := pB ltT tgT
/-- the function that is handed in -/
abbrev fvT : Value := .func (.func 30) #[] #[]
/-- a stretch put in order -/
def SymP (w : World) (blk off a b : Nat) (d : Array TL) (e : Ending) (w' : World) : Prop := e = .returned (.tuple #[]) ∧ ∃ d', SWK encT 4 w blk off d' w' ∧ PermIn a b d d' ∧ SortedIn PT a b d'
theorem cfT_neg (x y : TL) : decide (cfT x y < 0) = ltT x y := cfT_lt x y
theorem cells_grown {W : World} {a : Addr} {v : Value} (hb : a.block < W.heap.size) (h : W.cell? a = some v) : ∀ n os, (grow (W.drewN n) os).cell? a = some v := cell_grown hb h
theorem cmp_grown (x y : TL) (W : World) : ∀ n os, Calls Tryd.prog 30 #[x.1.agg, y.1.agg] (grow (W.drewN n) os) fun e w' => e = .returned (.int .i64 (cfT x y)) ∧ ∃ q os', w' = grow ((grow (W.drewN n) os).drewN q) os' := fun _ _ =>
  (cmp_any x y _).mono fun _ _ ⟨he, q, os', hw⟩ => ⟨he, q, os', hw⟩
set_option maxHeartbeats 32000000 in
set_option maxRecDepth 100000 in
theorem merge_one (blk off cap a b : Nat) (d : Array TL) (w : World) (hH : HoldsK encT 4 w blk off d) (hblk : blk < w.heap.size) (h1 : a + 1 < b) (h2 : b ≤ d.size) (hsz : d.size < 4611686018427387904) (hs : SortedIn PT (a + 1) b d) (hlo : Lo tgT d a (a + 1) b) :
    Calls Tryd.prog 59 #[.slice (some ⟨blk, off, none⟩) d.size cap, .int .i64 a, .int .i64 ((a : Int) + 1), .int .i64 b, fvT] w (SymP w blk off a b d) := by
  have HH := Lib.hid hH
  have HS := Lib.hid (SWK.start hH)
  have Hs := Lib.hid hs
  have Hlo := Lib.hid hlo
  obtain ⟨N, hN⟩ : ∃ N, d.size = N := ⟨_, rfl⟩
  have HN := Lib.hid hN
  rw [hN] at h2 hsz ⊢
  have mixed := laysIns.mixed
  have hone : (a : Int) + 1 - (a : Int) = 1 := by omega
  clear hH hN hs hlo
  go_enter Tryd.func59, Tryd.ntmps59
  go_wp2_with fail
  go_loopw [10, 11] (fun v u wr => ∃ (i j : Nat), v = .int .i64 i ∧ u = .int .i64 j ∧ a + 1 ≤ i ∧ i ≤ j ∧ j ≤ b ∧ SWK encT 4 w blk off d wr ∧ Hid (a + 1 < i → ltT d[i - 1]! d[a]! = true) ∧ Hid (j < b → ltT d[j]! d[a]! = false)) (fun v u _ => (intOf u).toNat - (intOf v).toNat)
  case atStart => exact ⟨a + 1, b, by congr 1, rfl, Nat.le_refl _, by omega, Nat.le_refl _, HS.out, fun h => absurd h (by omega), fun h => absurd h (by omega)⟩
  case round =>
    obtain ⟨i, j, rfl, rfl, hai, hij, hjb, hS, HF1, HF2⟩ := hrel
    have HK := Lib.hid hS
    clear hS
    by_cases hlt : i < j
    · obtain ⟨T, hT⟩ : ∃ T, i + j = T := ⟨_, rfl⟩
      obtain ⟨h, hh⟩ : ∃ h, T / 2 = h := ⟨_, rfl⟩
      have hib : i ≤ h := by omega
      have hhj : h < j := by omega
      obtain ⟨x, hx⟩ : ∃ x, d[h]! = x := ⟨_, rfl⟩
      obtain ⟨y, hy⟩ : ∃ y, d[a]! = y := ⟨_, rfl⟩
      obtain ⟨⟨c0, c1, c2, c3⟩, _⟩ := swk_cells HK.out HH.out hblk rfl (i := h) (by rw [HN.out]; omega) hx
      obtain ⟨⟨d0, d1, d2, d3⟩, _⟩ := swk_cells HK.out HH.out hblk rfl (i := a) (by rw [HN.out]; omega) hy
      have lw := HK.out.lt hblk
      have c0 := cells_grown lw c0
      have c1 := cells_grown lw c1
      have c2 := cells_grown lw c2
      have c3 := cells_grown lw c3
      have d0 := cells_grown lw d0
      have d1 := cells_grown lw d1
      have d2 := cells_grown lw d2
      have d3 := cells_grown lw d3
      have Hc := Lib.hid (cmp_grown x y wr)
      have HX := Lib.hid hx
      have HY := Lib.hid hy
      have hi0 : (0 : Int) ≤ (h : Int) := by omega
      have hi1 : (h : Int) < (N : Int) := by omega
      have ha0 : (0 : Int) ≤ (a : Int) := by omega
      have ha1 : (a : Int) < (N : Int) := by omega
      have hsum : (i : Int) + (j : Int) = (T : Int) := by omega
      have hT2 : (T : Int) / 2 = (h : Int) := by omega
      clear hx hy
      obtain ⟨⟨x1, x2, x3, x4⟩, xt⟩ := x
      obtain ⟨⟨y1, y2, y3, y4⟩, yt⟩ := y
      simp only [LineV.agg] at c0 c1 c2 c3 d0 d1 d2 d3 Hc
      obtain ⟨c, hc⟩ : ∃ c, cfT (⟨x1, x2, x3, x4⟩, xt) (⟨y1, y2, y3, y4⟩, yt) = c := ⟨_, rfl⟩
      have HL := Lib.hid (show decide (c < 0) = ltT d[h]! d[a]! by rw [HX.out, HY.out, ← hc]; exact cfT_neg _ _)
      rw [hc] at Hc
      clear hc
      by_cases hneg : c < 0
      · have HL2 : Hid (ltT d[h]! d[a]! = true) := by show _ = _; rw [← HL.out]; exact decide_eq_true hneg
        go_wp2_with fail
        go_quiet_grown (first | (go_at_call 30; refine Calls.grown_of (Hc.out _ _)))
        go_wp2
        go_roundw
        case rel => exact ⟨h + 1, j, by congr 1, rfl, by omega, by omega, hjb, HK.out.grown _ _, fun _ => HL2.out, HF2.out⟩
        case measure => simp [intOf]; omega
      · have HL2 : Hid (ltT d[h]! d[a]! = false) := by show _ = _; rw [← HL.out]; exact decide_eq_false hneg
        go_wp2_with fail
        go_quiet_grown (first | (go_at_call 30; refine Calls.grown_of (Hc.out _ _)))
        go_wp2
        go_roundw
        case rel => exact ⟨i, h, rfl, rfl, hai, hib, by omega, HK.out.grown _ _, HF1.out, fun _ => HL2.out⟩
        case measure => simp [intOf]; omega
    · obtain rfl : i = j := by omega
      obtain ⟨I, hI⟩ : ∃ I, i = I + 1 := ⟨i - 1, by omega⟩
      have hIz : (i : Int) - 1 = (I : Int) := by omega
      have haI : a ≤ I := by omega
      go_wp2_with fail
      go_loopw [13] (fun v wr => ∃ (k : Nat) (dk : Array TL), v = .int .i64 k ∧ a ≤ k ∧ k ≤ I ∧ SWK encT 4 w blk off dk wr ∧ Hid (Went a i (rotI a (a + 1) (k + 1)) d dk)) (fun v _ => I - (intOf v).toNat)
      case atStart => exact ⟨a, d, rfl, Nat.le_refl _, haI, HK.out, (Went.refl _ _ _).cong fun t _ => (rot_none a (a + 1) t).symm⟩
      case round =>
        obtain ⟨k, dk, rfl, hak, hkI, hS, HW⟩ := hrel
        have HK2 := Lib.hid hS
        have hds : dk.size = N := HW.out.perm.1.trans HN.out
        clear hS
        by_cases hlt2 : k < I
        · obtain ⟨x, hx⟩ : ∃ x, dk[k]! = x := ⟨_, rfl⟩
          obtain ⟨y, hy⟩ : ∃ y, dk[k + 1]! = y := ⟨_, rfl⟩
          obtain ⟨⟨c0, c1, c2, c3⟩, f0, f1, f2, f3⟩ := swk_cells HK2.out HH.out hblk (hds.trans HN.out.symm) (i := k) (by rw [HN.out]; omega) hx
          obtain ⟨⟨d0, d1, d2, d3⟩, g0, g1, g2, g3⟩ := swk_cells HK2.out HH.out hblk (hds.trans HN.out.symm) (i := k + 1) (by rw [HN.out]; omega) hy
          have HX := Lib.hid hx
          have HY := Lib.hid hy
          obtain ⟨⟨x1, x2, x3, x4⟩, xt⟩ := x
          obtain ⟨⟨y1, y2, y3, y4⟩, yt⟩ := y
          dsimp only at c0 c1 c2 c3 d0 d1 d2 d3
          obtain ⟨K, hK⟩ : ∃ K, k + 1 = K := ⟨_, rfl⟩
          rw [hK] at d0 d1 d2 d3 g0 g1 g2 g3
          have hKz : (k : Int) + 1 = (K : Int) := by omega
          have hkK : k ≠ K := by omega
          have ha0 : (0 : Int) ≤ (k : Int) := by omega
          have ha1 : (k : Int) < (N : Int) := by omega
          have hb0 : (0 : Int) ≤ (K : Int) := by omega
          have hb1 : (K : Int) < (N : Int) := by omega
          clear hx hy
          go_wp2_with fail
          go_region
          all_goals go_wp2
          go_roundw
          case rel =>
            refine ⟨K, swp dk k K, rfl, by omega, by omega, ?_, ?_⟩
            · have h := SWK.swap HK2.out encT_len hblk k K (by omega) (by omega)
              rw [← hK, HX.out, HY.out] at h
              subst hK
              exact h.drew
            · subst hK
              exact (HW.out.swp k (k + 1) (by omega) (by omega) (by omega) (by omega) (by rw [HN.out]; omega)).cong fun t _ => (rot_up a k t hak).symm
          case measure => simp [intOf]; omega
        · obtain rfl : k = I := by omega
          go_wp2_with fail
          go_end0
          have hw := HW.out
          rw [← hI] at hw
          exact ⟨rfl, dk, HK2.out, (hw.mono (Nat.le_refl _) hjb (by rw [HN.out]; exact h2)).perm, one_left ltT_swo (by rw [HN.out]; exact h2) Hs.out Hlo.out hai hjb HF1.out HF2.out hw⟩

set_option maxHeartbeats 32000000 in
set_option maxRecDepth 100000 in
theorem merge_last (blk off cap a m : Nat) (d : Array TL) (w : World) (hH : HoldsK encT 4 w blk off d) (hblk : blk < w.heap.size) (h1 : a + 1 < m) (h2 : m + 1 ≤ d.size) (hsz : d.size < 4611686018427387904) (hs : SortedIn PT a m d) (hlo : Lo tgT d a m (m + 1)) :
    Calls Tryd.prog 59 #[.slice (some ⟨blk, off, none⟩) d.size cap, .int .i64 a, .int .i64 m, .int .i64 ((m : Int) + 1), fvT] w (SymP w blk off a (m + 1) d) := by
  have HH := Lib.hid hH
  have HS := Lib.hid (SWK.start hH)
  have Hs := Lib.hid hs
  have Hlo := Lib.hid hlo
  obtain ⟨N, hN⟩ : ∃ N, d.size = N := ⟨_, rfl⟩
  have HN := Lib.hid hN
  rw [hN] at h2 hsz ⊢
  have mixed := laysIns.mixed
  have hone : (m : Int) + 1 - (m : Int) = 1 := by omega
  obtain ⟨L, hL⟩ : ∃ L, m - a = L := ⟨_, rfl⟩
  have hLz : (m : Int) - (a : Int) = (L : Int) := by omega
  have hL1 : ((L : Int) == 1) = false := by rw [beq_eq_false_iff_ne]; omega
  clear hH hN hs hlo
  go_enter Tryd.func59, Tryd.ntmps59
  go_wp2_with fail
  go_loopw [14, 15] (fun v u wr => ∃ (i j : Nat), v = .int .i64 i ∧ u = .int .i64 j ∧ a ≤ i ∧ i ≤ j ∧ j ≤ m ∧ SWK encT 4 w blk off d wr ∧ Hid (a < i → ltT d[m]! d[i - 1]! = false) ∧ Hid (j < m → ltT d[m]! d[j]! = true)) (fun v u _ => (intOf u).toNat - (intOf v).toNat)
  case atStart => exact ⟨a, m, rfl, rfl, Nat.le_refl _, by omega, Nat.le_refl _, HS.out, fun h => absurd h (by omega), fun h => absurd h (by omega)⟩
  case round =>
    obtain ⟨i, j, rfl, rfl, hai, hij, hjm, hS, HF1, HF2⟩ := hrel
    have HK := Lib.hid hS
    clear hS
    by_cases hlt : i < j
    · obtain ⟨T, hT⟩ : ∃ T, i + j = T := ⟨_, rfl⟩
      obtain ⟨h, hh⟩ : ∃ h, T / 2 = h := ⟨_, rfl⟩
      have hib : i ≤ h := by omega
      have hhj : h < j := by omega
      obtain ⟨x, hx⟩ : ∃ x, d[m]! = x := ⟨_, rfl⟩
      obtain ⟨y, hy⟩ : ∃ y, d[h]! = y := ⟨_, rfl⟩
      obtain ⟨⟨c0, c1, c2, c3⟩, _⟩ := swk_cells HK.out HH.out hblk rfl (i := m) (by rw [HN.out]; omega) hx
      obtain ⟨⟨d0, d1, d2, d3⟩, _⟩ := swk_cells HK.out HH.out hblk rfl (i := h) (by rw [HN.out]; omega) hy
      have lw := HK.out.lt hblk
      have c0 := cells_grown lw c0
      have c1 := cells_grown lw c1
      have c2 := cells_grown lw c2
      have c3 := cells_grown lw c3
      have d0 := cells_grown lw d0
      have d1 := cells_grown lw d1
      have d2 := cells_grown lw d2
      have d3 := cells_grown lw d3
      have Hc := Lib.hid (cmp_grown x y wr)
      have HX := Lib.hid hx
      have HY := Lib.hid hy
      have hi0 : (0 : Int) ≤ (h : Int) := by omega
      have hi1 : (h : Int) < (N : Int) := by omega
      have ha0 : (0 : Int) ≤ (m : Int) := by omega
      have ha1 : (m : Int) < (N : Int) := by omega
      have hsum : (i : Int) + (j : Int) = (T : Int) := by omega
      have hT2 : (T : Int) / 2 = (h : Int) := by omega
      clear hx hy
      obtain ⟨⟨x1, x2, x3, x4⟩, xt⟩ := x
      obtain ⟨⟨y1, y2, y3, y4⟩, yt⟩ := y
      simp only [LineV.agg] at c0 c1 c2 c3 d0 d1 d2 d3 Hc
      obtain ⟨c, hc⟩ : ∃ c, cfT (⟨x1, x2, x3, x4⟩, xt) (⟨y1, y2, y3, y4⟩, yt) = c := ⟨_, rfl⟩
      have HL := Lib.hid (show decide (c < 0) = ltT d[m]! d[h]! by rw [HX.out, HY.out, ← hc]; exact cfT_neg _ _)
      rw [hc] at Hc
      clear hc
      by_cases hneg : c < 0
      · have HL2 : Hid (ltT d[m]! d[h]! = true) := by show _ = _; rw [← HL.out]; exact decide_eq_true hneg
        go_wp2_with fail
        go_quiet_grown (first | (go_at_call 30; refine Calls.grown_of (Hc.out _ _)))
        go_wp2
        go_roundw
        case rel => exact ⟨i, h, rfl, rfl, hai, hib, by omega, HK.out.grown _ _, HF1.out, fun _ => HL2.out⟩
        case measure => simp [intOf]; omega
      · have HL2 : Hid (ltT d[m]! d[h]! = false) := by show _ = _; rw [← HL.out]; exact decide_eq_false hneg
        have hdc : decide (c < 0) = false := decide_eq_false hneg
        go_wp2_with fail
        go_quiet_grown (first | (go_at_call 30; refine Calls.grown_of (Hc.out _ _)))
        go_wp2
        go_roundw
        case rel => exact ⟨h + 1, j, by congr 1, rfl, by omega, by omega, hjm, HK.out.grown _ _, fun _ => HL2.out, HF2.out⟩
        case measure => simp [intOf]; omega
    · obtain rfl : i = j := by omega
      go_wp2_with fail
      go_loopw [17] (fun v wr => ∃ (k : Nat) (dk : Array TL), v = .int .i64 k ∧ i ≤ k ∧ k ≤ m ∧ SWK encT 4 w blk off dk wr ∧ Hid (Went i (m + 1) (rotI k m (m + 1)) d dk)) (fun v _ => (intOf v).toNat)
      case atStart => exact ⟨m, d, rfl, hjm, Nat.le_refl _, HK.out, (Went.refl _ _ _).cong fun t _ => (rot_zero m (m + 1) t).symm⟩
      case round =>
        obtain ⟨k, dk, rfl, hik, hkm, hS, HW⟩ := hrel
        have HK2 := Lib.hid hS
        have hds : dk.size = N := HW.out.perm.1.trans HN.out
        clear hS
        by_cases hlt2 : i < k
        · obtain ⟨K, hK⟩ : ∃ K, k = K + 1 := ⟨k - 1, by omega⟩
          obtain ⟨x, hx⟩ : ∃ x, dk[k]! = x := ⟨_, rfl⟩
          obtain ⟨y, hy⟩ : ∃ y, dk[K]! = y := ⟨_, rfl⟩
          obtain ⟨⟨c0, c1, c2, c3⟩, f0, f1, f2, f3⟩ := swk_cells HK2.out HH.out hblk (hds.trans HN.out.symm) (i := k) (by rw [HN.out]; omega) hx
          obtain ⟨⟨d0, d1, d2, d3⟩, g0, g1, g2, g3⟩ := swk_cells HK2.out HH.out hblk (hds.trans HN.out.symm) (i := K) (by rw [HN.out]; omega) hy
          have HX := Lib.hid hx
          have HY := Lib.hid hy
          obtain ⟨⟨x1, x2, x3, x4⟩, xt⟩ := x
          obtain ⟨⟨y1, y2, y3, y4⟩, yt⟩ := y
          dsimp only at c0 c1 c2 c3 d0 d1 d2 d3
          have hKz : (k : Int) - 1 = (K : Int) := by omega
          have hkK : k ≠ K := by omega
          have ha0 : (0 : Int) ≤ (k : Int) := by omega
          have ha1 : (k : Int) < (N : Int) := by omega
          have hb0 : (0 : Int) ≤ (K : Int) := by omega
          have hb1 : (K : Int) < (N : Int) := by omega
          have HKk := Lib.hid hK
          clear hx hy hK
          go_wp2_with fail
          go_region
          all_goals go_wp2
          go_roundw
          case rel =>
            have hK := HKk.out
            refine ⟨K, swp dk k K, rfl, by omega, by omega, ?_, ?_⟩
            · have h := SWK.swap HK2.out encT_len hblk k K (by omega) (by omega)
              rw [HX.out, HY.out] at h
              exact h.drew
            · subst hK
              exact (HW.out.swp (K + 1) K (by omega) (by omega) (by omega) (by omega) (by rw [HN.out]; omega)).cong fun t _ => (rot_down K m t (by omega)).symm
          case measure => have hK := HKk.out; simp [intOf]; omega
        · obtain rfl : k = i := by omega
          go_wp2_with fail
          go_end0
          exact ⟨rfl, dk, HK2.out, (HW.out.mono hai (Nat.le_refl _) (by rw [HN.out]; exact h2)).perm, one_right ltT_swo (by rw [HN.out]; exact h2) Hs.out Hlo.out hai hjm HF1.out HF2.out HW.out⟩
end Go.Proofs.YtajjikbigacbaaaDoor
