/- Own work: a row of lines: ranges exchanged, turned about. -/
import Derived.Test.YtajjikbigacbaaaDoorStabA
namespace Go.Proofs.YtajjikbigacbaaaDoor
open Go.RowKit Go.Sort Go.Shelf

theorem rowT {w : World} {blk off : Nat} {d : Array TL} (hH : HoldsK encT 4 w blk off d) (hblk : blk < w.heap.size) : RowK encT 4 w blk off d := ⟨encT_len, encT_one, hH, hblk⟩
/-- the cells of a row's element -/
theorem swk_cells {w W : World} {blk off : Nat} {d dk : Array TL} (h : SWK encT 4 w blk off dk W) (hH : HoldsK encT 4 w blk off d) (hblk : blk < w.heap.size) (hs : dk.size = d.size) {i : Nat} (hi : i < d.size) {x : TL} (hx : dk[i]! = x) :
    (W.cell? ⟨blk, off + i * 4, none⟩ = some (.int .u64 x.1.lab) ∧ W.cell? ⟨blk, off + i * 4 + 1, none⟩ = some (.int .i64 x.1.num) ∧ W.cell? ⟨blk, off + i * 4 + 2, none⟩ = some (.int .i64 x.1.rev) ∧ W.cell? ⟨blk, off + i * 4 + 3, none⟩ = some (.string x.1.text)) ∧
    (W.frozen? ⟨blk, off + i * 4, none⟩ = false ∧ W.frozen? ⟨blk, off + i * 4 + 1, none⟩ = false ∧ W.frozen? ⟨blk, off + i * 4 + 2, none⟩ = false ∧ W.frozen? ⟨blk, off + i * 4 + 3, none⟩ = false) := by
  subst hx
  have hh := h.holds hblk hH hs
  have c := fun c hc => HoldsK.cell hh (i := i) (c := c) (by omega) hc
  exact ⟨⟨(c 0 (by decide)).1, (c 1 (by decide)).1, (c 2 (by decide)).1, (c 3 (by decide)).1⟩, (c 0 (by decide)).2, (c 1 (by decide)).2, (c 2 (by decide)).2, (c 3 (by decide)).2⟩

set_option maxHeartbeats 32000000 in
set_option maxRecDepth 100000 in
theorem swapRange_any (blk off cap a b n : Nat) (d : Array TL) (w : World) (fv : Value) (hH : HoldsK encT 4 w blk off d) (hblk : blk < w.heap.size) (h1 : a + n ≤ b) (h2 : b + n ≤ d.size) (hsz : d.size < 4611686018427387904) :
    Calls Tryd.prog 89 #[.slice (some ⟨blk, off, none⟩) d.size cap, .int .i64 a, .int .i64 b, .int .i64 n, fv] w fun e w' => e = .returned (.tuple #[]) ∧ ∃ d', SWK encT 4 w blk off d' w' ∧ Went a (b + n) (swrI a b n) d d' := by
  have HH := Lib.hid hH
  have HS := Lib.hid (SWK.start hH)
  obtain ⟨N, hN⟩ : ∃ N, d.size = N := ⟨_, rfl⟩
  have HN := Lib.hid hN
  rw [hN] at h2 hsz ⊢
  clear hH hN
  go_enter Tryd.func89, Tryd.ntmps89
  go_wp2_with fail
  go_loopw [10] (fun v wr => ∃ (k : Nat) (dk : Array TL), k ≤ n ∧ v = .int .i64 k ∧ SWK encT 4 w blk off dk wr ∧ Hid (Went a (b + n) (swrI a b k) d dk)) (fun v _ => n - (intOf v).toNat)
  case atStart => exact ⟨0, d, Nat.zero_le _, rfl, HS.out, (Went.refl _ _ _).cong fun t _ => by simp only [swrI]; rw [if_neg (by omega), if_neg (by omega)]⟩
  case round =>
    obtain ⟨k, dk, hk, rfl, hS, HW⟩ := hrel
    have HK := Lib.hid hS
    have hds : dk.size = N := HW.out.perm.1.trans HN.out
    clear hS
    by_cases hlt : k < n
    · obtain ⟨x, hx⟩ : ∃ x, dk[a + k]! = x := ⟨_, rfl⟩
      obtain ⟨y, hy⟩ : ∃ y, dk[b + k]! = y := ⟨_, rfl⟩
      obtain ⟨⟨c0, c1, c2, c3⟩, f0, f1, f2, f3⟩ := swk_cells HK.out HH.out hblk (hds.trans HN.out.symm) (i := a + k) (by rw [HN.out]; omega) hx
      obtain ⟨⟨d0, d1, d2, d3⟩, g0, g1, g2, g3⟩ := swk_cells HK.out HH.out hblk (hds.trans HN.out.symm) (i := b + k) (by rw [HN.out]; omega) hy
      have HX := Lib.hid hx
      have HY := Lib.hid hy
      obtain ⟨⟨x1, x2, x3, x4⟩, xt⟩ := x
      obtain ⟨⟨y1, y2, y3, y4⟩, yt⟩ := y
      dsimp only at c0 c1 c2 c3 d0 d1 d2 d3
      obtain ⟨A, hA⟩ : ∃ A, a + k = A := ⟨_, rfl⟩
      obtain ⟨B, hB⟩ : ∃ B, b + k = B := ⟨_, rfl⟩
      rw [hA] at c0 c1 c2 c3 f0 f1 f2 f3
      rw [hB] at d0 d1 d2 d3 g0 g1 g2 g3
      have hAz : (a : Int) + (k : Int) = (A : Int) := by omega
      have hBz : (b : Int) + (k : Int) = (B : Int) := by omega
      have hAB : A ≠ B := by omega
      have ha0 : (0 : Int) ≤ (A : Int) := by omega
      have ha1 : (A : Int) < (N : Int) := by omega
      have hb0 : (0 : Int) ≤ (B : Int) := by omega
      have hb1 : (B : Int) < (N : Int) := by omega
      clear hx hy
      go_wp2_with fail
      go_region
      all_goals go_wp2
      refine ⟨⟨k + 1, swp dk A B, by omega, by go_num, ?_, ?_⟩, by simp [intOf]; omega⟩
      · have h := SWK.swap HK.out encT_len hblk A B (by omega) (by omega)
        rw [← hA, ← hB, HX.out, HY.out] at h
        subst hA hB
        exact h.drew
      · subst hA hB
        exact (HW.out.swp (a + k) (b + k) (by omega) (by omega) (by omega) (by omega) (by rw [HN.out]; omega)).cong fun t _ => (swr_next a b k t (by omega)).symm
    · obtain rfl : k = n := by omega
      go_wp2_with fail
      go_end0
      exact ⟨rfl, dk, HK.out, HW.out⟩

/-- what a callee left of a row, seen from the caller's world -/
theorem swk_on {w W W' : World} {blk off : Nat} {dk d' : Array TL} (h : SWK encT 4 w blk off dk W) (hblk : blk < w.heap.size) (h' : SWK encT 4 W blk off d' W') (hs : d'.size = dk.size) : SWK encT 4 w blk off d' W' := by
  obtain ⟨m, os, rfl⟩ := h'
  exact h.on hblk m d' os hs
theorem swk_holds {w W : World} {blk off : Nat} {d dk : Array TL} (h : SWK encT 4 w blk off dk W) (hH : HoldsK encT 4 w blk off d) (hblk : blk < w.heap.size) (hs : dk.size = d.size) : HoldsK encT 4 W blk off dk ∧ blk < W.heap.size := ⟨h.holds hblk hH hs, h.lt hblk⟩

set_option maxHeartbeats 32000000 in
set_option maxRecDepth 100000 in
theorem rotate_any (blk off cap s m e : Nat) (d : Array TL) (w : World) (fv : Value) (hH : HoldsK encT 4 w blk off d) (hblk : blk < w.heap.size) (h1 : s < m) (h2 : m < e) (h3 : e ≤ d.size) (hsz : d.size < 4611686018427387904) :
    Calls Tryd.prog 76 #[.slice (some ⟨blk, off, none⟩) d.size cap, .int .i64 s, .int .i64 m, .int .i64 e, fv] w fun en w' => en = .returned (.tuple #[]) ∧ ∃ d', SWK encT 4 w blk off d' w' ∧ Went s e (rotI s m e) d d' := by
  have HH := Lib.hid hH
  have HS := Lib.hid (SWK.start hH)
  obtain ⟨N, hN⟩ : ∃ N, d.size = N := ⟨_, rfl⟩
  have HN := Lib.hid hN
  rw [hN] at h3 hsz ⊢
  clear hH hN
  go_enter Tryd.func76, Tryd.ntmps76
  go_wp2_with fail
  go_loopw [10, 11] (fun v u wr => ∃ (i j : Nat) (g : Nat → Nat) (dk : Array TL), v = .int .i64 i ∧ u = .int .i64 j ∧ 1 ≤ i ∧ 1 ≤ j ∧ s + i ≤ m ∧ m + j ≤ e ∧ SWK encT 4 w blk off dk wr ∧ Hid (Went s e g d dk) ∧ Hid (∀ t, t < N → rotI s m e t = g (rotI (m - i) m (m + j) t)))
    (fun v u _ => (intOf v).toNat + (intOf u).toNat)
  case atStart =>
    refine ⟨m - s, e - m, fun t => t, d, by congr 1; omega, by congr 1; omega, by omega, by omega, by omega, by omega, HS.out, Went.refl _ _ _, fun t _ => ?_⟩
    rw [show m - (m - s) = s by omega, show m + (e - m) = e by omega]
  case round =>
    obtain ⟨i, j, g, dk, rfl, rfl, hi, hj, hsi, hje, hS, HW, HG⟩ := hrel
    have hds : dk.size = N := HW.out.perm.1.trans HN.out
    obtain ⟨hHk, hbk⟩ := swk_holds hS HH.out hblk (hds.trans HN.out.symm)
    have HK := Lib.hid hS
    have HHk := Lib.hid hHk
    clear hS hHk
    obtain ⟨S, hSd⟩ : ∃ S, m - i = S := ⟨_, rfl⟩
    rw [hSd] at HG
    have hSz : (m : Int) - (i : Int) = (S : Int) := by omega
    by_cases heq : i = j
    · subst heq
      have hc := swapRange_any blk off cap S m i dk wr fv HHk.out hbk (by omega) (by omega) (by omega)
      rw [hds] at hc
      have Hc := Lib.hid hc
      clear hc
      go_wp2_with fail
      refine Hc.out.mono ?_
      rintro en w2 ⟨rfl, d2, hk2, hw2⟩
      go_wp2_with fail
      go_end0
      refine ⟨rfl, d2, swk_on HK.out hblk hk2 hw2.perm.1, ?_⟩
      refine (HW.out.trans (hw2.mono (by omega) (by omega) (by omega)) (fun t ht => swr_lt (by omega) (by have := HN.out; omega) ht)).cong fun t ht => ?_
      rw [HG.out t (by rw [← HN.out]; exact ht), rot_same S m (m + i) i t (by omega) rfl]
    · by_cases hgt : j < i
      · have hne : ((i : Int) != (j : Int)) = true := by rw [bne_iff_ne]; omega
        have hc := swapRange_any blk off cap S m j dk wr fv HHk.out hbk (by omega) (by omega) (by omega)
        rw [hds] at hc
        have Hc := Lib.hid hc
        clear hc
        have hgz : (i : Int) > (j : Int) := by omega
        go_wp2_with fail
        refine Hc.out.mono ?_
        rintro en w2 ⟨rfl, d2, hk2, hw2⟩
        go_wp2_with fail
        go_roundw
        case rel =>
          refine ⟨i - j, j, _, d2, by congr 1; omega, rfl, by omega, hj, by omega, hje, swk_on HK.out hblk hk2 hw2.perm.1, HW.out.trans (hw2.mono (by omega) (by omega) (by omega)) (fun t ht => swr_lt (by omega) (by have := HN.out; omega) ht), fun t ht => ?_⟩
          rw [HG.out t ht, rot_left S m (m + j) j t (by omega) rfl, show m - (i - j) = S + j by omega]
        case measure => simp [intOf]; omega
      · have hne : ((i : Int) != (j : Int)) = true := by rw [bne_iff_ne]; omega
        obtain ⟨E, hEd⟩ : ∃ E, m + j - i = E := ⟨_, rfl⟩
        have hEz : (m : Int) + (j : Int) - (i : Int) = (E : Int) := by omega
        have hc := swapRange_any blk off cap S E i dk wr fv HHk.out hbk (by omega) (by omega) (by omega)
        rw [hds] at hc
        have Hc := Lib.hid hc
        clear hc
        have hgz : ¬ (i : Int) > (j : Int) := by omega
        go_wp2_with fail
        refine Hc.out.mono ?_
        rintro en w2 ⟨rfl, d2, hk2, hw2⟩
        go_wp2_with fail
        go_roundw
        case rel =>
          refine ⟨i, j - i, _, d2, rfl, by congr 1; omega, hi, by omega, hsi, by omega, swk_on HK.out hblk hk2 hw2.perm.1, HW.out.trans (hw2.mono (by omega) (by omega) (by omega)) (fun t ht => swr_lt (by omega) (by have := HN.out; omega) ht), fun t ht => ?_⟩
          rw [HG.out t ht, hSd, rot_right S m (m + j) i t (by omega) (by omega), show m + j - i = E from hEd, show m + (j - i) = E by omega]
        case measure => simp [intOf]; omega
end Go.Proofs.YtajjikbigacbaaaDoor
