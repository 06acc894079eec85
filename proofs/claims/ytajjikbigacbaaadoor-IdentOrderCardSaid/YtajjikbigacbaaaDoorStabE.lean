/- Own work: slices.symMergeCmpFunc at lines, whole. -/
import Derived.Test.YtajjikbigacbaaaDoorStabD
import Derived.Deep.Cut
import Derived.Deep.CutRange
namespace Go.Proofs.YtajjikbigacbaaaDoor
open Go.RowKit Go.Sort Go.Shelf

set_option maxHeartbeats 64000000 in
set_option maxRecDepth 100000 in
theorem merge_gen (L : Nat) (ih : ∀ (blk off cap a m b : Nat) (d : Array TL) (w : World), b - a < L → HoldsK encT 4 w blk off d → blk < w.heap.size → a < m → m < b → b ≤ d.size → d.size < 4611686018427387904 → SortedIn PT a m d → SortedIn PT m b d → Lo tgT d a m b →
      Calls Tryd.prog 59 #[.slice (some ⟨blk, off, none⟩) d.size cap, .int .i64 a, .int .i64 m, .int .i64 b, fvT] w (SymP w blk off a b d))
    (blk off cap a m b : Nat) (d : Array TL) (w : World) (hL : b - a < L + 1) (hH : HoldsK encT 4 w blk off d) (hblk : blk < w.heap.size) (h1 : a + 1 < m) (h2 : m + 1 < b) (h3 : b ≤ d.size) (hsz : d.size < 4611686018427387904) (hs1 : SortedIn PT a m d) (hs2 : SortedIn PT m b d) (hlo : Lo tgT d a m b) :
    Calls Tryd.prog 59 #[.slice (some ⟨blk, off, none⟩) d.size cap, .int .i64 a, .int .i64 m, .int .i64 b, fvT] w (SymP w blk off a b d) := by
  have HH := Lib.hid hH
  have HS := Lib.hid (SWK.start hH)
  have Hs1 := Lib.hid hs1
  have Hs2 := Lib.hid hs2
  have Hlo := Lib.hid hlo
  have IH := Lib.hid ih
  obtain ⟨N, hN⟩ : ∃ N, d.size = N := ⟨_, rfl⟩
  have HN := Lib.hid hN
  rw [hN] at h3 hsz ⊢
  have mixed := laysIns.mixed
  obtain ⟨A, hA⟩ : ∃ A, m - a = A := ⟨_, rfl⟩
  have hAz : (m : Int) - (a : Int) = (A : Int) := by omega
  have hA1 : ((A : Int) == 1) = false := by rw [beq_eq_false_iff_ne]; omega
  obtain ⟨B, hB⟩ : ∃ B, b - m = B := ⟨_, rfl⟩
  have hBz : (b : Int) - (m : Int) = (B : Int) := by omega
  have hB1 : ((B : Int) == 1) = false := by rw [beq_eq_false_iff_ne]; omega
  obtain ⟨S, hS⟩ : ∃ S, a + b = S := ⟨_, rfl⟩
  obtain ⟨mid, hmid⟩ : ∃ mid, S / 2 = mid := ⟨_, rfl⟩
  have hSz : (a : Int) + (b : Int) = (S : Int) := by omega
  have hmz : (S : Int) / 2 = (mid : Int) := by omega
  obtain ⟨n, hn⟩ : ∃ n, mid + m = n := ⟨_, rfl⟩
  have hnz : (mid : Int) + (m : Int) = (n : Int) := by omega
  clear hH hN hs1 hs2 hlo ih
  go_enter Tryd.func59, Tryd.ntmps59
  go_upto_if 140 with fail
  go_cut [20, 21] from 25 (fun u v wx => ∃ C R : Nat, u = .int .i64 C ∧ v = .int .i64 R ∧ a ≤ C ∧ C ≤ R ∧ R ≤ mid ∧ R ≤ m ∧ n ≤ C + b ∧ (m ≤ mid → C = a ∧ R = m) ∧ (mid < m → C + b = n ∧ R = mid) ∧ w = wx)
  case first => as_aux_lemma =>
    by_cases hm : mid < m
    · obtain ⟨C, hC⟩ : ∃ C, n - b = C := ⟨_, rfl⟩
      have hCz : (n : Int) - (b : Int) = (C : Int) := by omega
      go_wp2_with fail
      go_meet
      case rel => exact ⟨C, mid, rfl, rfl, by omega, by omega, Nat.le_refl _, by omega, by omega, fun h => absurd h (by omega), fun _ => ⟨by omega, rfl⟩, rfl⟩
    · go_wp2_with fail
      go_meet
      case rel => exact ⟨a, m, rfl, rfl, Nat.le_refl _, by omega, by omega, Nat.le_refl _, by omega, fun _ => ⟨rfl, rfl⟩, fun h => absurd h (by omega), rfl⟩
  case rest =>
    obtain ⟨C, R, rfl, rfl, haC, hCR, hRm, hRm2, hCb, hcase1, hcase2, rfl⟩ := hcut
    obtain ⟨P, hP⟩ : ∃ P, n - 1 = P := ⟨_, rfl⟩
    have hPz : (n : Int) - 1 = (P : Int) := by omega
    go_wp2_with fail
    go_loopw [20, 21] (fun v u wr => ∃ (i j : Nat), v = .int .i64 i ∧ u = .int .i64 j ∧ C ≤ i ∧ i ≤ j ∧ j ≤ R ∧ SWK encT 4 w blk off d wr ∧ Hid (C < i → ltT d[n - i]! d[i - 1]! = false) ∧ Hid (j < R → ltT d[P - j]! d[j]! = true)) (fun v u _ => (intOf u).toNat - (intOf v).toNat)
    case atStart => exact ⟨C, R, rfl, rfl, Nat.le_refl _, hCR, Nat.le_refl _, HS.out, fun h => absurd h (by omega), fun h => absurd h (by omega)⟩
    case round =>
      obtain ⟨i, j, rfl, rfl, hCi, hij, hjR, hS', HF1, HF2⟩ := hrel
      have HK := Lib.hid hS'
      clear hS'
      by_cases hlt : i < j
      · as_aux_lemma =>
        obtain ⟨T, hT⟩ : ∃ T, i + j = T := ⟨_, rfl⟩
        obtain ⟨h, hh⟩ : ∃ h, T / 2 = h := ⟨_, rfl⟩
        have hib : i ≤ h := by omega
        have hhj : h < j := by omega
        have hhm : h < m := by omega
        obtain ⟨G, hG⟩ : ∃ G, P - h = G := ⟨_, rfl⟩
        have hGz : (P : Int) - (h : Int) = (G : Int) := by omega
        have hGm : m ≤ G := by
          rcases Nat.lt_or_ge mid m with hc | hc
          · have := hcase2 hc; omega
          · have := hcase1 hc; omega
        have hGb : G < b := by omega
        have hwG : IntKind.i64.wrap (G : Int) = (G : Int) := by rw [IntKind.wrap_i64]; omega
        obtain ⟨x, hx⟩ : ∃ x, d[G]! = x := ⟨_, rfl⟩
        obtain ⟨y, hy⟩ : ∃ y, d[h]! = y := ⟨_, rfl⟩
        obtain ⟨⟨c0, c1, c2, c3⟩, _⟩ := swk_cells HK.out HH.out hblk rfl (i := G) (by rw [HN.out]; omega) hx
        obtain ⟨⟨d0, d1, d2, d3⟩, _⟩ := swk_cells HK.out HH.out hblk rfl (i := h) (by rw [HN.out]; omega) hy
        have lw := HK.out.lt hblk
        have c0 := cells_grown lw c0
        have c1 := cells_grown lw c1
        have c2 := cells_grown lw c2
        have c3 := cells_grown lw c3
        have d0 := cells_grown lw d0
        have d1 := cells_grown lw d1
        have d2 := cells_grown lw d2
        have d3 := cells_grown lw d3
        have Hc := Lib.hid (cmp_grown x y wr)
        have HX := Lib.hid hx
        have HY := Lib.hid hy
        have hi0 : (0 : Int) ≤ (h : Int) := by omega
        have hi1 : (h : Int) < (N : Int) := by omega
        have ha0 : (0 : Int) ≤ (G : Int) := by omega
        have ha1 : (G : Int) < (N : Int) := by omega
        have hsum : (i : Int) + (j : Int) = (T : Int) := by omega
        have hT2 : (T : Int) / 2 = (h : Int) := by omega
        clear hx hy
        obtain ⟨⟨x1, x2, x3, x4⟩, xt⟩ := x
        obtain ⟨⟨y1, y2, y3, y4⟩, yt⟩ := y
        simp only [LineV.agg] at c0 c1 c2 c3 d0 d1 d2 d3 Hc
        obtain ⟨c, hc⟩ : ∃ c, cfT (⟨x1, x2, x3, x4⟩, xt) (⟨y1, y2, y3, y4⟩, yt) = c := ⟨_, rfl⟩
        have HL := Lib.hid (show decide (c < 0) = ltT d[G]! d[h]! by rw [HX.out, HY.out, ← hc]; exact cfT_neg _ _)
        rw [hc] at Hc
        clear hc
        by_cases hneg : c < 0
        · have HL2 : Hid (ltT d[G]! d[h]! = true) := by show _ = _; rw [← HL.out]; exact decide_eq_true hneg
          go_wp2_with fail
          go_quiet_grown (first | (go_at_call 30; refine Calls.grown_of (Hc.out _ _)))
          go_wp2
          go_roundw
          case rel => exact ⟨i, h, rfl, rfl, hCi, hib, by omega, HK.out.grown _ _, HF1.out, fun _ => by rw [show P - h = G from hG]; exact HL2.out⟩
          case measure => simp [intOf]; omega
        · have HL2 : Hid (ltT d[G]! d[h]! = false) := by show _ = _; rw [← HL.out]; exact decide_eq_false hneg
          have hdc : decide (c < 0) = false := decide_eq_false hneg
          go_wp2_with fail
          go_quiet_grown (first | (go_at_call 30; refine Calls.grown_of (Hc.out _ _)))
          go_wp2
          go_roundw
          case rel => exact ⟨h + 1, j, by congr 1, rfl, by omega, by omega, hjR, HK.out.grown _ _, (fun _ => by rw [show n - (h + 1) = G by omega, show h + 1 - 1 = h by omega]; exact HL2.out), HF2.out⟩
          case measure => simp [intOf]; omega
      · as_aux_lemma =>
        obtain rfl : i = j := by omega
        obtain ⟨E, hE⟩ : ∃ E, n - i = E := ⟨_, rfl⟩
        have hEz : (n : Int) - (i : Int) = (E : Int) := by omega
        have hmE : m ≤ E := by
          rcases Nat.lt_or_ge mid m with hc | hc
          · have := hcase2 hc; omega
          · have := hcase1 hc; omega
        have hEb : E ≤ b := by omega
        have him : i ≤ m := by omega
        have hsE : i + (E - m) = mid := by omega
        have HT : Hid (∀ d1 : Array TL, Went a b (rotI i m E) d d1 → Turned ltT tgT a i mid E b d1) := fun d1 hd => by
          refine turned_of ltT_swo (by rw [HN.out]; exact h3) Hs1.out Hs2.out Hlo.out (by omega) him hmE hEb hsE.symm (fun h1 h2 => ?_) (fun h1 h2 => ?_) hd
          · have hi : i < R := by
              rcases Nat.lt_or_ge mid m with hc | hc
              · have := hcase2 hc; omega
              · have := hcase1 hc; omega
            have e := HF2.out hi
            rw [show P - i = E - 1 by omega, ← pB_lo (lt := ltT) (tg := tgT) (Hlo.out i (E - 1) (by omega) (by omega) (by omega) (by omega))] at e
            exact (pB_swo ltT_swo).asymmA e
          · have hi : C < i := by
              rcases Nat.lt_or_ge mid m with hc | hc
              · have := hcase2 hc; omega
              · have := hcase1 hc; omega
            have e := HF1.out hi
            rw [hE, ← pB_lo (lt := ltT) (tg := tgT) (Hlo.out (i - 1) E (by omega) (by omega) (by omega) (by omega))] at e
            exact e
        clear HF1 HF2
        go_upto_region 39 with fail
        go_cut [185] from 25 (fun u wx => u = .bool (decide (i < m) && decide (m < E)) ∧ wr = wx)
        case first => as_aux_lemma =>
          by_cases hr : i < m
          · have hrz : (i : Int) < (m : Int) := by omega
            by_cases hr2 : m < E
            · have hr2z : (m : Int) < (E : Int) := by omega
              go_wp2_with fail
              go_meet
              case rel => exact ⟨by simp [hr, hr2], rfl⟩
            · have hr2z : ¬ (m : Int) < (E : Int) := by omega
              go_wp2_with fail
              go_meet
              case rel => exact ⟨by simp [hr2], rfl⟩
          · have hrz : ¬ (i : Int) < (m : Int) := by omega
            go_wp2_with fail
            go_meet
            case rel => exact ⟨by simp [hr], rfl⟩
        case rest =>
          obtain ⟨rfl, rfl⟩ := hcut
          go_upto_if 185 with fail
          go_cut [] from 25 (fun wx => ∃ d1 : Array TL, SWK encT 4 w blk off d1 wx ∧ Went a b (rotI i m E) d d1)
          case first => as_aux_lemma =>
            by_cases hr : i < m ∧ m < E
            · obtain ⟨hr, hr2⟩ := hr
              have hb1 : (decide (i < m) && decide (m < E)) = true := by simp [hr, hr2]
              obtain ⟨hHk, hbk⟩ := swk_holds HK.out HH.out hblk rfl
              have hc := rotate_any blk off cap i m E d wr fvT hHk hbk hr hr2 (by rw [HN.out]; omega) (by rw [HN.out]; exact hsz)
              rw [HN.out] at hc
              have Hc := Lib.hid hc
              clear hc hHk
              go_wp2_with fail
              refine Hc.out.mono ?_
              rintro en w2 ⟨rfl, d2, hk2, hw2⟩
              go_wp2_with fail
              go_meet
              case rel => exact ⟨d2, swk_on HK.out hblk hk2 hw2.perm.1, hw2.mono (by omega) hEb (by rw [HN.out]; exact h3)⟩
            · have hb0 : (decide (i < m) && decide (m < E)) = false := by
                rw [← Bool.not_eq_true, Bool.and_eq_true, decide_eq_true_eq, decide_eq_true_eq]; exact hr
              go_wp2_with fail
              go_meet
              case rel =>
                refine ⟨d, HK.out, (Went.refl _ _ _).cong fun t _ => ?_⟩
                rcases Nat.lt_or_ge i m with h | h
                · rw [show E = m by omega]; exact (rot_none i m t).symm
                · rw [show i = m by omega]; exact (rot_zero m E t).symm
          case rest => as_aux_lemma =>
            obtain ⟨d1, hk1, hw1⟩ := hcut
            obtain ⟨w1, rfl⟩ : ∃ w1, w1 = wc := ⟨_, rfl⟩
            have T1 := Lib.hid (HT.out d1 hw1)
            have K1 := Lib.hid hk1
            have W1 := Lib.hid hw1
            have hd1 : d1.size = N := hw1.perm.1.trans HN.out
            clear hk1 hw1 HT
            go_upto_region 41 with fail
            go_cut [199] from 25 (fun u wx => u = .bool (decide (a < i) && decide (i < mid)) ∧ w1 = wx)
            case first => as_aux_lemma =>
              by_cases hr : a < i
              · have hrz : (a : Int) < (i : Int) := by omega
                by_cases hr2 : i < mid
                · have hr2z : (i : Int) < (mid : Int) := by omega
                  go_wp2_with fail
                  go_meet
                  case rel => exact ⟨by simp [hr, hr2], rfl⟩
                · have hr2z : ¬ (i : Int) < (mid : Int) := by omega
                  go_wp2_with fail
                  go_meet
                  case rel => exact ⟨by simp [hr2], rfl⟩
              · have hrz : ¬ (a : Int) < (i : Int) := by omega
                go_wp2_with fail
                go_meet
                case rel => exact ⟨by simp [hr], rfl⟩
            case rest =>
              obtain ⟨rfl, rfl⟩ := hcut
              go_upto_if 199 with fail
              go_cut [] from 25 (fun wx => ∃ d2 : Array TL, SWK encT 4 w blk off d2 wx ∧ PermIn a mid d1 d2 ∧ SortedIn PT a mid d2)
              case first => as_aux_lemma =>
                by_cases hr : a < i ∧ i < mid
                · have hb1 : (decide (a < i) && decide (i < mid)) = true := by simp [hr.1, hr.2]
                  obtain ⟨hHk, hbk⟩ := swk_holds K1.out HH.out hblk (hd1.trans HN.out.symm)
                  have hc := IH.out blk off cap a i mid d1 w1 (by omega) hHk hbk hr.1 hr.2 (by omega) (by omega) T1.out.s1 T1.out.s2 T1.out.l1
                  rw [hd1] at hc
                  have Hc := Lib.hid hc
                  clear hc hHk
                  go_wp2_with fail
                  refine Hc.out.mono ?_
                  rintro en w2 ⟨rfl, d2, hk2, hp2, hs2⟩
                  go_wp2_with fail
                  go_meet
                  case rel => exact ⟨d2, swk_on K1.out hblk hk2 hp2.1, hp2, hs2⟩
                · have hb0 : (decide (a < i) && decide (i < mid)) = false := by
                    rw [← Bool.not_eq_true, Bool.and_eq_true, decide_eq_true_eq, decide_eq_true_eq]; exact hr
                  go_wp2_with fail
                  go_meet
                  case rel =>
                    refine ⟨d1, K1.out, permIn_refl _ _ _, ?_⟩
                    rcases Nat.lt_or_ge a i with h | h
                    · have e : i = mid := by omega
                      have hs := T1.out.s1
                      rw [e] at hs
                      exact hs
                    · have e : i = a := by omega
                      have hs := T1.out.s2
                      rw [e] at hs
                      exact hs
              case rest => as_aux_lemma =>
                obtain ⟨d2, hk2, hp2, hs2⟩ := hcut
                obtain ⟨w2, rfl⟩ : ∃ w2, w2 = wc := ⟨_, rfl⟩
                obtain ⟨hl, h3s, h4s, hx⟩ := half_left T1.out (by omega) (by omega) hEb hp2
                have hd2 : d2.size = N := hp2.1.trans hd1
                have HP2 := Lib.hid hp2
                have HS2 := Lib.hid hs2
                have HX := Lib.hid hx
                have Hfin : Hid (∀ d3 : Array TL, PermIn mid b d2 d3 → SortedIn PT mid b d3 → PermIn a b d d3 ∧ SortedIn PT a b d3) := fun d3 hp3 hs3 =>
                  ⟨permIn_trans _ _ _ _ _ W1.out.perm (permIn_trans _ _ _ _ _ (permIn_mono d1 d2 a mid a b (Nat.le_refl _) (by omega) (by omega) HP2.out) (permIn_mono d2 d3 mid b a b (by omega) (Nat.le_refl _) (by omega) hp3)),
                    both_halves (by omega) HS2.out HX.out hp3 hs3⟩
                by_cases hr : mid < E
                · have hrz : (mid : Int) < (E : Int) := by omega
                  by_cases hr2 : E < b
                  · have hr2z : (E : Int) < (b : Int) := by omega
                    obtain ⟨hHk, hbk⟩ := swk_holds hk2 HH.out hblk (hd2.trans HN.out.symm)
                    have hc := IH.out blk off cap mid E b d2 w2 (by omega) hHk hbk hr hr2 (by omega) (by omega) h3s h4s hl
                    rw [hd2] at hc
                    have Hc := Lib.hid hc
                    have K2 := Lib.hid hk2
                    clear hc hHk hk2 hp2 hs2 hx hl h3s h4s
                    go_wp2_with fail
                    refine Hc.out.mono ?_
                    rintro en w3 ⟨rfl, d3, hk3, hp3, hs3⟩
                    go_wp2_with fail
                    go_end0
                    obtain ⟨f1, f2⟩ := Hfin.out d3 hp3 hs3
                    exact ⟨rfl, d3, swk_on K2.out hblk hk3 hp3.1, f1, f2⟩
                  · have hr2z : ¬ (E : Int) < (b : Int) := by omega
                    have e : E = b := by omega
                    have hs3 : SortedIn PT mid b d2 := by rw [← e]; exact h3s
                    have Hs3 := Lib.hid hs3
                    have K2 := Lib.hid hk2
                    clear hk2 hp2 hs2 hx hl h3s h4s hs3
                    go_wp2_with fail
                    go_end0
                    obtain ⟨f1, f2⟩ := Hfin.out d2 (permIn_refl _ _ _) Hs3.out
                    exact ⟨rfl, d2, K2.out, f1, f2⟩
                · have hrz : ¬ (mid : Int) < (E : Int) := by omega
                  have hs3 : SortedIn PT mid b d2 := by
                    have e : E = mid := by omega
                    rw [← e]; exact h4s
                  have Hs3 := Lib.hid hs3
                  have K2 := Lib.hid hk2
                  clear hk2 hp2 hs2 hx hl h3s h4s hs3
                  go_wp2_with fail
                  go_end0
                  obtain ⟨f1, f2⟩ := Hfin.out d2 (permIn_refl _ _ _) Hs3.out
                  exact ⟨rfl, d2, K2.out, f1, f2⟩
end Go.Proofs.YtajjikbigacbaaaDoor
