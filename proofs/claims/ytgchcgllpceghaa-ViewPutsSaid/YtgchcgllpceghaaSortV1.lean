/- Own work: slices.Sort at labels, part 10: the sort's own rounds. -/
import Derived.Test.YtgchcgllpceghaaSortV0
import Derived.Deep.Cut
import Derived.Sort.WalkA14
namespace Go.Proofs.Ytgchcgllpceghaa
open Go.RowKit Go.Shelf Go.Sort

abbrev AtU (w : World) (g o : Nat) (d : Array Int) (wr : World) : Prop := At (Value.int .u64) w g o d wr

set_option maxHeartbeats 32000000 in
set_option maxRecDepth 1000000 in
theorem pdqU_any : ∀ (N g o cap a b L : Nat) (d : Array Int) (w : World), b - a < N → Holds (Value.int .u64) w g o d → g < w.heap.size → a ≤ b → b ≤ d.size → d.size < 4611686018427387904 → L < 4611686018427387904 → Sort.Below ltInt a b d →
    Calls Try.prog 58 #[.slice (some ⟨g, o, none⟩) d.size cap, .int .i64 a, .int .i64 b, .int .i64 L] w fun e w' => e = .returned (.tuple #[]) ∧ AtU w g o (pdq ltInt d a b L true true) w' := by
  intro N
  induction N with
  | zero => intro _ _ _ _ _ _ _ _ h; exact absurd h (Nat.not_lt_zero _)
  | succ N ih =>
    intro g o cap a b L d w hN hH hg hab hb hn hL hB
    obtain ⟨T, hT⟩ : ∃ T, pdq ltInt d a b L true true = T := ⟨_, rfl⟩
    rw [hT]
    have HH := Lib.hid hH
    have IH := Lib.hid ih
    have HA0 := Lib.hid (At.refl hH)
    have HB0 := Lib.hid hB
    have HT0 := Lib.hid hT
    clear hH ih hB hT
    go_enter Try.func58, Try.ntmps58
    go_wp2
    go_loopg [1, 2, 3, 8, 9] (b - a) (fun k s1 s2 s3 s8 s9 wr => ∃ (x y l : Nat) (wb wp : Bool) (c : Array Int), s1 = .int .i64 x ∧ s2 = .int .i64 y ∧ s3 = .int .i64 l ∧ s8 = .bool wb ∧ s9 = .bool wp ∧
      x ≤ y ∧ y ≤ d.size ∧ y - x ≤ k ∧ k ≤ b - a ∧ l ≤ L ∧ c.size = d.size ∧ Hid (Sort.Below ltInt x y c) ∧ Hid (AtU w g o c wr) ∧ Hid (pdq ltInt c x y l wb wp = T))
    case atStart => exact ⟨a, b, L, true, true, d, rfl, rfl, rfl, rfl, rfl, hab, hb, Nat.le_refl _, Nat.le_refl _, Nat.le_refl _, rfl, HB0.out, HA0.out, HT0.out⟩
    case round =>
      obtain ⟨x, y, l, wb, wp, c, rfl, rfl, rfl, rfl, rfl, hxy, hy, hk, hkN, hl, hcs, HB, HA, HT⟩ := hrel
      have HHc := Lib.hid (HA.out.holds HH.out hcs hg)
      by_cases h12 : y - x ≤ 12
      · have h12z : (y : Int) - (x : Int) ≤ 12 := by omega
        have hc := insU_any g o cap x y c wr HHc.out.1 hxy (by omega) (by omega)
        rw [hcs] at hc
        have Hc := Lib.hid hc
        clear hc
        go_wp2_with (go_at_call 60; refine Hc.out.mono ?_; rintro e w1 ⟨rfl, hw1⟩)
        (try simp only [Exit.inBlock, Exit.then])
        refine bodyPost_ret (results_none rfl _ _ _) rfl ?_
        refine ⟨rfl, ?_⟩
        rw [← HT.out, pdq_small h12]
        exact HA.out.step hg (insertionSort_holds swo_ltInt c x y hxy (by omega)).1.1 hw1
      have h12z : ¬ ((y : Int) - (x : Int) ≤ 12) := by omega
      by_cases hl0 : l = 0
      · subst hl0
        have hc := heapU_any g o cap x y c wr HHc.out.1 hxy (by omega) (by omega)
        rw [hcs] at hc
        have Hc := Lib.hid hc
        clear hc
        go_wp2_with (go_at_call 61; refine Hc.out.mono ?_; rintro e w1 ⟨rfl, hw1⟩)
        (try simp only [Exit.inBlock, Exit.then])
        refine bodyPost_ret (results_none rfl _ _ _) rfl ?_
        refine ⟨rfl, ?_⟩
        rw [← HT.out, pdq_heap h12 rfl]
        exact HA.out.step hg (heapSort_holds swo_ltInt c x y hxy (by omega)).1.1 hw1
      have hl0z : ¬ ((l : Int) = 0) := by omega
      obtain ⟨R, hR⟩ := roundU h12 hl0 (by omega) HB.out HT.out
      obtain ⟨pk1, pk2⟩ := hR.pick
      obtain ⟨pv1, pv2⟩ := hR.pivot
      have s1 := hR.size1
      have s2 := hR.size2
      have s3 := hR.size3
      have hlim := hR.lim
      have HR := Lib.hid hR
      clear hR HT HB
      -- unbalanced: shuffle
      go_upto_if 35 with fail
      go_cut [3] from 19 (fun s3 wc => s3 = .int .i64 R.lim ∧ Hid (AtU w g o R.d1 wc))
      case first =>
        cases wb
        · have hc := breakU_any g o cap x y c wr HHc.out.1 HHc.out.2 hxy (by omega) (by omega)
          rw [hcs] at hc
          obtain ⟨e1, e2⟩ := HR.out.shuffled rfl
          have Hc := Lib.hid hc
          have E1 := Lib.hid e1
          have E2 := Lib.hid e2
          clear hc e1 e2
          go_wp2_with (go_at_call 62; refine Hc.out.mono ?_; rintro e w1 ⟨rfl, hw1⟩)
          go_meet
          case rel =>
            refine ⟨?_, ?_⟩
            · rw [E2.out]
              congr 1
              omega
            · show AtU _ _ _ _ _
              rw [E1.out]
              exact HA.out.stepG hg (by rw [← E1.out]; exact s1) hw1
        · obtain ⟨e1, e2⟩ := HR.out.kept rfl
          have E1 := Lib.hid e1
          have E2 := Lib.hid e2
          clear e1 e2
          go_wp2_with fail
          go_meet
          case rel => exact ⟨by rw [E2.out], by show AtU _ _ _ _ _; rw [E1.out]; exact HA.out⟩
      case rest =>
        obtain ⟨rfl, HA1⟩ := hcut
        have HH1 := Lib.hid (HA1.out.holds HH.out (s1.trans hcs) hg)
        have hc := pivotU_any g o cap x y R.d1 wc HH1.out.1 HH1.out.2 (by omega) (by omega) (by omega)
        rw [s1, hcs, ← HR.out.chosen] at hc
        have Hc := Lib.hid hc
        clear hc
        go_upto_if 50 with (go_at_call 63; refine Hc.out.mono ?_; rintro e w2 ⟨rfl, hw2⟩)
        have HA2 := Lib.hid (HA1.out.same HH.out (s1.trans hcs) hg hw2)
        have HH2 := Lib.hid (HA2.out.holds HH.out (s1.trans hcs) hg)
        -- falling: turn about
        go_cut [11, 12] from 19 (fun s11 s12 wc => s11 = .int .i64 R.pivot ∧ s12 = .int .i64 (hintCode R.hint) ∧ Hid (AtU w g o R.d2 wc))
        case first =>
          by_cases hh : R.c.2 = .decreasing
          · have hcode : hintCode R.c.2 = 2 := by rw [hh]; rfl
            obtain ⟨e1, e2, e3⟩ := HR.out.turned hh
            have hc := revU_any g o cap x y R.d1 w2 HH2.out.1 hxy (by omega) (by omega)
            rw [s1, hcs] at hc
            have Hc := Lib.hid hc
            have E1 := Lib.hid e1
            have E2 := Lib.hid e2
            have E3 := Lib.hid e3
            clear hc e1 e2 e3
            go_wp2_with (go_at_call 64; refine Hc.out.mono ?_; rintro e w3 ⟨rfl, hw3⟩)
            go_meet
            case rel =>
              refine ⟨?_, by rw [E3.out]; rfl, ?_⟩
              · rw [E2.out]
                congr 1
                omega
              · show AtU _ _ _ _ _
                rw [E1.out]
                exact HA2.out.step hg (by rw [← E1.out, s2, s1]) hw3
          · have hcode : ¬ (hintCode R.c.2 = 2) := fun h => hh (code_dec h)
            obtain ⟨e1, e2, e3⟩ := HR.out.stays hh
            have E1 := Lib.hid e1
            have E2 := Lib.hid e2
            have E3 := Lib.hid e3
            clear e1 e2 e3
            go_wp2_with fail
            go_meet
            case rel => exact ⟨by rw [E2.out], by rw [E3.out], by show AtU _ _ _ _ _; rw [E1.out]; exact HA2.out⟩
        case rest =>
          obtain ⟨rfl, rfl, HA3⟩ := hcut
          have HH3 := Lib.hid (HA3.out.holds HH.out (s2.trans hcs) hg)
          go_upto_region 15 with fail
          go_cut [12, 68] from 19 (fun s12 s68 wx => s12 = .int .i64 (hintCode R.hint) ∧ s68 = .bool (wb && wp && decide (R.hint = .increasing)) ∧ wx = wc)
          case first =>
            clear HR
            cases wb <;> cases wp <;> cases hh : R.hint <;>
              (have hcode := congrArg hintCode hh
               simp only [hintCode] at hcode
               go_wp2_with fail
               go_meet
               exact ⟨by simp [hh, hintCode], by simp [hh, hintCode], rfl⟩)
          case rest =>
            obtain ⟨rfl, rfl, rfl⟩ := hcut
            have HT1 := Lib.hid HR.out.tried
            have HT2 := Lib.hid HR.out.untried
            generalize (wb && wp && decide (R.hint = .increasing)) = tr at HT1 HT2 ⊢
            go_upto_if 68 with fail
            go_cut [] from 19 (fun wx => Hid (R.pi.2 = false) ∧ Hid (AtU w g o R.pi.1 wx))
            case first =>
              cases tr
              · have e := HT2.out rfl
                have E := Lib.hid e
                clear e
                go_wp2_with fail
                go_meet
                case rel => exact ⟨by show _ = _; rw [E.out], by show AtU _ _ _ _ _; rw [E.out]; exact HA3.out⟩
              · have e := HT1.out rfl
                have hc := partU_any g o cap x y R.d2 wc HH3.out.1 (by omega) (by omega) (by omega)
                rw [s2, hcs, ← e] at hc
                obtain ⟨r2, hr2⟩ : ∃ r2, R.pi.2 = r2 := ⟨_, rfl⟩
                rw [hr2] at hc
                have Hc := Lib.hid hc
                have Hr2 := Lib.hid hr2
                clear hc e hr2
                cases r2
                · go_wp2_with (go_at_call 65; refine Hc.out.mono ?_; rintro e w4 ⟨rfl, hw4⟩)
                  go_meet
                  exact ⟨Hr2.out, HA3.out.step hg (by rw [s3, s2]) hw4⟩
                · go_wp2_with (go_at_call 65; refine Hc.out.mono ?_; rintro e w4 ⟨rfl, hw4⟩)
                  (try simp only [Exit.inBlock, Exit.then])
                  refine bodyPost_ret (results_none rfl _ _ _) rfl ?_
                  refine ⟨rfl, ?_⟩
                  rw [← HR.out.done Hr2.out]
                  exact HA3.out.step hg (by rw [s3, s2]) hw4
            case rest =>
              obtain ⟨HP2, HA5⟩ := hcut
              have HH5 := Lib.hid (HA5.out.holds HH.out (s3.trans hcs) hg)
              have HE := Lib.hid (HR.out.equal HP2.out)
              have HD := Lib.hid (HR.out.parted HP2.out)
              clear HR HT1 HT2
              obtain ⟨G, hG⟩ : ∃ G : Nat → Int, ∀ t, G t = R.pi.1[t]! := ⟨fun t => R.pi.1[t]!, fun _ => rfl⟩
              have hcw : ∀ t, t < d.size → wc.cell? ⟨g, o + t, none⟩ = some (.int .u64 (G t)) := fun t ht => by rw [hG]; exact (HH5.out.1 t (by omega)).1
              have hfw : ∀ t, t < d.size → wc.frozen? ⟨g, o + t, none⟩ = false := fun t ht => (HH5.out.1 t (by omega)).2
              have HG := Lib.hid hG
              clear hG
              obtain ⟨q, hq⟩ : ∃ q, (decide (x > 0) && !ltInt (G (x - 1)) (G R.pivot)) = q := ⟨_, rfl⟩
              go_upto_region 17 with fail
              go_cut [87] from 19 (fun s87 wx => s87 = .bool q ∧ Hid (AtU w g o R.pi.1 wx))
              case first =>
                rcases Nat.eq_zero_or_pos x with hx0 | hx0
                · have hx0z : decide ((x : Int) > 0) = false := decide_eq_false (by omega)
                  go_big_quiet (first | (go_at_call 66; refine Calls.quiet_of_same (lessU_any _ _ _)))
                  go_wp2_with fail
                  go_meet
                  case rel => exact ⟨by rw [← hq]; simp [hx0], HA5.out.ahead nq⟩
                · have hx0z : (x : Int) > 0 := by omega
                  go_big_quiet (first | (go_at_call 66; refine Calls.quiet_of_same (lessU_any _ _ _)))
                  go_wp2_with fail
                  go_meet
                  case rel => exact ⟨by rw [← hq]; simp [hx0], HA5.out.ahead nq⟩
              case rest =>
                obtain ⟨rfl, HA6⟩ := hcut
                have HH6 := Lib.hid (HA6.out.holds HH.out (s3.trans hcs) hg)
                rw [HG.out, HG.out] at hq
                clear hcw hfw
                cases q
                · obtain ⟨m, z, e4, hx⟩ : ∃ m z e4, partition ltInt R.pi.1 x y R.pivot = (m, z, e4) := ⟨_, _, _, rfl⟩
                  obtain ⟨r1, r2, r3, r4, r5, rl, rr⟩ := HD.out hq m z e4 hx
                  have hc := partitionU_any g o cap x y R.pivot R.pi.1 wc HH6.out.1 pv1 pv2 (by omega) (by omega)
                  rw [s3, hcs, hx] at hc
                  have Hc := Lib.hid hc
                  have R4 := Lib.hid r4
                  have R5 := Lib.hid r5
                  have RL := Lib.hid rl
                  have RR := Lib.hid rr
                  clear hc hx r4 r5 rl rr
                  go_upto_if 113 with (go_at_call 68; refine Hc.out.mono ?_; rintro e w7 ⟨rfl, hw7⟩)
                  have HA7 := Lib.hid (HA6.out.step hg r3 hw7)
                  have HH7 := Lib.hid (HA7.out.holds HH.out (r3.trans (s3.trans hcs)) hg)
                  clear hw7
                  by_cases h4 : m - x < y - m
                  · have h4z : (m : Int) - (x : Int) < (y : Int) - (m : Int) := by omega
                    obtain ⟨q1, q2, q3⟩ := RL.out h4
                    have hi := IH.out g o cap x m R.lim e4 w7 (by omega) HH7.out.1 HH7.out.2 (by omega) (by omega) (by omega) (by omega) R4.out
                    rw [r3, s3, hcs] at hi
                    have Hi := Lib.hid hi
                    have Q2 := Lib.hid q2
                    have Q3 := Lib.hid q3
                    clear hi q2 q3
                    go_wp2_with (go_at_call 58; refine Hi.out.mono ?_; rintro e w8 ⟨rfl, hw8⟩)
                    go_roundg (y - (m + 1))
                    case measure => omega
                    case rel => exact ⟨m + 1, y, R.lim, _, z, _, by simp, rfl, rfl, eighthU (by omega) (by omega), rfl, by omega, by omega, Nat.le_refl _, by omega, by omega, by rw [q1, r3, s3, hcs], Q2.out, HA7.out.stepG hg q1 hw8, Q3.out⟩
                  · have h4z : ¬ ((m : Int) - (x : Int) < (y : Int) - (m : Int)) := by omega
                    obtain ⟨q1, q2, q3⟩ := RR.out h4
                    have hi := IH.out g o cap (m + 1) y R.lim e4 w7 (by omega) HH7.out.1 HH7.out.2 (by omega) (by omega) (by omega) (by omega) R5.out
                    rw [r3, s3, hcs] at hi
                    have Hi := Lib.hid hi
                    have Q2 := Lib.hid q2
                    have Q3 := Lib.hid q3
                    clear hi q2 q3
                    go_wp2_with (go_at_call 58; refine Hi.out.mono ?_; rintro e w8 ⟨rfl, hw8⟩)
                    go_roundg (m - x)
                    case measure => omega
                    case rel => exact ⟨x, m, R.lim, _, z, _, rfl, rfl, rfl, eighthU (by omega) (by omega), rfl, by omega, by omega, Nat.le_refl _, by omega, by omega, by rw [q1, r3, s3, hcs], Q2.out, HA7.out.stepG hg q1 hw8, Q3.out⟩
                · obtain ⟨m, e4, hx⟩ : ∃ m e4, partitionEqual ltInt R.pi.1 x y R.pivot = (m, e4) := ⟨_, _, rfl⟩
                  obtain ⟨r1, r2, r3, r4, r5⟩ := HE.out hq m e4 hx
                  have hc := equalU_any g o cap x y R.pivot R.pi.1 wc HH6.out.1 pv1 pv2 (by omega) (by omega)
                  rw [s3, hcs, hx] at hc
                  have Hc := Lib.hid hc
                  have R4 := Lib.hid r4
                  have R5 := Lib.hid r5
                  clear hc hx r4 r5
                  go_wp2_with (go_at_call 67; refine Hc.out.mono ?_; rintro e w7 ⟨rfl, hw7⟩)
                  go_roundg (y - m)
                  case measure => omega
                  case rel => exact ⟨m, y, R.lim, wb, wp, e4, rfl, rfl, rfl, rfl, rfl, r2, hy, Nat.le_refl _, by omega, by omega, by rw [r3, s3, hcs], R4.out, HA6.out.step hg r3 hw7, R5.out⟩
end Go.Proofs.Ytgchcgllpceghaa
/- Own work: slices.Sort at labels, part 11: the whole; labels sorted, each once. -/
namespace Go.Proofs.Ytgchcgllpceghaa
open Go.RowKit Go.Shelf Go.Sort

set_option maxHeartbeats 4000000 in
set_option maxRecDepth 100000 in
theorem sortU_any (g o cap : Nat) (zs : List Int) (w : World) (hH : Holds (Value.int .u64) w g o zs.toArray) (hg : g < w.heap.size) (hn : zs.length < 4611686018427387904) :
    Calls Try.prog 49 #[.slice (some ⟨g, o, none⟩) zs.length cap] w fun e w' => e = .returned (.tuple #[]) ∧ AtU w g o (zs.mergeSort fun x y => decide (x ≤ y)).toArray w' := by
  have HH := Lib.hid hH
  have hL : ∀ w, Calls Try.prog 59 #[.int .u64 (zs.length : Int)] w fun e w' => e = .returned (.int .i64 (bitsLen zs.length : Nat)) ∧ w' = w := fun w => by
    have h := Try.bits_Len (zs.length : Int) w (by omega) (by omega)
    rwa [Int.toNat_natCast, bitLen_eq _ (by omega)] at h
  have hk : bitsLen zs.length ≤ 62 := (bitsLen_le_iff zs.length 62).2 (by omega)
  have HL := Lib.hid hL
  have HE : Hid (pdq ltInt zs.toArray 0 zs.length (bitsLen zs.length) true true = (zs.mergeSort fun x y => decide (x ≤ y)).toArray) := by
    show _ = _
    rw [← sortInt zs]
    show _ = (Sort.sort ltInt zs.toArray)
    rw [Sort.sort]
    simp
  have hp := pdqU_any (zs.length + 1) g o cap 0 zs.length (bitsLen zs.length) zs.toArray
  have HP := Lib.hid hp
  clear hH hL hp
  go_enter Try.func49, Try.ntmps49
  go_wp2_with fail
  refine (HL.out _).mono ?_
  rintro e w' ⟨rfl, rfl⟩
  go_wp2_with fail
  have h := HP.out w' (by omega) HH.out hg (Nat.zero_le _) (by simp) (by simpa using hn) (by omega) (Or.inl rfl)
  rw [show zs.toArray.size = zs.length by simp] at h
  refine h.mono ?_
  rintro e w2 ⟨rfl, hw⟩
  go_wp2_with fail
  go_end0
  exact ⟨rfl, by rw [← HE.out]; exact hw⟩
end Go.Proofs.Ytgchcgllpceghaa
