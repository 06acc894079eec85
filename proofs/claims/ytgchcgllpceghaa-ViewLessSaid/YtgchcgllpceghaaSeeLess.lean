/- Own work: ViewLess' walk. -/
import Derived.Test.YtgchcgllpceghaaSeeAwake
import Derived.Test.YtgchcgllpceghaaSeeMath
import Derived.Test.YtgchcgllpceghaaSetD
namespace Go.Proofs.Ytgchcgllpceghaa
open Go.RowKit

set_option maxRecDepth 100000 in
set_option maxHeartbeats 16000000 in
theorem less_walk (u : Value) (l : List LineV) (a b : Nat) (w : World) (hu : Lns w u l) (hf : ∀ x ∈ l, x.fine) (ha : a < 18446744073709551616) (hb : b < 18446744073709551616) (hlen : l.length * 40 ≤ 140737488355328) :
    Calls Try.prog 8 #[u, .int .u64 a, .int .u64 b] w fun e w' => e = .returned (.bool true) ∧ Below w.heap.size w w' := by
  have Hu := Lib.hid hu
  have Hf := Lib.hid hf
  have Hlen := Lib.hid hlen
  have hand : a &&& b < 18446744073709551616 := Nat.and_lt_two_pow (n := 64) _ hb
  have hor : a ||| b < 18446744073709551616 := Nat.or_lt_two_pow (n := 64) ha hb
  have Hand := Lib.hid hand
  have Hor := Lib.hid hor
  have Ha := Lib.hid ha
  have Hb := Lib.hid hb
  clear hu hf hlen hand hor ha hb
  go_enter Try.func8, Try.ntmps8
  go_wp2_with fail
  refine (awake06_any _).mono ?_
  rintro e w1 ⟨rfl, hb1⟩
  have B1 := Lib.hid hb1
  clear hb1
  go_wp2_with fail
  refine (refBoth2_any a b _ Ha.out Hb.out).mono ?_
  rintro e w2 ⟨rfl, hb2⟩
  have B2 := Lib.hid (below_join B1.out hb2)
  clear hb2
  go_wp2_with fail
  refine (of_any u l a _ (Hu.out.kept B2.out) Hf.out Ha.out Hlen.out).mono ?_
  rintro e w3 ⟨v1, rfl, hv1, hb3⟩
  have B3 := Lib.hid (below_join B2.out hb3)
  have H1 := Lib.hid hv1.lns
  clear hb3 hv1
  go_wp2_with fail
  refine (of_any v1 _ b _ H1.out (fine_filter Hf.out) Hb.out (len_filter Hlen.out)).mono ?_
  rintro e w4 ⟨v2, rfl, hv2, hb4⟩
  rw [filter_and] at hv2
  have B4 := Lib.hid (below_join B3.out hb4)
  have H2 := Lib.hid hv2.lns
  clear hb4 hv2
  go_wp2_with fail
  refine (of_any u l (a &&& b) _ (Hu.out.kept B4.out) Hf.out Hand.out Hlen.out).mono ?_
  rintro e w5 ⟨v3, rfl, hv3, hb5⟩
  have B5 := Lib.hid (below_join B4.out hb5)
  have H2b := Lib.hid (H2.out.kept hb5)
  have H3 := Lib.hid hv3.lns
  clear hb5 hv3
  go_wp2_with fail
  refine (lines06_any _ _ _ _ _ H2b.out H3.out).mono ?_
  rintro e w6 ⟨rfl, hb6⟩
  rw [decide_eq_true rfl]
  have B6 := Lib.hid (below_join B5.out hb6)
  have H2c := Lib.hid (H2b.out.kept hb6)
  clear hb6
  go_wp2_with fail
  refine (of_any u l b _ (Hu.out.kept B6.out) Hf.out Hb.out Hlen.out).mono ?_
  rintro e w7 ⟨v4, rfl, hv4, hb7⟩
  have B7 := Lib.hid (below_join B6.out hb7)
  have H2d := Lib.hid (H2c.out.kept hb7)
  have H4 := Lib.hid hv4.lns
  clear hb7 hv4
  go_wp2_with fail
  refine (of_any v4 _ a _ H4.out (fine_filter Hf.out) Ha.out (len_filter Hlen.out)).mono ?_
  rintro e w8 ⟨v5, rfl, hv5, hb8⟩
  rw [filter_and'] at hv5
  have B8 := Lib.hid (below_join B7.out hb8)
  have H2e := Lib.hid (H2d.out.kept hb8)
  have H5 := Lib.hid hv5.lns
  clear hb8 hv5
  go_wp2_with fail
  refine (lines06_any _ _ _ _ _ H2e.out H5.out).mono ?_
  rintro e w9 ⟨rfl, hb9⟩
  rw [decide_eq_true rfl]
  have B9 := Lib.hid (below_join B8.out hb9)
  clear hb9 H2 H2b H2c H2d H2e H3 H4 H5 H1
  go_wp2_with fail
  refine (refBoth1_any a b _ Ha.out Hb.out).mono ?_
  rintro e w10 ⟨rfl, hb10⟩
  have B10 := Lib.hid (below_join B9.out hb10)
  clear hb10 B1 B2 B3 B4 B5 B6 B7 B8
  go_wp2_with fail
  refine (of_any u l (a ||| b) _ (Hu.out.kept B10.out) Hf.out Hor.out Hlen.out).mono ?_
  rintro e w11 ⟨v6, rfl, hv6, hb11⟩
  have B11 := Lib.hid (below_join B10.out hb11)
  have H6 := Lib.hid hv6.lns
  clear hb11 hv6
  go_wp2_with fail
  refine (of_any v6 _ a _ H6.out (fine_filter Hf.out) Ha.out (len_filter Hlen.out)).mono ?_
  rintro e w12 ⟨v7, rfl, hv7, hb12⟩
  rw [filter_wide] at hv7
  have B12 := Lib.hid (below_join B11.out hb12)
  have H7 := Lib.hid hv7.lns
  clear hb12 hv7
  go_wp2_with fail
  refine (of_any u l a _ (Hu.out.kept B12.out) Hf.out Ha.out Hlen.out).mono ?_
  rintro e w13 ⟨v8, rfl, hv8, hb13⟩
  have B13 := Lib.hid (below_join B12.out hb13)
  have H7b := Lib.hid (H7.out.kept hb13)
  have H8 := Lib.hid hv8.lns
  clear hb13 hv8
  go_wp2_with fail
  refine (lines06_any _ _ _ _ _ H7b.out H8.out).mono ?_
  rintro e w14 ⟨rfl, hb14⟩
  rw [decide_eq_true rfl]
  have B14 := Lib.hid (below_join B13.out hb14)
  clear hb14 H6 H7 H7b H8
  go_wp2_with fail
  refine (of_any u l a _ (Hu.out.kept B14.out) Hf.out Ha.out Hlen.out).mono ?_
  rintro e w15 ⟨v9, rfl, hv9, hb15⟩
  have B15 := Lib.hid (below_join B14.out hb15)
  have H9 := Lib.hid hv9.lns
  clear hb15 hv9
  go_wp2_with fail
  refine (hidden_any u l a _ (Hu.out.kept B15.out) Hf.out Ha.out Hlen.out).mono ?_
  rintro e w16 ⟨v10, rfl, hv10, hb16⟩
  have B16 := Lib.hid (below_join B15.out hb16)
  have H9b := Lib.hid (H9.out.kept hb16)
  have H10 := Lib.hid hv10.lns
  clear hb16 hv10 B9 B10 B11 B12 B13 B14 B15 H9
  obtain ⟨ao, cap, bb, oo, rfl, hao, hml, hc4⟩ := (Hu.out.kept B16.out).form
  obtain ⟨so, scap, sb, soo, rfl, hso, hsl, hsc⟩ := H9b.out.form
  obtain ⟨ho, hcap, hbb, hoo, rfl, hho, hhl, hhc⟩ := H10.out.form
  unfold maxLen at hml hsl hhl
  obtain ⟨N, hN⟩ : ∃ N, l.length = N := ⟨_, rfl⟩
  obtain ⟨NS, hNS⟩ : ∃ NS, (l.filter (LineV.seen a)).length = NS := ⟨_, rfl⟩
  obtain ⟨NH, hNH⟩ : ∃ NH, (l.filter (fun x => !x.seen a)).length = NH := ⟨_, rfl⟩
  have HN := Lib.hid hN
  have HNS := Lib.hid hNS
  have HNH := Lib.hid hNH
  rw [hN] at hao hml ⊢
  rw [hNS] at hso hsl ⊢
  rw [hNH] at hho hhl ⊢
  have Hao := Lib.hid hao
  have Hso := Lib.hid hso
  have Hho := Lib.hid hho
  have Hc4 := Lib.hid hc4
  have Hsc := Lib.hid hsc
  have Hhc := Lib.hid hhc
  clear hN hNS hNH hao hso hho hc4 hsc hhc H9b H10 Hu
  go_wp2_with fail
  go_loopw [14, 15, 16] (fun i k n wr => ∃ m : Nat, m ≤ N ∧ n = .int .i64 (m : Int) ∧ i = .int .i64 (((l.take m).filter (LineV.seen a)).length : Nat) ∧ k = .int .i64 (((l.take m).filter (fun x => !x.seen a)).length : Nat) ∧ Below w16.heap.size w16 wr) (fun _ _ n _ => N - (intOf n).toNat)
  case atStart => exact ⟨0, Nat.zero_le _, rfl, rfl, rfl, Below.refl _ _⟩
  case round =>
    obtain ⟨m, hm, rfl, rfl, rfl, hbw⟩ := hrel
    have HB := Lib.hid hbw
    clear hbw
    by_cases hlt : m < N
    · have hml2 : m < l.length := by rw [HN.out]; exact hlt
      obtain rfl := Hao.out (by omega)
      obtain ⟨c0, c1, c2, c3⟩ := Hc4.out m hml2
      have c0 := cell_kept HB.out c0
      have c1 := cell_kept HB.out c1
      have c2 := cell_kept HB.out c2
      have c3 := cell_kept HB.out c3
      have Hx := Lib.hid (Hf.out _ (List.getElem_mem hml2))
      have Hnx := Lib.hid (filter_next (LineV.seen a) hml2)
      have Hny := Lib.hid (filter_next (fun x => !x.seen a) hml2)
      have Hsx := Lib.hid (filter_step (LineV.seen a) hml2)
      have Hsy := Lib.hid (filter_step (fun x => !x.seen a) hml2)
      obtain ⟨x, hx⟩ : ∃ x, l[m]'hml2 = x := ⟨_, rfl⟩
      rw [hx] at c0 c1 c2 c3 Hx Hnx Hny Hsx Hsy
      obtain ⟨x1, x2, x3, x4⟩ := x
      dsimp only at c0 c1 c2 c3
      have HXf := Lib.hid (show 0 ≤ x1 ∧ x1 < 18446744073709551616 from Hx.out)
      have hi0 : (0 : Int) ≤ (m : Int) := by omega
      have hi1 : (m : Int) < (N : Int) := by omega
      obtain ⟨I, hI⟩ : ∃ I, ((l.take m).filter (LineV.seen a)).length = I := ⟨_, rfl⟩
      obtain ⟨K, hK⟩ : ∃ K, ((l.take m).filter (fun x => !x.seen a)).length = K := ⟨_, rfl⟩
      have HI := Lib.hid hI
      have HK := Lib.hid hK
      rw [hI] at Hnx Hsx ⊢
      rw [hK] at Hny Hsy ⊢
      clear hx hI hK
      cases hq : belowN x1.toNat a with
      | true =>
        have hsn : LineV.seen a ⟨x1, x2, x3, x4⟩ = true := hq
        obtain ⟨hIl, he⟩ := Hnx.out hsn
        obtain ⟨d0, d1, d2, d3⟩ := Hsc.out I hIl
        rw [he] at d0 d1 d2 d3
        dsimp only at d0 d1 d2 d3
        have hIn : I < NS := by rw [← HNS.out]; exact hIl
        obtain rfl := Hso.out (by omega)
        have e1 := Lib.hid (Hsx.out.trans (by rw [if_pos hsn]))
        have e2 := Lib.hid (Hsy.out.trans (by rw [if_neg (show ¬ (!LineV.seen a ⟨x1, x2, x3, x4⟩) = true by rw [hsn]; decide)]))
        have hj0 : (0 : Int) ≤ (I : Int) := by omega
        have hj1 : (I : Int) < (NS : Int) := by omega
        have Hq := Lib.hid hq
        clear he hIl hq hsn
        go_wp2_with fail
        refine (seen_any a x1 x2 x3 x4 _ Ha.out HXf.out.1 HXf.out.2).mono ?_
        rintro e w1 ⟨rfl, hb1⟩
        rw [Hq.out]
        have HB1 := Lib.hid (below_join HB.out hb1)
        have c0 := cell_kept hb1 c0
        have c1 := cell_kept hb1 c1
        have c2 := cell_kept hb1 c2
        have c3 := cell_kept hb1 c3
        have d0 := cell_kept HB1.out d0
        have d1 := cell_kept HB1.out d1
        have d2 := cell_kept HB1.out d2
        have d3 := cell_kept HB1.out d3
        clear hb1
        go_wp2_with fail
        go_big_quiet (fail)
        go_wp2_with fail
        go_roundw
        case rel =>
          refine ⟨m + 1, by omega, by go_num, ?_, ?_, below_drewN HB1.out _⟩
          · rw [e1.out]; go_num
          · rw [e2.out]; rfl
        case measure => simp [intOf]; omega
      | false =>
        have hsn : (!LineV.seen a ⟨x1, x2, x3, x4⟩) = true := by show (!belowN x1.toNat a) = true; rw [hq]; rfl
        obtain ⟨hKl, he⟩ := Hny.out hsn
        obtain ⟨d0, d1, d2, d3⟩ := Hhc.out K hKl
        rw [he] at d0 d1 d2 d3
        dsimp only at d0 d1 d2 d3
        have hKn : K < NH := by rw [← HNH.out]; exact hKl
        obtain rfl := Hho.out (by omega)
        have e1 := Lib.hid (Hsx.out.trans (by rw [if_neg (show ¬ LineV.seen a ⟨x1, x2, x3, x4⟩ = true by show ¬ belowN x1.toNat a = true; rw [hq]; decide)]))
        have e2 := Lib.hid (Hsy.out.trans (by rw [if_pos hsn]))
        have hj0 : (0 : Int) ≤ (K : Int) := by omega
        have hj1 : (K : Int) < (NH : Int) := by omega
        have Hq := Lib.hid hq
        clear he hKl hq hsn
        by_cases hIn : I < NS
        · have hI1 : (I : Int) < (NS : Int) := by omega
          go_wp2_with fail
          refine (seen_any a x1 x2 x3 x4 _ Ha.out HXf.out.1 HXf.out.2).mono ?_
          rintro e w1 ⟨rfl, hb1⟩
          rw [Hq.out]
          have HB1 := Lib.hid (below_join HB.out hb1)
          have c0 := cell_kept hb1 c0
          have c1 := cell_kept hb1 c1
          have c2 := cell_kept hb1 c2
          have c3 := cell_kept hb1 c3
          have d0 := cell_kept HB1.out d0
          have d1 := cell_kept HB1.out d1
          have d2 := cell_kept HB1.out d2
          have d3 := cell_kept HB1.out d3
          clear hb1
          go_wp2_with fail
          go_big_quiet (fail)
          go_wp2_with fail
          go_roundw
          case rel =>
            refine ⟨m + 1, by omega, by go_num, ?_, ?_, below_drewN HB1.out _⟩
            · rw [e1.out]; rfl
            · rw [e2.out]; go_num
          case measure => simp [intOf]; omega
        · have d0 := cell_kept HB.out d0
          have d1 := cell_kept HB.out d1
          have d2 := cell_kept HB.out d2
          have d3 := cell_kept HB.out d3
          go_wp2_with fail
          go_big_quiet (fail)
          go_wp2_with fail
          go_roundw
          case rel =>
            refine ⟨m + 1, by omega, by go_num, ?_, ?_, below_drewN HB.out _⟩
            · rw [e1.out]; rfl
            · rw [e2.out]; go_num
          case measure => simp [intOf]; omega
    · obtain rfl : m = N := by omega
      rw [List.take_of_length_le (by rw [HN.out]; exact Nat.le_refl _), HNS.out, HNH.out]
      go_wp2_with fail
      go_ret
      exact ⟨by simp, below_join B16.out HB.out⟩
end Go.Proofs.Ytgchcgllpceghaa
