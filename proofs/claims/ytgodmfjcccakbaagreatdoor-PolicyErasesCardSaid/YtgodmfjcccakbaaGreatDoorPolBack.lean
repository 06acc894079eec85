/- Own work: the walk of PolicyBack. -/
import Derived.Test.YtgodmfjcccakbaaGreatDoorPolWorks
import Derived.Test.YtgodmfjcccakbaaGreatDoorSameHas
import Derived.Test.YtgodmfjcccakbaaGreatDoorFitA
namespace Go.Proofs.YtgodmfjcccakbaaGreatDoor
open Go.RowKit Go.Maps Go.Shelf Num

/-- the first k of a list that is turned -/
def rotV (vs : List Vw) (r k : Nat) : List Vw := (List.range k).map fun i => vs.getD ((i + r) % vs.length) ⟨⟨#[]⟩, 0⟩
theorem rotV_succ (vs : List Vw) (r k : Nat) : rotV vs r (k + 1) = rotV vs r k ++ [vs.getD ((k + r) % vs.length) ⟨⟨#[]⟩, 0⟩] := by simp [rotV, List.range_succ]
theorem rotV_len (vs : List Vw) (r k : Nat) : (rotV vs r k).length = k := by simp [rotV]
theorem rotV_eq {vs : List Vw} {r : Nat} (hr : r < vs.length) : rotV vs r vs.length = vs.drop r ++ vs.take r := by
  apply List.ext_getElem
  · rw [rotV_len, List.length_append, List.length_drop, List.length_take]; omega
  · intro i h1 h2
    rw [rotV_len] at h1
    simp only [rotV, List.getElem_map, List.getElem_range]
    by_cases hi : i < vs.length - r
    · have e : (i + r) % vs.length = i + r := Nat.mod_eq_of_lt (by omega)
      rw [e, List.getElem_append_left (by rw [List.length_drop]; exact hi), List.getElem_drop, List.getD_eq_getElem?_getD, List.getElem?_eq_getElem (by omega), Option.getD_some]
      congr 1
      omega
    · have e : (i + r) % vs.length = i + r - vs.length := by
        rw [Nat.mod_eq_sub_mod (by omega), Nat.mod_eq_of_lt (by omega)]
      rw [e, List.getElem_append_right (by rw [List.length_drop]; omega), List.getElem_take, List.getD_eq_getElem?_getD, List.getElem?_eq_getElem (by omega), Option.getD_some]
      congr 1
      rw [List.length_drop]
      omega
theorem rot_perm {vs : List Vw} {r : Nat} (hr : r < vs.length) : (rotV vs r vs.length).Perm vs := by
  rw [rotV_eq hr]
  refine List.perm_append_comm.trans ?_
  rw [List.take_append_drop]
theorem sort_perm {a b : List Vw} (h : a.Perm b) (ho : Once b) : sortV a = sortV b :=
  rising_same (sortV_rising ((h.map Vw.key).nodup_iff.2 ho)) (sortV_rising ho) (((sortV_perm a).trans h).trans (sortV_perm b).symm)
theorem print_size {vs : List Vw} (hok : polOk vs) (hf : Fits vs) : (printT vs).size ≤ 4294967280 := by
  have h := lines_small hok hf
  have e : (printT vs).size = joinN (vs.map lineB) := by
    show (joinL _).toArray.size = _
    simp [joinN]
  omega

set_option maxHeartbeats 16000000 in
set_option maxRecDepth 100000 in
theorem back_walk (u : Value) (ls : List Nat) (turn : Int) (w : World) (hu : Nums .u64 w u (intsOf ls)) (hl : ∀ x ∈ ls, x < 18446744073709551616) (hM : MaxL w) (hE : ErrVars w) (hT : Deb w) :
    Calls Tryz.prog 6 #[u, .int .i64 turn] w fun e w' => e = .returned (.bool true) ∧ Below w.heap.size w w' := by
  obtain ⟨i0, hi, hz0, hz1, hz2⟩ := info_parts Tryz.info40
  have HM := Lib.hid hM
  have HE := Lib.hid hE
  have HT := Lib.hid hT
  have Hu := Lib.hid hu
  have Hl := Lib.hid hl
  clear hM hE hT hu hl
  go_enter Tryz.func6, Tryz.ntmps6
  go_wp2_with fail
  refine (works_any _ HM.out HE.out HT.out).mono ?_
  rintro e w1 ⟨rfl, hb⟩
  have B1 := Lib.hid hb
  clear hb
  go_wp2_with fail
  refine (fit_any u ls _ (Hu.out.kept B1.out)).mono ?_
  rintro e w2 ⟨v, n, rfl, _, _, hn64, hown, hb⟩
  have B2 := Lib.hid (below_join B1.out hb)
  obtain ⟨vs, hvs⟩ : ∃ vs, fitV ls n = vs := ⟨_, rfl⟩
  have Hok := Lib.hid (show polOk vs by rw [← hvs]; exact fit_ok hn64)
  have Hfit := Lib.hid (show Fits vs by rw [← hvs]; exact fit_fits Hl.out)
  have hlen : vs.length = n := by rw [← hvs]; exact fitV_len ls n
  rw [hvs] at hown
  have Hlen := Lib.hid hlen
  obtain ⟨ao, cap, b, o, rfl, hao, hml, hc⟩ := (Vws.of_own (by rw [hlen]; exact hown)).form
  rw [hlen] at hao ⊢
  have Hao := Lib.hid hao
  have Hc := Lib.hid hc
  clear hb hvs hown hlen hml hao hc
  go_wp2_with fail
  obtain ⟨tu, htu⟩ : ∃ tu : Nat, IntKind.u64.wrap turn = (tu : Int) := ⟨(IntKind.u64.wrap turn).toNat, by simp only [IntKind.wrap, IntKind.bits, IntKind.signed]; simp; omega⟩
  have hwn : IntKind.u64.wrap (n : Int) = (n : Int) := by simp only [IntKind.wrap, IntKind.bits, IntKind.signed]; simp; omega
  obtain ⟨r, hr⟩ : ∃ r, tu % n = r := ⟨_, rfl⟩
  have hrm : Int.tmod (tu : Int) (n : Int) = (r : Int) := by rw [Int.tmod_eq_emod_of_nonneg (by omega), ← hr]; rfl
  have hwr : n ≠ 0 → IntKind.i64.wrap (r : Int) = (r : Int) := fun hn => by
    have := Nat.mod_lt tu (show 0 < n by omega)
    simp only [IntKind.wrap, IntKind.bits, IntKind.signed]; simp; omega
  have Hr := Lib.hid hr
  have Hwr := Lib.hid hwr
  have Htu := Lib.hid htu
  have Hwn := Lib.hid hwn
  have Hrm := Lib.hid hrm
  clear htu hwn hr hrm hwr
  go_loopw [6, 7] (fun v i wr => ∃ k : Nat, k ≤ n ∧ i = .int .i64 k ∧ wr.ownsRow w2.heap.size 40 2 v k (flatV (rotV vs r k)) ∧ Below w2.heap.size w2 wr) (fun _ i _ => n - (intOf i).toNat)
  case atStart => exact ⟨0, Nat.zero_le _, rfl, World.ownsRow_nil _ _ _ _, Below.refl _ _⟩
  case round =>
    obtain ⟨k, hk, rfl, hown, hbw⟩ := hrel
    have Hown := Lib.hid hown
    have Hbw := Lib.hid hbw
    clear hown hbw
    by_cases hlt : k < n
    · obtain rfl := Hao.out (by omega)
      have hrn : r < n := by rw [← Hr.out]; exact Nat.mod_lt _ (by omega)
      obtain ⟨j, hj⟩ : ∃ j, (k + r) % n = j := ⟨_, rfl⟩
      have hjn : j < n := by rw [← hj]; exact Nat.mod_lt _ (by omega)
      have hjv : j < vs.length := by rw [Hlen.out]; exact hjn
      obtain ⟨c0, c1⟩ := Hc.out j hjv
      have c0 := cell_kept Hbw.out c0
      have c1 := cell_kept Hbw.out c1
      obtain ⟨x, hx⟩ : ∃ x, vs[j]'hjv = x := ⟨_, rfl⟩
      rw [hx] at c0 c1
      have Hsucc : Hid (rotV vs r (k + 1) = rotV vs r k ++ [x]) := by
        show _ = _
        rw [rotV_succ, Hlen.out, hj, List.getD_eq_getElem?_getD, List.getElem?_eq_getElem hjv, hx]; rfl
      have htu := Htu.out
      have hwn := Hwn.out
      have hrm := Hrm.out
      have hwr := Hwr.out (by omega)
      have hwk : IntKind.i64.wrap ((k : Int) + (r : Int)) = (k : Int) + (r : Int) := by simp only [IntKind.wrap, IntKind.bits, IntKind.signed]; simp; omega
      have hjm : Int.tmod ((k : Int) + (r : Int)) (n : Int) = (j : Int) := by
        rw [Int.tmod_eq_emod_of_nonneg (by omega), ← hj]; simp
      have hn0 : ((n : Int) == 0) = false := by rw [beq_eq_false_iff_ne]; omega
      have hn1 : ((n : Int) = 0) = False := by simp; omega
      have hj0 : (0 : Int) ≤ (j : Int) := by omega
      have hj1 : (j : Int) < (n : Int) := by omega
      have hk1 : (k : Int) < (n : Int) := by omega
      clear hj hx
      go_wp2_with (at_builtin; refine wpList_append_own _ rfl _ _ 29 rfl w2.heap.size 40 i0 _ 2 24 Tryz.underlying29 hi hz0 hz1 hz2 rfl (by decide) _ _ _ rfl (Hown.out.alloc _) ⟨wr.heap.size, 0, none⟩ 1 1 x.cells rfl rfl ?d2 ?d3 ?d4 ?d5 ?d6 ?_)
      case d2 => exact fun j u h => h
      case d3 => intro y hy; exact flatV_plain [x] y (by rw [flatV_one]; exact hy)
      case d4 => unfold maxLen; omega
      case d5 => omega
      case d6 => exact Nat.le_trans Hbw.out.size (by simp)
      intro v3 w3 hown3 hgrow3 _
      have B3 := Lib.hid ((Hbw.out.alloc Hbw.out.size _).grown hgrow3 (by simp; have := Hbw.out.size; omega) (fun q hq => (Hown.out.lt q hq).1))
      have Ho4 := Lib.hid (show w3.ownsRow w2.heap.size 40 2 v3 (k + 1) (flatV (rotV vs r (k + 1))) by
        rw [Hsucc.out, flatV_append, flatV_one]; exact hown3)
      clear hown3 hgrow3
      go_wp2_with fail
      go_roundw
      case rel => exact ⟨k + 1, by omega, by go_num, Ho4.out, B3.out⟩
      case measure => simp [intOf]; omega
    · obtain rfl : k = n := by omega
      have hrot : (rotV vs r k).Perm vs := by
        by_cases h0 : k = 0
        · have : vs = [] := List.eq_nil_of_length_eq_zero (by rw [Hlen.out, h0])
          rw [this, h0]; exact List.Perm.refl _
        · have hrn : r < vs.length := by rw [Hlen.out, ← Hr.out]; exact Nat.mod_lt _ (by omega)
          have h1 := rot_perm hrn
          rw [Hlen.out] at h1
          exact h1
      have Hrok := Lib.hid ((polOk_perm hrot).2 Hok.out)
      have Hrfit := Lib.hid (Hfit.out.sub fun x hx => hrot.mem_iff.1 hx)
      have Hrs := Lib.hid (sort_perm hrot Hok.out.2.2)
      have Hrv := Lib.hid (Vws.of_own (by rw [rotV_len]; exact Hown.out))
      have Bw := Lib.hid (below_join B2.out Hbw.out)
      have Hsl := Lib.hid (show (sortV vs).length = k by rw [sortV_len, Hlen.out])
      clear hrot
      go_wp2_with fail
      refine (new_any _ (rotV vs r k) _ Hrv.out Hrfit.out).mono ?_
      rintro e w3 ⟨hb, ⟨hno, _⟩ | ⟨_, p, rfl, hp⟩⟩
      · exact absurd Hrok.out hno
      rw [Hrs.out] at hp
      obtain ⟨bp, rfl⟩ := ptr_of hp
      have B3 := Lib.hid (below_join Bw.out hb)
      have Hp := Lib.hid hp
      have Hpf := Lib.hid hp.facts
      obtain ⟨ss, hss⟩ : ∃ ss, sortV vs = ss := ⟨_, rfl⟩
      rw [hss] at Hp Hpf Hsl
      clear hb hp hss
      go_wp2_with fail
      refine (printM_any _ _ _ Hp.out (HT.out.kept B3.out)).mono ?_
      rintro e w4 ⟨rfl, hb⟩
      have B4 := Lib.hid (below_join B3.out hb)
      have Hp4 := Lib.hid (Hp.out.kept hb)
      have Hps := Lib.hid (print_size Hpf.out.2.1 Hpf.out.2.2)
      obtain ⟨pt, hpt⟩ : ∃ pt, printT ss = pt := ⟨_, rfl⟩
      have Hpt := Lib.hid hpt
      rw [hpt] at Hps ⊢
      clear hb hpt
      go_wp2_with fail
      refine (polParse_any pt _ Hps.out (HM.out.kept B4.out) (HE.out.kept B4.out) (HT.out.kept B4.out)).mono ?_
      rintro e w5 ⟨hb, ⟨qs, q, hr, hok, hf, hpr, rfl, hq⟩ | ⟨hno, _⟩⟩
      rotate_left
      · exact absurd Hpt.out (hno _ Hpf.out.1 Hpf.out.2.1 Hpf.out.2.2)
      obtain rfl := print_inj hok Hpf.out.2.1 hf Hpf.out.2.2 (hpr.trans Hpt.out.symm)
      obtain ⟨bq, rfl⟩ := ptr_of hq
      have B5 := Lib.hid (below_join B4.out hb)
      have Hp5 := Lib.hid (Hp4.out.kept hb)
      have Hq5 := Lib.hid hq
      clear hb hq hpr hr hok hf
      go_wp2_with fail
      refine (viewers_any _ _ _ Hp5.out).mono ?_
      rintro e w6 ⟨u6, rfl, hown6, hb⟩
      have B6 := Lib.hid (below_join B5.out hb)
      have Hp6 := Lib.hid (Hp5.out.kept hb)
      have Hq6 := Lib.hid (Hq5.out.kept hb)
      have Hv6 := Lib.hid (Vws.of_own hown6)
      clear hb hown6
      go_wp2_with fail
      refine (new_any _ qs _ Hv6.out Hpf.out.2.2).mono ?_
      rintro e w7 ⟨hb, ⟨hno, _⟩ | ⟨_, rp, rfl, hrp⟩⟩
      · exact absurd Hpf.out.2.1 hno
      rw [sortV_same Hpf.out.1] at hrp
      obtain ⟨br, rfl⟩ := ptr_of hrp
      have B7 := Lib.hid (below_join B6.out hb)
      have Hp7 := Lib.hid (Hp6.out.kept hb)
      have Hq7 := Lib.hid (Hq6.out.kept hb)
      have Hr7 := Lib.hid hrp
      clear hb hrp
      go_wp2_with fail
      refine (viewers_any _ _ _ Hp7.out).mono ?_
      rintro e w8 ⟨u8, rfl, hown8, hb⟩
      have B8 := Lib.hid (below_join B7.out hb)
      have Hp8 := Lib.hid (Hp7.out.kept hb)
      have Hq8 := Lib.hid (Hq7.out.kept hb)
      have Hr8 := Lib.hid (Hr7.out.kept hb)
      have Hv8 := Lib.hid (Vws.of_own hown8)
      clear hb hown8
      go_wp2_with fail
      refine (viewers_any _ _ _ Hq8.out).mono ?_
      rintro e w9 ⟨u9, rfl, hown9, hb⟩
      have B9 := Lib.hid (below_join B8.out hb)
      have Hp9 := Lib.hid (Hp8.out.kept hb)
      have Hq9 := Lib.hid (Hq8.out.kept hb)
      have Hr9 := Lib.hid (Hr8.out.kept hb)
      have Hv89 := Lib.hid (Hv8.out.kept hb)
      have Hv9 := Lib.hid (Vws.of_own hown9)
      clear hb hown9
      go_wp2_with fail
      refine (same_any _ _ qs _ Hv89.out Hv9.out).mono ?_
      rintro e w10 ⟨rfl, hb⟩
      have B10 := Lib.hid (below_join B9.out hb)
      have Hp10 := Lib.hid (Hp9.out.kept hb)
      have Hq10 := Lib.hid (Hq9.out.kept hb)
      have Hr10 := Lib.hid (Hr9.out.kept hb)
      clear hb
      go_wp2_with fail
      refine (viewers_any _ _ _ Hp10.out).mono ?_
      rintro e w11 ⟨u11, rfl, hown11, hb⟩
      have B11 := Lib.hid (below_join B10.out hb)
      have Hp11 := Lib.hid (Hp10.out.kept hb)
      have Hq11 := Lib.hid (Hq10.out.kept hb)
      have Hr11 := Lib.hid (Hr10.out.kept hb)
      have Hv11 := Lib.hid (Vws.of_own hown11)
      clear hb hown11
      go_wp2_with fail
      refine (viewers_any _ _ _ Hr11.out).mono ?_
      rintro e w12 ⟨u12, rfl, hown12, hb⟩
      have B12 := Lib.hid (below_join B11.out hb)
      have Hp12 := Lib.hid (Hp11.out.kept hb)
      have Hq12 := Lib.hid (Hq11.out.kept hb)
      have Hr12 := Lib.hid (Hr11.out.kept hb)
      have Hv112 := Lib.hid (Hv11.out.kept hb)
      have Hv12 := Lib.hid (Vws.of_own hown12)
      clear hb hown12
      go_wp2_with fail
      refine (same_any _ _ qs _ Hv112.out Hv12.out).mono ?_
      rintro e w13 ⟨rfl, hb⟩
      have B13 := Lib.hid (below_join B12.out hb)
      have Hp13 := Lib.hid (Hp12.out.kept hb)
      have Hq13 := Lib.hid (Hq12.out.kept hb)
      have Hr13 := Lib.hid (Hr12.out.kept hb)
      clear hb
      go_wp2_with fail
      refine (printM_any _ _ _ Hq13.out (HT.out.kept B13.out)).mono ?_
      rintro e w14 ⟨rfl, hb⟩
      rw [Hpt.out]
      have B14 := Lib.hid (below_join B13.out hb)
      have Hp14 := Lib.hid (Hp13.out.kept hb)
      have Hr14 := Lib.hid (Hr13.out.kept hb)
      clear hb
      go_wp2_with fail
      refine (printM_any _ _ _ Hp14.out (HT.out.kept B14.out)).mono ?_
      rintro e w15 ⟨rfl, hb⟩
      rw [Hpt.out]
      have B15 := Lib.hid (below_join B14.out hb)
      have Hp15 := Lib.hid (Hp14.out.kept hb)
      have Hr15 := Lib.hid (Hr14.out.kept hb)
      clear hb
      go_wp2_with fail
      refine (printM_any _ _ _ Hr15.out (HT.out.kept B15.out)).mono ?_
      rintro e w16 ⟨rfl, hb⟩
      rw [Hpt.out]
      have B16 := Lib.hid (below_join B15.out hb)
      have Hp16 := Lib.hid (Hp15.out.kept hb)
      clear hb
      go_wp2_with fail
      refine (printM_any _ _ _ Hp16.out (HT.out.kept B16.out)).mono ?_
      rintro e w17 ⟨rfl, hb⟩
      rw [Hpt.out]
      have B17 := Lib.hid (below_join B16.out hb)
      have Hp17 := Lib.hid (Hp16.out.kept hb)
      clear hb
      go_wp2_with fail
      refine (viewers_any _ _ _ Hp17.out).mono ?_
      rintro e w18 ⟨u18, rfl, hown18, hb⟩
      have B18 := Lib.hid (below_join B17.out hb)
      obtain ⟨vo, vc, rfl⟩ := (Vws.of_own hown18).slice
      rw [Hsl.out]
      clear hb hown18
      go_wp2_with fail
      go_ret
      exact ⟨rfl, B18.out⟩
end Go.Proofs.YtgodmfjcccakbaaGreatDoor
