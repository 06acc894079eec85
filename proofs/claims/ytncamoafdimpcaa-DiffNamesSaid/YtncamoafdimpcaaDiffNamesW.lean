/- Own work: DiffNames' walk. -/
import Derived.Test.YtncamoafdimpcaaDiffNames
namespace Go.Proofs.Ytncamoafdimpcaa
open Go.RowKit

theorem conv_three (x y z : Int) (W : World) : (convert 24 9 (.slice (some ⟨W.heap.size, 0, none⟩) 3 3)).run Try.prog (W.alloc (.cells #[.int .u8 x, .int .u8 y, .int .u8 z] 5)) = .ok (.string (strOfNums [x, y, z])) (W.alloc (.cells #[.int .u8 x, .int .u8 y, .int .u8 z] 5)) := by
  refine run_convert_bytes_arg _ 24 5 Try.underlying24 Try.underlying5 W.heap.size 0 3 3 [x, y, z] rfl ?_ 9 Try.underlying9
  intro i hi
  rw [Nat.zero_add, cell_of_row _ _ _ _ _ _ (heap_alloc_new W _)]
  match i, hi with
  | 0, _ => rfl
  | 1, _ => rfl
  | 2, _ => rfl
theorem apart_step {av av' bv : Value} {H : Nat} (ha : ∀ g, av.ownBlock = some g → bv.ownBlock ≠ some g) (h : ∀ g, av'.ownBlock = some g → av.ownBlock = some g ∨ H ≤ g) (hb : ∀ g, bv.ownBlock = some g → g < H) : ∀ g, av'.ownBlock = some g → bv.ownBlock ≠ some g := by
  intro g hg e
  rcases h g hg with h | h
  · exact ha g h e
  · have := hb g e
    omega

set_option maxRecDepth 100000 in
set_option maxHeartbeats 16000000 in
theorem names_walk (w : World) :
    Calls Try.prog 3 #[] w fun e w' => e = .returned (.bool true) ∧ Below w.heap.size w w' := by
  go_enter Try.func3, Try.ntmps3
  go_wp2_with fail
  refine (works_any _).mono ?_
  rintro e w1 ⟨rfl, hb1⟩
  have B1 := Lib.hid hb1
  clear hb1
  go_wp2_with fail
  go_loopw [1, 2, 3] (fun av bv iv wr => ∃ (k : Nat), k ≤ 1024 ∧ iv = .int .i64 (k : Int) ∧ Hid (OwnT wr w1.heap.size av (LA k)) ∧ Hid (OwnT wr w1.heap.size bv (LB k)) ∧ Hid (Below w1.heap.size w1 wr) ∧ Hid (∀ g, av.ownBlock = some g → bv.ownBlock ≠ some g)) (fun _ _ iv _ => 1024 - (intOf iv).toNat)
  case atStart => exact ⟨0, Nat.zero_le _, rfl, ownT_nil _ _, ownT_nil _ _, Below.refl _ _, fun g h => by cases h⟩
  case round =>
    obtain ⟨k, hk, rfl, HO, HP, HB, HS⟩ := hrel
    by_cases hlt : k < 1024
    · have ki1 : (k : Int) < 1024 := by omega
      have e1 : (k : Int).tdiv 256 = ((k / 256 : Nat) : Int) := tdiv_nat k 256
      have cvA := conv_three 1 ((k : Int) % 256) ((k : Int) / 256)
      have cvB := conv_three 2 ((k : Int) % 256) ((k : Int) / 256)
      have al : ∀ (W : World) (o : Obj), Below W.heap.size W (W.alloc o) := fun W o => (Below.refl _ _).alloc (Nat.le_refl _) o
      have AL := Lib.hid al
      have HlA := Lib.hid (LA_len k)
      have HlB := Lib.hid (LB_len k)
      clear al
      go_wp2_with (at_builtin; refine wpList_append_one2 rfl _ _ rfl w1.heap.size u1 (LA k) (tA k) rfl (HO.out.below (AL.out wr _)) _ (wr.heap.size + 1) (by simp) rfl (by rw [HlA.out]; omega) (Nat.le_trans HB.out.size (AL.out wr _).size) ?_)
      intro v2 w2 ho2 hg2 hv2
      have HB2 := Lib.hid ((HB.out.trans ((AL.out wr _).mono HB.out.size)).grown hg2 (Nat.le_trans HB.out.size (AL.out wr _).size) (fun g hg => (HO.out.lt g hg).1))
      have HP2 : Hid (OwnT w2 w1.heap.size u2 (LB k)) := own_grown (HP.out.below (AL.out wr _)) hg2 (fun g hg e => HS.out g e hg)
      have HS2 := Lib.hid (apart_step HS.out hv2 (fun g hg => by have := (HP.out.lt g hg).2; omega))
      have HO2 := Lib.hid ho2
      clear ho2 hg2 hv2
      go_wp2_with (at_builtin; refine wpList_append_one2 rfl _ _ rfl w1.heap.size u2 (LB k) (tB k) rfl (HP2.out.below (AL.out w2 _)) _ (w2.heap.size + 1) (by simp) rfl (by rw [HlB.out]; omega) (Nat.le_trans HB2.out.size (AL.out w2 _).size) ?_)
      intro v3 w3 ho3 hg3 hv3
      have HB3 := Lib.hid ((HB2.out.trans ((AL.out w2 _).mono HB2.out.size)).grown hg3 (Nat.le_trans HB2.out.size (AL.out w2 _).size) (fun g hg => (HP2.out.lt g hg).1))
      have HO3 : Hid (OwnT w3 w1.heap.size v2 (LA k ++ [tA k])) := own_grown (HO2.out.below (AL.out w2 _)) hg3 (fun g hg e => HS2.out g hg e)
      have HS3 : Hid (∀ g, v2.ownBlock = some g → v3.ownBlock ≠ some g) := fun g hg e => apart_step (fun g h1 h2 => HS2.out g h2 h1) hv3 (fun g hg => by have := (HO2.out.lt g hg).2; omega) g e hg
      have HP3 := Lib.hid ho3
      clear ho3 hg3 hv3
      go_wp2_with fail
      go_roundw
      case rel => exact ⟨k + 1, by omega, by go_num, by show OwnT _ _ _ _; rw [LA_succ]; exact HO3.out, by show OwnT _ _ _ _; rw [LB_succ]; exact HP3.out, HB3, HS3⟩
      case measure => simp [intOf]; omega
    · obtain rfl : k = 1024 := by omega
      obtain ⟨ga, ca, rfl⟩ : ∃ ga ca, u1 = .slice (some ⟨ga, 0, none⟩) 1024 ca := by
        have h := HO.out
        unfold OwnT at h
        rw [LA_len] at h
        exact Joins.ownsRow_form h (by omega)
      obtain ⟨gb, cb, rfl⟩ : ∃ gb cb, u2 = .slice (some ⟨gb, 0, none⟩) 1024 cb := by
        have h := HP.out
        unfold OwnT at h
        rw [LB_len] at h
        exact Joins.ownsRow_form h (by omega)
      have hab : ga ≠ gb := fun e => HS.out ga rfl (by rw [e]; rfl)
      have HO0 := Lib.hid HO.out
      have HP0 := Lib.hid HP.out
      unfold OwnT at HO0 HP0
      rw [LA_len] at HO0
      rw [LB_len] at HP0
      have fa := own_frozen HO0.out 500
      have ca500 : wr.cell? ⟨ga, 500, none⟩ = some (.string (tA 500)) := by
        rw [HO0.out.cellAt 500 (by omega)]
        simp [LA]
      have HA1 := Lib.hid (own_setCell (j := 500) HO0.out (.string txOne))
      have HGA := Lib.hid (grown_setCell wr ga 500 (.string txOne))
      have HB1 := Lib.hid (own_grown HP0.out HGA.out (fun g hg e => hab ((Option.some.inj e).trans (Option.some.inj hg).symm)))
      have HBA := Lib.hid (HB.out.grown HGA.out HB.out.size (fun g hg => by cases hg; exact (HO0.out.lt ga rfl).1))
      have hA2 : Hid (OwnT (wr.setCell ⟨ga, 500, none⟩ (.string txOne)) w1.heap.size (.slice (some ⟨ga, 0, none⟩) 1024 ca) NA) := by
        show OwnT _ _ _ _
        unfold OwnT NA
        rw [List.length_set, LA_len, List.map_set]
        exact HA1.out
      have hset : wr.setCell ⟨ga, 500, none⟩ (.string txOne) = wr.setCell ⟨ga, 500, none⟩ (.string ⟨#[111, 110, 101]⟩) := rfl
      rw [hset] at HB1 HBA hA2
      go_upto_region 10 with fail
      generalize wr.setCell ⟨ga, 500, none⟩ (.string ⟨#[111, 110, 101]⟩) = wa at HB1 HBA hA2 ⊢
      have fb := own_frozen HB1.out 20
      have cb20 : wa.cell? ⟨gb, 20, none⟩ = some (.string (tB 20)) := by
        rw [HB1.out.cellAt 20 (by omega)]
        simp [LB]
      have HB2 := Lib.hid (own_setCell (j := 20) HB1.out (.string txOne))
      have HGB := Lib.hid (grown_setCell wa gb 20 (.string txOne))
      have HA3 := Lib.hid (own_grown hA2.out HGB.out (fun g hg e => hab ((Option.some.inj hg).trans (Option.some.inj e).symm)))
      have HBB := Lib.hid (HBA.out.grown HGB.out HBA.out.size (fun g hg => by cases hg; exact (HB1.out.lt gb rfl).1))
      have hB3 : Hid (OwnT (wa.setCell ⟨gb, 20, none⟩ (.string txOne)) w1.heap.size (.slice (some ⟨gb, 0, none⟩) 1024 cb) NB) := by
        show OwnT _ _ _ _
        unfold OwnT NB
        rw [List.length_set, LB_len, List.map_set]
        exact HB2.out
      have hset2 : wa.setCell ⟨gb, 20, none⟩ (.string txOne) = wa.setCell ⟨gb, 20, none⟩ (.string ⟨#[111, 110, 101]⟩) := rfl
      rw [hset2] at HA3 HBB hB3
      go_upto_region 11 with fail
      generalize wa.setCell ⟨gb, 20, none⟩ (.string ⟨#[111, 110, 101]⟩) = wb at HA3 HBB hB3 ⊢
      have HA4 : Hid (OwnT wb w1.heap.size (.slice (some ⟨ga, 0, none⟩) 1024 ca) NA) := HA3.out
      clear HO HP HS HO0 HP0 fa ca500 HA1 HGA HB1 hA2 hset fb cb20 HB2 HGB HA3 hset2 hlt
      go_wp2_with fail
      refine (lines_any _ _ NA NB wb HA4.out.texts hB3.out.texts HA4.out.form hB3.out.form (by rw [NA_len]; decide) (by rw [NB_len]; decide)).mono ?_
      rintro e w4 ⟨p4, hs1, rfl, ho4, hh4, hb4⟩
      have B4 := Lib.hid hb4
      have HK := Lib.hid ho4
      have HH := Lib.hid hh4
      clear ho4 hh4 hb4
      obtain ⟨o1, n1, o2, n2, hl1, hn1⟩ := names_lines
      rw [hl1] at HH
      obtain ⟨x1, x2, rfl, e1, e2⟩ : ∃ x1 x2, hs1 = [x1, x2] ∧ x1.txt = ⟨0, o1, n1⟩ ∧ x2.txt = ⟨501, o2, n2⟩ := by
        have h := HH.out
        match hs1, h with
        | [], h => cases h
        | [_], h => simp at h
        | [x1, x2], h =>
          simp at h
          exact ⟨x1, x2, rfl, h.1, h.2⟩
        | _ :: _ :: _ :: _, h => simp at h
      obtain ⟨x11, x12, x13, x14, x15⟩ := x1
      obtain ⟨x21, x22, x23, x24, x25⟩ := x2
      injection e1 with f1 f2 f3
      injection e2 with f4 f5 f6
      dsimp only at f1 f2 f3 f4 f5 f6
      subst f1 f2 f3 f4 f5 f6
      have Hn1 := Lib.hid hn1
      obtain ⟨pao, pcap, pb, pof, rfl, hpo, _, hpc⟩ := HK.out.hunks
      obtain rfl := hpo (by simp)
      obtain ⟨c0, c1, c2, t1, t2⟩ := hpc 0 (by simp)
      obtain ⟨d0, d1, d2, s1, s2⟩ := hpc 1 (by simp)
      simp only [List.getElem_cons_zero, List.getElem_cons_succ, Nat.zero_mul, Nat.add_zero] at c0 c1 c2 t1 t2 d0 d1 d2 s1 s2
      obtain ⟨_, _, _, _, rfl, _⟩ := t2.form
      rw [hn1] at c2
      have HC := Lib.hid (show _ ∧ _ ∧ _ from ⟨c0, c2, d0⟩)
      have hpb : gb ≠ pb := by
        have h1 := (HK.out.1.lt pb rfl).1
        have h2 := (hB3.out.lt gb rfl).2
        omega
      clear hpc hpo c0 c1 c2 t1 t2 d0 d1 d2 s1 s2 hl1 hn1 HH HK
      have HA5 : Hid (OwnT w4 w1.heap.size (.slice (some ⟨ga, 0, none⟩) 1024 ca) NA) := HA4.out.below B4.out
      have HB5 : Hid (OwnT w4 w1.heap.size (.slice (some ⟨gb, 0, none⟩) 1024 cb) NB) := hB3.out.below B4.out
      have HBC := Lib.hid (HBB.out.trans (B4.out.mono HBB.out.size))
      clear HA4 hB3 HBB HBA HB
      go_wp2_with (at_builtin; refine wpList_append_more rfl _ _ rfl w1.heap.size gb 1024 cb NB txMore rfl HB5.out NB_len _ w4.heap.size rfl rfl (by omega) HBC.out.size ?_)
      intro v5 w5 ho5 ht5 hb5 hv5 hg5
      have HO5 := Lib.hid ho5
      have HT5 := Lib.hid ht5
      have HBD := Lib.hid (HBC.out.trans hb5)
      have HA6 : Hid (OwnT w5 w1.heap.size (.slice (some ⟨ga, 0, none⟩) 1024 ca) NA) := own_grown HA5.out hg5 (fun g hg e => hab ((Option.some.inj hg).trans (Option.some.inj e).symm))
      have hne5 : (some gb : Option Nat) ≠ some pb := fun e => hpb (Option.some.inj e)
      have HC5 := Lib.hid (show _ ∧ _ ∧ _ from ⟨cell_stays HC.out.1 hg5 hne5, cell_stays HC.out.2.1 hg5 hne5, cell_stays HC.out.2.2 hg5 hne5⟩)
      clear ho5 ht5 hb5 hv5 hg5 hne5 HC HA5 HB5 HBC
      obtain ⟨yo, yc, rfl⟩ := HO5.out.texts.lenForm
      have h1025 : (NB ++ [txMore]).length = 1025 := by rw [List.length_append, NB_len]; rfl
      rw [h1025] at HO5 ⊢
      go_wp2_with fail
      refine (lines_any _ _ NA (NB ++ [txMore]) w5 HA6.out.texts HO5.out.texts HA6.out.form HO5.out.form (by rw [NA_len]; decide) (by rw [h1025]; decide)).mono ?_
      rintro e w6 ⟨p6, hs2, rfl, ho6, hh6, hb6⟩
      have B6 := Lib.hid hb6
      have HK6 := Lib.hid ho6.hunks
      obtain ⟨o3, n3, hl2, ho3, hn3⟩ := names_lines2
      rw [hl2] at hh6
      have hsums := hunks_sums hh6
      have HS6 : Hid (sumI ((hs2.map HunkM.num).map HunkN.on) = 1024 ∧ sumI ((hs2.map HunkM.num).map HunkN.nn) = 1025) := by
        have h1 : oldsL [⟨0, o3, n3⟩] = 1024 := by simp [oldsL, ho3]
        have h2 : newsL [⟨0, o3, n3⟩] = 1025 := by simp [newsL, hn3]
        rw [h1, h2] at hsums
        refine ⟨?_, ?_⟩
        · rw [sumI_eq _ (by rw [hsums.1]; decide), hsums.1]; rfl
        · rw [sumI_eq _ (by rw [hsums.2]; decide), hsums.2]; rfl
      have hz2 : hs2.length = 1 := by
        have h := congrArg List.length hh6
        simpa using h
      obtain ⟨qo, qc, rfl⟩ : ∃ qo qc, p6 = .slice qo hs2.length qc := by obtain ⟨qo, qc, _, _, h, _⟩ := ho6.hunks; exact ⟨qo, qc, h⟩
      rw [hz2] at HK6 ⊢
      have HBE := Lib.hid (HBD.out.trans (hb6.mono HBD.out.size))
      clear ho6 hh6 hb6 hl2 ho3 hn3 hsums hz2
      go_wp2_with fail
      refine (size_any _ _ w6 HK6.out.nums).mono ?_
      rintro e w7 ⟨he, hb7⟩
      rw [HS6.out.1, HS6.out.2] at he
      subst he
      have B7 := Lib.hid (below_join B6.out hb7)
      have HBF := Lib.hid (HBE.out.trans (hb7.mono HBE.out.size))
      clear hb7
      obtain ⟨c0, c2, d0⟩ := HC5.out
      have c0 := cell_kept B7.out c0
      have c2 := cell_kept B7.out c2
      have d0 : w7.cell? ⟨pb, pof + 3, none⟩ = some (.int .i64 501) := cell_kept B7.out (by simpa using d0)
      have c0 : w7.cell? ⟨pb, pof, none⟩ = some (.int .i64 0) := c0
      go_wp2_with fail
      refine (common_any _ _ NA NB w7 (HA6.out.texts.kept B7.out) (HT5.out.kept B7.out) (by rw [NA_len]; decide) (by rw [NB_len]; decide)).mono ?_
      rintro e w8 ⟨v8, rfl, ho8, hb8⟩
      rw [names_common] at ho8
      obtain ⟨_, _, _, rfl, _⟩ := ho8.form
      have HBG := Lib.hid (HBF.out.trans (hb8.mono HBF.out.size))
      clear ho8 hb8
      go_wp2_with fail
      go_ret
      exact ⟨by simp, below_join B1.out HBG.out⟩
end Go.Proofs.Ytncamoafdimpcaa
