/- Own work: ident.Parse. -/
import Derived.Test.YtajjikbigacbaaaDoorIdText
import Derived.Test.YtajjikbigacbaaaDoorCutOne
import Derived.Test.YtajjikbigacbaaaDoorParseSame
namespace Go.Proofs.YtajjikbigacbaaaDoor
open Go.RowKit

theorem refP_lt (s : ByteArray) : (refP s).1 < 18446744073709551616 := by
  rcases lab_same s with ⟨_, h⟩ | ⟨_, cs, h1, h⟩ | ⟨_, _, h⟩
  · rw [h]; decide
  · rw [h]; exact ofN_lt _ (okL_of h1.1.2)
  · rw [h]; decide
theorem refP_err (s : ByteArray) : (refP s).2 = 0 ∨ (refP s).2 = 4 := by
  rcases lab_same s with ⟨_, h⟩ | ⟨_, cs, h1, h⟩ | ⟨_, _, h⟩ <;> rw [h] <;> simp
/-- label.Parse, in the document's words -/
theorem labParse_any (s : ByteArray) (w : World) (hs : s.size ≤ 140737488355328) (hv : ErrVars w) :
    Calls Tryd.prog 20 #[.string s] w fun e w' => e = .returned (.tuple #[.int .u64 ((refP s).1 : Int), .int .i64 (refP s).2]) ∧ Below w.heap.size w w' := by
  refine (parse_any s w hs hv).mono ?_
  rintro e w' ⟨hb, hp⟩
  refine ⟨?_, hb⟩
  rcases lab_same s with ⟨h1, h2⟩ | ⟨h1, cs, h2, h3⟩ | ⟨h1, h2, h3⟩
  · rcases hp with ⟨_, rfl⟩ | ⟨h, _⟩ | ⟨h, _⟩
    · rw [h2]; rfl
    · exact absurd h1 h
    · exact absurd h1 h
  · rcases hp with ⟨h, _⟩ | ⟨_, ds, h4, rfl⟩ | ⟨_, h, _⟩
    · exact absurd h h1
    · have : ds = cs := map_dig_inj h4.1.2 h2.1.2 (h4.2.symm.trans h2.2)
      rw [h3, this]
    · exact absurd ⟨cs, h2⟩ h
  · rcases hp with ⟨h, _⟩ | ⟨_, ds, h4, _⟩ | ⟨_, _, rfl⟩
    · exact absurd h h1
    · exact absurd ⟨ds, h4⟩ h2
    · rw [h3]; rfl

/-- the triple of an identity's text -/
def IdPost (w : World) (s : ByteArray) (e : Ending) (w' : World) : Prop := e = .returned (.tuple #[.int .u64 ((idP s).1 : Int), .int .i64 (idP s).2.1, .int .i64 (idP s).2.2]) ∧ Below w.heap.size w w'
theorem idPost_no {w w' : World} {s : ByteArray} (h : idP s = (0, 0, 4)) (hb : Below w.heap.size w w') : IdPost w s (.returned (.tuple #[.int .u64 0, .int .i64 0, .int .i64 4])) w' := ⟨by rw [h]; rfl, hb⟩
theorem below_atoi {w w' : World} {t : TypeId} (h : w' = w ∨ ∃ r, w' = Lib.bytesWorld w t r) : Below w.heap.size w w' := by
  rcases h with rfl | ⟨t, rfl⟩
  · exact Below.refl _ _
  · exact Go.Joins.below_bytesWorld _ _ _ _ (Nat.le_refl _)
theorem atoi_nil : Lib.atoiAll (⟨#[]⟩ : ByteArray).data.toList = .«syntax» := rfl
theorem extract_front (s : ByteArray) (i : Nat) : (s.extract 0 i).size ≤ s.size := by
  rw [ByteArray.size_extract]; omega
theorem extract_back (s : ByteArray) (i : Nat) : (s.extract i s.size).size ≤ s.size := by
  rw [ByteArray.size_extract]; omega

set_option maxHeartbeats 16000000 in
set_option maxRecDepth 100000 in
theorem idParse_any (s : ByteArray) (w : World) (hs : s.size ≤ 140737488355328) (hv : ErrVars w) (hT : Deb w) (hP : Pow w) :
    Calls Tryd.prog 6 #[.string s] w (IdPost w s) := by
  have HV := Lib.hid hv
  have HT := Lib.hid hT
  have HP := Lib.hid hP
  clear hv hT hP
  have h0 := Lib.indexByte_ge s.data.toList 35
  by_cases h1 : Lib.indexByte s.data.toList 35 = -1
  · have HI := Lib.hid (idP_miss h1)
    have Hc := Lib.hid (cut_miss s 35 w h1)
    obtain ⟨⟨r1, r2⟩, hr⟩ : ∃ r, refP s = r := ⟨_, rfl⟩
    have Hr := Lib.hid hr
    clear h0 h1 hr
    go_enter Tryd.func6, Tryd.ntmps6
    go_wp2_with fail
    refine Hc.out.mono ?_
    rintro e w' ⟨rfl, rfl⟩
    go_wp2_with fail
    refine (labParse_any s _ hs HV.out).mono ?_
    rintro e w1 ⟨rfl, hb⟩
    rw [Hr.out]
    have B1 := Lib.hid hb
    have HV1 := Lib.hid (HV.out.kept hb)
    clear hb
    obtain ⟨tp, p, hvar⟩ := HV1.out.syn
    go_wp2_with fail
    refine (Tryd.strconv_Atoi_syntax_var ⟨#[]⟩ (by decide) atoi_nil tp p _ hvar).mono ?_
    rintro e w2 ⟨N, rfl, _, _, hb⟩
    have B2 := Lib.hid (below_join B1.out hb)
    clear hb hvar
    go_wp2_with fail
    all_goals
      go_ret3
      exact idPost_no HI.out B2.out
  · obtain ⟨i, hi⟩ : ∃ i : Nat, Lib.indexByte s.data.toList 35 = i := ⟨(Lib.indexByte s.data.toList 35).toNat, by omega⟩
    have hlt := (parts_hit hi).1
    have hll : s.data.toList.length = s.size := by simp
    have hlt : i < s.size := by omega
    have Hc := Lib.hid (cut_hit s 35 i w hi hlt (by omega))
    have HN := Lib.hid (idP_no hi)
    have HO := Lib.hid (fun a v => idP_ok (a := a) (v := v) hi)
    have hsz1 := extract_front s i
    have hsz2 := extract_back s (i + 1)
    have hra := refP_lt (s.extract 0 i)
    have hre := refP_err (s.extract 0 i)
    obtain ⟨x, hx⟩ : ∃ x, s.extract 0 i = x := ⟨_, rfl⟩
    obtain ⟨y, hy⟩ : ∃ y, s.extract (i + 1) s.size = y := ⟨_, rfl⟩
    rw [hx] at hsz1 hra hre HO
    rw [hy] at hsz2
    rw [hx, hy] at HN Hc
    obtain ⟨⟨r1, r2⟩, hr⟩ : ∃ r, refP x = r := ⟨_, rfl⟩
    rw [hr] at hra hre HN HO
    have Hr := Lib.hid hr
    clear h0 h1 hi hlt hll hr hx hy
    go_enter Tryd.func6, Tryd.ntmps6
    go_wp2_with fail
    refine Hc.out.mono ?_
    rintro e w1 ⟨rfl, hb⟩
    have B1 := Lib.hid hb
    clear hb
    go_wp2_with fail
    refine (labParse_any x _ (by omega) (HV.out.kept B1.out)).mono ?_
    rintro e w2 ⟨rfl, hb⟩
    rw [Hr.out]
    have B2 := Lib.hid (below_join B1.out hb)
    have HV2 := Lib.hid (HV.out.kept B2.out)
    clear hb
    have Hra := Lib.hid hra
    cases hat : Lib.atoiAll y.data.toList with
    | «syntax» =>
      rw [hat] at HN
      have HI := Lib.hid (HN.out (by rintro ⟨_, v, h, _⟩; cases h))
      obtain ⟨tp, p, hvar⟩ := HV2.out.syn
      clear HN HO hra
      go_wp2_with fail
      refine (Tryd.strconv_Atoi_syntax_var y (by omega) hat tp p _ hvar).mono ?_
      rintro e w3 ⟨N, rfl, _, _, hb⟩
      have B3 := Lib.hid (below_join B2.out hb)
      clear hb hvar hat
      rcases hre with hre | hre
      all_goals
        subst hre
        go_wp2_with fail
        go_ret3
        exact idPost_no HI.out B3.out
    | range =>
      rw [hat] at HN
      have HI := Lib.hid (HN.out (by rintro ⟨_, v, h, _⟩; cases h))
      obtain ⟨tp, p, hvar⟩ := HV2.out.rng
      clear HN HO hra
      go_wp2_with fail
      refine (Tryd.strconv_Atoi_range_var y (by omega) hat tp p _ hvar).mono ?_
      rintro e w3 ⟨N, rfl, _, _, hb⟩
      have B3 := Lib.hid (below_join B2.out hb)
      clear hb hvar hat
      rcases hre with hre | hre
      all_goals
        subst hre
        go_wp2_with fail
        go_ret3
        exact idPost_no HI.out B3.out
    | ok v =>
      rw [hat] at HN
      obtain ⟨b0, b1⟩ := Lib.atoiAll_bounds hat
      have hv64 : i64 v := by unfold i64; omega
      clear hra
      go_wp2_with fail
      refine (Tryd.strconv_Atoi_ok y (by omega) v hat _).mono ?_
      rintro e w3 ⟨rfl, hw⟩
      have hb := below_atoi hw
      have B3 := Lib.hid (below_join B2.out hb)
      clear hb hw hat
      rcases hre with hre | hre
      rotate_left
      · have HI := Lib.hid (HN.out (by rintro ⟨h, _⟩; rw [hre] at h; cases h))
        subst hre
        clear HN HO
        go_wp2_with fail
        go_ret3
        exact idPost_no HI.out B3.out
      · subst hre
        by_cases h1 : v < 1
        · have HI := Lib.hid (HN.out (by rintro ⟨_, u, h, h2, _⟩; injection h with h; omega))
          clear HN HO
          go_wp2_with fail
          go_ret3
          exact idPost_no HI.out B3.out
        · go_wp2_with fail
          refine (idText_any r1 v 0 ⟨#[]⟩ _ Hra.out hv64 (HT.out.kept B3.out) (HP.out.kept B3.out)).mono ?_
          rintro e w4 ⟨rfl, hb⟩
          have B4 := Lib.hid (below_join B3.out hb)
          clear hb
          by_cases ht : idB r1 v = s
          · have HI := Lib.hid (HO.out r1 v Hra.out hv64 rfl (by omega) ht)
            have hts : ((idB r1 v).toList == s.toList) = true := by rw [bytes_same, ht]; simp
            clear HN HO
            go_wp2_with fail
            go_ret3
            exact ⟨by rw [HI.out]; rfl, B4.out⟩
          · have HI := Lib.hid (HN.out (by rintro ⟨_, u, h, _, h2⟩; injection h with h; subst h; exact ht h2))
            have hts : ((idB r1 v).toList == s.toList) = false := by rw [bytes_same]; simp [ht]
            clear HN HO
            go_wp2_with fail
            go_ret3
            exact idPost_no HI.out B4.out
end Go.Proofs.YtajjikbigacbaaaDoor
