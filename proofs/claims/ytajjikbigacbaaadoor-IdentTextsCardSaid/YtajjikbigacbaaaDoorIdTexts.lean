/- Own work: IdentTexts' walk. -/
import Derived.Test.YtajjikbigacbaaaDoorIdParse
namespace Go.Proofs.YtajjikbigacbaaaDoor
open Go.RowKit Num

theorem index_is {l : List UInt8} {c : UInt8} {k : Nat} (h1 : l[k]? = some c) (h2 : ∀ j, j < k → l[j]? ≠ some c) : Lib.indexByte l c = k := by
  have h0 := Lib.indexByte_ge l c
  by_cases hn : Lib.indexByte l c = -1
  · exact absurd h1 (Lib.indexByte_none hn k)
  · obtain ⟨o, ho⟩ : ∃ o : Nat, Lib.indexByte l c = o := ⟨(Lib.indexByte l c).toNat, by omega⟩
    obtain ⟨h3, h4⟩ := Lib.indexByte_some ho
    rw [ho]
    by_cases h5 : o < k
    · exact absurd h3 (h2 o h5)
    · by_cases h6 : k < o
      · exact absurd h1 (h4 k h6)
      · congr 1; omega
theorem index_not {l : List UInt8} {c : UInt8} (h : ∀ j, j < l.length → l[j]? ≠ some c) : Lib.indexByte l c = -1 := by
  have h0 := Lib.indexByte_ge l c
  by_cases hn : Lib.indexByte l c = -1
  · exact hn
  · obtain ⟨o, ho⟩ : ∃ o : Nat, Lib.indexByte l c = o := ⟨(Lib.indexByte l c).toNat, by omega⟩
    obtain ⟨h3, _⟩ := Lib.indexByte_some ho
    exact absurd h3 (h o (List.getElem?_eq_some_iff.1 h3).1)

theorem readE_two (l : List UInt8) : readE l = 0 ∨ readE l = 4 := by
  unfold readE; split <;> simp

set_option maxHeartbeats 16000000 in
set_option maxRecDepth 100000 in
theorem refIdParse_any (s : ByteArray) (w : World) (hs : s.size ≤ 140737488355328) :
    Calls Tryd.prog 7 #[.string s] w (IdPost w s) := by
  have hll : s.data.toList.length = s.size := by simp
  have Hll := Lib.hid hll
  clear hll
  go_enter Tryd.func7, Tryd.ntmps7
  go_wp2_with fail
  go_loop [5] (fun i => ∃ k : Nat, k ≤ s.size ∧ i = .int .i64 k ∧ Hid (∀ j, j < k → s.data.toList[j]? ≠ some 35)) (fun i => s.size - (intOf i).toNat)
  case atStart => exact ⟨0, Nat.zero_le _, rfl, fun j hj => absurd hj (Nat.not_lt_zero _)⟩
  case round =>
    obtain ⟨k, hk, rfl, HK⟩ := hrel
    by_cases hlt : k < s.size
    · have hki : (k : Int) < (s.size : Int) := by omega
      have hk0 : (0 : Int) ≤ (k : Int) := by omega
      have Hat : Hid (s.data.toList[k]? = some (s[k]'hlt)) := by
        show _ = _
        rw [List.getElem?_eq_getElem (by rw [Hll.out]; exact hlt)]
        rfl
      by_cases h35 : s[k]'hlt = 35
      · have e35 : (((s[k]'hlt).toNat : Int) == 35) = true := by rw [h35]; rfl
        have HH := Lib.hid (idP_hit (index_is (by rw [Hat.out, h35]) HK.out))
        have c1 : (0 : Int) ≤ (k : Int) + 1 := by omega
        have c2 : (k : Int) + 1 ≤ (s.size : Int) := by omega
        have c3 : (k : Int) ≤ (s.size : Int) := by omega
        have hsz1 := extract_front s k
        have hsz2 := extract_back s (k + 1)
        obtain ⟨x, hx⟩ : ∃ x, s.extract 0 k = x := ⟨_, rfl⟩
        obtain ⟨y, hy⟩ : ∃ y, s.extract (k + 1) s.size = y := ⟨_, rfl⟩
        have Hx := Lib.hid hx
        have Hy := Lib.hid hy
        rw [hx, hy] at HH
        rw [hx] at hsz1
        rw [hy] at hsz2
        have hre := refP_err x
        obtain ⟨⟨r1, r2⟩, hr⟩ : ∃ r, refP x = r := ⟨_, rfl⟩
        rw [hr] at HH hre
        have Hr := Lib.hid hr
        clear hx hy hr h35
        go_wp2_with fail
        rw [Hx.out]
        refine (refParse_any x _ (by omega)).mono ?_
        rintro e w1 ⟨rfl, hb⟩
        rw [Hr.out]
        have B1 := Lib.hid hb
        clear hb
        go_wp2_with fail
        rw [show s.extract (k + 1) s.size = y from Hy.out]
        refine (refRead_any y _ (by unfold maxLen; omega)).mono ?_
        rintro e w2 ⟨rfl, hb⟩
        have B2 := Lib.hid (below_join B1.out hb)
        clear hb
        have hee := readE_two y.data.toList
        obtain ⟨n0, hn0⟩ : ∃ n0, readN y.data.toList = n0 := ⟨_, rfl⟩
        obtain ⟨e0, he0⟩ : ∃ e0, readE y.data.toList = e0 := ⟨_, rfl⟩
        rw [hn0, he0] at HH ⊢
        rw [he0] at hee
        clear hn0 he0
        rcases hre with hre | hre
        rotate_left
        · subst hre
          have HI := Lib.hid (HH.out.trans (if_neg (fun h => absurd h.1 (by decide))))
          clear HH
          go_wp2_with fail
          go_ret3
          exact idPost_no HI.out B2.out
        subst hre
        rcases hee with hee | hee
        rotate_left
        · subst hee
          have HI := Lib.hid (HH.out.trans (if_neg (fun h => absurd h.2.1 (by decide))))
          clear HH
          go_wp2_with fail
          go_ret3
          exact idPost_no HI.out B2.out
        subst hee
        by_cases h1 : n0 < 1
        · have HI := Lib.hid (HH.out.trans (if_neg (fun h => absurd h.2.2 (by omega))))
          clear HH
          go_wp2_with fail
          go_ret3
          exact idPost_no HI.out B2.out
        · have HI := Lib.hid (HH.out.trans (if_pos ⟨rfl, rfl, by omega⟩))
          clear HH
          go_wp2_with fail
          go_ret3
          exact ⟨by rw [HI.out]; rfl, B2.out⟩
      · have e35 : (((s[k]'hlt).toNat : Int) == 35) = false := by
          rw [beq_eq_false_iff_ne]
          intro e
          exact h35 (UInt8.toNat.inj (by show _ = 35; omega))
        have HK2 : Hid (∀ j, j < k + 1 → s.data.toList[j]? ≠ some 35) := by
          intro j hj
          by_cases hjk : j < k
          · exact HK.out j hjk
          · obtain rfl : j = k := by omega
            rw [Hat.out]
            intro e
            exact h35 (Option.some.inj e)
        clear h35
        go_wp2_with fail
        exact ⟨⟨k + 1, by omega, by go_num, HK2⟩, by simp [intOf]; omega⟩
    · obtain rfl : k = s.size := by omega
      have HI := Lib.hid (idP_miss (index_not (by rw [Hll.out]; exact HK.out)))
      go_wp2_with fail
      go_ret3
      exact idPost_no HI.out (Below.refl _ _)

set_option maxHeartbeats 16000000 in
set_option maxRecDepth 100000 in
theorem idTexts_walk (a : Nat) (n r : Int) (t s : ByteArray) (w : World) (ha : a < 18446744073709551616) (hn : i64 n) (hs : s.size ≤ 140737488355328) (hv : ErrVars w) (hT : Deb w) (hP : Pow w) :
    Calls Tryd.prog 3 #[.agg #[.int .u64 (a : Int), .int .i64 n, .int .i64 r, .string t], .string s] w fun e w' => e = .returned (.bool true) ∧ Below w.heap.size w w' := by
  obtain ⟨d0, d1, d2, d3⟩ := four_new w (a : Int) n r t 25
  have B0 := Lib.hid (show Below w.heap.size w (w.alloc (.cells #[.int .u64 (a : Int), .int .i64 n, .int .i64 r, .string t] 25)) from (Below.refl _ _).alloc (Nat.le_refl _) _)
  have HV := Lib.hid hv
  have HT := Lib.hid hT
  have HP := Lib.hid hP
  have Hn := Lib.hid hn
  obtain ⟨⟨p1, p2, p3⟩, hp⟩ : ∃ p, idP s = p := ⟨_, rfl⟩
  obtain ⟨x, hx⟩ : ∃ x, idB a n = x := ⟨_, rfl⟩
  have Hp := Lib.hid hp
  have Hx := Lib.hid hx
  have hxx : (x.toList == x.toList) = true := beq_self_eq_true _
  clear hv hT hP hp hx hn
  go_enter Tryd.func3, Tryd.ntmps3
  go_wp2_with fail
  refine (idParse_any s _ hs (HV.out.kept B0.out) (HT.out.kept B0.out) (HP.out.kept B0.out)).mono ?_
  rintro e w1 ⟨rfl, hb⟩
  rw [Hp.out]
  have B1 := Lib.hid (below_join B0.out hb)
  have d0 := cell_kept hb d0
  have d1 := cell_kept hb d1
  have d2 := cell_kept hb d2
  have d3 := cell_kept hb d3
  clear hb
  go_wp2_with fail
  refine (refIdParse_any s _ hs).mono ?_
  rintro e w2 ⟨rfl, hb⟩
  rw [Hp.out]
  have B2 := Lib.hid (below_join B1.out hb)
  have d0 := cell_kept hb d0
  have d1 := cell_kept hb d1
  have d2 := cell_kept hb d2
  have d3 := cell_kept hb d3
  clear hb
  go_wp2_with fail
  go_region_held3 (fun w' => w'.cell? ⟨w.heap.size, 0, none⟩ = some (.int .u64 (a : Int)) ∧ w'.cell? ⟨w.heap.size, 1, none⟩ = some (.int .i64 n) ∧ w'.cell? ⟨w.heap.size, 2, none⟩ = some (.int .i64 r) ∧ w'.cell? ⟨w.heap.size, 3, none⟩ = some (.string t) ∧ Below w.heap.size w w')
    (first
      | (go_split_ands; refine ⟨?_, ?_, ?_, ?_, ?_⟩ <;> first | assumption | exact B2.out.drew | exact cell_kept hc (by assumption) | exact Below.trans (by assumption) (hc.mono (Below.size (by assumption))) | (simp; assumption)))
    (first
      | (go_at_call 8; refine (idText_any a n r t _ ha Hn.out (Deb.kept HT.out (by go_split_ands; assumption)) (Pow.kept HP.out (by go_split_ands; assumption))).mono ?_; rintro e w1 ⟨rfl, hc⟩; rw [Hx.out])
      | (go_at_call 9; refine (refIdText_any a n r t _ ha Hn.out (Pow.kept HP.out (by go_split_ands; assumption))).mono ?_; rintro e w1 ⟨rfl, hc⟩; rw [Hx.out]))
  go_wp2_with fail
  go_ret
  exact ⟨rfl, by go_split_ands; assumption⟩
end Go.Proofs.YtajjikbigacbaaaDoor
