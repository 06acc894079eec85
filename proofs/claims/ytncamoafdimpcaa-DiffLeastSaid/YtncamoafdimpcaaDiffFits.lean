/- Own work: DiffFits' walk. -/
import Derived.Test.YtncamoafdimpcaaDiffApplied
namespace Go.Proofs.Ytncamoafdimpcaa
open Go.RowKit

theorem sumI_from (l : List Nat) : ∀ (s : Nat), s + l.sum ≤ 9223372036854775807 → l.foldl (fun (s : Int) (n : Nat) => wrap64 (s + (n : Int))) (s : Int) = ((s + l.sum : Nat) : Int) := by
  induction l with
  | nil => intro s _; simp
  | cons n l ih =>
    intro s h
    rw [List.sum_cons] at h ⊢
    rw [List.foldl_cons]
    have e : wrap64 ((s : Int) + (n : Int)) = ((s + n : Nat) : Int) := by unfold wrap64; omega
    rw [e, ih (s + n) (by omega)]
    congr 1
    omega
theorem sumI_eq (l : List Nat) (h : l.sum ≤ 9223372036854775807) : sumI l = (l.sum : Nat) := by
  have := sumI_from l 0 (by omega)
  rw [Nat.zero_add] at this
  exact this
theorem own_empty1 {W : World} {B H : Nat} (h : W.heap[H]? = some (.cells #[] 9 (0, 0))) (hB : B ≤ H) : OwnT W B (.slice (some ⟨H, 0, none⟩) 0 0) [] :=
  ⟨rfl, .inr ⟨H, 0, #[], rfl, hB, h, Nat.le_refl _, Nat.zero_le _, rfl, rfl⟩⟩
theorem hunks_sums {hs : List HunkM} {ts : List HunkT} (h : hs.map HunkM.txt = ts) : ((hs.map HunkM.num).map HunkN.on).sum = oldsL ts ∧ ((hs.map HunkM.num).map HunkN.nn).sum = newsL ts := by
  subst h
  simp [oldsL, newsL, Function.comp_def, HunkM.num, HunkM.txt]

set_option maxRecDepth 100000 in
set_option maxHeartbeats 16000000 in
theorem fits_walk (u v : Value) (a b : List ByteArray) (w : World) (hu : Texts w u a) (hfu : SliceForm u) (hv : Texts w v b) (hfv : SliceForm v) (hla : a.length * 16 + 16 ≤ 140737488355328) (hlb : b.length * 16 + 16 ≤ 140737488355328) :
    Calls Try.prog 6 #[u, v] w fun e w' => e = .returned (.bool true) ∧ Below w.heap.size w w' := by
  have Hu := Lib.hid hu
  have Hv := Lib.hid hv
  have Hfu := Lib.hid hfu
  have Hfv := Lib.hid hfv
  obtain ⟨uo, uc, ub, uof, rfl, huo, hum, hcu⟩ := hu.form
  obtain ⟨vo, vc, vb, vof, rfl, hvo, hvm, hcv⟩ := hv.form
  have Huo := Lib.hid huo
  have Hvo := Lib.hid hvo
  have Hcu := Lib.hid hcu
  have Hcv := Lib.hid hcv
  clear hu hv hfu hfv huo hvo hcu hcv hum hvm
  obtain ⟨n, hn⟩ : ∃ n, a.length = n := ⟨_, rfl⟩
  obtain ⟨m, hm⟩ : ∃ m, b.length = m := ⟨_, rfl⟩
  have Hn := Lib.hid hn
  have Hm := Lib.hid hm
  rw [hn] at hla Hu Hfu ⊢
  rw [hm] at hlb Hv Hfv ⊢
  clear hn hm
  obtain ⟨c, hc⟩ : ∃ c, min n m = c := ⟨_, rfl⟩
  have hcn : c ≤ n := by omega
  have hcm : c ≤ m := by omega
  have Hc := Lib.hid hc
  obtain ⟨p, hp⟩ : ∃ p, preL a b = p := ⟨_, rfl⟩
  have HP := Lib.hid hp
  have hpc : p ≤ c := by have h := preL_spec a b; have := Hn.out; have := Hm.out; have := Hc.out; omega
  obtain ⟨s, hs⟩ : ∃ s, sufL a b p = s := ⟨_, rfl⟩
  have HS := Lib.hid hs
  have hsc : s ≤ c - p := by
    have h := sufL_spec a b p (by have := Hn.out; omega) (by have := Hm.out; omega)
    have := Hn.out; have := Hm.out; have := Hc.out; omega
  obtain ⟨C, hC⟩ : ∃ C, commonL a b = C := ⟨_, rfl⟩
  obtain ⟨z, hz⟩ : ∃ z, C.length = z := ⟨_, rfl⟩
  have HCz : Hid ((commonL a b).length = z) := by show _ = _; rw [hC, hz]
  have hzp : p + s ≤ z := by have h := commonL_ge a b; rw [hp, hs, hC] at h; omega
  have hzn : z ≤ n := by have h := (common_le a b).1; rw [hC] at h; have := Hn.out; omega
  have hzm : z ≤ m := by have h := (common_le a b).2; rw [hC] at h; have := Hm.out; omega
  have HSz : Hid (oldsL (linesL a b) = n - z ∧ newsL (linesL a b) = m - z) := by
    have h := lines_sizes a b
    rw [hC, Hn.out, Hm.out, hz] at h
    exact h
  clear hp hs hC hz hc
  have hsp : p + s ≤ n := by omega
  have hsq : p + s ≤ m := by omega
  go_enter Try.func6, Try.ntmps6
  go_wp2_with fail
  refine (works_any _).mono ?_
  rintro e w1 ⟨rfl, hb1⟩
  have B1 := Lib.hid hb1
  clear hb1
  have al : ∀ (W : World), Below W.heap.size W (W.alloc (.cells #[] 9)) := fun W => (Below.refl _ _).alloc (Nat.le_refl _) _
  have AL := Lib.hid al
  clear al
  go_wp2_with (at_builtin; refine wpList_append_lot rfl _ _ rfl w1.heap.size _ [] rfl (own_empty1 (heap_alloc_new w1 _) (Nat.le_refl _)) _ a rfl (Hu.out.kept (below_join B1.out (AL.out w1))) Hfu.out (by rw [Hn.out]; simp; omega) (by simp) ?_)
  intro v2 w2 ho2 hg2
  have B2 := Lib.hid ((AL.out w1).grown hg2 (by simp) (fun g hg => by cases hg; exact Nat.le_refl _))
  have HO2 := Lib.hid ho2
  clear ho2 hg2
  go_wp2_with (at_builtin; refine wpList_append_lot rfl _ _ rfl w2.heap.size _ [] rfl (own_empty1 (heap_alloc_new w2 _) (Nat.le_refl _)) _ b rfl (Hv.out.kept (below_join (below_join B1.out B2.out) (AL.out w2))) Hfv.out (by rw [Hm.out]; simp; omega) (by simp) ?_)
  intro v3 w3 ho3 hg3
  have B3 := Lib.hid ((AL.out w2).grown hg3 (by simp) (fun g hg => by cases hg; exact Nat.le_refl _))
  have HO3 := Lib.hid ho3
  clear ho3 hg3
  try rw [List.nil_append] at HO3
  go_wp2_with fail
  refine (lines_any _ _ a b _ (HO2.out.below B3.out).texts HO3.out.texts HO2.out.form HO3.out.form (by rw [Hn.out]; exact hla) (by rw [Hm.out]; exact hlb)).mono ?_
  rintro e w4 ⟨hv4, hs, rfl, ho4, hh4, hb4⟩
  have B4 := Lib.hid hb4
  have HH := Lib.hid hh4
  have HO4 := Lib.hid ho4.hunks
  have HF4 : Hid (∀ m ∈ hs, SliceForm m.ov ∧ SliceForm m.nv) := fun m hm => ⟨(ho4.2 m hm).1.form, (ho4.2 m hm).2.form⟩
  have HL : Hid (hs.length = (linesL a b).length) := by show _ = _; rw [← hh4, List.length_map]
  have BW4 := Lib.hid (below_join (below_join B1.out B2.out) (below_join B3.out B4.out))
  clear ho4 hh4 hb4
  obtain ⟨hvo, hvc, _, _, rfl, _⟩ := HO4.out
  obtain ⟨z2, hz2⟩ : ∃ z2, hs.length = z2 := ⟨_, rfl⟩
  have Hz2 := Lib.hid hz2
  rw [hz2] at HO4 HL ⊢
  clear hz2
  go_wp2_with fail
  refine (applied_any _ _ a hs w4 (Hu.out.kept BW4.out) Hfu.out HO4.out HF4.out (by rw [HH.out]; exact (lines_fit a b).1) (by rw [Hn.out]; omega) (by rw [HH.out, (lines_fit a b).2, Hm.out]; omega)).mono ?_
  rintro e w5 ⟨v5, rfl, ho5, hb5⟩
  rw [HH.out, (lines_fit a b).2] at ho5
  have HO5 := Lib.hid ho5
  have B5 := Lib.hid hb5
  have BK := Lib.hid (below_join BW4.out B5.out)
  clear ho5 hb5
  obtain ⟨wk, hwk⟩ : ∃ wk, w5 = wk := ⟨_, rfl⟩
  rw [hwk] at BK B5 HO5 ⊢
  clear hwk
  go_upto_block 0 with fail
  go_cut [8] from 28 to 50 (fun y wx => y = .int .i64 (p : Int) ∧ Below wk.heap.size wk wx)
  case first =>
    go_wp2_with fail
    go_loopw [8] (fun y wr => ∃ k : Nat, k ≤ p ∧ y = .int .i64 (k : Int) ∧ Below wk.heap.size wk wr) (fun y _ => p - (intOf y).toNat)
    case atStart => exact ⟨0, Nat.zero_le _, rfl, Below.refl _ _⟩
    case round =>
      obtain ⟨k, hk, rfl, hb⟩ := hrel
      have HB := Lib.hid hb
      clear hb
      by_cases hlt : k < c
      · have hka : k < a.length := by have := Hn.out; omega
        have hkb : k < b.length := by have := Hm.out; omega
        obtain rfl := Huo.out (by omega)
        obtain rfl := Hvo.out (by omega)
        have c1 := cell_kept HB.out (cell_kept BK.out (Hcu.out k hka))
        have c2 := cell_kept HB.out (cell_kept BK.out (Hcv.out k hkb))
        obtain ⟨x, hx⟩ : ∃ x, a[k]'hka = x := ⟨_, rfl⟩
        obtain ⟨y, hy⟩ : ∃ y, b[k]'hkb = y := ⟨_, rfl⟩
        have Hx := Lib.hid hx
        have Hy := Lib.hid hy
        rw [hx] at c1
        rw [hy] at c2
        have hi0 : (0 : Int) ≤ (k : Int) := by omega
        have hi1 : (k : Int) < (n : Int) := by omega
        have hi2 : (k : Int) < (m : Int) := by omega
        have hi3 : (k : Int) < (c : Int) := by omega
        clear hx hy
        by_cases he : k < p
        · have hxy : x = y := by
            have h := (preL_spec a b).2.2.1 k (by have := HP.out; omega)
            rw [List.getElem?_eq_getElem hka, List.getElem?_eq_getElem hkb, Hx.out, Hy.out] at h
            exact Option.some.inj h
          have hq := bytes_beq hxy
          clear hxy
          go_wp2_with fail
          go_quiet (fail)
          go_wp2_with fail
          go_roundw
          case rel => exact ⟨k + 1, by omega, by go_num, below_drewN HB.out _⟩
          case measure => simp [intOf]; omega
        · obtain rfl : k = p := by omega
          have hxy : ¬ x = y := by
            intro hxy
            have h := (preL_spec a b).2.2.2
            rw [HP.out] at h
            rcases h with h | h | h
            · omega
            · omega
            · exact h (get_same hka hkb Hx.out (Hy.out.trans hxy.symm))
          have hq := bytes_bne hxy
          clear hxy
          go_wp2_with fail
          go_quiet (fail)
          go_wp2_with fail
          go_meet
          exact ⟨rfl, below_drewN HB.out _⟩
      · obtain rfl : k = p := by omega
        have hmin := Hc.out
        by_cases hkn : k < n
        · have hd1 : (k : Int) < (n : Int) := by omega
          have hd : decide ((k : Int) < (m : Int)) = false := by simp; omega
          have hd2 : decide ((k : Int) < (n : Int)) = true := by simp; omega
          have hd3 : decide (k < m) = false := by simp; omega
          have hd4 : decide (k < n) = true := by simp; omega
          clear hkn hmin
          go_wp2_with fail
          go_quiet (fail)
          go_wp2_with fail
          go_meet
          exact ⟨rfl, below_drewN HB.out _⟩
        · have hd : decide ((k : Int) < (n : Int)) = false := by simp; omega
          have hd4 : decide (k < n) = false := by simp; omega
          clear hkn hmin
          go_wp2_with fail
          go_quiet (fail)
          go_wp2_with fail
          go_meet
          exact ⟨rfl, below_drewN HB.out _⟩
  case rest =>
    obtain ⟨rfl, hbl⟩ := hcut
    have BKL := Lib.hid hbl
    have BL := Lib.hid (below_join BK.out hbl)
    clear hbl
    obtain ⟨wl, hwl⟩ : ∃ wl, wc = wl := ⟨_, rfl⟩
    rw [hwl] at BKL BL ⊢
    clear hwl
    go_upto_block 2 with fail
    go_cut [9] from 51 to 85 (fun y wx => y = .int .i64 (s : Int) ∧ Below wl.heap.size wl wx)
    case first =>
      go_wp2_with fail
      go_loopw [9] (fun y wr => ∃ k : Nat, k ≤ s ∧ y = .int .i64 (k : Int) ∧ Below wl.heap.size wl wr) (fun y _ => s - (intOf y).toNat)
      case atStart => exact ⟨0, Nat.zero_le _, rfl, Below.refl _ _⟩
      case round =>
        obtain ⟨k, hk, rfl, hb⟩ := hrel
        have HB := Lib.hid hb
        clear hb
        by_cases hlt : k < c - p
        · have hka : n - 1 - k < a.length := by have := Hn.out; omega
          have hkb : m - 1 - k < b.length := by have := Hm.out; omega
          obtain rfl := Huo.out (by omega)
          obtain rfl := Hvo.out (by omega)
          have c1 := cell_kept HB.out (cell_kept BL.out (Hcu.out (n - 1 - k) hka))
          have c2 := cell_kept HB.out (cell_kept BL.out (Hcv.out (m - 1 - k) hkb))
          obtain ⟨x, hx⟩ : ∃ x, a[n - 1 - k]'hka = x := ⟨_, rfl⟩
          obtain ⟨y, hy⟩ : ∃ y, b[m - 1 - k]'hkb = y := ⟨_, rfl⟩
          have Hx := Lib.hid hx
          have Hy := Lib.hid hy
          rw [hx] at c1
          rw [hy] at c2
          clear hx hy
          obtain ⟨n', hn'⟩ : ∃ n', n - 1 - k = n' := ⟨_, rfl⟩
          obtain ⟨m', hm'⟩ : ∃ m', m - 1 - k = m' := ⟨_, rfl⟩
          have e1 : (n : Int) - 1 - (k : Int) = (n' : Int) := by omega
          have e2 : (m : Int) - 1 - (k : Int) = (m' : Int) := by omega
          have Hn' := Lib.hid hn'
          have Hm' := Lib.hid hm'
          rw [hn'] at c1
          rw [hm'] at c2
          have hj1 : (0 : Int) ≤ (n' : Int) := by omega
          have hj2 : (n' : Int) < (n : Int) := by omega
          have hj3 : (0 : Int) ≤ (m' : Int) := by omega
          have hj4 : (m' : Int) < (m : Int) := by omega
          have hi3 : (k : Int) < (n : Int) - (p : Int) := by omega
          have hi4 : (k : Int) < (m : Int) - (p : Int) := by omega
          clear hn' hm'
          by_cases he : k < s
          · have hxy : x = y := by
              have h := (sufL_spec a b p (by have := Hn.out; omega) (by have := Hm.out; omega)).2.2 k (by have := HS.out; omega)
              rw [Hn.out, Hm.out, List.getElem?_eq_getElem hka, List.getElem?_eq_getElem hkb, Hx.out, Hy.out] at h
              exact Option.some.inj h
            have hq := bytes_beq hxy
            clear hxy
            go_wp2_with fail
            go_quiet (fail)
            go_wp2_with fail
            go_roundw
            case rel => exact ⟨k + 1, by omega, by go_num, below_drewN HB.out _⟩
            case measure => simp [intOf]; omega
          · obtain rfl : k = s := by omega
            have hxy : ¬ x = y := by
              intro hxy
              have h := sufL_end a b p (by have := Hn.out; omega) (by have := Hm.out; omega)
              rw [HS.out, Hn.out, Hm.out] at h
              rcases h with h | h | h
              · omega
              · omega
              · exact h (by rw [List.getElem?_eq_getElem hka, List.getElem?_eq_getElem hkb, Hx.out, Hy.out, hxy])
            have hq := bytes_bne hxy
            clear hxy
            go_wp2_with fail
            go_quiet (fail)
            go_wp2_with fail
            go_meet
            exact ⟨rfl, below_drewN HB.out _⟩
        · obtain rfl : k = s := by omega
          have hmin := Hc.out
          by_cases hkn : k < n - p
          · have hd1 : (k : Int) < (n : Int) - (p : Int) := by omega
            have hd : decide ((k : Int) < (m : Int) - (p : Int)) = false := by simp; omega
            clear hkn hmin
            go_wp2_with fail
            go_quiet (fail)
            go_wp2_with fail
            go_meet
            exact ⟨rfl, below_drewN HB.out _⟩
          · have hd : decide ((k : Int) < (n : Int) - (p : Int)) = false := by simp; omega
            have hd1 : ¬ ((k : Int) < (n : Int) - (p : Int)) := by omega
            clear hkn hmin
            go_wp2_with fail
            go_quiet (fail)
            go_wp2_with fail
            go_meet
            exact ⟨rfl, below_drewN HB.out _⟩
    case rest =>
      obtain ⟨rfl, hbx⟩ := hcut
      have BX := Lib.hid hbx
      clear hbx
      go_wp2_with fail
      refine (size_any _ _ _ (HO4.out.kept (below_join (below_join B5.out BKL.out) BX.out)).nums).mono ?_
      rintro e w6 ⟨he, hb6⟩
      have B6 := Lib.hid (below_join (below_join BL.out BX.out) hb6)
      have B56 := Lib.hid (below_join BX.out hb6)
      have hss := hunks_sums HH.out
      rw [HSz.out.1, HSz.out.2] at hss
      rw [sumI_eq _ (by rw [hss.1]; omega), sumI_eq _ (by rw [hss.2]; omega), hss.1, hss.2] at he
      subst he
      clear hb6 hss
      go_wp2_with fail
      refine (common_any _ _ a b w6 (Hu.out.kept B6.out) (Hv.out.kept B6.out) (by rw [Hn.out]; omega) (by rw [Hm.out]; omega)).mono ?_
      rintro e w7 ⟨v7, rfl, ho7, hb7⟩
      have B7 := Lib.hid (below_join B6.out hb7)
      have B57 := Lib.hid (below_join B56.out hb7)
      obtain ⟨_, _, _, rfl, _⟩ := ho7.form
      rw [HCz.out]
      clear ho7 hb7
      go_wp2_with fail
      refine (same07_any _ _ b b _ (HO5.out.texts.kept (below_join BKL.out B57.out)) (Hv.out.kept B7.out)).mono ?_
      rintro e w8 ⟨he, hb8⟩
      rw [decide_eq_true (rfl : b = b)] at he
      subst he
      have B8 := Lib.hid (below_join B7.out hb8)
      clear hb8
      have k1 : ((n - z : Nat) : Int) ≤ (n : Int) - (p : Int) - (s : Int) := by omega
      have k2 : ((m - z : Nat) : Int) ≤ (m : Int) - (p : Int) - (s : Int) := by omega
      have k3 : (((n - z : Nat) : Int) == (n : Int) - (z : Int)) = true := by simp; omega
      have k4 : (((m - z : Nat) : Int) == (m : Int) - (z : Int)) = true := by simp; omega
      go_wp2_with fail
      refine (same07_any _ _ a b _ (Hu.out.kept B8.out) (Hv.out.kept B8.out)).mono ?_
      rintro e w9 ⟨rfl, hb9⟩
      have B9 := Lib.hid (below_join B8.out hb9)
      clear hb9
      have HE : Hid (decide (a = b) = ((z2 : Int) == 0)) := by
        show _ = _
        have h := lines_none a b
        rw [Bool.eq_iff_iff, decide_eq_true_eq, beq_iff_eq, ← h]
        have h2 := HL.out
        constructor
        · intro h3; rw [h3] at h2; simp at h2; omega
        · intro h3; exact List.eq_nil_of_length_eq_zero (by omega)
      rw [HE.out]
      go_wp2_with fail
      go_ret
      exact ⟨by simp, B9.out⟩
end Go.Proofs.Ytncamoafdimpcaa
