/- Own work: DiffNamesApart's walk. -/
import Derived.Test.YtncamoafdimpcaaDiffPairs
namespace Go.Proofs.Ytncamoafdimpcaa
open Go.RowKit

theorem put_ahead (p x y : ByteArray) (h : p ++ x = p ++ y) : x = y := by
  have h1 := congrArg ByteArray.data h
  simp only [ByteArray.data_append] at h1
  exact ByteArray.ext ((Array.append_right_inj _).1 h1)
theorem texts_ahead (p : ByteArray) (l : List ByteArray) (k : Nat) (hk : k < l.length) : (l.map (p ++ ·)).take (k + 1) = (l.map (p ++ ·)).take k ++ [p ++ l[k]'hk] := by
  rw [← List.map_take, ← List.map_take, List.take_succ_eq_append_getElem hk, List.map_append]
  rfl

theorem lines_new {a b : List ByteArray} {h : HunkT} (hh : h ∈ linesL a b) : ∀ s ∈ h.new, s ∈ b := by
  have key : ∀ (l : List (Nat × Nat)) (i j : Nat), h ∈ gapsL a b i j l → ∀ s ∈ h.new, s ∈ b := by
    intro l
    induction l with
    | nil => intro i j hm; cases hm
    | cons x l ih =>
      intro i j hm
      rw [gapsL] at hm
      rcases List.mem_append.1 hm with hm | hm
      · unfold gapH at hm
        split at hm
        · obtain rfl := List.mem_singleton.1 hm
          intro s hs
          exact List.mem_of_mem_drop (List.mem_of_mem_take hs)
        · cases hm
      · exact ih _ _ hm
  exact key _ 0 0 hh

set_option maxRecDepth 100000 in
set_option maxHeartbeats 16000000 in
theorem namesApart_walk (u v : Value) (a b : List ByteArray) (pf : ByteArray) (w : World) (hu : Texts w u a) (hfu : SliceForm u) (hv : Texts w v b) (hfv : SliceForm v) (hla : a.length * 16 + 16 ≤ 140737488355328) (hlb : b.length * 16 + 16 ≤ 140737488355328)
    (hp : pf.size ≤ 140737488355328) (hsa : ∀ s ∈ a, s.size ≤ 140737488355328) (hsb : ∀ s ∈ b, s.size ≤ 140737488355328) :
    Calls Try.prog 8 #[u, v, .string pf] w fun e w' => e = .returned (.bool true) ∧ Below w.heap.size w w' := by
  have Hu := Lib.hid hu
  have Hv := Lib.hid hv
  have Hfu := Lib.hid hfu
  have Hfv := Lib.hid hfv
  have Hsa := Lib.hid hsa
  have Hsb := Lib.hid hsb
  obtain ⟨uo, uc, ub, uof, rfl, huo, hum, hcu⟩ := hu.form
  obtain ⟨vo, vc, vb, vof, rfl, hvo, hvm, hcv⟩ := hv.form
  have Huo := Lib.hid huo
  have Hvo := Lib.hid hvo
  have Hcu := Lib.hid hcu
  have Hcv := Lib.hid hcv
  clear hu hv hfu hfv huo hvo hcu hcv hum hvm hsa hsb
  obtain ⟨n, hn⟩ : ∃ n, a.length = n := ⟨_, rfl⟩
  obtain ⟨m, hm⟩ : ∃ m, b.length = m := ⟨_, rfl⟩
  have Hn := Lib.hid hn
  have Hm := Lib.hid hm
  rw [hn] at hla Hu Hfu ⊢
  rw [hm] at hlb Hv Hfv ⊢
  clear hn hm
  have HLM := Lib.hid (linesL_map (put_ahead pf) a b)
  have HCM := Lib.hid (commonL_map (put_ahead pf) a b)
  go_enter Try.func8, Try.ntmps8
  go_wp2_with fail
  refine (works_any _).mono ?_
  rintro e w1 ⟨rfl, hb1⟩
  have B1 := Lib.hid hb1
  clear hb1
  go_upto_block 0 with fail
  go_cut [7] from 17 to 31 (fun xv wx => OwnT wx w1.heap.size xv (a.map (pf ++ ·)) ∧ Below w1.heap.size w1 wx)
  case first =>
    go_wp2_with fail
    go_loopw [7, 9] (fun xv iv wr => ∃ k : Nat, k ≤ n ∧ iv = .int .i64 (k : Int) ∧ Hid (OwnT wr w1.heap.size xv ((a.map (pf ++ ·)).take k)) ∧ Hid (Below w1.heap.size w1 wr)) (fun _ iv _ => n - (intOf iv).toNat)
    case atStart => exact ⟨0, Nat.zero_le _, rfl, ownT_nil _ _, Below.refl _ _⟩
    case round =>
      obtain ⟨k, hk, rfl, HO, HB⟩ := hrel
      by_cases hlt : k < n
      · have hkl : k < a.length := by have := Hn.out; omega
        obtain rfl := Huo.out (by omega)
        have c1 := cell_kept HB.out (cell_kept B1.out (Hcu.out k hkl))
        have HT := Lib.hid (texts_ahead pf a k hkl)
        have hsz := Hsa.out _ (List.getElem_mem hkl)
        obtain ⟨x, hx⟩ : ∃ x, a[k]'hkl = x := ⟨_, rfl⟩
        rw [hx] at c1 HT hsz
        have ki0 : (0 : Int) ≤ (k : Int) := by omega
        have ki1 : (k : Int) < (n : Int) := by omega
        have hcat : ¬ (9223372036854775807 < pf.size + x.size) := by omega
        have hlen : (((a.map (pf ++ ·)).take k).length + 1) * 16 ≤ 140737488355328 := by rw [List.length_take]; omega
        clear hx
        go_wp2_with (at_builtin; refine wpList_append_one rfl _ _ rfl w1.heap.size u7 _ (pf ++ x) rfl HO.out _ wr.heap.size rfl rfl hlen HB.out.size ?_)
        intro v' w' ho' hb'
        have HO' := Lib.hid ho'
        have HB' := Lib.hid (HB.out.trans hb')
        clear ho' hb'
        go_wp2_with fail
        go_roundw
        case rel =>
          refine ⟨k + 1, by omega, by go_num, ?_, HB'⟩
          show OwnT _ _ _ _
          rw [HT.out]
          exact HO'.out
        case measure => simp [intOf]; omega
      · obtain rfl : k = n := by omega
        have HT : Hid ((a.map (pf ++ ·)).take k = a.map (pf ++ ·)) := List.take_of_length_le (by rw [List.length_map, Hn.out]; exact Nat.le_refl _)
        rw [HT.out] at HO
        go_wp2_with fail
        go_meet
        exact ⟨HO.out, HB.out⟩
  case rest =>
    obtain ⟨hox, hbx⟩ := hcut
    obtain ⟨w2, hw2⟩ : ∃ w2, wc = w2 := ⟨_, rfl⟩
    rw [hw2] at hox hbx ⊢
    have HOx := Lib.hid hox
    have B2 := Lib.hid (below_join B1.out hbx)
    obtain ⟨xo, xc, xb, xof, rfl, _⟩ := hox.texts.form
    rw [List.length_map, Hn.out] at HOx ⊢
    clear hw2 hox hbx
    go_upto_block 2 with fail
    go_cut [8] from 32 to 46 (fun xv wx => OwnT wx w2.heap.size xv (b.map (pf ++ ·)) ∧ Below w2.heap.size w2 wx)
    case first =>
      go_wp2_with fail
      go_loopw [8, 10] (fun xv iv wr => ∃ k : Nat, k ≤ m ∧ iv = .int .i64 (k : Int) ∧ Hid (OwnT wr w2.heap.size xv ((b.map (pf ++ ·)).take k)) ∧ Hid (Below w2.heap.size w2 wr)) (fun _ iv _ => m - (intOf iv).toNat)
      case atStart => exact ⟨0, Nat.zero_le _, rfl, ownT_nil _ _, Below.refl _ _⟩
      case round =>
        obtain ⟨k, hk, rfl, HO, HB⟩ := hrel
        by_cases hlt : k < m
        · have hkl : k < b.length := by have := Hm.out; omega
          obtain rfl := Hvo.out (by omega)
          have c1 := cell_kept HB.out (cell_kept B2.out (Hcv.out k hkl))
          have HT := Lib.hid (texts_ahead pf b k hkl)
          have hsz := Hsb.out _ (List.getElem_mem hkl)
          obtain ⟨x, hx⟩ : ∃ x, b[k]'hkl = x := ⟨_, rfl⟩
          rw [hx] at c1 HT hsz
          have ki0 : (0 : Int) ≤ (k : Int) := by omega
          have ki1 : (k : Int) < (m : Int) := by omega
          have hcat : ¬ (9223372036854775807 < pf.size + x.size) := by omega
          have hlen : (((b.map (pf ++ ·)).take k).length + 1) * 16 ≤ 140737488355328 := by rw [List.length_take]; omega
          clear hx
          go_wp2_with (at_builtin; refine wpList_append_one rfl _ _ rfl w2.heap.size u8 _ (pf ++ x) rfl HO.out _ wr.heap.size rfl rfl hlen HB.out.size ?_)
          intro v' w' ho' hb'
          have HO' := Lib.hid ho'
          have HB' := Lib.hid (HB.out.trans hb')
          clear ho' hb'
          go_wp2_with fail
          go_roundw
          case rel =>
            refine ⟨k + 1, by omega, by go_num, ?_, HB'⟩
            show OwnT _ _ _ _
            rw [HT.out]
            exact HO'.out
          case measure => simp [intOf]; omega
        · obtain rfl : k = m := by omega
          have HT : Hid ((b.map (pf ++ ·)).take k = b.map (pf ++ ·)) := List.take_of_length_le (by rw [List.length_map, Hm.out]; exact Nat.le_refl _)
          rw [HT.out] at HO
          go_wp2_with fail
          go_meet
          exact ⟨HO.out, HB.out⟩
    case rest =>
      obtain ⟨hoy, hby⟩ := hcut
      obtain ⟨w3, hw3⟩ : ∃ w3, wc = w3 := ⟨_, rfl⟩
      rw [hw3] at hoy hby ⊢
      have HOy := Lib.hid hoy
      have HOx3 := Lib.hid (HOx.out.below hby)
      have B3 := Lib.hid (below_join B2.out hby)
      obtain ⟨yo, yc, yb, yof, rfl, _⟩ := hoy.texts.form
      rw [List.length_map, Hm.out] at HOy ⊢
      clear hw3 hoy hby
      go_wp2_with fail
      refine (lines_any _ _ a b w3 (Hu.out.kept B3.out) (Hv.out.kept B3.out) Hfu.out Hfv.out (by rw [Hn.out]; exact hla) (by rw [Hm.out]; exact hlb)).mono ?_
      rintro e w4 ⟨p4, hs1, rfl, ho4, hh4, hb4⟩
      have HK1 := Lib.hid ho4.hunks
      have HT1 := Lib.hid hh4
      have HB4 := Lib.hid hb4
      have B4 := Lib.hid (below_join B3.out hb4)
      obtain ⟨_, _, _, _, rfl, _⟩ := ho4.hunks
      obtain ⟨z, hz⟩ : ∃ z, hs1.length = z := ⟨_, rfl⟩
      have Hz := Lib.hid hz
      rw [hz] at HK1 ⊢
      clear ho4 hh4 hb4 hz
      go_wp2_with fail
      refine (lines_any _ _ (a.map (pf ++ ·)) (b.map (pf ++ ·)) w4 (HOx3.out.texts.kept HB4.out) (HOy.out.texts.kept HB4.out) HOx3.out.form HOy.out.form (by rw [List.length_map, Hn.out]; exact hla) (by rw [List.length_map, Hm.out]; exact hlb)).mono ?_
      rintro e w5 ⟨p5, hs2, rfl, ho5, hh5, hb5⟩
      have HK2 := Lib.hid ho5.hunks
      have HT2 := Lib.hid (hh5.trans HLM.out)
      have HB5 := Lib.hid hb5
      have B5 := Lib.hid (below_join B4.out hb5)
      obtain ⟨_, _, _, _, rfl, _⟩ := ho5.hunks
      have Hz2 : Hid (hs2.length = z) := by
        have h1 := congrArg List.length hh5
        have h2 := congrArg List.length HT1.out
        rw [HLM.out] at h1
        rw [List.length_map] at h1 h2
        rw [List.length_map] at h1
        show _ = _
        rw [h1, ← h2, Hz.out]
      rw [Hz2.out] at HK2 ⊢
      obtain ⟨_, _, b1, f1, q1, o1, hzm, k1⟩ := HK1.out
      rw [Hz.out] at q1 o1 hzm
      cases q1
      obtain ⟨_, _, b2, f2, q2, o2, _, k2⟩ := HK2.out
      rw [Hz2.out] at q2 o2
      cases q2
      have HO1 := Lib.hid o1
      have HO2 := Lib.hid o2
      have HC1 := Lib.hid k1
      have HC2 := Lib.hid k2
      unfold maxLen at hzm
      clear ho5 hh5 hb5 o1 o2 k1 k2
      have HTT : Hid (hs2.map HunkM.txt = (hs1.map HunkM.txt).map (HunkT.with (pf ++ ·))) := by show _ = _; rw [HT2.out, HT1.out]
      have HNB : Hid (∀ x ∈ hs1, ∀ s ∈ x.new, s.size ≤ 140737488355328) := by
        intro x hx s hs
        have h1 : x.txt ∈ linesL a b := by rw [← HT1.out]; exact List.mem_map.2 ⟨x, hx, rfl⟩
        exact Hsb.out s (lines_new h1 s hs)
      go_wp2_with fail
      go_loopw [13] (fun iv wr => ∃ k : Nat, k ≤ z ∧ iv = .int .i64 (k : Int) ∧ Hid (Below w5.heap.size w5 wr)) (fun iv _ => z - (intOf iv).toNat)
      case atStart => exact ⟨0, Nat.zero_le _, rfl, Below.refl _ _⟩
      case round =>
        obtain ⟨k, hk, rfl, HB⟩ := hrel
        by_cases hlt : k < z
        · have hk1 : k < hs1.length := by have := Hz.out; omega
          have hk2 : k < hs2.length := by have := Hz2.out; omega
          obtain rfl := HO1.out (by omega)
          obtain rfl := HO2.out (by omega)
          obtain ⟨c0, c1, c2, t1, t2⟩ := HC1.out k hk1
          obtain ⟨d0, d1, d2, s1, s2⟩ := HC2.out k hk2
          have HXY : Hid ((hs2[k]'hk2).txt = ((hs1[k]'hk1).txt).with (pf ++ ·)) := by
            have h := congrArg (·[k]?) HTT.out
            simp only [List.getElem?_map, List.getElem?_eq_getElem hk1, List.getElem?_eq_getElem hk2, Option.map_some] at h
            exact Option.some.inj h
          have hnb := HNB.out _ (List.getElem_mem hk1)
          obtain ⟨x, hx⟩ : ∃ x, hs1[k]'hk1 = x := ⟨_, rfl⟩
          obtain ⟨y, hy⟩ : ∃ y, hs2[k]'hk2 = y := ⟨_, rfl⟩
          rw [hx] at c0 c1 c2 t1 t2 HXY hnb
          rw [hy] at d0 d1 d2 s1 s2 HXY
          clear hx hy
          obtain ⟨x1, x2, x3, x4, x5⟩ := x
          obtain ⟨y1, y2, y3, y4, y5⟩ := y
          have hxy := HXY.out
          simp only [HunkM.txt, HunkT.with] at hxy
          injection hxy with e1 e4 e5
          subst e1 e4 e5
          dsimp only at c0 c1 c2 t1 t2 d0 d1 d2 s1 s2 hnb
          obtain ⟨_, _, _, _, rfl, _⟩ := t1.form
          obtain ⟨_, _, _, _, rfl, _⟩ := s1.form
          obtain ⟨_, _, b3, f3, rfl, o3, hnm, k3⟩ := t2.form
          obtain ⟨_, _, b4, f4, rfl, o4, _, k4⟩ := s2.form
          rw [List.length_map] at d1 d2 o4
          have HNBx := Lib.hid hnb
          obtain ⟨on, hon⟩ : ∃ on, x4.length = on := ⟨_, rfl⟩
          obtain ⟨nn, hnn⟩ : ∃ nn, x5.length = nn := ⟨_, rfl⟩
          have Hnn := Lib.hid hnn
          rw [hon] at c1 d1
          rw [hnn] at c2 d2 o3 o4 hnm
          unfold maxLen at hnm
          have Ho3 := Lib.hid o3
          have Ho4 := Lib.hid o4
          have Hk3 := Lib.hid k3
          have Hk4 := Lib.hid k4
          have c0 := cell_kept HB.out (cell_kept HB5.out c0)
          have c1 := cell_kept HB.out (cell_kept HB5.out c1)
          have c2 := cell_kept HB.out (cell_kept HB5.out c2)
          have d0 := cell_kept HB.out d0
          have d1 := cell_kept HB.out d1
          have d2 := cell_kept HB.out d2
          have ki0 : (0 : Int) ≤ (k : Int) := by omega
          have ki1 : (k : Int) < (z : Int) := by omega
          have q1 : ((y1 : Int) != (y1 : Int)) = false := by simp
          have q2 : ((on : Int) != (on : Int)) = false := by simp
          have q3 : ((nn : Int) != (nn : Int)) = false := by simp
          clear t1 t2 s1 s2 o3 o4 k3 k4 hnb hon hnn HXY
          go_wp2_with fail
          go_quiet (fail)
          go_wp2_with fail
          go_loopw [14] (fun jv wq => ∃ j : Nat, j ≤ nn ∧ jv = .int .i64 (j : Int) ∧ Hid (Below wr.heap.size wr wq)) (fun jv _ => nn - (intOf jv).toNat)
          case atStart => exact ⟨0, Nat.zero_le _, rfl, below_drewN (Below.refl _ _) _⟩
          case round =>
            obtain ⟨j, hj, rfl, HBq⟩ := hrel
            have c0 := cell_kept HBq.out c0
            have c1 := cell_kept HBq.out c1
            have c2 := cell_kept HBq.out c2
            have d0 := cell_kept HBq.out d0
            have d1 := cell_kept HBq.out d1
            have d2 := cell_kept HBq.out d2
            by_cases hjl : j < nn
            · have hjx : j < x5.length := by have := Hnn.out; omega
              obtain rfl := Ho3.out (by omega)
              obtain rfl := Ho4.out (by omega)
              have g1 := cell_kept HBq.out (cell_kept HB.out (cell_kept HB5.out (Hk3.out j hjx)))
              have g2 := cell_kept HBq.out (cell_kept HB.out (Hk4.out j (by rw [List.length_map]; exact hjx)))
              rw [List.getElem_map] at g2
              have hsz := HNBx.out _ (List.getElem_mem hjx)
              obtain ⟨x, hx⟩ : ∃ x, x5[j]'hjx = x := ⟨_, rfl⟩
              rw [hx] at g1 g2 hsz
              have hcat : ¬ (9223372036854775807 < pf.size + x.size) := by omega
              have hq := bytes_beq (rfl : pf ++ x = pf ++ x)
              have kj0 : (0 : Int) ≤ (j : Int) := by omega
              have kj1 : (j : Int) < (nn : Int) := by omega
              clear hx
              go_wp2_with fail
              go_quiet (fail)
              go_wp2_with fail
              go_roundw
              case rel => exact ⟨j + 1, by omega, by go_num, below_drewN HBq.out _⟩
              case measure => simp [intOf]; omega
            · obtain rfl : j = nn := by omega
              go_wp2_with fail
              go_roundw
              case rel => exact ⟨k + 1, by omega, by go_num, below_join HB.out HBq.out⟩
              case measure => simp [intOf]; omega
        · obtain rfl : k = z := by omega
          have B6 := Lib.hid (below_join B5.out HB.out)
          go_wp2_with fail
          refine (common_any _ _ a b wr (Hu.out.kept B6.out) (Hv.out.kept B6.out) (by rw [Hn.out]; omega) (by rw [Hm.out]; omega)).mono ?_
          rintro e w7 ⟨p7, rfl, ho7, hb7⟩
          have HO7 := Lib.hid ho7
          have B7 := Lib.hid hb7
          clear ho7 hb7
          go_wp2_with fail
          refine (common_any _ _ (a.map (pf ++ ·)) (b.map (pf ++ ·)) w7 (HOx3.out.texts.kept (below_join HB4.out (below_join HB5.out (below_join HB.out B7.out)))) (HOy.out.texts.kept (below_join HB4.out (below_join HB5.out (below_join HB.out B7.out)))) (by rw [List.length_map, Hn.out]; omega) (by rw [List.length_map, Hm.out]; omega)).mono ?_
          rintro e w8 ⟨p8, rfl, ho8, hb8⟩
          rw [HCM.out] at ho8
          have HO8 := Lib.hid ho8
          have B8 := Lib.hid hb8
          clear ho8 hb8
          go_wp2_with fail
          refine (samePairs_any _ _ (commonL a b) _ _ w8 (HO7.out.below B8.out) HO8.out).mono ?_
          rintro e w9 ⟨rfl, hb9⟩
          have B9 := Lib.hid (below_join B6.out (below_join B7.out (below_join B8.out hb9)))
          clear hb9
          go_wp2_with fail
          go_ret
          exact ⟨rfl, B9.out⟩
end Go.Proofs.Ytncamoafdimpcaa
