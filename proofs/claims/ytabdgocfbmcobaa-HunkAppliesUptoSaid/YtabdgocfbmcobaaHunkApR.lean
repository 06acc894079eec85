/- Own work: the document's Apply and Undo. -/
import Derived.Test.YtabdgocfbmcobaaHunkApply
import Derived.Test.YtabdgocfbmcobaaHunkUnM
import Derived.Test.YtabdgocfbmcobaaHunkCtM
import Derived.Test.YtabdgocfbmcobaaHunkInvR
namespace Go.Proofs.Ytabdgocfbmcobaa
open Go.RowKit

theorem appF_here {a : List ByteArray} {h : HunkI} {r : List HunkI} {k : Nat} (hk : h.at_.toNat = k) : appF a k (h :: r) = h.new ++ appF a (k + h.old.length) r := by
  rw [appF, hk, Nat.sub_self, List.take_zero, List.nil_append]
theorem tail_nil {a : List ByteArray} {r : List HunkI} (hf : FitsF a a.length r) (hn : ∀ h q, r = h :: q → h.at_.toNat ≠ a.length) : r = [] := by
  cases r with
  | nil => rfl
  | cons h q =>
    have h1 := hf.2.2.1
    have h2 := hf.2.2.2.2.1
    exact absurd (by omega) (hn h q rfl)
theorem fitsF_up {a : List ByteArray} {r : List HunkI} {k : Nat} (hf : FitsF a k r) (hk : k < a.length) (hn : ∀ h q, r = h :: q → k < h.at_.toNat) : FitsF a (k + 1) r := (appF_step hk hf hn).2

set_option maxRecDepth 100000 in
set_option maxHeartbeats 16000000 in
theorem refApply_any (u v : Value) (l : List HunkV) (a : List ByteArray) (w : World) (hu : Texts w u a) (hv : Hks w v l) (hf : ∀ m ∈ l, m.Fit) (hl : l.length * 56 ≤ 140737488355328) (ha : a.length ≤ 1048576) (hb : sumN (l.map HunkV.txt) ≤ 1048576) :
    Calls Try.prog 17 #[u, v] w fun e w' => ∃ r, e = .returned (.tuple #[r, .int .i64 (((fitsL a (l.map HunkV.txt)).2 : Nat) : Int)]) ∧ ((fitsL a (l.map HunkV.txt)).2 ≠ 0 → r = .slice none 0 0) ∧ ((fitsL a (l.map HunkV.txt)).2 = 0 → OwnT w' w.heap.size r (appL a (l.map HunkV.txt))) ∧ Below w.heap.size w w' := by
  have HFt := Lib.hid (refFits_any v u l a w hv hf hl hu (by omega))
  obtain ⟨ao, cap, b, o, rfl, hao, hm, hc⟩ := hv
  obtain ⟨uo, uc, ub, uof, rfl, huo, _, hcu⟩ := hu.form
  have Huo := Lib.hid huo
  have Hcu := Lib.hid hcu
  obtain ⟨n, hn⟩ : ∃ n, l.length = n := ⟨_, rfl⟩
  obtain ⟨t, ht⟩ : ∃ t, a.length = t := ⟨_, rfl⟩
  have Hn := Lib.hid hn
  have Ht := Lib.hid ht
  have hnB : n * 56 ≤ 140737488355328 := by omega
  rw [hn] at hao HFt ⊢
  rw [ht] at HFt ha Huo ⊢
  have Hao := Lib.hid hao
  have Hc := Lib.hid hc
  have Hf := Lib.hid hf
  have HLn : Hid ((l.map HunkV.txt).length = n) := by show _ = _; rw [List.length_map, hn]
  obtain ⟨L, hL⟩ : ∃ L, l.map HunkV.txt = L := ⟨_, rfl⟩
  have HLk : Hid (∀ (k : Nat) (h1 : k < L.length) (h2 : k < l.length), L[k]'h1 = (l[k]'h2).txt) := by intro k h1 h2; subst hL; simp
  rw [hL] at HLn HFt hb ⊢
  have al : ∀ (W : World) (o : Obj), Below W.heap.size W (W.alloc o) := fun W o => (Below.refl _ _).alloc (Nat.le_refl _) o
  have AL := Lib.hid al
  clear hao hc hn hf hL hu ht huo hcu hm hl al
  go_enter Try.func17, Try.ntmps17
  go_wp2_with fail
  refine HFt.out.mono ?_
  rintro e w1 ⟨rfl, hb1⟩
  have B1 := Lib.hid hb1
  clear hb1 HFt
  by_cases hE : (fitsL a L).2 = 0
  rotate_left
  · obtain ⟨p1, p2, hp⟩ : ∃ p1 p2, fitsL a L = (p1, p2) := ⟨_, _, rfl⟩
    have HP := Lib.hid hp
    rw [hp] at hE ⊢
    have q1 : ((p2 : Int) != 0) = true := by rw [bne_iff_ne]; simp only at hE; omega
    have HE := Lib.hid hE
    clear hE hp
    go_wp2_with fail
    go_ret2
    rw [HP.out]
    exact ⟨_, rfl, fun _ => rfl, fun h => absurd h HE.out, B1.out⟩
  · obtain ⟨hz1, _, _, _⟩ := fits_zero hE
    have HFF := Lib.hid (fits_all hE)
    have HE := Lib.hid hE
    have hlen := appF_len (fits_all hE)
    have hNl : Hid ((appL a L).length ≤ 2097152) := by show _ ≤ _; have h := hlen.1; rw [Ht.out] at h; simp only [appL]; omega
    rw [hz1]
    clear hE hz1 hlen
    go_wp2_with fail
    go_loopw [8, 9, 10] (fun ov iv kv wr => ∃ (k i : Nat) (X : List ByteArray), k ≤ t + 1 ∧ kv = .int .i64 (k : Int) ∧ iv = .int .i64 (i : Int) ∧ i ≤ n ∧ Hid (OwnT wr w.heap.size ov X) ∧ Hid (k ≤ t → X ++ appF a k (L.drop i) = appL a L ∧ FitsF a k (L.drop i)) ∧ Hid (k = t + 1 → X = appL a L) ∧ Hid (Below w.heap.size w wr)) (fun _ _ kv _ => t + 1 - (intOf kv).toNat)
    case atStart => exact ⟨0, 0, [], Nat.zero_le _, rfl, rfl, Nat.zero_le _, ownT_nil _ _, fun _ => ⟨rfl, HFF.out⟩, fun h => absurd h (by omega), B1.out⟩
    case round =>
      obtain ⟨k, i, X, hk, rfl, rfl, hi, HO, HS, HZ, HB⟩ := hrel
      by_cases hkt : k ≤ t
      · obtain ⟨hs1, hs2⟩ := HS.out hkt
        have HA := Lib.hid hs1
        have HFi := Lib.hid hs2
        have hk1 : (k : Int) ≤ (t : Int) := by omega
        have hXl : X.length ≤ 2097152 := by have h := congrArg List.length hs1; rw [List.length_append] at h; have := hNl.out; omega
        clear hs1 hs2 HS HZ hk
        by_cases hx : ∃ hi : i < l.length, (l[i]'hi).at_ = (k : Int)
        · obtain ⟨hil, hat⟩ := hx
          have hiL : i < L.length := by have := HLn.out; have := Hn.out; omega
          have hin : i < n := by have := Hn.out; omega
          obtain rfl := Hao.out (by omega)
          obtain ⟨c0, c1, c2, t1, t2⟩ := Hc.out i hil
          have HFt := Lib.hid (Hf.out _ (List.getElem_mem hil))
          have hd : L.drop i = (l[i]'hil).txt :: L.drop (i + 1) := by rw [List.drop_eq_getElem_cons hiL, HLk.out i hiL hil]
          rw [hd] at HA HFi
          have hat0 : (l[i]'hil).txt.at_.toNat = k := by simp only [HunkV.txt, hat]; simp
          have hA1 := HA.out
          rw [appF_here hat0] at hA1
          obtain ⟨_, _, _, _, f4, _, _, _, f8, f9⟩ := HFi.out
          rw [hat0] at f4 f8 f9
          clear hd
          obtain ⟨x, hxx⟩ : ∃ x, l[i]'hil = x := ⟨_, rfl⟩
          rw [hxx] at c0 c1 c2 t1 t2 HFt hat hA1 f4 f8 f9
          obtain ⟨x1, x2, x3, x4, x5⟩ := x
          dsimp only [HunkV.txt] at c0 c1 c2 t1 t2 hat hA1 f4 f8 f9
          subst hat
          obtain ⟨o1, p1, rfl⟩ := t1.lenForm
          obtain ⟨o2, p2, b2, of2, rfl, ho2, hom2, hoc2⟩ := t2.form
          have Ho2 := Lib.hid ho2
          have Hoc2 := Lib.hid hoc2
          obtain ⟨on, hon⟩ : ∃ on, x4.length = on := ⟨_, rfl⟩
          obtain ⟨nn, hnn⟩ : ∃ nn, x5.length = nn := ⟨_, rfl⟩
          have Hnn := Lib.hid hnn
          have h4 : on * 16 ≤ 140737488355328 := by have := HFt.out.lo; simp only at this; omega
          have h5 : nn * 16 ≤ 140737488355328 := by have := HFt.out.ln; simp only at this; omega
          rw [hon] at c1 hA1 f4 f8 f9
          rw [hnn] at c2 Ho2
          rw [Ht.out] at f4
          have HA1 : Hid (X ++ x5 ++ appF a (k + on) (L.drop (i + 1)) = appL a L) := by show _ = _; rw [List.append_assoc]; exact hA1
          have HFr := Lib.hid f8
          have Hnx : Hid (∀ h q, L.drop (i + 1) = h :: q → k + on < h.at_.toNat) := f9
          have hXl2 : X.length + nn ≤ 2097152 := by have h := congrArg List.length HA1.out; rw [List.length_append, List.length_append, hnn] at h; have := hNl.out; omega
          have hn63 : n ≤ 9223372036854775807 := by omega
          clear hxx t1 t2 hon hnn HFt ho2 hoc2 hom2 hA1 f8 f9 HA HFi hat0
          have HC := Lib.hid (And.intro c0 (And.intro c1 c2))
          have c0 := cell_kept HB.out c0
          have c1 := cell_kept HB.out c1
          have c2 := cell_kept HB.out c2
          have ki0 : (0 : Int) ≤ (i : Int) := by omega
          have ki1 : (i : Int) < (n : Int) := by omega
          have ki2 : ((k : Int) == (k : Int)) = true := by simp
          go_wp2_with fail
          clear c0 c1 c2
          obtain ⟨wo, rfl⟩ : ∃ wo : World, wo = wr := ⟨_, rfl⟩
          go_loopw [8, 11] (fun ov jv wr => ∃ j : Nat, j ≤ nn ∧ jv = .int .i64 (j : Int) ∧ Hid (OwnT wr w.heap.size ov (X ++ x5.take j)) ∧ Hid (Below w.heap.size w wr)) (fun _ jv _ => nn - (intOf jv).toNat)
          case atStart => exact ⟨0, Nat.zero_le _, rfl, (by show OwnT _ _ _ _; simpa using HO.out), HB⟩
          case round =>
            clear HO HB
            obtain ⟨j, hj, rfl, HO, HB⟩ := hrel
            have c0 := cell_kept HB.out HC.out.1
            have c1 := cell_kept HB.out HC.out.2.1
            have c2 := cell_kept HB.out HC.out.2.2
            by_cases hjn : j < nn
            · have hjx : j < x5.length := by have := Hnn.out; omega
              obtain rfl := Ho2.out (by omega)
              have d1 := cell_kept HB.out (Hoc2.out j hjx)
              have HT : Hid (X ++ x5.take (j + 1) = X ++ x5.take j ++ [x5[j]'hjx]) := by show _ = _; rw [List.take_succ_eq_append_getElem hjx, List.append_assoc]
              obtain ⟨y, hy⟩ : ∃ y, x5[j]'hjx = y := ⟨_, rfl⟩
              rw [hy] at d1 HT
              have HLt := Lib.hid (texts_lit wr [y] 9 (by simp) (by unfold maxLen; simp))
              have j0 : (0 : Int) ≤ (j : Int) := by omega
              have j1 : (j : Int) < (nn : Int) := by omega
              have hXj : (X ++ x5.take j).length ≤ 2097152 := by rw [List.length_append, List.length_take]; omega
              clear hy
              go_wp2_with (at_builtin; refine wpList_append_lot rfl _ _ rfl w.heap.size u8 (X ++ x5.take j) rfl (HO.out.below (AL.out wr _)) _ [y] rfl HLt.out (.inr ⟨_, _, _, rfl⟩) (by simp only [List.length_singleton]; omega) (by have := HB.out.size; simp; omega) ?_)
              intro v2 w2 ho2 hg2
              have B2 := Lib.hid ((HB.out.trans ((AL.out wr _).mono HB.out.size)).grown hg2 (Nat.le_trans HB.out.size (AL.out wr _).size) (fun g hg => (HO.out.lt g hg).1))
              have HO2 : Hid (OwnT w2 w.heap.size v2 (X ++ x5.take (j + 1))) := by show OwnT _ _ _ _; rw [HT.out]; have h := ho2; simp only [List.append_assoc] at h ⊢; exact h
              clear ho2 hg2
              go_wp2_with fail
              go_roundw
              case rel => exact ⟨j + 1, by omega, by go_num, HO2, B2⟩
              case measure => simp [intOf]; omega
            · obtain rfl : j = nn := by omega
              have HT : Hid (x5.take j = x5) := List.take_of_length_le (by rw [Hnn.out]; exact Nat.le_refl _)
              rw [HT.out] at HO
              by_cases hon0 : 0 < on
              · have z1 : (0 : Int) < (on : Int) := by omega
                have z2 : (k : Int) + (on : Int) - 1 + 1 = ((k + on : Nat) : Int) := by omega
                go_wp2_with fail
                go_roundw
                case rel => exact ⟨k + on, i + 1, X ++ x5, by omega, by go_num, by go_num, by omega, HO, fun _ => ⟨HA1.out, HFr.out⟩, fun h => absurd h (by omega), HB⟩
                case measure => simp [intOf]; omega
              · obtain rfl : 0 = on := by omega
                rw [Nat.add_zero] at HA1 HFr Hnx
                have Hnx2 : Hid (∀ h q, L.drop (i + 1) = h :: q → h.at_.toNat ≠ k) := fun h q he e => by have := Hnx.out h q he; omega
                by_cases hkl : k < t
                · have hka : k < a.length := by have := Ht.out; omega
                  have hst := appF_step hka HFr.out (fun h q he => by
                    have h1 := Hnx2.out h q he
                    have hff := HFr.out
                    rw [he] at hff
                    have h2 := hff.2.2.1
                    omega)
                  obtain rfl := Huo.out (by omega)
                  have d1 := cell_kept HB.out (Hcu.out k hka)
                  have HA2 : Hid (X ++ x5 ++ [a[k]'hka] ++ appF a (k + 1) (L.drop (i + 1)) = appL a L) := by show _ = _; rw [← HA1.out, hst.1]; simp
                  have HF2 := Lib.hid hst.2
                  obtain ⟨y, hy⟩ : ∃ y, a[k]'hka = y := ⟨_, rfl⟩
                  rw [hy] at d1 HA2
                  have HLt := Lib.hid (texts_lit wr [y] 9 (by simp) (by unfold maxLen; simp))
                  have ki2 : (k : Int) < (t : Int) := by omega
                  have ki3 : (0 : Int) ≤ (k : Int) := by omega
                  clear hy hst
                  go_wp2_with (at_builtin; refine wpList_append_lot rfl _ _ rfl w.heap.size u8 (X ++ x5) rfl (HO.out.below (AL.out wr _)) _ [y] rfl HLt.out (.inr ⟨_, _, _, rfl⟩) (by have := Hnn.out; simp only [List.length_append, List.length_singleton]; omega) (by have := HB.out.size; simp; omega) ?_)
                  intro v2 w2 ho2 hg2
                  have B2 := Lib.hid ((HB.out.trans ((AL.out wr _).mono HB.out.size)).grown hg2 (Nat.le_trans HB.out.size (AL.out wr _).size) (fun g hg => (HO.out.lt g hg).1))
                  have HO2 := Lib.hid ho2
                  clear ho2 hg2
                  go_wp2_with fail
                  go_roundw
                  case rel => exact ⟨k + 1, i + 1, X ++ x5 ++ [y], by omega, by go_num, by go_num, by omega, (by show OwnT _ _ _ _; have h := HO2.out; simp only [List.append_assoc] at h ⊢; exact h), fun _ => ⟨HA2.out, HF2.out⟩, fun h => absurd h (by omega), B2⟩
                  case measure => simp [intOf]; omega
                · obtain rfl : k = t := by omega
                  have hnil := tail_nil (by rw [Ht.out]; exact HFr.out) (fun h q he => by rw [Ht.out]; exact Hnx2.out h q he)
                  have HX : Hid (X ++ x5 = appL a L) := by
                    show _ = _
                    rw [← HA1.out, hnil, appF, List.drop_eq_nil_of_le (by rw [Ht.out]; exact Nat.le_refl _), List.append_nil]
                  have ki2 : ¬ ((k : Int) < (k : Int)) := by omega
                  clear hnil
                  go_wp2_with fail
                  go_roundw
                  case rel => exact ⟨k + 1, i + 1, X ++ x5, Nat.le_refl _, by go_num, by go_num, by omega, HO, fun h => absurd h (by omega), fun _ => HX.out, HB⟩
                  case measure => simp [intOf]; try omega
        · have hnx : ∀ h q, L.drop i = h :: q → h.at_.toNat ≠ k := by
            intro h q he e
            have hiL : i < L.length := by
              rcases Nat.lt_or_ge i L.length with h3 | h3
              · exact h3
              · rw [List.drop_eq_nil_of_le h3] at he; cases he
            rw [List.drop_eq_getElem_cons hiL] at he
            injection he with he _
            have hil : i < l.length := by have := HLn.out; have := Hn.out; omega
            have f := (fitsF_get HFF.out i hiL).1
            rw [HLk.out i hiL hil] at he f
            subst he
            exact hx ⟨hil, by simp only [HunkV.txt] at e f ⊢; omega⟩
          have Hnx := Lib.hid hnx
          have Hx := Lib.hid hx
          clear hx hnx
          go_upto_region 9 with fail
          go_cut [40] from 28 to 40 (fun c wx => c = .bool false ∧ wx = wr)
          case first =>
            by_cases hin : i < n
            · have hil : i < l.length := by have := Hn.out; omega
              obtain rfl := Hao.out (by omega)
              have c0 := cell_kept HB.out (Hc.out i hil).1
              obtain ⟨an, han⟩ : ∃ an, (l[i]'hil).at_ = an := ⟨_, rfl⟩
              rw [han] at c0
              have q3 : (an == (k : Int)) = false := by
                rw [beq_eq_false_iff_ne]
                intro e
                exact Hx.out ⟨hil, han.trans e⟩
              have ki0 : (0 : Int) ≤ (i : Int) := by omega
              have ki1 : (i : Int) < (n : Int) := by omega
              clear han
              go_wp2_with fail
              go_meet
              exact ⟨rfl, rfl⟩
            · have ki1 : ¬ ((i : Int) < (n : Int)) := by omega
              go_wp2_with fail
              go_meet
              exact ⟨rfl, rfl⟩
          case rest =>
            obtain ⟨rfl, hwx⟩ := hcut
            obtain rfl : wr = wc := hwx.symm
            clear hwx
            by_cases hkl : k < t
            · have hka : k < a.length := by have := Ht.out; omega
              have hst := appF_step hka HFi.out (fun h q he => by
                have h1 := Hnx.out h q he
                have hff := HFi.out
                rw [he] at hff
                have h2 := hff.2.2.1
                omega)
              obtain rfl := Huo.out (by omega)
              have d1 := cell_kept HB.out (Hcu.out k hka)
              have HA2 : Hid (X ++ [a[k]'hka] ++ appF a (k + 1) (L.drop i) = appL a L) := by show _ = _; rw [← HA.out, hst.1]; simp
              have HF2 := Lib.hid hst.2
              obtain ⟨y, hy⟩ : ∃ y, a[k]'hka = y := ⟨_, rfl⟩
              rw [hy] at d1 HA2
              have HLt := Lib.hid (texts_lit wr [y] 9 (by simp) (by unfold maxLen; simp))
              have ki2 : (k : Int) < (t : Int) := by omega
              have ki3 : (0 : Int) ≤ (k : Int) := by omega
              clear hy hst
              go_wp2_with (at_builtin; refine wpList_append_lot rfl _ _ rfl w.heap.size u8 X rfl (HO.out.below (AL.out wr _)) _ [y] rfl HLt.out (.inr ⟨_, _, _, rfl⟩) (by simp; omega) (by have := HB.out.size; simp; omega) ?_)
              intro v2 w2 ho2 hg2
              have B2 := Lib.hid ((HB.out.trans ((AL.out wr _).mono HB.out.size)).grown hg2 (Nat.le_trans HB.out.size (AL.out wr _).size) (fun g hg => (HO.out.lt g hg).1))
              have HO2 := Lib.hid ho2
              clear ho2 hg2
              go_wp2_with fail
              go_roundw
              case rel => exact ⟨k + 1, i, X ++ [y], by omega, by go_num, rfl, hi, HO2, fun _ => ⟨HA2.out, HF2.out⟩, fun h => absurd h (by omega), B2⟩
              case measure => simp [intOf]; omega
            · obtain rfl : k = t := by omega
              have hnil := tail_nil (by rw [Ht.out]; exact HFi.out) (fun h q he => by rw [Ht.out]; exact Hnx.out h q he)
              have HX : Hid (X = appL a L) := by
                show _ = _
                rw [← HA.out, hnil, appF, List.drop_eq_nil_of_le (by rw [Ht.out]; exact Nat.le_refl _), List.append_nil]
              have ki2 : ¬ ((k : Int) < (k : Int)) := by omega
              clear hnil
              go_wp2_with fail
              go_roundw
              case rel => exact ⟨k + 1, i, X, Nat.le_refl _, by go_num, rfl, hi, HO, fun h => absurd h (by omega), fun _ => HX.out, HB⟩
              case measure => simp [intOf]; try omega
      · obtain rfl : k = t + 1 := by omega
        have HX := HZ.out rfl
        subst HX
        have q2 : ¬ ((t : Int) + 1 ≤ (t : Int)) := by omega
        go_wp2_with fail
        go_ret2
        rw [HE.out]
        exact ⟨_, rfl, fun h => absurd rfl h, fun _ => HO.out, HB.out⟩

set_option maxRecDepth 100000 in
set_option maxHeartbeats 4000000 in
/-- a patch that undoes nothing is told as Invert tells it; else what undoes is applied -/
theorem refUndo_any (u v : Value) (l : List HunkV) (a : List ByteArray) (w : World) (hu : Texts w u a) (hv : Hks w v l) (hf : ∀ m ∈ l, m.Fit) (hl : l.length * 56 ≤ 140737488351232) (ha : a.length ≤ 1048576) (hb : sumN (invL (l.map HunkV.txt)) ≤ 1048576) :
    Calls Try.prog 19 #[u, v] w fun e w' => ∃ r, e = .returned (.tuple #[r, .int .i64 ((undoE a (l.map HunkV.txt) : Nat) : Int)]) ∧
      (¬ (invE (l.map HunkV.txt) = 0 ∧ (fitsL a (invL (l.map HunkV.txt))).2 = 0) → r = .slice none 0 0) ∧ ((invE (l.map HunkV.txt) = 0 ∧ (fitsL a (invL (l.map HunkV.txt))).2 = 0) → OwnT w' w.heap.size r (appL a (invL (l.map HunkV.txt)))) ∧ Below w.heap.size w w' := by
  have Hu := Lib.hid hu
  have HI := Lib.hid (refInvert_any v l w hv hf hl)
  obtain ⟨ao, cap, rfl⟩ := hv.lenForm
  obtain ⟨uo, uc, rfl⟩ := hu.lenForm
  have Hf := Lib.hid hf
  obtain ⟨L, hL⟩ : ∃ L, l.map HunkV.txt = L := ⟨_, rfl⟩
  have HLe := Lib.hid hL
  rw [hL] at HI hb ⊢
  clear hu hv hf
  go_enter Try.func19, Try.ntmps19
  go_wp2_with fail
  refine HI.out.mono ?_
  rintro e w1 ⟨r1, rfl, hz1, ho1, hb1⟩
  have B1 := Lib.hid hb1
  clear hb1 HI
  by_cases hE : invE L = 0
  · obtain ⟨hs, ho, he⟩ := ho1 hE
    have HK := Lib.hid ho.hks
    have HFi := Lib.hid (fit_inv ho (by rw [he, hL]) Hf.out)
    have hln : hs.length = l.length := by have h := congrArg List.length he; rw [List.length_map, invL, invF_len, ← hL, List.length_map] at h; exact h
    have HA := Lib.hid (refApply_any _ r1 hs a w1 (Hu.out.kept B1.out) HK.out HFi.out (by rw [hln]; omega) ha (by rw [he]; exact hb))
    obtain ⟨ro, rc, rfl⟩ := ho.hks.lenForm
    rw [he] at HA
    rw [hE]
    have HEz := Lib.hid hE
    clear hz1 ho1 ho he hln hE hL
    go_wp2_with fail
    refine HA.out.mono ?_
    rintro e w2 ⟨r2, rfl, hz2, ho2, hb2⟩
    have B2 := Lib.hid (below_join B1.out hb2)
    have B1s := Lib.hid B1.out.size
    go_wp2_with fail
    go_ret2
    rw [show undoE a L = (fitsL a (invL L)).2 from if_pos HEz.out]
    exact ⟨_, rfl, fun h => hz2 (fun h2 => h ⟨HEz.out, h2⟩), fun h => (ho2 h.2).base B1s.out, B2.out⟩
  · have hr := hz1 hE
    subst hr
    have q1 : ((invE L : Int) != 0) = true := by rw [bne_iff_ne]; omega
    have HEz := Lib.hid hE
    obtain ⟨y, hy⟩ : ∃ y, invE L = y := ⟨_, rfl⟩
    have Hy := Lib.hid hy
    rw [hy] at q1 ⊢
    clear hz1 ho1 hE hL hy
    go_wp2_with fail
    go_ret2
    rw [show undoE a L = invE L from if_neg HEz.out, Hy.out]
    exact ⟨_, rfl, fun _ => rfl, fun h => absurd (Hy.out.trans h.1) HEz.out, B1.out⟩
end Go.Proofs.Ytabdgocfbmcobaa
