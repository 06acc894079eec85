/- Own work: the document's Check. -/
import Derived.Test.YtabdgocfbmcobaaHunkRef1
import Derived.Deep.CutBlock
import Derived.Deep.CutRange
namespace Go.Proofs.Ytabdgocfbmcobaa
open Go.RowKit

theorem txt_get {l : List HunkV} {k : Nat} (h : k < l.length) : (l.map HunkV.txt)[k]'(by rw [List.length_map]; exact h) = (l[k]'h).txt := by simp
/-- is a hunk's place so, and is there a text in it? -/
def headOk (b a : Int) (q : Nat) : Bool := decide (b < a) && decide (a ≤ 2147483647) && decide (0 < q)
theorem ok_head {b : Int} {h : HunkV} : okH b h.txt = (headOk b h.at_ (h.old.length + h.new.length) && fineL h.old && fineL h.new) := rfl

set_option maxRecDepth 100000 in
set_option maxHeartbeats 16000000 in
theorem refCheck_any (v : Value) (l : List HunkV) (w : World) (hv : Hks w v l) (hf : ∀ m ∈ l, m.Fit) (hl : l.length * 56 ≤ 140737488355328) :
    Calls Try.prog 11 #[v] w fun e w' => e = .returned (.tuple #[.int .i64 ((chkL (l.map HunkV.txt)).1 : Int), .int .i64 ((chkL (l.map HunkV.txt)).2 : Int)]) ∧ Below w.heap.size w w' := by
  obtain ⟨ao, cap, b, o, rfl, hao, hm, hc⟩ := hv
  obtain ⟨n, hn⟩ : ∃ n, l.length = n := ⟨_, rfl⟩
  have Hn := Lib.hid hn
  have HL : Hid ((l.map HunkV.txt).length = n) := by show _ = _; rw [List.length_map, hn]
  rw [hn] at hao hm hl ⊢
  have Hao := Lib.hid hao
  have Hc := Lib.hid hc
  have Hf := Lib.hid hf
  obtain ⟨L, hL⟩ : ∃ L, l.map HunkV.txt = L := ⟨_, rfl⟩
  have HLe := Lib.hid hL
  have HG : Hid (∀ (k : Nat) (h : k < l.length), okAt L k = (headOk (behindL L k) (l[k]'h).at_ ((l[k]'h).old.length + (l[k]'h).new.length) && fineL (l[k]'h).old && fineL (l[k]'h).new)) := by
    intro k h
    subst hL
    rw [okAt_get (by rw [List.length_map]; exact h), ← ok_head, txt_get h]
  rw [hL] at HL ⊢
  clear hao hc hn hf hL
  unfold maxLen at hm
  go_enter Try.func11, Try.ntmps11
  go_wp2_with fail
  go_loopw [4] (fun i wr => ∃ k : Nat, k ≤ n ∧ i = .int .i64 k ∧ Hid (∀ j, j < k → okAt L j = true) ∧ Hid (Below w.heap.size w wr)) (fun i _ => n - (intOf i).toNat)
  case atStart => exact ⟨0, Nat.zero_le _, rfl, (fun j h => absurd h (by omega)), Below.refl _ _⟩
  case round =>
    obtain ⟨k, hk, rfl, HO, HB⟩ := hrel
    by_cases hlt : k < n
    · have hkl : k < l.length := by have := Hn.out; omega
      obtain rfl := Hao.out (by omega)
      obtain ⟨c0, c1, c2, t1, t2⟩ := Hc.out k hkl
      have HGk := Lib.hid (HG.out k hkl)
      have HF := Lib.hid (Hf.out _ (List.getElem_mem hkl))
      have HBg : Hid (-1 ≤ behindL L k ∧ (0 < k → 0 ≤ behindL L k) ∧ (k = 0 → behindL L k = -1)) := by
        have h := behind_ge HO.out (by have := HL.out; omega)
        exact ⟨h.1, h.2, fun e => by subst e; rfl⟩
      have HP : Hid (0 < k → ∃ (at' : Int) (po : Option Addr) (pn pc : Nat), behindL L k = at' + pn ∧ 0 ≤ at' ∧ at' ≤ 2147483647 ∧ (pn : Int) * 16 ≤ 140737488351232 ∧ w.cell? ⟨b, o + (k - 1) * 3, none⟩ = some (.int .i64 at') ∧ w.cell? ⟨b, o + (k - 1) * 3 + 1, none⟩ = some (.slice po pn pc)) := by
        intro h0
        have hk1 : k - 1 < l.length := by omega
        obtain ⟨g0, g1, _, s1, _⟩ := Hc.out (k - 1) hk1
        obtain ⟨po, pc, e1⟩ := s1.lenForm
        rw [e1] at g1
        have g2 := HO.out (k - 1) (by omega)
        have g4 := behind_ge (l := L) (k := k - 1) (fun j hj => HO.out j (by omega)) (by have := HL.out; omega)
        rw [HG.out (k - 1) hk1] at g2
        simp only [headOk, Bool.and_eq_true, decide_eq_true_eq] at g2
        have g3 := (Hf.out _ (List.getElem_mem hk1)).lo
        refine ⟨_, po, _, pc, ?_, by omega, by omega, by omega, g0, g1⟩
        have e2 : behindL L (k - 1 + 1) = _ := behind_succ (by have := HL.out; omega)
        rw [show k - 1 + 1 = k by omega] at e2
        rw [e2]
        simp only [← HLe.out, List.getElem_map, HunkV.txt]
      obtain ⟨x, hx⟩ : ∃ x, l[k]'hkl = x := ⟨_, rfl⟩
      rw [hx] at c0 c1 c2 t1 t2 HGk HF
      obtain ⟨x1, x2, x3, x4, x5⟩ := x
      dsimp only at c0 c1 c2 t1 t2 HGk
      have T1 := Lib.hid t1
      have T2 := Lib.hid t2
      obtain ⟨o1, p1, b1, of1, rfl, ho1, hom1, hoc1⟩ := t1.form
      obtain ⟨o2, p2, b2, of2, rfl, ho2, hom2, hoc2⟩ := t2.form
      obtain ⟨on, hon⟩ : ∃ on, x4.length = on := ⟨_, rfl⟩
      obtain ⟨nn, hnn⟩ : ∃ nn, x5.length = nn := ⟨_, rfl⟩
      have Hon := Lib.hid hon
      have Hnn := Lib.hid hnn
      have Ho1 := Lib.hid ho1
      have Ho2 := Lib.hid ho2
      have Hoc1 := Lib.hid hoc1
      have Hoc2 := Lib.hid hoc2
      rw [hon] at c1 hom1 Ho1 HGk
      rw [hnn] at c2 hom2 Ho2 HGk
      have hlo : on * 16 ≤ 140737488351232 := by have := HF.out.lo; simp only at this; omega
      have hln : nn * 16 ≤ 140737488351232 := by have := HF.out.ln; simp only at this; omega
      clear hx t1 t2 hon hnn ho1 ho2 hoc1 hoc2 hom1 hom2 T1 T2
      have c0 := cell_kept HB.out c0
      have c1 := cell_kept HB.out c1
      have c2 := cell_kept HB.out c2
      have ki0 : (0 : Int) ≤ (k : Int) := by omega
      have ki1 : (k : Int) < (n : Int) := by omega
      have hra := heap_alloc_new wr (.cells #[.int .i64 x1, .slice o1 on p1, .slice o2 nn p2] 43)
      have hal : Below wr.heap.size wr (wr.alloc (.cells #[.int .i64 x1, .slice o1 on p1, .slice o2 nn p2] 43)) := (Below.refl _ _).alloc (Nat.le_refl _) _
      have HB3 := Lib.hid (HB.out.trans (hal.mono HB.out.size))
      go_upto_region 5 with fail
      obtain ⟨w3, hw3⟩ : ∃ w3, wr.alloc (.cells #[.int .i64 x1, .slice o1 on p1, .slice o2 nn p2] 43) = w3 := ⟨_, rfl⟩
      rw [hw3] at hra HB3 ⊢
      obtain ⟨A, hA⟩ : ∃ A, wr.heap.size = A := ⟨_, rfl⟩
      rw [hA] at hra ⊢
      clear c0 c1 c2 hw3 hal hA
      have a0 : w3.cell? ⟨A, 0, none⟩ = some (.int .i64 x1) := cell_of_row _ _ 0 _ _ _ hra
      have a1 : w3.cell? ⟨A, 1, none⟩ = some (.slice o1 on p1) := cell_of_row _ _ 1 _ _ _ hra
      have a2 : w3.cell? ⟨A, 2, none⟩ = some (.slice o2 nn p2) := cell_of_row _ _ 2 _ _ _ hra
      clear hra
      obtain ⟨bh, hbh⟩ : ∃ bh, behindL L k = bh := ⟨_, rfl⟩
      rw [hbh] at HGk HBg HP
      obtain ⟨hd, hhd⟩ : ∃ hd, headOk bh x1 (on + nn) = hd := ⟨_, rfl⟩
      have HH : Hid (∀ c : Bool, (c = true ↔ bh < x1 ∧ x1 ≤ 2147483647 ∧ 0 < on + nn) → hd = c) := by
        intro c hc
        rw [Bool.eq_iff_iff, hc, ← hhd]
        simp only [headOk, Bool.and_eq_true, decide_eq_true_eq, and_assoc]
      rw [hhd] at HGk
      clear hbh hhd
      go_cut [58] from 18 to 58 (fun c wx => c = .bool (!hd) ∧ ∃ q, wx = w3.drewN q)
      case first =>
        by_cases hA : on + nn = 0
        · have HV := Lib.hid (HH.out false (by simp; omega))
          have q1 : ((on : Int) + (nn : Int) == 0) = true := by simp; omega
          clear hA
          go_wp2_with fail
          go_quiet (fail)
          go_wp2_with fail
          go_meet
          exact ⟨by rw [HV.out]; rfl, _, rfl⟩
        · have q1 : ((on : Int) + (nn : Int) == 0) = false := by simp; omega
          by_cases hB : x1 < 0
          · have HV := Lib.hid (HH.out false (by have := HBg.out; simp; omega))
            clear hA
            go_wp2_with fail
            go_quiet (fail)
            go_wp2_with fail
            go_meet
            exact ⟨by rw [HV.out]; rfl, _, rfl⟩
          · have qB : decide (x1 < 0) = false := by simp; omega
            by_cases hC : 2147483647 < x1
            · have qC : decide (2147483647 < x1) = true := by simp; omega
              have HV := Lib.hid (HH.out false (by simp; omega))
              clear hA
              go_wp2_with fail
              go_quiet (fail)
              go_wp2_with fail
              go_meet
              exact ⟨by rw [HV.out]; rfl, _, rfl⟩
            · have qC : decide (2147483647 < x1) = false := by simp; omega
              by_cases h0 : k = 0
              · have hb0 : bh = -1 := HBg.out.2.2 h0
                have HV := Lib.hid (HH.out true (by simp; omega))
                have q2 : ¬ ((0 : Int) < (k : Int)) := by omega
                have q6 : decide ((0 : Int) < (k : Int)) = false := by simp; omega
                have q7 : decide (0 < k) = false := by simp; omega
                clear hA h0
                go_wp2_with fail
                go_quiet (fail)
                go_wp2_with fail
                go_meet
                exact ⟨by rw [HV.out]; rfl, _, rfl⟩
              · obtain ⟨at', po, pn, pc, e1, e2, e3, e4, e5, e6⟩ := HP.out (by omega)
                have q2 : ((0 : Int) < (k : Int)) := by omega
                have q6 : decide ((0 : Int) < (k : Int)) = true := by simp; omega
                have q7 : decide (0 < k) = true := by simp; omega
                obtain ⟨k', hk'⟩ : ∃ k', k - 1 = k' := ⟨_, rfl⟩
                rw [hk'] at e5 e6
                have q3 : (k : Int) - 1 = (k' : Int) := by omega
                have q4 : (0 : Int) ≤ (k' : Int) := by omega
                have q5 : (k' : Int) < (n : Int) := by omega
                have e5 := cell_kept HB3.out e5
                have e6 := cell_kept HB3.out e6
                clear hk' h0
                by_cases hD : x1 - at' ≤ pn
                · have HV := Lib.hid (HH.out false (by simp; omega))
                  clear hA e1
                  go_wp2_with fail
                  go_quiet (fail)
                  go_wp2_with fail
                  go_meet
                  exact ⟨by rw [HV.out]; rfl, _, rfl⟩
                · have HV := Lib.hid (HH.out true (by simp; omega))
                  clear hA e1
                  go_wp2_with fail
                  go_quiet (fail)
                  go_wp2_with fail
                  go_meet
                  exact ⟨by rw [HV.out, decide_eq_false (by omega)]; rfl, _, rfl⟩
      case rest =>
        obtain ⟨rfl, q, hwx⟩ := hcut
        have b0 := below_drewN (Below.refl w3.heap.size w3) q
        have a0 := cell_kept b0 a0
        have a1 := cell_kept b0 a1
        have a2 := cell_kept b0 a2
        have HB4 := Lib.hid (below_drewN HB3.out q)
        rw [← hwx] at a0 a1 a2 HB4
        obtain ⟨w4, hw4⟩ : ∃ w4, wc = w4 := ⟨_, rfl⟩
        rw [hw4] at a0 a1 a2 HB4 ⊢
        clear b0 hwx hw4
        cases hd with
        | false =>
          have HE := Lib.hid (chk_bad (l := L) (k := k) (by have := HL.out; omega) HO.out (by rw [HGk.out]; rfl))
          go_wp2_with fail
          go_ret2
          rw [HE.out]
          exact ⟨rfl, HB4.out⟩
        | true =>
          go_wp2_with fail
          go_loopw [6] (fun j wq => ∃ i : Nat, i ≤ on ∧ j = .int .i64 i ∧ w4 = wq ∧ Hid (∀ (t : Nat) (ht : t < x4.length), t < i → isText (x4[t]'ht) = true)) (fun j _ => on - (intOf j).toNat)
          case atStart => exact ⟨0, Nat.zero_le _, rfl, rfl, (fun t ht h => absurd h (by omega))⟩
          case round =>
            obtain ⟨i, hi, rfl, rfl, HI⟩ := hrel
            by_cases hil : i < on
            · have hix : i < x4.length := by have := Hon.out; omega
              obtain rfl := Ho1.out (by omega)
              have d1 := cell_kept HB4.out (Hoc1.out i hix)
              have hsz : (x4[i]'hix).size ≤ maxLen := HF.out.so _ (List.getElem_mem hix)
              have HX : Hid (isText (x4[i]'hix) = false → fineL x4 = false) := fun h => fine_at hix h
              have HY : Hid (isText (x4[i]'hix) = true → ∀ (t : Nat) (ht : t < x4.length), t < i + 1 → isText (x4[t]'ht) = true) := by
                intro h t ht hti
                by_cases e : t = i
                · subst e; exact h
                · exact HI.out t ht (by omega)
              obtain ⟨y, hy⟩ : ∃ y, x4[i]'hix = y := ⟨_, rfl⟩
              rw [hy] at d1 hsz HX HY
              have Hsz := Lib.hid hsz
              have ii0 : (0 : Int) ≤ (i : Int) := by omega
              have ii1 : (i : Int) < (on : Int) := by omega
              clear hy hsz
              go_wp2_with fail
              refine (fine_any y _ Hsz.out).mono ?_
              rintro e w' ⟨rfl, rfl⟩
              cases hty : isText y with
              | false =>
                have HE := Lib.hid (chk_bad (l := L) (k := k) (by have := HL.out; omega) HO.out (by rw [HGk.out, HX.out hty]; simp))
                go_wp2_with fail
                go_ret2
                rw [HE.out]
                exact ⟨rfl, HB4.out⟩
              | true =>
                have HZ := Lib.hid (HY.out hty)
                go_wp2_with fail
                go_roundw
                case rel => exact ⟨i + 1, by omega, by go_num, trivial, HZ⟩
                case measure => simp [intOf]; omega
            · obtain rfl : i = on := by omega
              have HFo : Hid (fineL x4 = true) := fine_all fun t ht => HI.out t ht (by have := Hon.out; omega)
              go_wp2_with fail
              go_loopw [7] (fun j wq => ∃ i : Nat, i ≤ nn ∧ j = .int .i64 i ∧ w4 = wq ∧ Hid (∀ (t : Nat) (ht : t < x5.length), t < i → isText (x5[t]'ht) = true)) (fun j _ => nn - (intOf j).toNat)
              case atStart => exact ⟨0, Nat.zero_le _, rfl, rfl, (fun t ht h => absurd h (by omega))⟩
              case round =>
                obtain ⟨i, hi, rfl, rfl, HI⟩ := hrel
                by_cases hil : i < nn
                · have hix : i < x5.length := by have := Hnn.out; omega
                  obtain rfl := Ho2.out (by omega)
                  have d1 := cell_kept HB4.out (Hoc2.out i hix)
                  have hsz : (x5[i]'hix).size ≤ maxLen := HF.out.sn _ (List.getElem_mem hix)
                  have HX : Hid (isText (x5[i]'hix) = false → fineL x5 = false) := fun h => fine_at hix h
                  have HY : Hid (isText (x5[i]'hix) = true → ∀ (t : Nat) (ht : t < x5.length), t < i + 1 → isText (x5[t]'ht) = true) := by
                    intro h t ht hti
                    by_cases e : t = i
                    · subst e; exact h
                    · exact HI.out t ht (by omega)
                  obtain ⟨y, hy⟩ : ∃ y, x5[i]'hix = y := ⟨_, rfl⟩
                  rw [hy] at d1 hsz HX HY
                  have Hsz := Lib.hid hsz
                  have ii0 : (0 : Int) ≤ (i : Int) := by omega
                  have ii1 : (i : Int) < (nn : Int) := by omega
                  clear hy hsz
                  go_wp2_with fail
                  refine (fine_any y _ Hsz.out).mono ?_
                  rintro e w' ⟨rfl, rfl⟩
                  cases hty : isText y with
                  | false =>
                    have HE := Lib.hid (chk_bad (l := L) (k := k) (by have := HL.out; omega) HO.out (by rw [HGk.out, HX.out hty]; simp))
                    go_wp2_with fail
                    go_ret2
                    rw [HE.out]
                    exact ⟨rfl, HB4.out⟩
                  | true =>
                    have HZ := Lib.hid (HY.out hty)
                    go_wp2_with fail
                    go_roundw
                    case rel => exact ⟨i + 1, by omega, by go_num, trivial, HZ⟩
                    case measure => simp [intOf]; omega
                · obtain rfl : i = nn := by omega
                  have HFn : Hid (fineL x5 = true) := fine_all fun t ht => HI.out t ht (by have := Hnn.out; omega)
                  go_wp2_with fail
                  go_roundw
                  case rel =>
                    refine ⟨k + 1, by omega, by go_num, fun j hj => ?_, HB4⟩
                    by_cases e : j = k
                    · subst e
                      rw [HGk.out, HFo.out, HFn.out]
                      rfl
                    · exact HO.out j (by omega)
                  case measure => simp [intOf]; omega
    · obtain rfl : k = n := by omega
      have HE := Lib.hid (chk_ok (l := L) fun j hj => HO.out j (by have := HL.out; omega))
      go_wp2_with fail
      go_ret2
      rw [HE.out]
      exact ⟨rfl, HB.out⟩
end Go.Proofs.Ytabdgocfbmcobaa
