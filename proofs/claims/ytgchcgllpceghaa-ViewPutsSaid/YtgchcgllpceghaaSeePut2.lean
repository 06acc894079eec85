/- Own work: view's Put. -/
import Derived.Test.YtgchcgllpceghaaSeePut
namespace Go.Proofs.Ytgchcgllpceghaa
open Go.RowKit

def PutPost (w : World) (l m : List LineV) (c : Nat) (e : Ending) (w' : World) : Prop :=
  Below w.heap.size w w' ∧ ((m.length = (l.filter (LineV.seen c)).length ∧ ∃ v, e = .returned (.tuple #[v, .int .i64 0]) ∧ OwnL w' w.heap.size v (putL (LineV.seen c) l m)) ∨
    (m.length ≠ (l.filter (LineV.seen c)).length ∧ e = .returned (.tuple #[.slice none 0 0, .int .i64 1])))

/-- a line stored into a row of the call's own -/
theorem own_setLine {w : World} {B g n cap : Nat} {e : TypeId} {l : List LineV} (h : w.ownsRow B e 4 (.slice (some ⟨g, 0, none⟩) n cap) n (flatL l)) (k : Nat) (hk : k < l.length) (y : LineV) :
    ((((w.setCell ⟨g, k * 4, none⟩ (.int .u64 y.lab)).setCell ⟨g, k * 4 + 1, none⟩ (.int .i64 y.num)).setCell ⟨g, k * 4 + 2, none⟩ (.int .i64 y.rev)).setCell ⟨g, k * 4 + 3, none⟩ (.string y.text)).ownsRow B e 4 (.slice (some ⟨g, 0, none⟩) n cap) n (flatL (l.set k y)) := by
  rw [← flatL_set l k y hk]
  exact own_setCell (own_setCell (own_setCell (own_setCell h _) _) _) _
theorem setLine_grown (w : World) (g k : Nat) (y : LineV) :
    w.grownBy ((((w.setCell ⟨g, k * 4, none⟩ (.int .u64 y.lab)).setCell ⟨g, k * 4 + 1, none⟩ (.int .i64 y.num)).setCell ⟨g, k * 4 + 2, none⟩ (.int .i64 y.rev)).setCell ⟨g, k * 4 + 3, none⟩ (.string y.text)) (some g) :=
  grown_step (grown_step (grown_step (grown_setCell _ _ _ _) (grown_setCell _ _ _ _) (fun _ h => .inl h)) (grown_setCell _ _ _ _) (fun _ h => .inl h)) (grown_setCell _ _ _ _) (fun _ h => .inl h)

set_option maxRecDepth 100000 in
set_option maxHeartbeats 16000000 in
theorem put_any (u xv : Value) (l m : List LineV) (c : Nat) (w : World) (hu : Lns w u l) (hx : Lns w xv m) (hf : ∀ x ∈ l, x.fine) (hc : c < 18446744073709551616) (hform : SliceForm u) (hlen : l.length * 40 ≤ 140737488355328) :
    Calls Try.prog 27 #[u, .int .u64 c, xv] w (PutPost w l m c) := by
  have Hu := Lib.hid hu
  have Hf := Lib.hid hf
  have Hform := Lib.hid hform
  have Hlen := Lib.hid hlen
  have Hx := Lib.hid hx
  obtain ⟨xo, xcap, xb, xof, rfl, hxo, hxl, hxc⟩ := hx.form
  unfold maxLen at hxl
  obtain ⟨M, hM⟩ : ∃ M, m.length = M := ⟨_, rfl⟩
  have HM := Lib.hid hM
  rw [hM] at Hx hxo hxl ⊢
  have Hxo := Lib.hid hxo
  have Hxc := Lib.hid hxc
  clear hu hf hform hlen hx hxo hxc hM
  go_enter Try.func27, Try.ntmps27
  go_wp2_with fail
  refine (places_any u l c _ Hu.out Hf.out hc Hlen.out).mono ?_
  rintro e w1 ⟨pv, rfl, hpv, hb1⟩
  have Hplen := Lib.hid (placesL_len (LineV.seen c) l)
  obtain ⟨po, pcap, pb, pof, rfl, hpo, hpl, hpc⟩ := (Nums.of_own hpv).form
  unfold maxLen at hpl
  obtain ⟨C, hC⟩ : ∃ C, (placesL (LineV.seen c) l).length = C := ⟨_, rfl⟩
  have HC := Lib.hid hC
  have HC2 := Lib.hid (Hplen.out.symm.trans hC)
  rw [hC] at hpo hpl ⊢
  have Hpo := Lib.hid hpo
  have Hpc := Lib.hid hpc
  have B1 := Lib.hid hb1
  clear hpv hb1 hpo hpc hC
  by_cases hMC : M = C
  · subst hMC
    go_wp2_with fail
    refine (cloneL_any u l _ (Hu.out.kept B1.out) Hform.out Hlen.out).mono ?_
    rintro e w2 ⟨v, rfl, hv, hb2⟩
    have B2 := Lib.hid hb2
    obtain ⟨N, hN⟩ : ∃ N, l.length = N := ⟨_, rfl⟩
    have HN := Lib.hid hN
    rw [OwnL, hN] at hv
    obtain ⟨vo, vc, rfl, hvo⟩ := own_slice hv
    have Hv := Lib.hid hv
    have Hvo := Lib.hid hvo
    clear hb2 hv hvo hN
    go_wp2_with fail
    go_loopw [24] (fun i wr => ∃ k : Nat, k ≤ M ∧ i = .int .i64 (k : Int) ∧ wr.ownsRow w1.heap.size 26 4 (.slice vo N vc) N (flatL (putL (LineV.seen c) l (m.take k))) ∧ Below w1.heap.size w1 wr) (fun i _ => M - (intOf i).toNat)
    case atStart => exact ⟨0, Nat.zero_le _, rfl, by rw [List.take_zero, putL_nil]; exact Hv.out, B2.out⟩
    case round =>
      obtain ⟨k, hk, rfl, hown, hbw⟩ := hrel
      have HO := Lib.hid hown
      have HB := Lib.hid hbw
      clear hown hbw
      by_cases hlt : k < M
      · have hkm : k < m.length := by rw [HM.out]; exact hlt
        have hkp : k < (placesL (LineV.seen c) l).length := by rw [HC.out]; exact hlt
        have hkq : k < (pickL (LineV.seen c) 0 l).length := by have := hkp; rw [placesL, List.length_map] at this; exact this
        have Hst := Lib.hid (putL_step (LineV.seen c) (m[k]'hkm) l 0 (m.take k) (by rw [List.length_take]; omega))
        have htk : (m.take k).length = k := by rw [List.length_take]; omega
        have hpk : (placesL (LineV.seen c) l)[k]'hkp = (((pickL (LineV.seen c) 0 l)[k]'hkq).1 : Int) := by simp [placesL]
        have cp := (Hpc.out k hkp)
        rw [hpk] at cp
        obtain ⟨q1, q2, q3⟩ := Hst.out
        have e1 : ((pickL (LineV.seen c) 0 l)[(m.take k).length]'(by rw [htk]; exact hkq)).1 = ((pickL (LineV.seen c) 0 l)[k]'hkq).1 := by congr 2
        rw [e1] at q2 q3
        obtain ⟨t, ht⟩ : ∃ t, ((pickL (LineV.seen c) 0 l)[k]'hkq).1 = t := ⟨_, rfl⟩
        rw [ht] at cp q2 q3
        rw [Nat.sub_zero, ← List.take_succ_eq_append_getElem hkm] at q3
        obtain rfl := Hxo.out (by omega)
        obtain rfl := Hpo.out (by omega)
        have cp := cell_kept (HB.out) cp
        obtain ⟨c0, c1, c2, c3⟩ := Hxc.out k hkm
        have c0 := cell_kept HB.out (cell_kept B1.out c0)
        have c1 := cell_kept HB.out (cell_kept B1.out c1)
        have c2 := cell_kept HB.out (cell_kept B1.out c2)
        have c3 := cell_kept HB.out (cell_kept B1.out c3)
        have Q3 := Lib.hid q3
        have htN : t < N := by rw [← HN.out]; omega
        obtain ⟨y, hy⟩ : ∃ y, m[k]'hkm = y := ⟨_, rfl⟩
        rw [hy] at c0 c1 c2 c3 Q3
        obtain ⟨y1, y2, y3, y4⟩ := y
        dsimp only at c0 c1 c2 c3
        obtain ⟨g, rfl⟩ := Hvo.out (by omega)
        have f0 := own_frozen HO.out (t * 4)
        have f1 := own_frozen HO.out (t * 4 + 1)
        have f2 := own_frozen HO.out (t * 4 + 2)
        have f3 := own_frozen HO.out (t * 4 + 3)
        have hpl2 : (putL (LineV.seen c) l (m.take k)).length = N := by rw [putL_len]; exact HN.out
        have htp : t < (putL (LineV.seen c) l (m.take k)).length := by rw [hpl2]; exact htN
        obtain ⟨z0, z1, z2, z3⟩ := flatL_get _ t htp
        obtain ⟨z, hz⟩ : ∃ z, (putL (LineV.seen c) l (m.take k))[t]'htp = z := ⟨_, rfl⟩
        rw [hz] at z0 z1 z2 z3
        have d0 := (HO.out.cellAt (t * 4) (by omega)).trans z0
        have d1 := (HO.out.cellAt (t * 4 + 1) (by omega)).trans z1
        have d2 := (HO.out.cellAt (t * 4 + 2) (by omega)).trans z2
        have d3 := (HO.out.cellAt (t * 4 + 3) (by omega)).trans z3
        have HSL := Lib.hid (own_setLine HO.out t htp ⟨y1, y2, y3, y4⟩)
        have HSG := Lib.hid (HB.out.grown (setLine_grown wr g t ⟨y1, y2, y3, y4⟩) HB.out.size (fun q hq => (HO.out.lt q hq).1))
        have hi0 : (0 : Int) ≤ (k : Int) := by omega
        have hi1 : (k : Int) < (M : Int) := by omega
        have hj0 : (0 : Int) ≤ (t : Int) := by omega
        have hj1 : (t : Int) < (N : Int) := by omega
        have hNb : N < 9223372036854775807 := by have := HN.out; have := Hlen.out; omega
        clear z0 z1 z2 z3 hz hpl2 htp ht hy e1 q1 q2 q3 hpk htk Hst
        go_wp2_with fail
        have hst := HSL.out
        go_roundw
        case rel =>
          refine ⟨k + 1, by omega, by go_num, ?_, HSG.out⟩
          rw [Q3.out]
          exact hst
        case measure => simp [intOf]; omega
      · obtain rfl : k = M := by omega
        go_wp2_with fail
        go_ret2
        have h := HO.out
        rw [List.take_of_length_le (by rw [HM.out]; exact Nat.le_refl _)] at h
        refine ⟨below_join B1.out HB.out, .inl ⟨by rw [HM.out, HC2.out], _, rfl, ?_⟩⟩
        rw [OwnL, putL_len, HN.out]
        exact own_base h B1.out.size
  · have hne : ((M : Int) != (C : Int)) = true := by rw [bne_iff_ne]; omega
    have HMC := Lib.hid hMC
    clear hMC
    go_wp2_with fail
    go_ret2
    exact ⟨B1.out, .inr ⟨by rw [HM.out, HC2.out]; exact HMC.out, rfl⟩⟩
end Go.Proofs.Ytgchcgllpceghaa
