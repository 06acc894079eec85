/- Own work: ViewNothing's walk. -/
import Derived.Test.YtgchcgllpceghaaSeePut
import Derived.Test.YtgchcgllpceghaaSetD
import Derived.IntWalk
import Derived.Deep.Cut
namespace Go.Proofs.Ytgchcgllpceghaa
open Go.RowKit Go.ChangeShapes Go.WideShapes Go.Joins

theorem flatL_front (L : List LineV) (k : Nat) : flatL L = flatL (L.take k) ++ flatL (L.drop k) := by
  unfold flatL
  rw [← List.flatMap_append, List.take_append_drop]
/-- the first lines of a row -/
theorem lns_take {w : World} {B g n cap k : Nat} {L : List LineV} (h : w.ownsRow B 26 4 (.slice (some ⟨g, 0, none⟩) n cap) n (flatL L)) (hk : k ≤ L.length) : Lns w (.slice (some ⟨g, 0, none⟩) k cap) (L.take k) := by
  have h2 := h
  rw [← List.take_append_drop k L] at h2
  exact lns_front h2 (by rw [List.length_take]; omega)
/-- the last lines of a row -/
theorem lns_drop {w : World} {B g n cap k : Nat} {L : List LineV} (h : w.ownsRow B 26 4 (.slice (some ⟨g, 0, none⟩) n cap) n (flatL L)) (hk : k < n) (hn : n = L.length) : Lns w (.slice (some ⟨g, k * 4, none⟩) (n - k) (cap - k)) (L.drop k) := by
  obtain ⟨h1, h2⟩ := own_cap h
  refine .inr ⟨g, k * 4, cap - k, by rw [List.length_drop, hn], by rw [List.length_drop]; omega, by rw [List.length_drop]; omega, by omega, fun i hi => ?_⟩
  rw [List.length_drop] at hi
  obtain ⟨f0, f1, f2, f3⟩ := flatL_get L (k + i) (by omega)
  have e : (L.drop k)[i]'(by rw [List.length_drop]; omega) = L[k + i]'(by omega) := List.getElem_drop
  rw [e, show k * 4 + i * 4 = (k + i) * 4 by omega]
  exact ⟨(h.cellAt _ (by omega)).trans f0, (h.cellAt _ (by omega)).trans f1, (h.cellAt _ (by omega)).trans f2, (h.cellAt _ (by omega)).trans f3⟩
/-- a hidden line put in anywhere -/
theorem filter_woven (p : LineV → Bool) (L : List LineV) (k : Nat) (x : LineV) (hx : p x = false) : (L.take k ++ x :: L.drop k).filter p = L.filter p := by
  rw [List.filter_append, List.filter_cons_of_neg (by rw [hx]; decide), ← List.filter_append, List.take_append_drop]
theorem woven_len (L : List LineV) (k : Nat) (x : LineV) : (L.take k ++ x :: L.drop k).length = L.length + 1 := by
  simp; omega
theorem woven_fine {L : List LineV} {k : Nat} {x : LineV} (hL : ∀ y ∈ L, y.fine) (hx : x.fine) : ∀ y ∈ L.take k ++ x :: L.drop k, y.fine := by
  intro y hy
  rcases List.mem_append.1 hy with h | h
  · exact hL y (List.mem_of_mem_take h)
  · rcases List.mem_cons.1 h with rfl | h
    · exact hx
    · exact hL y (List.mem_of_mem_drop h)

/-- append(v, x...), v a row of the call's own, x any slice of lines; nil only where v was -/
theorem wpList_append_lines2 {w : World} {ops : Array Oper} {rest : List Oper} {o : Oper} {a : Act} {Q : Exit → Act → World → Prop} (hgd : o.guard = none) (s x : Operand)
    (ho : o.op = .call { callee := .builtin .append, args := #[s, x], argTypes := #[22, 22] })
    (base : Nat) (v : Value) (n : Nat) (xs : List Value) (hs : a.eval s = v) (hown : w.ownsRow base 26 4 v n xs)
    (u : Value) (l : List LineV) (hx : a.eval x = u) (hu : Lns w u l) (hf : SliceForm u)
    (hn : (n + l.length) * 40 ≤ 140737488355328) (hbase : base ≤ w.heap.size)
    (h : ∀ v' w', w'.ownsRow base 26 4 v' (n + l.length) (xs ++ flatL l) → w.grownBy w' v.ownBlock → (v' = .slice none 0 0 → v = .slice none 0 0) → wpList Try.prog ops Q rest (a.put o.dst v') w') : wpList Try.prog ops Q (o :: rest) a w := by
  obtain ⟨i0, hi, hz0, hz1, hz2⟩ := info_parts Try.info26
  rcases hf with rfl | ⟨ad, m, cap, rfl⟩
  · have hl : l = [] := by
      rcases hu with ⟨_, _, _, h2⟩ | ⟨_, _, _, h1, _⟩
      · exact h2
      · cases h1
    subst hl
    refine wpList_append_own_none hgd s x 22 ho base 26 i0 4 Try.underlying22 hi v n xs hs hown hx ?_
    exact h v w (by simpa [flatL] using hown) ⟨rfl, rfl, rfl, Nat.le_refl _, fun _ _ _ => rfl⟩ (fun h => h)
  · have hm : m = l.length := by
      rcases hu with ⟨_, _, h1, h2⟩ | ⟨_, _, _, h1, _⟩
      · cases h1; rw [h2]; rfl
      · cases h1; rfl
    subst hm
    refine wpList_append_own _ hgd s x 22 ho base 26 i0 _ 4 40 Try.underlying22 hi hz0 hz1 hz2 rfl (by decide) v n xs hs hown ad l.length cap (flatL l) hx (flatL_len l) ?_ ?_ (by unfold maxLen; omega) hn hbase ?_
    · intro j y hy
      have hj : j < l.length * 4 := by rw [← flatL_len l]; exact (List.getElem?_eq_some_iff.1 hy).1
      rcases hu with ⟨_, _, _, h2⟩ | ⟨b, o', _, h1, _, _, _, h5⟩
      · subst h2; simp at hj
      · cases h1
        rw [addr_add]
        obtain ⟨q, r, hr, rfl⟩ : ∃ q r, r < 4 ∧ j = q * 4 + r := ⟨j / 4, j % 4, by omega, by omega⟩
        have hq : q < l.length := by omega
        obtain ⟨c0, c1, c2, c3⟩ := h5 q hq
        obtain ⟨f0, f1, f2, f3⟩ := flatL_get l q hq
        match r, hr with
        | 0, _ => rw [Nat.add_zero] at hy ⊢; rw [f0] at hy; cases hy; exact c0
        | 1, _ => rw [f1] at hy; cases hy; rw [← Nat.add_assoc]; exact c1
        | 2, _ => rw [f2] at hy; cases hy; rw [← Nat.add_assoc]; exact c2
        | 3, _ => rw [f3] at hy; cases hy; rw [← Nat.add_assoc]; exact c3
    · intro y hy
      obtain ⟨z, _, hz⟩ := List.mem_flatMap.1 hy
      simp [LineV.cells] at hz
      rcases hz with rfl | rfl | rfl | rfl <;> rfl
    · intro v' w' h1 h2 h3
      exact h v' w' h1 h2 (fun e => (h3.1 e).1)
theorem sl_front0 (g n cap : Nat) (W : World) : (Instr.slice 22 (.slice (some ⟨g, 0, none⟩) n cap) none (some (.int .i64 0)) none).run Try.prog W = .ok (.slice (some ⟨g, 0, none⟩) 0 cap) W := by
  simp [Instr.slice, Instr.sliceBounds, Instr.sliceBound, asIntOf, run_underlying Try.underlying22, go_sem]
theorem sl_all (g n cap : Nat) (W : World) : (Instr.slice 22 (.slice (some ⟨g, 0, none⟩) n cap) (some (.int .i64 0)) none none).run Try.prog W = .ok (.slice (some ⟨g, 0, none⟩) n cap) W := by
  simp [Instr.slice, Instr.sliceBounds, Instr.sliceBound, asIntOf, run_underlying Try.underlying22, go_sem]
theorem sl_front (g n cap k : Nat) (hk : k ≤ cap) (W : World) : (Instr.slice 22 (.slice (some ⟨g, 0, none⟩) n cap) none (some (.int .i64 (k : Int))) none).run Try.prog W = .ok (.slice (some ⟨g, 0, none⟩) k cap) W := by
  have h1 : (0 : Int) ≤ (k : Int) := by omega
  simp [Instr.slice, Instr.sliceBounds, Instr.sliceBound, asIntOf, run_underlying Try.underlying22, go_sem, h1, hk]
theorem sl_back (g n cap k : Nat) (hk : k ≤ n) (hc : k < cap) (W : World) : (Instr.slice 22 (.slice (some ⟨g, 0, none⟩) n cap) (some (.int .i64 (k : Int))) none none).run Try.prog W = .ok (.slice (some ⟨g, k * 4, none⟩) (n - k) (cap - k)) W := by
  have h1 : (0 : Int) ≤ (k : Int) := by omega
  have h3 : ¬ cap = k := by omega
  simp [Instr.slice, Instr.sliceBounds, Instr.sliceBound, asIntOf, run_underlying Try.underlying22, go_sem, h1, hk, h3]
theorem sl_end (g n : Nat) (W : World) : (Instr.slice 22 (.slice (some ⟨g, 0, none⟩) n n) (some (.int .i64 (n : Int))) none none).run Try.prog W = .ok (.slice (some ⟨g, 0, none⟩) 0 0) W := by
  have h1 : (0 : Int) ≤ (n : Int) := by omega
  simp [Instr.slice, Instr.sliceBounds, Instr.sliceBound, asIntOf, run_underlying Try.underlying22, go_sem, h1]

set_option maxRecDepth 100000 in
set_option maxHeartbeats 16000000 in
theorem nothing_walk (u ov av : Value) (l os : List LineV) (ats : List Int) (c b : Nat) (w : World) (hu : Lns w u l) (ho : Lns w ov os) (ha : Nums .i64 w av ats) (hf : ∀ x ∈ l, x.fine) (hg : ∀ x ∈ os, x.fine) (hi : ∀ (i : Nat) (h : i < ats.length), -9223372036854775808 ≤ ats[i]'h ∧ ats[i]'h < 9223372036854775808)
    (hc : c < 18446744073709551616) (hb : b < 18446744073709551616) (hlen : l.length * 40 ≤ 140737488351232) :
    Calls Try.prog 9 #[u, ov, av, .int .u64 c, .int .u64 b] w fun e w' => e = .returned (.bool true) ∧ Below w.heap.size w w' := by
  obtain ⟨i0, hi', hz0, hz1, hz2⟩ := info_parts Try.seenInfo26
  have Hu := Lib.hid hu
  have Hf := Lib.hid hf
  have Hg := Lib.hid hg
  have Hi := Lib.hid hi
  have Hlen : Hid (l.length * 40 ≤ 140737488351232) := hlen
  have Hlen2 : Hid (l.length * 40 ≤ 140737488355328) := by show _ ≤ _; omega
  have Hc := Lib.hid hc
  have Hb := Lib.hid hb
  have hand : c &&& b < 18446744073709551616 := Nat.and_lt_two_pow (n := 64) _ hb
  have Hd := Lib.hid hand
  have Hdc := Lib.hid (below_and_l c b)
  obtain ⟨oo, oc, ob, oof, rfl, hoo, hol, hoc⟩ := ho.form
  obtain ⟨ao, ac, ab, aof, rfl, hao, hal, hac⟩ := ha.form
  unfold maxLen at hol hal
  obtain ⟨NO, hNO⟩ : ∃ NO, os.length = NO := ⟨_, rfl⟩
  obtain ⟨NA, hNA⟩ : ∃ NA, ats.length = NA := ⟨_, rfl⟩
  have HNO := Lib.hid hNO
  have HNA := Lib.hid hNA
  rw [hNO] at hoo hol ⊢
  rw [hNA] at hao hal ⊢
  have Hoo := Lib.hid hoo
  have Hoc := Lib.hid hoc
  have Hao := Lib.hid hao
  have Hac := Lib.hid hac
  clear hu ho ha hf hg hi hlen hc hb hand hoo hoc hao hac hNO hNA
  go_enter Try.func9, Try.ntmps9
  go_wp2_with fail
  refine (refBoth2_any c b _ Hc.out Hb.out).mono ?_
  rintro e w0 ⟨rfl, hb0⟩
  have B0 := Lib.hid hb0
  clear hb0
  obtain ⟨d, hd⟩ : ∃ d, c &&& b = d := ⟨_, rfl⟩
  rw [hd] at Hd Hdc ⊢
  clear hd
  go_wp2_with fail
  refine (awake06_any _).mono ?_
  rintro e w1 ⟨rfl, hb1⟩
  have B1 := Lib.hid (below_join B0.out hb1)
  clear hb1
  go_wp2_with fail
  refine (of_any u l c _ (Hu.out.kept B1.out) Hf.out Hc.out Hlen2.out).mono ?_
  rintro e w2 ⟨v, rfl, hv, hb2⟩
  have B2 := Lib.hid (below_join B1.out hb2)
  have HVF := Lib.hid (SliceForm.of_own hv)
  have HV := Lib.hid hv.lns
  have HLf := Lib.hid (fine_filter (p := LineV.seen c) Hf.out)
  have HLl := Lib.hid (len_filter (p := LineV.seen c) Hlen2.out)
  have HLs : Hid ((l.filter (LineV.seen c)).filter (LineV.seen c) = l.filter (LineV.seen c)) := by show _ = _; rw [List.filter_filter]; simp
  have HLd := Lib.hid (filter_narrow Hdc.out l)
  have HLn := Lib.hid (List.length_filter_le (LineV.seen c) l)
  obtain ⟨L, hL⟩ : ∃ L, l.filter (LineV.seen c) = L := ⟨_, rfl⟩
  have HL := Lib.hid hL
  rw [hL] at HV HLf HLl HLs HLd HLn
  clear hb2 hv hL
  go_wp2_with fail
  refine (alike_any u v l L c _ (Hu.out.kept B2.out) HV.out Hf.out HLf.out Hc.out Hlen2.out HLl.out).mono ?_
  rintro e w3 ⟨rfl, hb3⟩
  rw [HLs.out, HL.out, decide_eq_true rfl]
  have B3 := Lib.hid (below_join B2.out hb3)
  have HV3 := Lib.hid (HV.out.kept hb3)
  clear hb3
  go_wp2_with fail
  refine (alike_any u v l L d _ (Hu.out.kept B3.out) HV3.out Hf.out HLf.out Hd.out Hlen2.out HLl.out).mono ?_
  rintro e w4 ⟨rfl, hb4⟩
  rw [HLd.out, decide_eq_true rfl]
  have B4 := Lib.hid (below_join B3.out hb4)
  have HV4 := Lib.hid (HV3.out.kept hb4)
  clear hb4 HV HV3
  have hal : Below w4.heap.size w4 (w4.alloc (.cells #[] 26)) := (Below.refl _ _).alloc (Nat.le_refl _) _
  go_wp2_with (at_builtin; refine wpList_append_lines2 rfl _ _ rfl w4.heap.size _ 0 [] rfl (own_empty4 (heap_alloc_new w4 _) (Nat.le_refl _)) _ L rfl (HV4.out.kept hal) HVF.out (by have := HLl.out; omega) (by simp) ?_)
  intro v1 w5 hown1 hg1 hnn
  have B5 := Lib.hid (hal.grown hg1 (by simp) (fun q hq => by cases hq; exact Nat.le_refl _))
  try rw [Nat.zero_add, List.nil_append] at hown1
  have Hown1 := Lib.hid hown1
  have Hnn : Hid (∃ vg vc, v1 = .slice (some ⟨vg, 0, none⟩) L.length vc) := by
    rcases Joins.ownsRow_forms hown1 with ⟨h1, _⟩ | h1
    · have := hnn h1
      cases this
    · exact h1
  clear hown1 hg1 hal hnn
  go_wp2_with fail
  go_loopw [14, 15] (fun mv t wr => ∃ (i : Nat) (M : List LineV), i ≤ NO ∧ i ≤ 50 ∧ t = .int .i64 (i : Int) ∧ (∃ vg vc, mv = .slice (some ⟨vg, 0, none⟩) M.length vc) ∧ wr.ownsRow w4.heap.size 26 4 mv M.length (flatL M) ∧ Below w4.heap.size w4 wr ∧ M.length ≤ L.length + i ∧ Hid (M.filter (LineV.seen c) = L) ∧ Hid (∀ x ∈ M, x.fine)) (fun _ t _ => NO - (intOf t).toNat)
  case atStart => exact ⟨0, L, Nat.zero_le _, by omega, rfl, Hnn.out, Hown1.out, B5.out, Nat.le_refl _, HLs.out, HLf.out⟩
  case round =>
    obtain ⟨i, M, hiN, hi50, rfl, ⟨vg, vc, rfl⟩, hown, hbw, hml, HMs, HMf⟩ := hrel
    obtain ⟨n, hn⟩ : ∃ n, M.length = n := ⟨_, rfl⟩
    have Hn := Lib.hid hn
    rw [hn] at hown hml ⊢
    clear hn
    have hnc := (own_cap hown).1
    have HO := Lib.hid hown
    have HB := Lib.hid hbw
    have HLn2 := HLn.out
    have Hlen3 := Hlen.out
    clear hown hbw
    by_cases hlt : i < NO
    · by_cases h50 : i < 50
      · have hio : i < os.length := by rw [HNO.out]; exact hlt
        obtain rfl := Hoo.out (by omega)
        obtain ⟨c0, c1, c2, c3⟩ := Hoc.out i hio
        have HB4 := Lib.hid (below_join B4.out HB.out)
        have c0 := cell_kept HB4.out c0
        have c1 := cell_kept HB4.out c1
        have c2 := cell_kept HB4.out c2
        have c3 := cell_kept HB4.out c3
        have Hx := Lib.hid (Hg.out _ (List.getElem_mem hio))
        obtain ⟨x, hx⟩ : ∃ x, os[i]'hio = x := ⟨_, rfl⟩
        rw [hx] at c0 c1 c2 c3 Hx
        obtain ⟨x1, x2, x3, x4⟩ := x
        dsimp only at c0 c1 c2 c3
        have hi0 : (0 : Int) ≤ (i : Int) := by omega
        have hi1 : (i : Int) < (NO : Int) := by omega
        have hi2 : (i : Int) < 50 := by omega
        obtain ⟨hx0, hx1⟩ := (show 0 ≤ x1 ∧ x1 < 18446744073709551616 from Hx.out)
        obtain ⟨xn, rfl⟩ : ∃ xn : Nat, x1 = xn := ⟨x1.toNat, by omega⟩
        have Hxn : Hid (xn < 18446744073709551616) := by show _ < _; omega
        clear hx hx0 hx1
        cases hq : belowN xn c with
        | true =>
          have Hq := Lib.hid hq
          clear hq
          go_wp2_with fail
          refine (refBelow_any xn c _ Hxn.out Hc.out).mono ?_
          rintro e w6 ⟨rfl, hb6⟩
          rw [Hq.out]
          have HO6 := Lib.hid (own_kept HO.out hb6)
          have HB6 := Lib.hid (below_join HB.out hb6)
          clear hb6 c0 c1 c2 c3
          go_wp2_with fail
          go_roundw
          case rel => exact ⟨i + 1, M, by omega, by omega, by go_num, ⟨_, _, by rw [Hn.out]⟩, by rw [Hn.out]; exact HO6.out, HB6.out, by rw [Hn.out]; omega, HMs, HMf⟩
          case measure => simp [intOf]; omega
        | false =>
          have Hns : Hid (LineV.seen c ⟨(xn : Int), x2, x3, x4⟩ = false) := by
            show belowN (Int.toNat (xn : Int)) c = false
            rw [Int.toNat_natCast]; exact hq
          have Hq := Lib.hid hq
          clear hq
          by_cases hA : 0 < NA
          · have hAn : (0 : Int) < (NA : Int) := by omega
            go_wp2_with fail
            refine (refBelow_any xn c _ Hxn.out Hc.out).mono ?_
            rintro e w6 ⟨rfl, hb6⟩
            rw [Hq.out]
            have c0 := cell_kept hb6 c0
            have c1 := cell_kept hb6 c1
            have c2 := cell_kept hb6 c2
            have c3 := cell_kept hb6 c3
            obtain rfl := Hao.out (by omega)
            have him : i % NA < ats.length := by rw [HNA.out]; exact Nat.mod_lt _ hA
            have ca := cell_kept hb6 (cell_kept HB4.out (Hac.out (i % NA) him))
            have hai := Hi.out (i % NA) him
            obtain ⟨a, hav⟩ : ∃ a, ats[i % NA]'him = a := ⟨_, rfl⟩
            rw [hav] at ca hai
            obtain ⟨r, hr⟩ : ∃ r : Nat, IntKind.u64.wrap a = (r : Int) := ⟨(IntKind.u64.wrap a).toNat, by simp [IntKind.wrap, IntKind.bits, IntKind.signed]; omega⟩
            have Hr := Lib.hid hr
            have hnb : (n : Int) + 1 ≤ 4000000000000 := by omega
            have hn0 : (0 : Int) ≤ (n : Int) + 1 := by omega
            have hnz : ¬ (n : Int) + 1 = 0 := by omega
            have hkl : r % (n + 1) ≤ n := by have := Nat.mod_lt r (show 0 < n + 1 by omega); omega
            obtain ⟨k, hk⟩ : ∃ k, r % (n + 1) = k := ⟨_, rfl⟩
            rw [hk] at hkl
            have Hkv : Hid (wrap64 ((IntKind.u64.wrap a).tmod ((n : Int) + 1)) = (k : Int)) := by
              show _ = _
              have e1 : ((r : Int).tmod ((n : Int) + 1)) = ((r % (n + 1) : Nat) : Int) := rfl
              rw [Hr.out, e1, hk]
              simp only [wrap64]
              omega
            have hk0 : (0 : Int) ≤ (k : Int) := by omega
            have hk1 : (k : Int) ≤ (vc : Int) := by omega
            have hk2 : (k : Int) ≤ (n : Int) := by omega
            have hk3 : (n : Int) ≤ (vc : Int) := by omega
            clear hai hav hr hk hn0 hnz
            have hm0 : (0 : Int) ≤ (i : Int) % (NA : Int) := Int.emod_nonneg _ (by omega)
            have hm1 : (i : Int) % (NA : Int) < (NA : Int) := Int.emod_lt_of_pos _ hAn
            have hm2 : ((i : Int) % (NA : Int)).toNat = i % NA := by omega
            go_upto_region 16 with (fail)
            rw [Hkv.out]
            have HO6 := Lib.hid (own_kept HO.out hb6)
            have HB6 := Lib.hid (below_join HB.out hb6)
            have hkM : k ≤ M.length := by rw [Hn.out]; omega
            have HT := Lib.hid (lns_take HO6.out hkM)
            have htl : (M.take k).length = k := by rw [List.length_take]; omega
            clear hb6
            have hs1 := fun W => sl_front vg n vc k (by omega) W
            go_wp2_with (at_builtin; refine wpList_append_lines rfl _ _ rfl w6.heap.size (.slice none 0 0) 0 [] rfl (World.ownsRow_nil _ _ _ _) _ (M.take k) rfl HT.out (.inr ⟨_, _, _, rfl⟩) (by rw [htl]; omega) (Nat.le_refl _) ?_)
            intro m1 w7 hown7 hg7
            try rw [htl, Nat.zero_add, List.nil_append] at hown7
            have HO7 := Lib.hid hown7
            have hb7 : Below w6.heap.size w6 w7 := (Below.refl _ _).grown hg7 (Nat.le_refl _) (fun q hq => by cases hq)
            have HBX := Lib.hid hb7
            have c0 := cell_kept hb7 c0
            have c1 := cell_kept hb7 c1
            have c2 := cell_kept hb7 c2
            have c3 := cell_kept hb7 c3
            have hnew := own_news _ _ _ _ (heap_alloc_new w7 (.cells #[.int .u64 (xn : Int), .int .i64 x2, .int .i64 x3, .string x4] 26))
            have hs7 := hb7.size
            clear hown7 hg7 hb7 hs1 ca hm0 hm1 hm2 htl
            go_wp2_with (at_builtin; refine wpList_append_own _ rfl _ _ 22 rfl w6.heap.size 26 i0 (.agg #[.int .u64 0, .int .i64 0, .int .i64 0, .string ⟨#[]⟩]) 4 40 Try.underlying22 hi' hz0 hz1 hz2 rfl (by decide) _ _ _ rfl (HO7.out.alloc _) ⟨w7.heap.size, 0, none⟩ 1 1 [.int .u64 (xn : Int), .int .i64 x2, .int .i64 x3, .string x4] rfl rfl hnew (by simp [Value.oneCell']) (by unfold maxLen; omega) (by omega) (by simp; omega) ?_)
            intro m2 w8 hown8 hg8 _
            have HB8 := Lib.hid ((HBX.out.alloc HBX.out.size _).grown hg8 (by simp; omega) (fun q hq => (HO7.out.lt q hq).1))
            have HO8 := Lib.hid hown8
            have HM8 := Lib.hid (own_kept HO6.out HB8.out)
            have hs8 := HB8.out.size
            clear hown8 hg8 hnew hs7 c0 c1 c2 c3
            have fin : ∀ (m3 : Value) (w9 : World), w9.ownsRow w6.heap.size 26 4 m3 (k + 1 + (M.length - k)) (flatL (M.take k) ++ .int .u64 (xn : Int) :: .int .i64 x2 :: .int .i64 x3 :: .string x4 :: flatL (M.drop k)) → w8.grownBy w9 m2.ownBlock →
                w9.ownsRow w4.heap.size 26 4 m3 (M.take k ++ (⟨xn, x2, x3, x4⟩ : LineV) :: M.drop k).length (flatL (M.take k ++ (⟨xn, x2, x3, x4⟩ : LineV) :: M.drop k)) ∧ Below w4.heap.size w4 w9 := by
              intro m3 w9 h9 g9
              have e : flatL (M.take k ++ (⟨xn, x2, x3, x4⟩ : LineV) :: M.drop k) = flatL (M.take k) ++ .int .u64 (xn : Int) :: .int .i64 x2 :: .int .i64 x3 :: .string x4 :: flatL (M.drop k) := by simp [flatL, LineV.cells]
              refine ⟨?_, below_join HB6.out (HB8.out.grown g9 HB8.out.size (fun q hq => (HO8.out.lt q hq).1))⟩
              rw [e, woven_len]
              have e2 : k + 1 + (M.length - k) = M.length + 1 := by omega
              rw [e2] at h9
              exact own_base h9 HB6.out.size
            have Hfin := Lib.hid fin
            have hwl := woven_len M k (⟨xn, x2, x3, x4⟩ : LineV)
            have HWf := Lib.hid (woven_fine (k := k) HMf.out Hx.out)
            have HWs := Lib.hid ((filter_woven (LineV.seen c) M k _ Hns.out).trans HMs.out)
            have Hwl := Lib.hid hwl
            clear fin hwl
            by_cases hkn : k < n
            · have hs2 := fun W => sl_back vg n vc k (by omega) (by omega) W
              have HD := Lib.hid (lns_drop HM8.out hkn Hn.out.symm)
              have hdl : (M.drop k).length = n - k := by rw [List.length_drop, Hn.out]
              have Hdl := Lib.hid hdl
              clear hdl
              go_wp2_with (at_builtin; refine wpList_append_lines rfl _ _ rfl w6.heap.size m2 (k + 1) _ rfl HO8.out _ (M.drop k) rfl HD.out (.inr ⟨_, _, _, rfl⟩) (by rw [Hdl.out]; omega) hs8 ?_)
              intro m3 w9 hown9 hg9
              obtain ⟨q1, q2⟩ := Hfin.out m3 w9 hown9 hg9
              have Q1 := Lib.hid q1
              have Q2 := Lib.hid q2
              clear q1 q2 hown9 hg9 hs2
              go_wp2_with fail
              go_roundw
              case rel => exact ⟨i + 1, _, by omega, by omega, by go_num, ownsRow_form Q1.out (by rw [Hwl.out]; omega), Q1.out, Q2.out, by rw [Hwl.out, Hn.out]; omega, HWs.out, HWf.out⟩
              case measure => simp [intOf]; omega
            · obtain rfl : k = n := by omega
              by_cases hkc : k = vc
              · subst hkc
                have hs2 := fun W => sl_end vg k W
                have hdr : M.drop k = [] := List.drop_eq_nil_of_le (by rw [Hn.out]; exact Nat.le_refl _)
                have HD : Hid (Lns w8 (.slice (some ⟨vg, 0, none⟩) 0 0) (M.drop k)) := .inl ⟨_, _, rfl, hdr⟩
                have Hdl := Lib.hid (congrArg List.length hdr)
                clear hdr
                go_wp2_with (at_builtin; refine wpList_append_lines rfl _ _ rfl w6.heap.size m2 (k + 1) _ rfl HO8.out _ (M.drop k) rfl HD.out (.inr ⟨_, _, _, rfl⟩) (by rw [Hdl.out]; simp; omega) hs8 ?_)
                intro m3 w9 hown9 hg9
                obtain ⟨q1, q2⟩ := Hfin.out m3 w9 hown9 hg9
                have Q1 := Lib.hid q1
                have Q2 := Lib.hid q2
                clear q1 q2 hown9 hg9 hs2
                go_wp2_with fail
                go_roundw
                case rel => exact ⟨i + 1, _, by omega, by omega, by go_num, ownsRow_form Q1.out (by rw [Hwl.out]; omega), Q1.out, Q2.out, by rw [Hwl.out, Hn.out]; omega, HWs.out, HWf.out⟩
                case measure => simp [intOf]; omega
              · have hs2 := fun W => sl_back vg k vc k (Nat.le_refl _) (by omega) W
                have hdr : M.drop k = [] := List.drop_eq_nil_of_le (by rw [Hn.out]; exact Nat.le_refl _)
                have HD : Hid (Lns w8 (.slice (some ⟨vg, k * 4, none⟩) 0 (vc - k)) (M.drop k)) := .inl ⟨_, _, rfl, hdr⟩
                have Hdl := Lib.hid (congrArg List.length hdr)
                simp only [Nat.sub_self] at hs2
                clear hdr
                go_wp2_with (at_builtin; refine wpList_append_lines rfl _ _ rfl w6.heap.size m2 (k + 1) _ rfl HO8.out _ (M.drop k) rfl HD.out (.inr ⟨_, _, _, rfl⟩) (by rw [Hdl.out]; simp; omega) hs8 ?_)
                intro m3 w9 hown9 hg9
                obtain ⟨q1, q2⟩ := Hfin.out m3 w9 hown9 hg9
                have Q1 := Lib.hid q1
                have Q2 := Lib.hid q2
                clear q1 q2 hown9 hg9 hs2
                go_wp2_with fail
                go_roundw
                case rel => exact ⟨i + 1, _, by omega, by omega, by go_num, ownsRow_form Q1.out (by rw [Hwl.out]; omega), Q1.out, Q2.out, by rw [Hwl.out, Hn.out]; omega, HWs.out, HWf.out⟩
                case measure => simp [intOf]; omega
          · have hA0 : NA = 0 := by omega
            subst hA0
            go_wp2_with fail
            refine (refBelow_any xn c _ Hxn.out Hc.out).mono ?_
            rintro e w6 ⟨rfl, hb6⟩
            rw [Hq.out]
            have c0 := cell_kept hb6 c0
            have c1 := cell_kept hb6 c1
            have c2 := cell_kept hb6 c2
            have c3 := cell_kept hb6 c3
            have HO6 := Lib.hid (own_kept HO.out hb6)
            have HB6 := Lib.hid (below_join HB.out hb6)
            have HT : Hid (Lns w6 (.slice (some ⟨vg, 0, none⟩) 0 vc) []) := .inl ⟨_, _, rfl, rfl⟩
            clear hb6
            have hs1 := fun W => sl_front0 vg n vc W
            go_wp2_with (at_builtin; refine wpList_append_lines rfl _ _ rfl w6.heap.size (.slice none 0 0) 0 [] rfl (World.ownsRow_nil _ _ _ _) _ [] rfl HT.out (.inr ⟨_, _, _, rfl⟩) (by simp) (Nat.le_refl _) ?_)
            intro m1 w7 hown7 hg7
            have HO7 := Lib.hid (show w7.ownsRow w6.heap.size 26 4 m1 0 [] from hown7)
            have hb7 : Below w6.heap.size w6 w7 := (Below.refl _ _).grown hg7 (Nat.le_refl _) (fun q hq => by cases hq)
            have HBX := Lib.hid hb7
            have c0 := cell_kept hb7 c0
            have c1 := cell_kept hb7 c1
            have c2 := cell_kept hb7 c2
            have c3 := cell_kept hb7 c3
            have hnew := own_news _ _ _ _ (heap_alloc_new w7 (.cells #[.int .u64 (xn : Int), .int .i64 x2, .int .i64 x3, .string x4] 26))
            have hs7 := hb7.size
            clear hown7 hg7 hb7 hs1
            go_wp2_with (at_builtin; refine wpList_append_own _ rfl _ _ 22 rfl w6.heap.size 26 i0 (.agg #[.int .u64 0, .int .i64 0, .int .i64 0, .string ⟨#[]⟩]) 4 40 Try.underlying22 hi' hz0 hz1 hz2 rfl (by decide) _ _ _ rfl (HO7.out.alloc _) ⟨w7.heap.size, 0, none⟩ 1 1 [.int .u64 (xn : Int), .int .i64 x2, .int .i64 x3, .string x4] rfl rfl hnew (by simp [Value.oneCell']) (by unfold maxLen; omega) (by omega) (by simp; omega) ?_)
            intro m2 w8 hown8 hg8 _
            have HB8 := Lib.hid ((HBX.out.alloc HBX.out.size _).grown hg8 (by simp; omega) (fun q hq => (HO7.out.lt q hq).1))
            have HO8 := Lib.hid (show w8.ownsRow w6.heap.size 26 4 m2 1 [.int .u64 (xn : Int), .int .i64 x2, .int .i64 x3, .string x4] from hown8)
            have HM8 := Lib.hid (Lns.of_own (ls := M) (by rw [Hn.out]; exact own_kept HO6.out HB8.out))
            have hs8 := HB8.out.size
            clear hown8 hg8 hnew hs7 c0 c1 c2 c3
            have hs2 := fun W => sl_all vg n vc W
            have HM9 : Hid (Lns w8 (.slice (some ⟨vg, 0, none⟩) n vc) M) := HM8.out
            go_wp2_with (at_builtin; refine wpList_append_lines rfl _ _ rfl w6.heap.size m2 1 _ rfl HO8.out _ M rfl HM9.out (.inr ⟨_, _, _, rfl⟩) (by rw [Hn.out]; omega) hs8 ?_)
            intro m3 w9 hown9 hg9
            have HWf := Lib.hid (woven_fine (k := 0) HMf.out Hx.out)
            have HWs := Lib.hid ((filter_woven (LineV.seen c) M 0 _ Hns.out).trans HMs.out)
            have hq1 : w9.ownsRow w4.heap.size 26 4 m3 (M.take 0 ++ (⟨xn, x2, x3, x4⟩ : LineV) :: M.drop 0).length (flatL (M.take 0 ++ (⟨xn, x2, x3, x4⟩ : LineV) :: M.drop 0)) := by
              rw [woven_len]
              have e : M.length + 1 = 1 + M.length := by omega
              rw [e]
              exact own_base hown9 HB6.out.size
            have Q1 := Lib.hid hq1
            have Q2 := Lib.hid (below_join HB6.out (HB8.out.grown hg9 HB8.out.size (fun q hq => (HO8.out.lt q hq).1)))
            clear hown9 hg9 hs2 hq1
            go_wp2_with fail
            go_roundw
            case rel => exact ⟨i + 1, _, by omega, by omega, by go_num, ownsRow_form Q1.out (by rw [woven_len]; omega), Q1.out, Q2.out, by rw [woven_len, Hn.out]; omega, HWs.out, HWf.out⟩
            case measure => simp [intOf]; omega
      · obtain rfl : i = 50 := by omega
        have hi1 : (50 : Int) < (NO : Int) := by omega
        have HMl : Hid (M.length * 40 ≤ 140737488355328) := by show _ ≤ _; rw [Hn.out]; omega
        have HMd : Hid (M.filter (LineV.seen d) = l.filter (LineV.seen d)) := by
          show _ = _
          rw [← filter_narrow Hdc.out M, HMs.out, HLd.out]
        have HM := Lib.hid (Lns.of_own (ls := M) (by rw [Hn.out]; exact HO.out))
        have HM5 : Hid (Lns wr (.slice (some ⟨vg, 0, none⟩) n vc) M) := HM.out
        have B6 := Lib.hid (below_join B4.out HB.out)
        go_wp2_with fail
        refine (alike_any u _ l M c _ (Hu.out.kept B6.out) HM5.out Hf.out HMf.out Hc.out Hlen2.out HMl.out).mono ?_
        rintro e w6 ⟨rfl, hb6⟩
        rw [HMs.out, HL.out, decide_eq_true rfl]
        have B7 := Lib.hid (below_join B6.out hb6)
        have BX6 := Lib.hid hb6
        have HM6 := Lib.hid (HM5.out.kept hb6)
        clear hb6
        go_wp2_with fail
        refine (alike_any _ u M l d _ HM6.out (Hu.out.kept B7.out) HMf.out Hf.out Hd.out HMl.out Hlen2.out).mono ?_
        rintro e w7 ⟨rfl, hb7⟩
        rw [HMd.out, decide_eq_true rfl]
        have B8 := Lib.hid (below_join B7.out hb7)
        have BX7 := Lib.hid hb7
        have HM7 := Lib.hid (HM6.out.kept hb7)
        clear hb7
        go_wp2_with fail
        refine (of_any _ M c _ HM7.out HMf.out Hc.out HMl.out).mono ?_
        rintro e w8 ⟨z, rfl, hz, hb8⟩
        rw [HMs.out] at hz
        have B9 := Lib.hid (below_join B8.out hb8)
        have HV9 := Lib.hid (HV4.out.kept (below_join (below_join (below_join HB.out BX6.out) BX7.out) hb8))
        have HZ := Lib.hid hz.lns
        clear hb8 hz
        go_wp2_with fail
        refine (lines06_any _ _ _ _ _ HZ.out HV9.out).mono ?_
        rintro e w9 ⟨rfl, hb9⟩
        rw [decide_eq_true rfl]
        have B10 := Lib.hid (below_join B9.out hb9)
        clear hb9
        go_wp2_with fail
        go_ret
        exact ⟨rfl, B10.out⟩
    · obtain rfl : i = NO := by omega
      have HMl : Hid (M.length * 40 ≤ 140737488355328) := by show _ ≤ _; rw [Hn.out]; omega
      have HMd : Hid (M.filter (LineV.seen d) = l.filter (LineV.seen d)) := by
        show _ = _
        rw [← filter_narrow Hdc.out M, HMs.out, HLd.out]
      have HM := Lib.hid (Lns.of_own (ls := M) (by rw [Hn.out]; exact HO.out))
      have HM5 : Hid (Lns wr (.slice (some ⟨vg, 0, none⟩) n vc) M) := HM.out
      have B6 := Lib.hid (below_join B4.out HB.out)
      go_wp2_with fail
      refine (alike_any u _ l M c _ (Hu.out.kept B6.out) HM5.out Hf.out HMf.out Hc.out Hlen2.out HMl.out).mono ?_
      rintro e w6 ⟨rfl, hb6⟩
      rw [HMs.out, HL.out, decide_eq_true rfl]
      have B7 := Lib.hid (below_join B6.out hb6)
      have BX6 := Lib.hid hb6
      have HM6 := Lib.hid (HM5.out.kept hb6)
      clear hb6
      go_wp2_with fail
      refine (alike_any _ u M l d _ HM6.out (Hu.out.kept B7.out) HMf.out Hf.out Hd.out HMl.out Hlen2.out).mono ?_
      rintro e w7 ⟨rfl, hb7⟩
      rw [HMd.out, decide_eq_true rfl]
      have B8 := Lib.hid (below_join B7.out hb7)
      have BX7 := Lib.hid hb7
      have HM7 := Lib.hid (HM6.out.kept hb7)
      clear hb7
      go_wp2_with fail
      refine (of_any _ M c _ HM7.out HMf.out Hc.out HMl.out).mono ?_
      rintro e w8 ⟨z, rfl, hz, hb8⟩
      rw [HMs.out] at hz
      have B9 := Lib.hid (below_join B8.out hb8)
      have HV9 := Lib.hid (HV4.out.kept (below_join (below_join (below_join HB.out BX6.out) BX7.out) hb8))
      have HZ := Lib.hid hz.lns
      clear hb8 hz
      go_wp2_with fail
      refine (lines06_any _ _ _ _ _ HZ.out HV9.out).mono ?_
      rintro e w9 ⟨rfl, hb9⟩
      rw [decide_eq_true rfl]
      have B10 := Lib.hid (below_join B9.out hb9)
      clear hb9
      go_wp2_with fail
      go_ret
      exact ⟨rfl, B10.out⟩
end Go.Proofs.Ytgchcgllpceghaa
