/- Own work: scrimref06's Put. -/
import Derived.Test.YtgchcgllpceghaaSeePut2
import Derived.Test.YtgchcgllpceghaaSeeRefs
namespace Go.Proofs.Ytgchcgllpceghaa
open Go.RowKit

theorem putL_append (p : LineV → Bool) (b m2 : List LineV) : ∀ (a m1 : List LineV), m1.length = (a.filter p).length → putL p (a ++ b) (m1 ++ m2) = putL p a m1 ++ putL p b m2
  | [], m1, h => by
    have : m1 = [] := List.eq_nil_of_length_eq_zero (by simpa using h)
    subst this
    rw [List.nil_append, List.nil_append, putL, List.nil_append]
  | x :: r, m1, h => by
    by_cases hp : p x = true
    · rw [List.filter_cons_of_pos hp] at h
      cases m1 with
      | nil => simp at h
      | cons y m1 =>
        rw [List.cons_append, List.cons_append, putL_yes hp, putL_yes hp, putL_append p b m2 r m1 (by simpa using h), List.cons_append]
    · rw [List.filter_cons_of_neg hp] at h
      rw [List.cons_append, putL_no hp, putL_no hp, putL_append p b m2 r m1 h, List.cons_append]
/-- how many of the first k are so -/
def cntL (p : LineV → Bool) (l : List LineV) (k : Nat) : Nat := ((l.take k).filter p).length
theorem cntL_le (p : LineV → Bool) (l : List LineV) (k : Nat) : cntL p l k ≤ (l.filter p).length := ((List.take_sublist k l).filter p).length_le
theorem cntL_yes {p : LineV → Bool} {l : List LineV} {k : Nat} (h : k < l.length) (hp : p (l[k]'h) = true) : cntL p l (k + 1) = cntL p l k + 1 := by
  unfold cntL
  rw [List.take_succ_eq_append_getElem h, List.filter_append, List.filter_cons_of_pos hp]
  simp
theorem cntL_no {p : LineV → Bool} {l : List LineV} {k : Nat} (h : k < l.length) (hp : ¬ p (l[k]'h) = true) : cntL p l (k + 1) = cntL p l k := by
  unfold cntL
  rw [List.take_succ_eq_append_getElem h, List.filter_append, List.filter_cons_of_neg hp]
  simp
theorem putL_take_yes {p : LineV → Bool} {l m : List LineV} {k : Nat} (h : k < l.length) (hp : p (l[k]'h) = true) (hm : cntL p l k < m.length) :
    putL p (l.take (k + 1)) (m.take (cntL p l (k + 1))) = putL p (l.take k) (m.take (cntL p l k)) ++ [m[cntL p l k]'hm] := by
  rw [cntL_yes h hp, List.take_succ_eq_append_getElem h, List.take_succ_eq_append_getElem hm, putL_append p _ _ _ _ (by rw [List.length_take]; unfold cntL at *; omega), putL_yes hp]
  rfl
theorem putL_take_no {p : LineV → Bool} {l m : List LineV} {k : Nat} (h : k < l.length) (hp : ¬ p (l[k]'h) = true) (hm : cntL p l k ≤ m.length) :
    putL p (l.take (k + 1)) (m.take (cntL p l (k + 1))) = putL p (l.take k) (m.take (cntL p l k)) ++ [l[k]'h] := by
  have e := putL_append p [l[k]'h] [] (l.take k) (m.take (cntL p l k)) (by rw [List.length_take]; unfold cntL at *; omega)
  rw [List.append_nil] at e
  rw [cntL_no h hp, List.take_succ_eq_append_getElem h, e, putL_no hp]
  rfl
theorem flatL_snoc (a : List LineV) (x : LineV) : flatL (a ++ [x]) = flatL a ++ [.int .u64 x.lab, .int .i64 x.num, .int .i64 x.rev, .string x.text] := by simp [flatL, LineV.cells]

set_option maxRecDepth 100000 in
set_option maxHeartbeats 8000000 in
theorem ref06Put_any (u xv : Value) (l m : List LineV) (c : Nat) (w : World) (hu : Lns w u l) (hx : Lns w xv m) (hf : ∀ x ∈ l, x.fine) (hc : c < 18446744073709551616) (hlen : l.length * 40 ≤ 140737488355328) :
    Calls Try.prog 26 #[u, .int .u64 c, xv] w (PutPost w l m c) := by
  obtain ⟨i0, hi, hz0, hz1, hz2⟩ := info_parts Try.seenInfo26
  have Hu := Lib.hid hu
  have Hx := Lib.hid hx
  obtain ⟨ao, cap, b, o, rfl, hao, hml, hc4⟩ := hu.form
  obtain ⟨xo, xcap, xb, xof, rfl, hxo, hxl, hxc⟩ := hx.form
  unfold maxLen at hml hxl
  obtain ⟨N, hN⟩ : ∃ N, l.length = N := ⟨_, rfl⟩
  obtain ⟨M, hM⟩ : ∃ M, m.length = M := ⟨_, rfl⟩
  have HN := Lib.hid hN
  have HM := Lib.hid hM
  rw [hN] at hao hml Hu ⊢
  rw [hM] at hxo hxl Hx ⊢
  have Hao := Lib.hid hao
  have Hxo := Lib.hid hxo
  have Hc4 := Lib.hid hc4
  have Hxc := Lib.hid hxc
  have Hf := Lib.hid hf
  have Hlen := Lib.hid hlen
  clear hu hx hao hxo hc4 hxc hf hN hM hlen
  have hcnt := pickL_count (LineV.seen c) 0 l
  have Hcnt := Lib.hid hcnt
  clear hcnt
  go_enter Try.func26, Try.ntmps26
  go_wp2_with fail
  refine (ref06Places_any _ l c _ Hu.out Hf.out hc Hlen.out).mono ?_
  rintro e w1 ⟨v, rfl, hv, hb⟩
  obtain ⟨vo, vc, rfl, -⟩ := own_slice hv
  have B1 := Lib.hid hb
  clear hv hb
  by_cases hne : M = (pickL (LineV.seen c) 0 l).length
  rotate_left
  · have hni : ((M : Int) != ((pickL (LineV.seen c) 0 l).length : Int)) = true := by rw [bne_iff_ne]; omega
    go_wp2_with fail
    go_ret2
    exact ⟨B1.out, .inr ⟨by rw [HM.out, ← Hcnt.out]; exact hne, rfl⟩⟩
  rw [← hne]
  have HK := Lib.hid (hne.trans Hcnt.out)
  have HMN : Hid (M ≤ N) := by show _ ≤ _; rw [HK.out, ← HN.out]; exact List.length_filter_le _ _
  clear hne
  go_wp2_with fail
  go_loopw [8, 9, 10] (fun v q t wr => ∃ k : Nat, k ≤ N ∧ t = .int .i64 (k : Int) ∧ q = .int .i64 (cntL (LineV.seen c) l k : Int) ∧ wr.ownsRow w.heap.size 26 4 v k (flatL (putL (LineV.seen c) (l.take k) (m.take (cntL (LineV.seen c) l k)))) ∧ Below w.heap.size w wr) (fun _ _ t _ => N - (intOf t).toNat)
  case atStart => exact ⟨0, Nat.zero_le _, rfl, rfl, World.ownsRow_nil _ _ _ _, B1.out⟩
  case round =>
    obtain ⟨k, hk, rfl, rfl, hown, hbw⟩ := hrel
    have HO := Lib.hid hown
    have HB := Lib.hid hbw
    clear hown hbw
    by_cases hlt : k < N
    · have hkl : k < l.length := by rw [HN.out]; exact hlt
      obtain rfl := Hao.out (by omega)
      obtain ⟨c0, c1, c2, c3⟩ := Hc4.out k hkl
      have c0 := cell_kept HB.out c0
      have c1 := cell_kept HB.out c1
      have c2 := cell_kept HB.out c2
      have c3 := cell_kept HB.out c3
      have Hx := Lib.hid (Hf.out _ (List.getElem_mem hkl))
      have hi0 : (0 : Int) ≤ (k : Int) := by omega
      have hi1 : (k : Int) < (N : Int) := by omega
      have hcle := cntL_le (LineV.seen c) l k
      have hcle2 := cntL_le (LineV.seen c) l (k + 1)
      rw [← HK.out] at hcle hcle2
      have hyes := fun hp => cntL_yes (p := LineV.seen c) hkl hp
      have hno := fun hp => cntL_no (p := LineV.seen c) hkl hp
      have hpy := fun hp hm => putL_take_yes (p := LineV.seen c) (m := m) hkl hp hm
      have hpn := fun hp hm => putL_take_no (p := LineV.seen c) (m := m) hkl hp hm
      obtain ⟨x, hx⟩ : ∃ x, l[k]'hkl = x := ⟨_, rfl⟩
      rw [hx] at c0 c1 c2 c3 Hx hyes hno hpy hpn
      obtain ⟨x1, x2, x3, x4⟩ := x
      dsimp only at c0 c1 c2 c3
      clear hx
      have HXf := Lib.hid (show 0 ≤ x1 ∧ x1 < 18446744073709551616 from Hx.out)
      obtain ⟨j, hj⟩ : ∃ j, cntL (LineV.seen c) l k = j := ⟨_, rfl⟩
      cases hq : belowN x1.toNat c with
      | true =>
        have hp : LineV.seen c ⟨x1, x2, x3, x4⟩ = true := by simp [LineV.seen, hq]
        have Hcy := Lib.hid (hyes hp)
        have hjM : j < M := by have := Hcy.out; omega
        have hjm : cntL (LineV.seen c) l k < m.length := by rw [HM.out]; omega
        have Hst0 := hpy hp hjm
        obtain rfl := Hxo.out (by omega)
        obtain ⟨d0, d1, d2, d3⟩ := Hxc.out (cntL (LineV.seen c) l k) hjm
        have d0 := cell_kept HB.out d0
        have d1 := cell_kept HB.out d1
        have d2 := cell_kept HB.out d2
        have d3 := cell_kept HB.out d3
        obtain ⟨y, hy⟩ : ∃ y, m[cntL (LineV.seen c) l k]'hjm = y := ⟨_, rfl⟩
        rw [hy] at d0 d1 d2 d3 Hst0
        obtain ⟨y1, y2, y3, y4⟩ := y
        dsimp only at d0 d1 d2 d3
        have Hst := Lib.hid Hst0
        have Hj := Lib.hid hj
        rw [hj] at d0 d1 d2 d3 ⊢
        have hj0 : (0 : Int) ≤ (j : Int) := by omega
        have hj1 : (j : Int) < (M : Int) := by omega
        have Hq := Lib.hid hq
        have hjb : j ≤ 4000000000000 := by have := Hlen.out; have := HN.out; have := HMN.out; omega
        clear hq hp hyes hno hpy hpn hcle hcle2 Hst0 hy hj
        go_wp2_with fail
        refine (refSeen06_any c x1 x2 x3 x4 _ hc HXf.out.1 HXf.out.2).mono ?_
        rintro e w2 ⟨rfl, hb2⟩
        rw [Hq.out]
        have d0 := cell_kept hb2 d0
        have d1 := cell_kept hb2 d1
        have d2 := cell_kept hb2 d2
        have d3 := cell_kept hb2 d3
        have HO2 := Lib.hid (own_kept HO.out hb2)
        have HB2 := Lib.hid (below_join HB.out hb2)
        clear hb2 c0 c1 c2 c3
        have hnew := own_news _ _ _ _ (heap_alloc_new w2 (.cells #[.int .u64 y1, .int .i64 y2, .int .i64 y3, .string y4] 26))
        have hs2 := HB2.out.size
        go_wp2_with (at_builtin; refine wpList_append_own _ rfl _ _ 22 rfl w.heap.size 26 i0 (.agg #[.int .u64 0, .int .i64 0, .int .i64 0, .string ⟨#[]⟩]) 4 40 Try.underlying22 hi hz0 hz1 hz2 rfl (by decide) _ _ _ rfl (HO2.out.alloc _) ⟨w2.heap.size, 0, none⟩ 1 1 [.int .u64 y1, .int .i64 y2, .int .i64 y3, .string y4] rfl rfl hnew (by simp [Value.oneCell']) (by unfold maxLen; omega) (by have := Hlen.out; have := HN.out; omega) (by simp; omega) ?_)
        intro v3 w3 hown3 hgrow3 _
        have HO3 := Lib.hid hown3
        have HB3 := Lib.hid ((HB2.out.alloc HB2.out.size _).grown hgrow3 (by simp; omega) (fun q hq => (HO2.out.lt q hq).1))
        clear hown3 hgrow3 hnew
        go_wp2_with fail
        go_roundw
        case rel =>
          refine ⟨k + 1, by omega, by go_num, by rw [Hcy.out, Hj.out]; go_num, ?_, HB3.out⟩
          rw [Hst.out, flatL_snoc]
          exact HO3.out
        case measure => simp [intOf]; omega
      | false =>
        have hp : ¬ LineV.seen c ⟨x1, x2, x3, x4⟩ = true := by simp [LineV.seen, hq]
        have Hcy := Lib.hid (hno hp)
        have Hst := Lib.hid (hpn hp (by rw [HM.out]; exact hcle))
        have Hq := Lib.hid hq
        clear hq hp hyes hno hpy hpn hcle hcle2 hj
        go_wp2_with fail
        refine (refSeen06_any c x1 x2 x3 x4 _ hc HXf.out.1 HXf.out.2).mono ?_
        rintro e w2 ⟨rfl, hb2⟩
        rw [Hq.out]
        have c0 := cell_kept hb2 c0
        have c1 := cell_kept hb2 c1
        have c2 := cell_kept hb2 c2
        have c3 := cell_kept hb2 c3
        have HO2 := Lib.hid (own_kept HO.out hb2)
        have HB2 := Lib.hid (below_join HB.out hb2)
        clear hb2
        have hnew := own_news _ _ _ _ (heap_alloc_new w2 (.cells #[.int .u64 x1, .int .i64 x2, .int .i64 x3, .string x4] 26))
        have hs2 := HB2.out.size
        go_wp2_with (at_builtin; refine wpList_append_own _ rfl _ _ 22 rfl w.heap.size 26 i0 (.agg #[.int .u64 0, .int .i64 0, .int .i64 0, .string ⟨#[]⟩]) 4 40 Try.underlying22 hi hz0 hz1 hz2 rfl (by decide) _ _ _ rfl (HO2.out.alloc _) ⟨w2.heap.size, 0, none⟩ 1 1 [.int .u64 x1, .int .i64 x2, .int .i64 x3, .string x4] rfl rfl hnew (by simp [Value.oneCell']) (by unfold maxLen; omega) (by have := Hlen.out; have := HN.out; omega) (by simp; omega) ?_)
        intro v3 w3 hown3 hgrow3 _
        have HO3 := Lib.hid hown3
        have HB3 := Lib.hid ((HB2.out.alloc HB2.out.size _).grown hgrow3 (by simp; omega) (fun q hq => (HO2.out.lt q hq).1))
        clear hown3 hgrow3 hnew
        go_wp2_with fail
        go_roundw
        case rel =>
          refine ⟨k + 1, by omega, by go_num, by rw [Hcy.out], ?_, HB3.out⟩
          rw [Hst.out, flatL_snoc]
          exact HO3.out
        case measure => simp [intOf]; omega
    · obtain rfl : k = N := by omega
      go_wp2_with fail
      go_ret2
      have h := HO.out
      have e : cntL (LineV.seen c) l k = M := by unfold cntL; rw [List.take_of_length_le (by rw [HN.out]; exact Nat.le_refl _)]; exact HK.out.symm
      rw [e, List.take_of_length_le (by rw [HN.out]; exact Nat.le_refl _), List.take_of_length_le (by rw [HM.out]; exact Nat.le_refl _)] at h
      refine ⟨HB.out, .inl ⟨by rw [HM.out, HK.out], _, rfl, ?_⟩⟩
      rw [OwnL, putL_len, HN.out]
      exact h
end Go.Proofs.Ytgchcgllpceghaa
