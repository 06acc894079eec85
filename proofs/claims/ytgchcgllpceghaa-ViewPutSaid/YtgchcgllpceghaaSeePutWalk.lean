/- Own work: ViewPut's walk. -/
import Derived.Test.YtgchcgllpceghaaSeePut2
namespace Go.Proofs.Ytgchcgllpceghaa
open Go.RowKit

/-- the line as the statement turns it: its label c, its text with a sign behind it -/
def bang (c : Nat) (x : LineV) : LineV := ⟨c, x.num, x.rev, x.text ++ ⟨#[33]⟩⟩
theorem bang_seen (c : Nat) (l : List LineV) : ∀ x ∈ l.map (bang c), LineV.seen c x = true := by
  intro x hx
  obtain ⟨y, _, rfl⟩ := List.mem_map.1 hx
  show belowN (Int.toNat (c : Int)) c = true
  rw [Int.toNat_natCast]
  exact below_self c
theorem bang_fine {c : Nat} (hc : c < 18446744073709551616) (l : List LineV) : ∀ x ∈ l.map (bang c), x.fine := by
  intro x hx
  obtain ⟨y, _, rfl⟩ := List.mem_map.1 hx
  show 0 ≤ (c : Int) ∧ (c : Int) < 18446744073709551616
  omega
theorem putL_fine {p : LineV → Bool} : ∀ {l m : List LineV}, (∀ x ∈ l, x.fine) → (∀ x ∈ m, x.fine) → ∀ x ∈ putL p l m, x.fine
  | [], _, _, _, x, hx => by simp [putL] at hx
  | z :: r, [], hl, hm, x, hx => by
    rw [putL_nil] at hx
    exact hl x hx
  | z :: r, y :: m, hl, hm, x, hx => by
    by_cases hp : p z = true
    · rw [putL_yes hp] at hx
      rcases List.mem_cons.1 hx with rfl | hx
      · exact hm _ (by simp)
      · exact putL_fine (fun x hx => hl x (by simp [hx])) (fun x hx => hm x (by simp [hx])) x hx
    · rw [putL_no hp] at hx
      rcases List.mem_cons.1 hx with rfl | hx
      · exact hl _ (by simp)
      · exact putL_fine (fun x hx => hl x (by simp [hx])) hm x hx
theorem flatL_bang : ∀ (l : List LineV) (k : Nat) (c : Nat) (h : k < l.length),
    ((flatL l).set (k * 4 + 3) (.string ((l[k]'h).text ++ ⟨#[33]⟩))).set (k * 4) (.int .u64 (c : Int)) = flatL (l.set k (bang c (l[k]'h)))
  | [], _, _, h => by simp at h
  | x :: r, 0, c, _ => rfl
  | x :: r, k + 1, c, h => by
    have ih := flatL_bang r k c (by simpa using h)
    have e : flatL (x :: r) = x.cells ++ flatL r := rfl
    have e2 : flatL ((x :: r).set (k + 1) (bang c ((x :: r)[k + 1]'h))) = x.cells ++ flatL (r.set k (bang c (r[k]'(by simpa using h)))) := rfl
    have e3 : (x :: r)[k + 1]'h = r[k]'(by simpa using h) := rfl
    have sr : ∀ (t : List Value) (j : Nat) (v : Value), (x.cells ++ t).set (j + 4) v = x.cells ++ t.set j v := fun _ _ _ => rfl
    rw [e2, e3, e, ← ih, show (k + 1) * 4 = k * 4 + 4 by omega, show k * 4 + 4 + 3 = k * 4 + 3 + 4 by omega, sr, sr]
theorem bang_step (c : Nat) {l : List LineV} {k : Nat} (h : k < l.length) :
    ∃ h2 : k < ((l.take k).map (bang c) ++ l.drop k).length, ((l.take k).map (bang c) ++ l.drop k)[k]'h2 = l[k]'h ∧
      ((l.take k).map (bang c) ++ l.drop k).set k (bang c (l[k]'h)) = (l.take (k + 1)).map (bang c) ++ l.drop (k + 1) := by
  have hl : ((l.take k).map (bang c)).length = k := by simp; omega
  refine ⟨by simp; omega, ?_, ?_⟩
  · rw [List.getElem_append_right (by omega), List.getElem_drop]
    congr 1
    rw [hl]
    omega
  · rw [List.set_append_right _ _ (by omega), hl, Nat.sub_self, List.take_succ_eq_append_getElem h, List.map_append, List.append_assoc]
    congr 1
    rw [List.drop_eq_getElem_cons h]
    rfl

set_option maxRecDepth 100000 in
set_option maxHeartbeats 16000000 in
theorem putLaw_walk (u : Value) (l : List LineV) (c : Nat) (w : World) (hu : Lns w u l) (hform : SliceForm u) (hf : ∀ x ∈ l, x.fine) (ht : ∀ x ∈ l, x.text.size ≤ 140737488351232) (hc : c < 18446744073709551616) (hlen : l.length * 40 ≤ 140737488351232) :
    Calls Try.prog 10 #[u, .int .u64 c] w fun e w' => e = .returned (.bool true) ∧ Below w.heap.size w w' := by
  have Hu := Lib.hid hu
  have Hf := Lib.hid hf
  have Ht := Lib.hid ht
  have Hform := Lib.hid hform
  have Hlen : Hid (l.length * 40 ≤ 140737488355328) := by show _ ≤ _; omega
  have Hc := Lib.hid hc
  clear hu hf ht hform hlen hc
  go_enter Try.func10, Try.ntmps10
  go_wp2_with fail
  refine (awake06_any _).mono ?_
  rintro e w1 ⟨rfl, hb1⟩
  have B1 := Lib.hid hb1
  clear hb1
  go_wp2_with fail
  refine (of_any u l c _ (Hu.out.kept B1.out) Hf.out Hc.out Hlen.out).mono ?_
  rintro e w2 ⟨v, rfl, hv, hb2⟩
  have B2 := Lib.hid (below_join B1.out hb2)
  have HV := Lib.hid hv.lns
  have HVF := Lib.hid (SliceForm.of_own hv)
  clear hb2 hv
  go_wp2_with fail
  refine (put_any u v l _ c _ (Hu.out.kept B2.out) HV.out Hf.out Hc.out Hform.out Hlen.out).mono ?_
  rintro e w3 ⟨hb3, ⟨_, x, rfl, hx⟩ | ⟨hne, _⟩⟩
  rotate_left
  · exact absurd rfl hne
  rw [putL_self] at hx
  have B3 := Lib.hid (below_join B2.out hb3)
  have HV3 := Lib.hid (HV.out.kept hb3)
  have HX3 := Lib.hid hx.lns
  clear hb3 hx
  go_wp2_with fail
  refine (lines06_any _ _ _ _ _ HX3.out (Hu.out.kept B3.out)).mono ?_
  rintro e w4 ⟨rfl, hb4⟩
  rw [decide_eq_true rfl]
  have B4 := Lib.hid (below_join B3.out hb4)
  have HV4 := Lib.hid (HV3.out.kept hb4)
  clear hb4 HV HV3 HX3
  have hal : Below w4.heap.size w4 (w4.alloc (.cells #[] 26)) := (Below.refl _ _).alloc (Nat.le_refl _) _
  obtain ⟨L, hL⟩ : ∃ L, l.filter (LineV.seen c) = L := ⟨_, rfl⟩
  have HL := Lib.hid hL
  rw [hL] at HV4
  have hLl : L.length * 40 ≤ 140737488355328 := by rw [← hL]; exact len_filter Hlen.out
  have HLl := Lib.hid hLl
  clear hL hLl
  go_wp2_with (at_builtin; (refine wpList_append_lines rfl _ _ rfl w4.heap.size _ 0 [] rfl (own_empty4 (heap_alloc_new w4 _) (Nat.le_refl _)) _ L rfl (HV4.out.kept hal) HVF.out (by have := HLl.out; omega) (by simp) ?_; intro v1 w5 hown1 hg1))
  have B5 := Lib.hid (hal.grown hg1 (by simp) (fun q hq => by cases hq; exact Nat.le_refl _))
  rw [Nat.zero_add, List.nil_append] at hown1
  obtain ⟨N, hN⟩ : ∃ N, L.length = N := ⟨_, rfl⟩
  have HN := Lib.hid hN
  rw [hN] at hown1
  obtain ⟨vo, vc, rfl, hvo⟩ := own_slice hown1
  have Hown1 := Lib.hid hown1
  have Hvo := Lib.hid hvo
  clear hown1 hg1 hal hN hvo
  go_wp2_with fail
  go_loopw [10] (fun i wr => ∃ k : Nat, k ≤ N ∧ i = .int .i64 (k : Int) ∧ wr.ownsRow w4.heap.size 26 4 (.slice vo N vc) N (flatL ((L.take k).map (bang c) ++ L.drop k)) ∧ Below w4.heap.size w4 wr) (fun i _ => N - (intOf i).toNat)
  case atStart => exact ⟨0, Nat.zero_le _, rfl, Hown1.out, B5.out⟩
  case round =>
    obtain ⟨k, hk, rfl, hown, hbw⟩ := hrel
    have HO := Lib.hid hown
    have HB := Lib.hid hbw
    clear hown hbw
    by_cases hlt : k < N
    · have hkL : k < L.length := by rw [HN.out]; exact hlt
      obtain ⟨g, rfl⟩ := Hvo.out (by omega)
      obtain ⟨hk2, he, hst⟩ := bang_step c hkL
      have hset := flatL_bang _ k c hk2
      rw [he, hst] at hset
      obtain ⟨z0, z1, z2, z3⟩ := flatL_get _ k hk2
      rw [he] at z0 z1 z2 z3
      have hsz : (L[k]'hkL).text.size ≤ 140737488351232 := by
        have hm : L[k]'hkL ∈ l.filter (LineV.seen c) := by rw [HL.out]; exact List.getElem_mem hkL
        exact Ht.out _ (List.mem_filter.1 hm).1
      obtain ⟨x, hx⟩ : ∃ x, L[k]'hkL = x := ⟨_, rfl⟩
      rw [hx] at z0 z1 z2 z3 hset hsz
      obtain ⟨x1, x2, x3, x4⟩ := x
      dsimp only at z0 z1 z2 z3 hset hsz
      have d0 := (HO.out.cellAt (k * 4) (by omega)).trans z0
      have d3 := (HO.out.cellAt (k * 4 + 3) (by omega)).trans z3
      have f0 := own_frozen HO.out (k * 4)
      have f3 := own_frozen HO.out (k * 4 + 3)
      have HS := Lib.hid (own_setCell (own_setCell HO.out (j := k * 4 + 3) (.string (x4 ++ ⟨#[33]⟩))) (j := k * 4) (.int .u64 (c : Int)))
      rw [hset] at HS
      have HG := Lib.hid (HB.out.grown (grown_step (grown_setCell wr g (k * 4 + 3) (.string (x4 ++ ⟨#[33]⟩))) (grown_setCell _ g (k * 4) (.int .u64 (c : Int))) (fun _ h => .inl h)) HB.out.size (fun q hq => (HO.out.lt q hq).1))
      have hi0 : (0 : Int) ≤ (k : Int) := by omega
      have hi1 : (k : Int) < (N : Int) := by omega
      have hNb : N < 9223372036854775807 := by have := HN.out; have := HLl.out; omega
      clear z0 z1 z2 z3 hset he hst hx
      go_wp2_with fail
      have hs2 := HS.out
      go_roundw
      case rel => exact ⟨k + 1, by omega, by go_num, hs2, HG.out⟩
      case measure => simp [intOf]; omega
    · obtain rfl : k = N := by omega
      have hown := HO.out
      rw [List.take_of_length_le (by rw [HN.out]; exact Nat.le_refl _), List.drop_eq_nil_of_le (by rw [HN.out]; exact Nat.le_refl _), List.append_nil] at hown
      have HW := Lib.hid (Lns.of_own (ls := L.map (bang c)) (by rw [List.length_map, HN.out]; exact hown))
      have Hcnt : Hid ((L.map (bang c)).length = (l.filter (LineV.seen c)).length) := by show _ = _; rw [List.length_map, HL.out]
      have B6 := Lib.hid (below_join B4.out HB.out)
      clear hown
      go_wp2_with fail
      refine (put_any u _ l (L.map (bang c)) c _ (Hu.out.kept B6.out) HW.out Hf.out Hc.out Hform.out Hlen.out).mono ?_
      rintro e w7 ⟨hb7, ⟨_, y, rfl, hy⟩ | ⟨hne, _⟩⟩
      rotate_left
      · exact absurd Hcnt.out hne
      have B7 := Lib.hid (below_join B6.out hb7)
      have HW7 := Lib.hid (HW.out.kept hb7)
      have HY7 := Lib.hid hy.lns
      have HYf := Lib.hid (putL_fine (p := LineV.seen c) Hf.out (bang_fine Hc.out L))
      have HYl : Hid ((putL (LineV.seen c) l (L.map (bang c))).length * 40 ≤ 140737488355328) := by show _ ≤ _; rw [putL_len]; exact Hlen.out
      have HYs := Lib.hid (putL_seen (LineV.seen c) l _ Hcnt.out (bang_seen c L))
      have HYh := Lib.hid (putL_hidden (LineV.seen c) l _ Hcnt.out (bang_seen c L))
      clear hb7 hy
      go_wp2_with fail
      refine (of_any y _ c _ HY7.out HYf.out Hc.out HYl.out).mono ?_
      rintro e w8 ⟨a, rfl, ha, hb8⟩
      rw [HYs.out] at ha
      have B8 := Lib.hid (below_join B7.out hb8)
      have HW8 := Lib.hid (HW7.out.kept hb8)
      have HY8 := Lib.hid (HY7.out.kept hb8)
      have HA := Lib.hid ha.lns
      clear hb8 ha
      go_wp2_with fail
      refine (lines06_any _ _ _ _ _ HA.out HW8.out).mono ?_
      rintro e w9 ⟨rfl, hb9⟩
      rw [decide_eq_true rfl]
      have B9 := Lib.hid (below_join B8.out hb9)
      have HY9 := Lib.hid (HY8.out.kept hb9)
      clear hb9
      go_wp2_with fail
      refine (hidden_any y _ c _ HY9.out HYf.out Hc.out HYl.out).mono ?_
      rintro e w10 ⟨p, rfl, hp, hb10⟩
      rw [HYh.out] at hp
      have B10 := Lib.hid (below_join B9.out hb10)
      have HP := Lib.hid hp.lns
      clear hb10 hp
      go_wp2_with fail
      refine (hidden_any u l c _ (Hu.out.kept B10.out) Hf.out Hc.out Hlen.out).mono ?_
      rintro e w11 ⟨q, rfl, hq, hb11⟩
      have B11 := Lib.hid (below_join B10.out hb11)
      have HP11 := Lib.hid (HP.out.kept hb11)
      have HQ := Lib.hid hq.lns
      clear hb11 hq
      go_wp2_with fail
      refine (lines06_any _ _ _ _ _ HP11.out HQ.out).mono ?_
      rintro e w12 ⟨rfl, hb12⟩
      rw [decide_eq_true rfl]
      have B12 := Lib.hid (below_join B11.out hb12)
      clear hb12
      go_wp2_with fail
      go_ret
      exact ⟨rfl, B12.out⟩
end Go.Proofs.Ytgchcgllpceghaa
