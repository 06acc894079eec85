/- Own work: scrimref06's Seen, Of, Hidden, Places and Texts. -/
import Derived.Test.YtgchcgllpceghaaSeeOf
namespace Go.Proofs.Ytgchcgllpceghaa
open Go.RowKit

theorem pickL_snoc (p : LineV → Bool) (x : LineV) : ∀ (i : Nat) (a : List LineV), pickL p i (a ++ [x]) = pickL p i a ++ if p x then [(i + a.length, x)] else []
  | i, [] => by simp [pickL]
  | i, y :: a => by
    have ih := pickL_snoc p x (i + 1) a
    simp only [List.cons_append, pickL, ih, List.length_cons]
    have e : i + 1 + a.length = i + (a.length + 1) := by omega
    rw [e]
    split <;> simp
theorem pickL_take (p : LineV → Bool) {l : List LineV} {k : Nat} (h : k < l.length) : pickL p 0 (l.take (k + 1)) = pickL p 0 (l.take k) ++ if p (l[k]'h) then [(k, l[k]'h)] else [] := by
  rw [List.take_succ_eq_append_getElem h, pickL_snoc]
  have e : 0 + (l.take k).length = k := by rw [List.length_take]; omega
  rw [e]
theorem pickL_takeLen (p : LineV → Bool) (l : List LineV) (k : Nat) : (pickL p 0 (l.take k)).length ≤ k := Nat.le_trans (pickL_len _ _ _) (by rw [List.length_take]; omega)

set_option maxHeartbeats 1000000 in
theorem refSeen06_any (c : Nat) (x1 x2 x3 : Int) (x4 : ByteArray) (w : World) (hc : c < 18446744073709551616) (h0 : 0 ≤ x1) (h1 : x1 < 18446744073709551616) :
    Calls Try.prog 23 #[.int .u64 c, .agg #[.int .u64 x1, .int .i64 x2, .int .i64 x3, .string x4]] w fun e w' => e = .returned (.bool (belowN x1.toNat c)) ∧ Below w.heap.size w w' := by
  obtain ⟨a, rfl⟩ : ∃ a : Nat, x1 = a := ⟨x1.toNat, by omega⟩
  have ha : a < 18446744073709551616 := by omega
  have Ht : Hid ((a : Int).toNat = a) := Int.toNat_natCast a
  have B0 := Lib.hid ((Below.refl w.heap.size w).alloc (Nat.le_refl _) (.cells #[.int .u64 (a : Int), .int .i64 x2, .int .i64 x3, .string x4] 26))
  go_enter Try.func23, Try.ntmps23
  go_wp2_with fail
  refine (refBelow_any a c _ ha hc).mono ?_
  rintro e w' ⟨rfl, hb⟩
  have B1 := Lib.hid (below_join B0.out hb)
  clear hb
  go_wp2_with fail
  go_ret
  rw [Ht.out]
  exact ⟨rfl, B1.out⟩

set_option maxRecDepth 100000 in
set_option maxHeartbeats 8000000 in
theorem ref06Of_any (u : Value) (l : List LineV) (c : Nat) (w : World) (hu : Lns w u l) (hf : ∀ x ∈ l, x.fine) (hc : c < 18446744073709551616) (hlen : l.length * 40 ≤ 140737488355328) :
    Calls Try.prog 15 #[u, .int .u64 c] w fun e w' => ∃ v, e = .returned v ∧ w'.ownsRow w.heap.size 26 4 v (pickL (LineV.seen c) 0 l).length (flatL ((pickL (LineV.seen c) 0 l).map Prod.snd)) ∧ Below w.heap.size w w' := by
  obtain ⟨i0, hi, hz0, hz1, hz2⟩ := info_parts Try.seenInfo26
  obtain ⟨ao, cap, b, o, rfl, hao, hml, hc4⟩ := hu.form
  unfold maxLen at hml
  obtain ⟨N, hN⟩ : ∃ N, l.length = N := ⟨_, rfl⟩
  have HN := Lib.hid hN
  rw [hN] at hao hml hlen ⊢
  have Hao := Lib.hid hao
  have Hc4 := Lib.hid hc4
  have Hf := Lib.hid hf
  have Hlen := Lib.hid hlen
  clear hu hao hc4 hf hN hlen
  go_enter Try.func15, Try.ntmps15
  go_wp2_with fail
  go_loopw [5, 6] (fun v t wr => ∃ k : Nat, k ≤ N ∧ t = .int .i64 (k : Int) ∧ wr.ownsRow w.heap.size 26 4 v (pickL (LineV.seen c) 0 (l.take k)).length (flatL ((pickL (LineV.seen c) 0 (l.take k)).map Prod.snd)) ∧ Below w.heap.size w wr) (fun _ t _ => N - (intOf t).toNat)
  case atStart => exact ⟨0, Nat.zero_le _, rfl, World.ownsRow_nil _ _ _ _, Below.refl _ _⟩
  case round =>
    obtain ⟨k, hk, rfl, hown, hbw⟩ := hrel
    have HO := Lib.hid hown
    have HB := Lib.hid hbw
    clear hown hbw
    by_cases hlt : k < N
    · have hkl : k < l.length := by rw [HN.out]; exact hlt
      obtain rfl := Hao.out (by omega)
      obtain ⟨c0, c1, c2, c3⟩ := Hc4.out k hkl
      have c0 := cell_kept HB.out c0
      have c1 := cell_kept HB.out c1
      have c2 := cell_kept HB.out c2
      have c3 := cell_kept HB.out c3
      have Hx := Lib.hid (Hf.out _ (List.getElem_mem hkl))
      have Hpt := Lib.hid (pickL_take (LineV.seen c) hkl)
      have Hpl := Lib.hid (pickL_takeLen (LineV.seen c) l k)
      obtain ⟨x, hx⟩ : ∃ x, l[k]'hkl = x := ⟨_, rfl⟩
      rw [hx] at c0 c1 c2 c3 Hx Hpt
      obtain ⟨x1, x2, x3, x4⟩ := x
      dsimp only at c0 c1 c2 c3
      have hi0 : (0 : Int) ≤ (k : Int) := by omega
      have hi1 : (k : Int) < (N : Int) := by omega
      clear hx
      have HXf := Lib.hid (show 0 ≤ x1 ∧ x1 < 18446744073709551616 from Hx.out)
      cases hq : belowN x1.toNat c with
      | true =>
        have Hpt2 := Lib.hid (Hpt.out.trans (by rw [if_pos (show LineV.seen c ⟨x1, x2, x3, x4⟩ = true by simp [LineV.seen, hq])]))
        have Hq := Lib.hid hq
        clear hq
        go_wp2_with fail
        refine (refSeen06_any c x1 x2 x3 x4 _ hc HXf.out.1 HXf.out.2).mono ?_
        rintro e w1 ⟨rfl, hb1⟩
        rw [Hq.out]
        have c0 := cell_kept hb1 c0
        have c1 := cell_kept hb1 c1
        have c2 := cell_kept hb1 c2
        have c3 := cell_kept hb1 c3
        have HO1 := Lib.hid (own_kept HO.out hb1)
        have HB1 := Lib.hid (below_join HB.out hb1)
        clear hb1
        have hnew := own_news _ _ _ _ (heap_alloc_new w1 (.cells #[.int .u64 x1, .int .i64 x2, .int .i64 x3, .string x4] 26))
        have hs1 := HB1.out.size
        go_wp2_with (at_builtin; refine wpList_append_own _ rfl _ _ 22 rfl w.heap.size 26 i0 (.agg #[.int .u64 0, .int .i64 0, .int .i64 0, .string ⟨#[]⟩]) 4 40 Try.underlying22 hi hz0 hz1 hz2 rfl (by decide) _ _ _ rfl (HO1.out.alloc _) ⟨w1.heap.size, 0, none⟩ 1 1 [.int .u64 x1, .int .i64 x2, .int .i64 x3, .string x4] rfl rfl hnew (by simp [Value.oneCell']) (by unfold maxLen; have := Hpl.out; have := Hlen.out; omega) (by have := Hpl.out; have := Hlen.out; omega) (by simp; omega) ?_)
        intro v2 w2 hown2 hgrow2 _
        have HO2 := Lib.hid hown2
        have HB2 := Lib.hid ((HB1.out.alloc HB1.out.size _).grown hgrow2 (by simp; omega) (fun q hq => (HO1.out.lt q hq).1))
        clear hown2 hgrow2 hnew c0 c1 c2 c3
        go_wp2_with fail
        go_roundw
        case rel =>
          refine ⟨k + 1, by omega, by go_num, ?_, HB2.out⟩
          rw [Hpt2.out, List.length_append]
          have e : flatL ((pickL (LineV.seen c) 0 (l.take k) ++ [((k, ⟨x1, x2, x3, x4⟩) : Nat × LineV)]).map Prod.snd) = flatL ((pickL (LineV.seen c) 0 (l.take k)).map Prod.snd) ++ [.int .u64 x1, .int .i64 x2, .int .i64 x3, .string x4] := by simp [flatL, LineV.cells]
          rw [e]
          first | exact HO2.out | (rw [List.map_map]; exact HO2.out)
        case measure => simp [intOf]; omega
      | false =>
        have Hpt2 := Lib.hid (Hpt.out.trans (by rw [if_neg (show ¬ LineV.seen c ⟨x1, x2, x3, x4⟩ = true by simp [LineV.seen, hq]), List.append_nil]))
        have Hq := Lib.hid hq
        clear hq
        go_wp2_with fail
        refine (refSeen06_any c x1 x2 x3 x4 _ hc HXf.out.1 HXf.out.2).mono ?_
        rintro e w1 ⟨rfl, hb1⟩
        rw [Hq.out]
        have HO1 := Lib.hid (own_kept HO.out hb1)
        have HB1 := Lib.hid (below_join HB.out hb1)
        clear hb1 c0 c1 c2 c3
        go_wp2_with fail
        go_roundw
        case rel =>
          refine ⟨k + 1, by omega, by go_num, ?_, HB1.out⟩
          rw [Hpt2.out]
          exact HO1.out
        case measure => simp [intOf]; omega
    · obtain rfl : k = N := by omega
      go_wp2_with fail
      go_ret
      have h := HO.out
      rw [List.take_of_length_le (by rw [HN.out]; exact Nat.le_refl _)] at h
      first | exact ⟨_, rfl, h, HB.out⟩ | (rw [List.map_map] at h; exact ⟨_, rfl, h, HB.out⟩)

set_option maxRecDepth 100000 in
set_option maxHeartbeats 8000000 in
theorem ref06Hidden_any (u : Value) (l : List LineV) (c : Nat) (w : World) (hu : Lns w u l) (hf : ∀ x ∈ l, x.fine) (hc : c < 18446744073709551616) (hlen : l.length * 40 ≤ 140737488355328) :
    Calls Try.prog 16 #[u, .int .u64 c] w fun e w' => ∃ v, e = .returned v ∧ w'.ownsRow w.heap.size 26 4 v (pickL (fun x => !x.seen c) 0 l).length (flatL ((pickL (fun x => !x.seen c) 0 l).map Prod.snd)) ∧ Below w.heap.size w w' := by
  obtain ⟨i0, hi, hz0, hz1, hz2⟩ := info_parts Try.seenInfo26
  obtain ⟨ao, cap, b, o, rfl, hao, hml, hc4⟩ := hu.form
  unfold maxLen at hml
  obtain ⟨N, hN⟩ : ∃ N, l.length = N := ⟨_, rfl⟩
  have HN := Lib.hid hN
  rw [hN] at hao hml hlen ⊢
  have Hao := Lib.hid hao
  have Hc4 := Lib.hid hc4
  have Hf := Lib.hid hf
  have Hlen := Lib.hid hlen
  clear hu hao hc4 hf hN hlen
  go_enter Try.func16, Try.ntmps16
  go_wp2_with fail
  go_loopw [5, 6] (fun v t wr => ∃ k : Nat, k ≤ N ∧ t = .int .i64 (k : Int) ∧ wr.ownsRow w.heap.size 26 4 v (pickL (fun x => !x.seen c) 0 (l.take k)).length (flatL ((pickL (fun x => !x.seen c) 0 (l.take k)).map Prod.snd)) ∧ Below w.heap.size w wr) (fun _ t _ => N - (intOf t).toNat)
  case atStart => exact ⟨0, Nat.zero_le _, rfl, World.ownsRow_nil _ _ _ _, Below.refl _ _⟩
  case round =>
    obtain ⟨k, hk, rfl, hown, hbw⟩ := hrel
    have HO := Lib.hid hown
    have HB := Lib.hid hbw
    clear hown hbw
    by_cases hlt : k < N
    · have hkl : k < l.length := by rw [HN.out]; exact hlt
      obtain rfl := Hao.out (by omega)
      obtain ⟨c0, c1, c2, c3⟩ := Hc4.out k hkl
      have c0 := cell_kept HB.out c0
      have c1 := cell_kept HB.out c1
      have c2 := cell_kept HB.out c2
      have c3 := cell_kept HB.out c3
      have Hx := Lib.hid (Hf.out _ (List.getElem_mem hkl))
      have Hpt := Lib.hid (pickL_take (fun x => !x.seen c) hkl)
      have Hpl := Lib.hid (pickL_takeLen (fun x => !x.seen c) l k)
      obtain ⟨x, hx⟩ : ∃ x, l[k]'hkl = x := ⟨_, rfl⟩
      rw [hx] at c0 c1 c2 c3 Hx Hpt
      obtain ⟨x1, x2, x3, x4⟩ := x
      dsimp only at c0 c1 c2 c3
      have hi0 : (0 : Int) ≤ (k : Int) := by omega
      have hi1 : (k : Int) < (N : Int) := by omega
      clear hx
      have HXf := Lib.hid (show 0 ≤ x1 ∧ x1 < 18446744073709551616 from Hx.out)
      cases hq : belowN x1.toNat c with
      | false =>
        have Hpt2 := Lib.hid (Hpt.out.trans (by rw [if_pos (show (fun x => !LineV.seen c x) ⟨x1, x2, x3, x4⟩ = true by simp [LineV.seen, hq])]))
        have Hq := Lib.hid hq
        clear hq
        go_wp2_with fail
        refine (refSeen06_any c x1 x2 x3 x4 _ hc HXf.out.1 HXf.out.2).mono ?_
        rintro e w1 ⟨rfl, hb1⟩
        rw [Hq.out]
        have c0 := cell_kept hb1 c0
        have c1 := cell_kept hb1 c1
        have c2 := cell_kept hb1 c2
        have c3 := cell_kept hb1 c3
        have HO1 := Lib.hid (own_kept HO.out hb1)
        have HB1 := Lib.hid (below_join HB.out hb1)
        clear hb1
        have hnew := own_news _ _ _ _ (heap_alloc_new w1 (.cells #[.int .u64 x1, .int .i64 x2, .int .i64 x3, .string x4] 26))
        have hs1 := HB1.out.size
        go_wp2_with (at_builtin; refine wpList_append_own _ rfl _ _ 22 rfl w.heap.size 26 i0 (.agg #[.int .u64 0, .int .i64 0, .int .i64 0, .string ⟨#[]⟩]) 4 40 Try.underlying22 hi hz0 hz1 hz2 rfl (by decide) _ _ _ rfl (HO1.out.alloc _) ⟨w1.heap.size, 0, none⟩ 1 1 [.int .u64 x1, .int .i64 x2, .int .i64 x3, .string x4] rfl rfl hnew (by simp [Value.oneCell']) (by unfold maxLen; have := Hpl.out; have := Hlen.out; omega) (by have := Hpl.out; have := Hlen.out; omega) (by simp; omega) ?_)
        intro v2 w2 hown2 hgrow2 _
        have HO2 := Lib.hid hown2
        have HB2 := Lib.hid ((HB1.out.alloc HB1.out.size _).grown hgrow2 (by simp; omega) (fun q hq => (HO1.out.lt q hq).1))
        clear hown2 hgrow2 hnew c0 c1 c2 c3
        go_wp2_with fail
        go_roundw
        case rel =>
          refine ⟨k + 1, by omega, by go_num, ?_, HB2.out⟩
          rw [Hpt2.out, List.length_append]
          have e : flatL ((pickL (fun x => !x.seen c) 0 (l.take k) ++ [((k, ⟨x1, x2, x3, x4⟩) : Nat × LineV)]).map Prod.snd) = flatL ((pickL (fun x => !x.seen c) 0 (l.take k)).map Prod.snd) ++ [.int .u64 x1, .int .i64 x2, .int .i64 x3, .string x4] := by simp [flatL, LineV.cells]
          rw [e]
          first | exact HO2.out | (rw [List.map_map]; exact HO2.out)
        case measure => simp [intOf]; omega
      | true =>
        have Hpt2 := Lib.hid (Hpt.out.trans (by rw [if_neg (show ¬ (fun x => !LineV.seen c x) ⟨x1, x2, x3, x4⟩ = true by simp [LineV.seen, hq]), List.append_nil]))
        have Hq := Lib.hid hq
        clear hq
        go_wp2_with fail
        refine (refSeen06_any c x1 x2 x3 x4 _ hc HXf.out.1 HXf.out.2).mono ?_
        rintro e w1 ⟨rfl, hb1⟩
        rw [Hq.out]
        have HO1 := Lib.hid (own_kept HO.out hb1)
        have HB1 := Lib.hid (below_join HB.out hb1)
        clear hb1 c0 c1 c2 c3
        go_wp2_with fail
        go_roundw
        case rel =>
          refine ⟨k + 1, by omega, by go_num, ?_, HB1.out⟩
          rw [Hpt2.out]
          exact HO1.out
        case measure => simp [intOf]; omega
    · obtain rfl : k = N := by omega
      go_wp2_with fail
      go_ret
      have h := HO.out
      rw [List.take_of_length_le (by rw [HN.out]; exact Nat.le_refl _)] at h
      first | exact ⟨_, rfl, h, HB.out⟩ | (rw [List.map_map] at h; exact ⟨_, rfl, h, HB.out⟩)

set_option maxRecDepth 100000 in
set_option maxHeartbeats 8000000 in
theorem ref06Places_any (u : Value) (l : List LineV) (c : Nat) (w : World) (hu : Lns w u l) (hf : ∀ x ∈ l, x.fine) (hc : c < 18446744073709551616) (hlen : l.length * 40 ≤ 140737488355328) :
    Calls Try.prog 17 #[u, .int .u64 c] w fun e w' => ∃ v, e = .returned v ∧ w'.ownsRow w.heap.size 3 1 v (pickL (LineV.seen c) 0 l).length (((pickL (LineV.seen c) 0 l).map fun q => (q.1 : Int)).map (Value.int .i64)) ∧ Below w.heap.size w w' := by
  obtain ⟨i0, hi, hz0, hz1, hz2⟩ := info_parts Try.seenInfo3
  obtain ⟨ao, cap, b, o, rfl, hao, hml, hc4⟩ := hu.form
  unfold maxLen at hml
  obtain ⟨N, hN⟩ : ∃ N, l.length = N := ⟨_, rfl⟩
  have HN := Lib.hid hN
  rw [hN] at hao hml hlen ⊢
  have Hao := Lib.hid hao
  have Hc4 := Lib.hid hc4
  have Hf := Lib.hid hf
  have Hlen := Lib.hid hlen
  clear hu hao hc4 hf hN hlen
  go_enter Try.func17, Try.ntmps17
  go_wp2_with fail
  go_loopw [5, 6] (fun v t wr => ∃ k : Nat, k ≤ N ∧ t = .int .i64 (k : Int) ∧ wr.ownsRow w.heap.size 3 1 v (pickL (LineV.seen c) 0 (l.take k)).length (((pickL (LineV.seen c) 0 (l.take k)).map fun q => (q.1 : Int)).map (Value.int .i64)) ∧ Below w.heap.size w wr) (fun _ t _ => N - (intOf t).toNat)
  case atStart => exact ⟨0, Nat.zero_le _, rfl, World.ownsRow_nil _ _ _ _, Below.refl _ _⟩
  case round =>
    obtain ⟨k, hk, rfl, hown, hbw⟩ := hrel
    have HO := Lib.hid hown
    have HB := Lib.hid hbw
    clear hown hbw
    by_cases hlt : k < N
    · have hkl : k < l.length := by rw [HN.out]; exact hlt
      obtain rfl := Hao.out (by omega)
      obtain ⟨c0, c1, c2, c3⟩ := Hc4.out k hkl
      have c0 := cell_kept HB.out c0
      have c1 := cell_kept HB.out c1
      have c2 := cell_kept HB.out c2
      have c3 := cell_kept HB.out c3
      have Hx := Lib.hid (Hf.out _ (List.getElem_mem hkl))
      have Hpt := Lib.hid (pickL_take (LineV.seen c) hkl)
      have Hpl := Lib.hid (pickL_takeLen (LineV.seen c) l k)
      obtain ⟨x, hx⟩ : ∃ x, l[k]'hkl = x := ⟨_, rfl⟩
      rw [hx] at c0 c1 c2 c3 Hx Hpt
      obtain ⟨x1, x2, x3, x4⟩ := x
      dsimp only at c0 c1 c2 c3
      have hi0 : (0 : Int) ≤ (k : Int) := by omega
      have hi1 : (k : Int) < (N : Int) := by omega
      clear hx
      have HXf := Lib.hid (show 0 ≤ x1 ∧ x1 < 18446744073709551616 from Hx.out)
      cases hq : belowN x1.toNat c with
      | true =>
        have Hpt2 := Lib.hid (Hpt.out.trans (by rw [if_pos (show LineV.seen c ⟨x1, x2, x3, x4⟩ = true by simp [LineV.seen, hq])]))
        have Hq := Lib.hid hq
        clear hq
        go_wp2_with fail
        refine (refSeen06_any c x1 x2 x3 x4 _ hc HXf.out.1 HXf.out.2).mono ?_
        rintro e w1 ⟨rfl, hb1⟩
        rw [Hq.out]
        have c0 := cell_kept hb1 c0
        have c1 := cell_kept hb1 c1
        have c2 := cell_kept hb1 c2
        have c3 := cell_kept hb1 c3
        have HO1 := Lib.hid (own_kept HO.out hb1)
        have HB1 := Lib.hid (below_join HB.out hb1)
        clear hb1
        have hnew := own_news _ _ _ _ (heap_alloc_new w1 (.cells #[.int .i64 (k : Int)] 3))
        have hs1 := HB1.out.size
        go_wp2_with (at_builtin; refine wpList_append_own _ rfl _ _ 28 rfl w.heap.size 3 i0 (.int .i64 0) 1 8 Try.underlying28 hi hz0 hz1 hz2 rfl (by decide) _ _ _ rfl (HO1.out.alloc _) ⟨w1.heap.size, 0, none⟩ 1 1 [.int .i64 (k : Int)] rfl rfl hnew (by simp [Value.oneCell']) (by unfold maxLen; have := Hpl.out; have := Hlen.out; omega) (by have := Hpl.out; have := Hlen.out; omega) (by simp; omega) ?_)
        intro v2 w2 hown2 hgrow2 _
        have HO2 := Lib.hid hown2
        have HB2 := Lib.hid ((HB1.out.alloc HB1.out.size _).grown hgrow2 (by simp; omega) (fun q hq => (HO1.out.lt q hq).1))
        clear hown2 hgrow2 hnew c0 c1 c2 c3
        go_wp2_with fail
        go_roundw
        case rel =>
          refine ⟨k + 1, by omega, by go_num, ?_, HB2.out⟩
          rw [Hpt2.out, List.length_append]
          have e : ((pickL (LineV.seen c) 0 (l.take k) ++ [((k, ⟨x1, x2, x3, x4⟩) : Nat × LineV)]).map fun q => (q.1 : Int)).map (Value.int .i64) = ((pickL (LineV.seen c) 0 (l.take k)).map fun q => (q.1 : Int)).map (Value.int .i64) ++ [.int .i64 (k : Int)] := by simp []
          rw [e]
          first | exact HO2.out | (rw [List.map_map]; exact HO2.out)
        case measure => simp [intOf]; omega
      | false =>
        have Hpt2 := Lib.hid (Hpt.out.trans (by rw [if_neg (show ¬ LineV.seen c ⟨x1, x2, x3, x4⟩ = true by simp [LineV.seen, hq]), List.append_nil]))
        have Hq := Lib.hid hq
        clear hq
        go_wp2_with fail
        refine (refSeen06_any c x1 x2 x3 x4 _ hc HXf.out.1 HXf.out.2).mono ?_
        rintro e w1 ⟨rfl, hb1⟩
        rw [Hq.out]
        have HO1 := Lib.hid (own_kept HO.out hb1)
        have HB1 := Lib.hid (below_join HB.out hb1)
        clear hb1 c0 c1 c2 c3
        go_wp2_with fail
        go_roundw
        case rel =>
          refine ⟨k + 1, by omega, by go_num, ?_, HB1.out⟩
          rw [Hpt2.out]
          exact HO1.out
        case measure => simp [intOf]; omega
    · obtain rfl : k = N := by omega
      go_wp2_with fail
      go_ret
      have h := HO.out
      rw [List.take_of_length_le (by rw [HN.out]; exact Nat.le_refl _)] at h
      first | exact ⟨_, rfl, h, HB.out⟩ | (rw [List.map_map] at h; exact ⟨_, rfl, h, HB.out⟩)

set_option maxRecDepth 100000 in
set_option maxHeartbeats 8000000 in
theorem ref06Texts_any (u : Value) (l : List LineV) (w : World) (hu : Lns w u l) (hf : ∀ x ∈ l, x.fine) (hlen : l.length * 40 ≤ 140737488355328) :
    Calls Try.prog 21 #[u] w fun e w' => ∃ v, e = .returned v ∧ w'.ownsRow w.heap.size 9 1 v (pickL (fun _ => true) 0 l).length (((pickL (fun _ => true) 0 l).map fun q => q.2.text).map Value.string) ∧ Below w.heap.size w w' := by
  obtain ⟨i0, hi, hz0, hz1, hz2⟩ := info_parts Try.seenInfo9
  obtain ⟨ao, cap, b, o, rfl, hao, hml, hc4⟩ := hu.form
  unfold maxLen at hml
  obtain ⟨N, hN⟩ : ∃ N, l.length = N := ⟨_, rfl⟩
  have HN := Lib.hid hN
  rw [hN] at hao hml hlen ⊢
  have Hao := Lib.hid hao
  have Hc4 := Lib.hid hc4
  have Hf := Lib.hid hf
  have Hlen := Lib.hid hlen
  clear hu hao hc4 hf hN hlen
  go_enter Try.func21, Try.ntmps21
  go_wp2_with fail
  go_loopw [3, 4] (fun v t wr => ∃ k : Nat, k ≤ N ∧ t = .int .i64 (k : Int) ∧ wr.ownsRow w.heap.size 9 1 v (pickL (fun _ => true) 0 (l.take k)).length (((pickL (fun _ => true) 0 (l.take k)).map fun q => q.2.text).map Value.string) ∧ Below w.heap.size w wr) (fun _ t _ => N - (intOf t).toNat)
  case atStart => exact ⟨0, Nat.zero_le _, rfl, World.ownsRow_nil _ _ _ _, Below.refl _ _⟩
  case round =>
    obtain ⟨k, hk, rfl, hown, hbw⟩ := hrel
    have HO := Lib.hid hown
    have HB := Lib.hid hbw
    clear hown hbw
    by_cases hlt : k < N
    · have hkl : k < l.length := by rw [HN.out]; exact hlt
      obtain rfl := Hao.out (by omega)
      obtain ⟨c0, c1, c2, c3⟩ := Hc4.out k hkl
      have c0 := cell_kept HB.out c0
      have c1 := cell_kept HB.out c1
      have c2 := cell_kept HB.out c2
      have c3 := cell_kept HB.out c3
      have Hx := Lib.hid (Hf.out _ (List.getElem_mem hkl))
      have Hpt := Lib.hid (pickL_take (fun _ => true) hkl)
      have Hpl := Lib.hid (pickL_takeLen (fun _ => true) l k)
      obtain ⟨x, hx⟩ : ∃ x, l[k]'hkl = x := ⟨_, rfl⟩
      rw [hx] at c0 c1 c2 c3 Hx Hpt
      obtain ⟨x1, x2, x3, x4⟩ := x
      dsimp only at c0 c1 c2 c3
      have hi0 : (0 : Int) ≤ (k : Int) := by omega
      have hi1 : (k : Int) < (N : Int) := by omega
      clear hx
      have Hpt2 := Lib.hid (Hpt.out.trans (by rw [if_pos rfl]))
      have HO1 := HO
      have HB1 := HB
      have hnew := own_news _ _ _ _ (heap_alloc_new wr (.cells #[.string x4] 9))
      have hs1 := HB1.out.size
      go_wp2_with (at_builtin; refine wpList_append_own _ rfl _ _ 30 rfl w.heap.size 9 i0 (.string ⟨#[]⟩) 1 16 Try.underlying30 hi hz0 hz1 hz2 rfl (by decide) _ _ _ rfl (HO1.out.alloc _) ⟨wr.heap.size, 0, none⟩ 1 1 [.string x4] rfl rfl hnew (by simp [Value.oneCell']) (by unfold maxLen; have := Hpl.out; have := Hlen.out; omega) (by have := Hpl.out; have := Hlen.out; omega) (by simp; omega) ?_)
      intro v2 w2 hown2 hgrow2 _
      have HO2 := Lib.hid hown2
      have HB2 := Lib.hid ((HB1.out.alloc HB1.out.size _).grown hgrow2 (by simp; omega) (fun q hq => (HO1.out.lt q hq).1))
      clear hown2 hgrow2 hnew c0 c1 c2 c3
      go_wp2_with fail
      go_roundw
      case rel =>
        refine ⟨k + 1, by omega, by go_num, ?_, HB2.out⟩
        rw [Hpt2.out, List.length_append]
        have e : ((pickL (fun _ => true) 0 (l.take k) ++ [((k, ⟨x1, x2, x3, x4⟩) : Nat × LineV)]).map fun q => q.2.text).map Value.string = ((pickL (fun _ => true) 0 (l.take k)).map fun q => q.2.text).map Value.string ++ [.string x4] := by simp []
        rw [e]
        first | exact HO2.out | (rw [List.map_map]; exact HO2.out)
      case measure => simp [intOf]; omega
    · obtain rfl : k = N := by omega
      go_wp2_with fail
      go_ret
      have h := HO.out
      rw [List.take_of_length_le (by rw [HN.out]; exact Nat.le_refl _)] at h
      first | exact ⟨_, rfl, h, HB.out⟩ | (rw [List.map_map] at h; exact ⟨_, rfl, h, HB.out⟩)
end Go.Proofs.Ytgchcgllpceghaa
