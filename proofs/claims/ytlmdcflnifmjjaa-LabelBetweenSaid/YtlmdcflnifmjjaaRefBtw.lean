import Derived.Test.YtlmdcflnifmjjaaHiB
import Derived.Test.YtlmdcflnifmjjaaBtwMath
import Derived.Test.YtlmdcflnifmjjaaRefList
import Derived.Test.YtlmdcflnifmjjaaSetD
namespace Go.Proofs.Ytlmdcflnifmjjaa
open Go.RowKit Go.Shelf Go.Sort

/-- the first t labels between -/
def firstB (a f t : Nat) : List Nat := (List.range t).map fun i => a + spread 64 f i
theorem firstB_succ (a f t : Nat) : firstB a f (t + 1) = firstB a f t ++ [a + spread 64 f t] := by
  rw [firstB, List.range_succ, List.map_append]; rfl
theorem firstB_at {a f t i : Nat} (h : i < t) : (firstB a f t)[i]? = some (a + spread 64 f i) := by
  rw [firstB, List.getElem?_map, List.getElem?_range h]; rfl
def RefBtwPost (w : World) (a b : Nat) (e : Ending) (w' : World) : Prop :=
  Below w.heap.size w w' ∧ ((16 < countN (lessN b a) ∧ e = .returned (.tuple #[.slice none 0 0, .int .i64 1])) ∨
    (countN (lessN b a) ≤ 16 ∧ ∃ (v : Value) (hs : List L64), e = .returned (.tuple #[v, .int .i64 0]) ∧ hs.map Subtype.val = btw a b ∧ w'.ownsRow w.heap.size 25 1 v hs.length (valsL hs)))
theorem ofA_one {p : Nat} (h : p < 64) : ofA [(p : Int)] = 2 ^ p ∧ ofE [(p : Int)] = 0 := by
  have e : okL [(p : Int)] = true := by simp [okL, okC]; omega
  rw [ofA, ofE, e]
  refine ⟨?_, rfl⟩
  simp [ofN, addC]

set_option maxRecDepth 100000 in
set_option maxHeartbeats 16000000 in
theorem refBtw_any (a b : Nat) (w : World) (ha : a < 18446744073709551616) (hb : b < 18446744073709551616) :
    Calls Try.prog 10 #[.int .u64 a, .int .u64 b] w (RefBtwPost w a b) := by
  obtain ⟨i0, hi, hz0, hz1, hz2⟩ := info_parts Try.info25
  have hl := lessN_lt b a hb
  have Hcn : Hid ((listN (lessN b a)).length = countN (lessN b a)) := rfl
  have hle := countN_le (lessN b a)
  obtain ⟨f, hf⟩ : ∃ f, lessN b a = f := ⟨_, rfl⟩
  have Hf := Lib.hid hf
  rw [hf] at hl Hcn hle
  clear hf
  go_enter Try.func10, Try.ntmps10
  go_wp2_with fail
  refine (refBoth3_any b a _ hb ha).mono ?_
  rintro e w1 ⟨rfl, hb1⟩
  rw [Hf.out]
  have B1 := Lib.hid hb1
  clear hb1
  go_wp2_with fail
  refine (refList_any f _ hl).mono ?_
  rintro e w2 ⟨fv, rfl, hfv, hb2⟩
  have B2 := Lib.hid (below_join B1.out hb2)
  obtain ⟨fo, fc, fb, fof, rfl, hfo, _, hfcell⟩ := (Nums.of_own hfv).form
  have hfl : (intsOf (listN f)).length = countN f := by rw [intsOf_len]; exact Hcn.out
  have hfcap : countN f ≤ fc ∧ fc ≤ maxLen := by
    rcases hfv.2 with ⟨hv, h0⟩ | ⟨g', cap', cur, hv, _, _, hnc, hcm, _⟩
    · rw [Value.slice.injEq] at hv
      obtain ⟨_, _, rfl⟩ := hv
      exact ⟨by omega, Nat.zero_le _⟩
    · rw [Value.slice.injEq] at hv
      obtain ⟨_, _, rfl⟩ := hv
      exact ⟨hnc, hcm⟩
  obtain ⟨hfcap, hfm⟩ := hfcap
  rw [hfl] at hfo ⊢
  obtain ⟨C, hC⟩ : ∃ C, countN f = C := ⟨_, rfl⟩
  rw [hC] at hfo hfcap hle ⊢
  have HC := Lib.hid hC
  have Hfo := Lib.hid hfo
  have Hfl := Lib.hid hfl
  have Hfcell := Lib.hid hfcell
  clear hfv hb2 hfo hfl hfcell hC
  by_cases h16 : 16 < C
  · have H16 : Hid (16 < countN (lessN b a)) := by show _ < _; rw [Hf.out, HC.out]; exact h16
    have h16' : (16 : Int) < (C : Int) := by omega
    go_wp2_with fail
    go_ret2
    exact ⟨B2.out, .inl ⟨H16.out, rfl⟩⟩
  · have H16 : Hid (countN (lessN b a) ≤ 16) := by show _ ≤ _; rw [Hf.out, HC.out]; omega
    have h16' : (C : Int) ≤ 16 := by omega
    go_wp2_with fail
    refine (refBelow_any a b _ ha hb).mono ?_
    rintro e w3 ⟨rfl, hb3⟩
    have B3 := Lib.hid (below_join B2.out hb3)
    have B23 := Lib.hid hb3
    clear hb3
    cases hab : belowN a b
    · have Hn : Hid (btw a b = []) := by
        show _ = _
        rw [btw, if_neg (fun e => by rw [belowN, e] at hab; cases hab)]
      clear hab
      go_wp2_with fail
      go_ret2
      exact ⟨B3.out, .inr ⟨H16.out, _, [], rfl, Hn.out.symm, World.ownsRow_nil _ _ _ _⟩⟩
    · have hab0 : lessN a b = 0 := by simpa [belowN] using hab
      have Hbtw : Hid (btw a b = firstB a f (2 ^ C)) := by
        show _ = _
        rw [btw, if_pos hab0, Hf.out, HC.out]; rfl
      have hsum : ∀ i, a + spread 64 f i < 18446744073709551616 := by
        intro i
        have h1 := or_add ha (Nat.lt_of_le_of_lt (spread_le 64 f i) hl) fun k hk => by
          have := spread_sub _ _ _ k hk
          rw [← Hf.out, lessN_bit, Bool.and_eq_true] at this
          simpa using this.2
        rw [← h1]
        exact Nat.or_lt_two_pow (n := 64) ha (Nat.lt_of_le_of_lt (spread_le 64 f i) hl)
      have Hsum := Lib.hid hsum
      have Hz : Hid (spread 64 f 0 = 0) := spread_zero 64 f
      have Hbit := Lib.hid (spread_bit 64 f)
      have Ho := Lib.hid (World.ownsRow_lit (e := 25) (size := 1) w3 #[.int .u64 (a : Int)] 1 (Nat.le_refl w3.heap.size) (by decide) rfl)
      have B4 := Lib.hid (B3.out.alloc B3.out.size (.cells #[.int .u64 (a : Int)] 25))
      have B34 := Lib.hid ((Below.refl w3.heap.size w3).alloc (Nat.le_refl _) (.cells #[.int .u64 (a : Int)] 25))
      clear hab hab0 hsum
      go_wp2_with fail
      go_loopw [7, 8] (fun v i wr => ∃ (i' : Nat) (hs : List L64), i' ≤ C ∧ i = .int .i64 i' ∧ Hid (hs.map Subtype.val = firstB a f (2 ^ i')) ∧ wr.ownsRow w3.heap.size 25 1 v hs.length (valsL hs) ∧ Below w3.heap.size w3 wr) (fun _ i _ => C - (intOf i).toNat)
      case atStart =>
        refine ⟨0, [⟨a, ha⟩], Nat.zero_le _, rfl, ?_, Ho.out, B34.out⟩
        show _ = _
        rw [Nat.pow_zero, firstB_succ, Hz.out]; rfl
      case round =>
        obtain ⟨i, hs, hiC, rfl, Hhs, hown, hbw⟩ := hrel
        have Hown := Lib.hid hown
        have Hbw := Lib.hid hbw
        clear hown hbw
        by_cases hlt : i < C
        · obtain rfl := Hfo.out (by omega)
          have hil : i < (listN f).length := by have h1 := Hcn.out; have h2 := HC.out; omega
          obtain ⟨p, hp⟩ : ∃ p, (listN f)[i]'hil = p := ⟨_, rfl⟩
          have hp64 : p < 64 := by rw [← hp]; exact (listTo_mem.1 (List.getElem_mem hil)).1
          have hpi : (listTo f 64)[i]? = some p := by
            have := List.getElem?_eq_getElem hil
            rw [hp] at this
            exact this
          have cp : w2.cell? ⟨fb, fof + i, none⟩ = some (.int .i64 (p : Int)) := by
            rw [Hfcell.out i (by rw [intsOf_len]; exact hil)]
            simp [intsOf, hp]
          have Hbi : Hid (∀ k, k < 2 ^ i → a + spread 64 f (2 ^ i + k) = a + spread 64 f k + 2 ^ p) := fun k hk => by
            rw [Nat.add_comm (2 ^ i) k, Hbit.out i k p hpi hk]; omega
          have Hone := Lib.hid (ofA_one hp64)
          have hil0 : (0 : Int) ≤ (i : Int) := by omega
          have hil1 : (i : Int) ≤ (i : Int) + 1 := by omega
          have hil2 : (i : Int) + 1 ≤ (fc : Int) := by omega
          have hP : 2 ^ i ≤ 65536 := Nat.le_trans (Nat.pow_le_pow_right (by decide) (by omega : i ≤ 16)) (by decide)
          have Hcp := Lib.hid (cell_kept Hbw.out (cell_kept B23.out cp))
          have hhl : hs.length = 2 ^ i := by
            have h := congrArg List.length Hhs.out
            rw [List.length_map, firstB, List.length_map, List.length_range] at h
            exact h
          obtain ⟨P, hPe⟩ : ∃ P, 2 ^ i = P := ⟨_, rfl⟩
          rw [hPe] at hP hhl Hbi Hhs
          have HP := Lib.hid hPe
          have Hhl := Lib.hid hhl
          clear hp hpi cp hhl hPe hil
          go_wp2_with fail
          have Hnums : Hid (Nums .i64 wr (.slice (some ⟨fb, fof + i, none⟩) 1 (fc - i)) [(p : Int)]) :=
            .inr ⟨fb, fof + i, fc - i, rfl, by simp, by simp; omega, by omega, fun j hj => by
              have hj0 : j = 0 := by simp at hj; omega
              subst hj0
              exact Hcp.out⟩
          refine (refOf_any _ [(p : Int)] _ Hnums.out).mono ?_
          rintro e w5 ⟨rfl, hb5⟩
          rw [Hone.out.1, Hone.out.2]
          have B5 := Lib.hid (below_join Hbw.out hb5)
          have Hown5 := Lib.hid (own_kept Hown.out hb5)
          obtain ⟨q, hq⟩ : ∃ q, 2 ^ p = q := ⟨_, rfl⟩
          rw [hq] at Hbi ⊢
          have h1 := Hown5.out
          rw [Hhl.out] at h1
          obtain ⟨vo, vc, hvv⟩ : ∃ vo vc, u7 = .slice vo P vc := by
            rcases Joins.ownsRow_forms h1 with ⟨hv, h0⟩ | ⟨g', cap', hv⟩
            · exact ⟨none, 0, by rw [hv, h0]⟩
            · exact ⟨_, _, hv⟩
          subst hvv
          have H1 := Lib.hid h1
          clear hb5 hq h1
          go_wp2_with fail
          obtain ⟨wo, rfl⟩ : ∃ wo : World, wo = wr := ⟨_, rfl⟩
          go_loopw [7, 12] (fun v k wr => ∃ (m : Nat) (ks : List L64), m ≤ P ∧ k = .int .i64 m ∧ Hid (ks.map Subtype.val = firstB a f (P + m)) ∧ wr.ownsRow w3.heap.size 25 1 v (P + m) (valsL ks) ∧ Below w3.heap.size w3 wr) (fun _ k _ => P - (intOf k).toNat)
          case atStart => exact ⟨0, hs, Nat.zero_le _, rfl, Hhs, H1.out, B5.out⟩
          case round =>
            obtain ⟨m, ks, hm, rfl, Hks, hown, hbq⟩ := hrel
            have Hownq := Lib.hid hown
            have Hbq := Lib.hid hbq
            clear hown hbq
            by_cases hmt : m < P
            · obtain ⟨kg, kc, hkf⟩ := Joins.ownsRow_form Hownq.out (by omega)
              subst hkf
              have hkl : ks.length = P + m := by
                have h := congrArg List.length Hks.out
                rw [List.length_map, firstB, List.length_map, List.length_range] at h
                exact h
              have hat : (valsL ks)[m]? = some (.int .u64 ((a + spread 64 f m : Nat) : Int)) := by
                have h := firstB_at (a := a) (f := f) (show m < P + m by omega)
                rw [← Hks.out, List.getElem?_map, Option.map_eq_some_iff] at h
                obtain ⟨y, hy, hy2⟩ := h
                rw [valsL, List.getElem?_map, hy, ← hy2]; rfl
              have c1 := (Hownq.out.cellAt m (by omega)).trans hat
              have Hnx := Lib.hid (firstB_succ a f (P + m))
              have hbm := Hbi.out m hmt
              have hs1 := Hsum.out m
              have hs2 := Hsum.out (P + m)
              rw [hbm] at Hnx hs2
              obtain ⟨y, hy⟩ : ∃ y, a + spread 64 f m = y := ⟨_, rfl⟩
              rw [hy] at c1 hs1 hs2 Hnx
              have hs3 : (y : Int) + (q : Int) ≤ 18446744073709551615 := by omega
              have hm0 : (0 : Int) ≤ (m : Int) := by omega
              have hm1 : (m : Int) < (P : Int) + (m : Int) := by omega
              have hkc : P + m ≤ kc := by
                rcases Hownq.out.2 with ⟨hv, _⟩ | ⟨g', cap', cur, hv, _, _, hnc, _⟩
                · cases hv
                · cases hv; exact hnc
              have e0 : (y : Int) + (q : Int) = ((y + q : Nat) : Int) := by omega
              have E0 := Lib.hid e0
              clear hbm hy hat e0 hkl
              go_wp2_with (at_builtin; refine wpList_append_own _ rfl _ _ 23 rfl w3.heap.size 25 i0 (.int .u64 0) 1 8 Try.underlying23 hi hz0 hz1 hz2 rfl (by decide) _ _ _ rfl (Hownq.out.alloc _) ⟨wr.heap.size, 0, none⟩ 1 1 [.int .u64 ((y : Int) + (q : Int))] rfl rfl (one_cellL _ _ _) (one_listL _ rfl) (by unfold maxLen; omega) (by omega) (Nat.le_trans Hbq.out.size (by simp)) ?_)
              intro v3 wz hown3 hgrow3 _
              have Bz := Lib.hid ((Hbq.out.alloc Hbq.out.size _).grown hgrow3 (Nat.le_trans Hbq.out.size (by simp)) (fun q hq => (Hownq.out.lt q hq).1))
              have Ho3 := Lib.hid hown3
              clear hown3 hgrow3
              go_wp2_with fail
              go_roundw
              case rel =>
                refine ⟨m + 1, ks ++ [⟨y + q, hs2⟩], by omega, by go_num, ?_, ?_, Bz.out⟩
                · show _ = _
                  rw [List.map_append, Hks.out, ← Nat.add_assoc, Hnx.out]; rfl
                · have e : valsL (ks ++ [⟨y + q, hs2⟩]) = valsL ks ++ [.int .u64 ((y : Int) + (q : Int))] := by rw [E0.out]; simp [valsL, encL]
                  rw [e]
                  exact Ho3.out
              case measure => simp [intOf]; omega
            · obtain rfl : m = P := by omega
              have Hkl : Hid (ks.length = m + m) := by
                show _ = _
                have h := congrArg List.length Hks.out
                rw [List.length_map, firstB, List.length_map, List.length_range] at h
                exact h
              go_wp2_with fail
              go_roundw
              case rel =>
                refine ⟨i + 1, ks, by omega, by go_num, ?_, by rw [Hkl.out]; exact Hownq.out, Hbq.out⟩
                show _ = _
                rw [Hks.out, Nat.pow_succ, HP.out, Nat.mul_two]
              case measure => simp [intOf]; omega
        · obtain rfl : i = C := by omega
          go_wp2_with fail
          go_ret2
          exact ⟨below_join B3.out Hbw.out, .inr ⟨H16.out, _, hs, rfl, by rw [Hhs.out, Hbtw.out], own_base Hown.out B3.out.size⟩⟩
end Go.Proofs.Ytlmdcflnifmjjaa
