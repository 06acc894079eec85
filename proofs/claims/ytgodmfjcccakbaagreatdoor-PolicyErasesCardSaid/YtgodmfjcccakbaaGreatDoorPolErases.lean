/- Own work: the walk of PolicyErases. -/
import Derived.Test.YtgodmfjcccakbaaGreatDoorPolBack
namespace Go.Proofs.YtgodmfjcccakbaaGreatDoor
open Go.RowKit Go.Maps Go.Shelf Num

theorem erase_erase (vs : List Vw) (c d : Nat) : eraseV (eraseV vs c) d = eraseV vs (c &&& d) := by
  rw [eraseV, eraseV, List.filter_filter]
  apply List.filter_congr
  intro v _
  rw [Bool.eq_iff_iff, Bool.and_eq_true]
  exact ⟨fun ⟨h1, h2⟩ => below_and h2 h1, fun h => ⟨below_trans h (below_and_r c d), below_trans h (below_and_l c d)⟩⟩
theorem clr_erase {vs : List Vw} (ho : Once vs) {v : Vw} (hv : v ∈ vs) (c : Nat) : clrV (eraseV vs c) v.nm.data.toList = if belowN v.lab c = true then (v.lab, 0) else (0, 160) := by
  by_cases h : belowN v.lab c = true
  · rw [if_pos h, clrV]
    have hm : v ∈ eraseV vs c := List.mem_filter.2 ⟨hv, h⟩
    cases hf : findV (eraseV vs c) v.nm.data.toList with
    | none => exact absurd rfl (findV_none hf v hm)
    | some x =>
      obtain ⟨hx, hk⟩ := findV_some hf
      have : x = v := once_eq ho (List.mem_filter.1 hx).1 hv hk
      rw [this]
  · rw [if_neg h, clrV]
    cases hf : findV (eraseV vs c) v.nm.data.toList with
    | none => rfl
    | some x =>
      obtain ⟨hx, hk⟩ := findV_some hf
      have hx' := List.mem_filter.1 hx
      have : x = v := once_eq ho hx'.1 hv hk
      rw [this] at hx'
      exact absurd hx'.2 h
theorem has_filter {vs : List Vw} (ho : Once vs) {v : Vw} (hv : v ∈ vs) (f : Vw → Bool) : hasB ((vs.filter f).map Vw.nm) v.nm = f v := by
  cases h : f v with
  | true =>
    rw [hasB, List.any_eq_true]
    exact ⟨v.nm, List.mem_map.2 ⟨v, List.mem_filter.2 ⟨hv, h⟩, rfl⟩, decide_eq_true rfl⟩
  | false =>
    rw [hasB, List.any_eq_false]
    intro s hs
    obtain ⟨x, hx, rfl⟩ := List.mem_map.1 hs
    have hx' := List.mem_filter.1 hx
    intro e
    have e' := of_decide_eq_true e
    have : x = v := once_eq ho hx'.1 hv (by rw [Vw.key, Vw.key, e'])
    rw [this, h] at hx'
    exact absurd hx'.2 (by simp)
theorem has_below {vs : List Vw} (ho : Once vs) {v : Vw} (hv : v ∈ vs) (c : Nat) : hasB ((eraseV vs c).map Vw.nm) v.nm = belowN v.lab c := has_filter ho hv fun x => belowN x.lab c
theorem has_above {vs : List Vw} (ho : Once vs) {v : Vw} (hv : v ∈ vs) (c : Nat) : hasB ((aboveV vs c).map Vw.nm) v.nm = belowN c v.lab := has_filter ho hv fun x => belowN c x.lab

/-- the next operation of a region that draws its order, its value unnamed -/
theorem take_ex {P : Program} {md : Region.Mode} {ops : Array Oper} {Q : Exit → Act → World → Prop} {S : World → Prop} {i : Nat} {oi : Oper} {fuel : Nat} {listed : Array Bool} {a : Act} {w : World} (hi : ops[i]? = some oi)
    (hs : Region.noSelect ops = true) (hf : Region.free md ops listed i = true) (hr : (Region.ready md ops listed).contains i = true)
    (hQ : ∀ c a w v, Q (.panic c) (a.put oi.dst v) w → Q (.panic c) a w) (hS : S w)
    (h : ∃ v, YieldsIf P ops S oi v a ∧ wpAnyH P md ops Q S fuel (listed.setIfInBounds i true) (a.put oi.dst v) w) : wpAnyH P md ops Q S (fuel + 1) listed a w := by
  obtain ⟨v, hy, h⟩ := h
  exact wpAnyH_take hi hs hf hr (fun c a w => hQ c a w v) hy hS h

set_option maxHeartbeats 100000000 in
set_option maxRecDepth 100000 in
theorem erases_walk (u : Value) (ls : List Nat) (c d : Nat) (w : World) (hu : Nums .u64 w u (intsOf ls)) (hl : ∀ x ∈ ls, x < 18446744073709551616) (hc : c < 18446744073709551616) (hd : d < 18446744073709551616) (hM : MaxL w) (hE : ErrVars w) (hT : Deb w) :
    Calls Tryz.prog 7 #[u, .int .u64 c, .int .u64 d] w fun e w' => e = .returned (.bool true) ∧ Below w.heap.size w w' := by
  have HM := Lib.hid hM
  have HE := Lib.hid hE
  have HT := Lib.hid hT
  have Hu := Lib.hid hu
  have Hl := Lib.hid hl
  have hcd : c &&& d < 18446744073709551616 := Nat.lt_of_le_of_lt Nat.and_le_left hc
  have hcd2 : c ||| d < 18446744073709551616 := Nat.or_lt_two_pow (n := 64) hc hd
  have hband := bits_and_u64_nat c d hc hd
  have hbor := bits_or_u64_nat c d hc hd
  clear hM hE hT hu hl
  go_enter Tryz.func7, Tryz.ntmps7
  go_wp2_with fail
  refine (works_any _ HM.out HE.out HT.out).mono ?_
  rintro e w1 ⟨rfl, hb⟩
  have B1 := Lib.hid hb
  clear hb
  go_wp2_with fail
  refine (fit_any u ls _ (Hu.out.kept B1.out)).mono ?_
  rintro e w2 ⟨v, n, rfl, _, _, hn64, hown, hb⟩
  have B2 := Lib.hid (below_join B1.out hb)
  obtain ⟨vs, hvs⟩ : ∃ vs, fitV ls n = vs := ⟨_, rfl⟩
  have Hok := Lib.hid (show polOk vs by rw [← hvs]; exact fit_ok hn64)
  have Hfit := Lib.hid (show Fits vs by rw [← hvs]; exact fit_fits Hl.out)
  have hlen : vs.length = n := by rw [← hvs]; exact fitV_len ls n
  rw [hvs] at hown
  have Hlen := Lib.hid hlen
  have hvws := Vws.of_own (by rw [hlen]; exact hown)
  have Hvws := Lib.hid hvws
  obtain ⟨ao, cap, b, o, rfl, hao, hml, hcc⟩ := hvws.form
  rw [hlen] at hao Hvws ⊢
  have Hao := Lib.hid hao
  have Hc := Lib.hid hcc
  clear hb hvs hown hlen hml hao hcc hvws
  go_wp2_with fail
  refine (new_any _ vs _ Hvws.out Hfit.out).mono ?_
  rintro e w3 ⟨hb, ⟨hno, _⟩ | ⟨_, p, rfl, hp⟩⟩
  · exact absurd Hok.out hno
  obtain ⟨bp, rfl⟩ := ptr_of hp
  have B23 := Lib.hid hb
  have B3 := Lib.hid (below_join B2.out hb)
  obtain ⟨ss, hss⟩ : ∃ ss, sortV vs = ss := ⟨_, rfl⟩
  have Hmem := Lib.hid (show ∀ x ∈ vs, x ∈ ss by intro x hx; rw [← hss]; exact (sortV_perm vs).mem_iff.2 hx)
  rw [hss] at hp
  have Hon := Lib.hid hp.facts.2.1.2.2
  have Hp := Lib.hid hp
  clear hb hp hss
  go_wp2_with fail
  refine (eraseM_any _ ss c _ Hp.out hc).mono ?_
  rintro e w4 ⟨q, rfl, hq, hb⟩
  obtain ⟨bq, rfl⟩ := ptr_of hq
  have B24 := Lib.hid (below_join B23.out hb)
  have B4 := Lib.hid (below_join B3.out hb)
  have Hp4 := Lib.hid (Hp.out.kept hb)
  have Hq4 := Lib.hid hq
  clear hb hq
  go_wp2_with fail
  refine (eraseM_any _ _ d _ Hq4.out hd).mono ?_
  rintro e w5 ⟨r, rfl, hr, hb⟩
  obtain ⟨br, rfl⟩ := ptr_of hr
  rw [erase_erase] at hr
  have B25 := Lib.hid (below_join B24.out hb)
  have B5 := Lib.hid (below_join B4.out hb)
  have Hp5 := Lib.hid (Hp4.out.kept hb)
  have Hq5 := Lib.hid (Hq4.out.kept hb)
  have Hr5 := Lib.hid hr
  clear hb hr
  go_wp2_with fail
  refine (eraseM_any _ ss (c &&& d) _ Hp5.out hcd).mono ?_
  rintro e w6 ⟨t, rfl, ht, hb⟩
  obtain ⟨bt, rfl⟩ := ptr_of ht
  have B26 := Lib.hid (below_join B25.out hb)
  have B6 := Lib.hid (below_join B5.out hb)
  have Hp6 := Lib.hid (Hp5.out.kept hb)
  have Hq6 := Lib.hid (Hq5.out.kept hb)
  have Hr6 := Lib.hid (Hr5.out.kept hb)
  have Ht6 := Lib.hid ht
  clear hb ht
  go_wp2_with fail
  refine (viewers_any _ _ _ Hr6.out).mono ?_
  rintro e w7 ⟨u7, rfl, hown7, hb⟩
  have B27 := Lib.hid (below_join B26.out hb)
  have B7 := Lib.hid (below_join B6.out hb)
  have Hp7 := Lib.hid (Hp6.out.kept hb)
  have Hq7 := Lib.hid (Hq6.out.kept hb)
  have Ht7 := Lib.hid (Ht6.out.kept hb)
  have Hv7 := Lib.hid (Vws.of_own hown7)
  clear hb hown7
  go_wp2_with fail
  refine (viewers_any _ _ _ Ht7.out).mono ?_
  rintro e w8 ⟨u8, rfl, hown8, hb⟩
  have B28 := Lib.hid (below_join B27.out hb)
  have B8 := Lib.hid (below_join B7.out hb)
  have Hp8 := Lib.hid (Hp7.out.kept hb)
  have Hq8 := Lib.hid (Hq7.out.kept hb)
  have Hv78 := Lib.hid (Hv7.out.kept hb)
  have Hv8 := Lib.hid (Vws.of_own hown8)
  clear hb hown8
  go_wp2_with fail
  refine (same_any _ _ _ _ Hv78.out Hv8.out).mono ?_
  rintro e w9 ⟨rfl, hb⟩
  have B29 := Lib.hid (below_join B28.out hb)
  have B9 := Lib.hid (below_join B8.out hb)
  have Hp9 := Lib.hid (Hp8.out.kept hb)
  have Hq9 := Lib.hid (Hq8.out.kept hb)
  clear hb
  go_wp2_with fail
  refine (viewers_any _ _ _ Hq9.out).mono ?_
  rintro e w10 ⟨u10, rfl, hown10, hb⟩
  have B210 := Lib.hid (below_join B29.out hb)
  have B10 := Lib.hid (below_join B9.out hb)
  have Hp10 := Lib.hid (Hp9.out.kept hb)
  have Hq10 := Lib.hid (Hq9.out.kept hb)
  obtain ⟨vo, vc, rfl⟩ := (Vws.of_own hown10).slice
  clear hb hown10
  go_wp2_with fail
  refine (belowM_any _ ss c _ Hp10.out hc).mono ?_
  rintro e w11 ⟨u11, rfl, htx, hb⟩
  have B211 := Lib.hid (below_join B210.out hb)
  have B11 := Lib.hid (below_join B10.out hb)
  have Hp11 := Lib.hid (Hp10.out.kept hb)
  have Hq11 := Lib.hid (Hq10.out.kept hb)
  obtain ⟨xo, xc, _, _, rfl, _⟩ := htx.form
  rw [List.length_map]
  have hee : (((eraseV ss c).length : Int) != ((eraseV ss c).length : Int)) = false := by simp
  clear hb htx
  go_wp2_with fail
  clear hee
  go_loopw [13] (fun i wr => ∃ k : Nat, k ≤ n ∧ i = .int .i64 k ∧ Below w11.heap.size w11 wr) (fun i _ => n - (intOf i).toNat)
  case atStart => exact ⟨0, Nat.zero_le _, rfl, Below.refl _ _⟩
  case round =>
    obtain ⟨k, hk, rfl, hbw⟩ := hrel
    have Hbw := Lib.hid hbw
    clear hbw
    by_cases hlt : k < n
    · obtain rfl := Hao.out (by omega)
      have hkv : k < vs.length := by rw [Hlen.out]; exact hlt
      have B2w := Lib.hid (below_join B211.out Hbw.out)
      obtain ⟨c0, c1⟩ := Hc.out k hkv
      have c0 := cell_kept B2w.out c0
      have c1 := cell_kept B2w.out c1
      obtain ⟨x, hx⟩ : ∃ x, vs[k]'hkv = x := ⟨_, rfl⟩
      have hxm : x ∈ vs := by rw [← hx]; exact List.getElem_mem hkv
      rw [hx] at c0 c1
      have Hxs := Lib.hid (Hmem.out x hxm)
      obtain ⟨ha, hns⟩ := Hfit.out x hxm
      have Hclr := Lib.hid (clr_erase Hon.out Hxs.out c)
      have Hhb := Lib.hid (fun e => has_below Hon.out Hxs.out e)
      have Hha := Lib.hid (fun e => has_above Hon.out Hxs.out e)
      obtain ⟨xn, a⟩ := x
      simp only at c0 c1 ha hns
      have hi0 : (0 : Int) ≤ (k : Int) := by omega
      have hi1 : (k : Int) < (n : Int) := by omega
      have hA := bits_andNot_u64_nat a c ha hc
      have hB := bits_andNot_u64_nat c a hc ha
      obtain ⟨bca, hbca⟩ : ∃ t, belowN c a = t := ⟨_, rfl⟩
      have Hbca := Lib.hid hbca
      have hB0 : (((lessN c a : Nat) : Int) == 0) = bca := by rw [cast_zero]; exact hbca
      have Hc0 := Lib.hid c0
      have Hc1 := Lib.hid c1
      have Bw := Lib.hid (below_join B11.out Hbw.out)
      have Hpw := Lib.hid (Hp11.out.kept Hbw.out)
      have Hqw := Lib.hid (Hq11.out.kept Hbw.out)
      clear hx hxm hbca
      obtain ⟨left, hac⟩ : ∃ t, belowN a c = t := ⟨_, rfl⟩
      have Hac := Lib.hid hac
      have hA0 : (((lessN a c : Nat) : Int) == 0) = left := by rw [cast_zero]; exact hac
      have V1 := Lib.hid (show hasB ((eraseV ss c).map Vw.nm) xn = left from (Hhb.out c).trans hac)
      have V2 := Lib.hid (show hasB ((aboveV ss c).map Vw.nm) xn = bca from (Hha.out c).trans Hbca.out)
      have V3 := Lib.hid (show hasB ((eraseV ss a).map Vw.nm) xn = true from (Hhb.out a).trans (below_self a))
      have V4 := Lib.hid (show hasB ((aboveV ss a).map Vw.nm) xn = true from (Hha.out a).trans (below_self a))
      have Hcl := Lib.hid (show clrV (eraseV ss c) xn.data.toList = if left = true then (a, 0) else (0, 160) by rw [Hclr.out]; simp only [hac])
      clear hac
      cases left
      all_goals
        as_aux_lemma =>
          have hcl := Hcl.out
          simp only [Bool.false_eq_true, if_true, if_false] at hcl
          have Hcl2 := Lib.hid hcl
          clear hcl Hcl
          go_wp2_with fail
          refine (clearance_any _ _ xn _ Hqw.out hns).mono ?_
          rintro e w' ⟨rfl, rfl⟩
          rw [Hcl2.out]
          go_wp2_with fail
          refine wp_region_held_drew (S := fun w' => w'.cell? ⟨b, o + k * 2, none⟩ = some (.string xn) ∧ w'.cell? ⟨b, o + k * 2 + 1, none⟩ = some (.int .u64 (a : Int)) ∧ Hid (Pol w' (.pointer (some ⟨bp, 0, none⟩)) ss) ∧ Below w11.heap.size w11 w') (by kernel_rfl) ?_ (fun hH0 => ?_)
          · exact ⟨Hc0.out, Hc1.out, Hpw.out, Hbw.out.drew⟩
          refine take_ex (i := 0) (oi := { dst := some 97, op := Op.move (Operand.tmp 16), type := 26, pos := "outright.go:115", after := #[], guard := none }) rfl (by kernel_rfl) (by kernel_rfl) (by kernel_rfl) (fun _ _ _ _ h => h) (by assumption) ?_
          apply Exists.intro
          apply And.intro
          · (refine Or.inl ⟨by rfl, ?_⟩; intro w hSw; (try dsimp only at hSw); go_simp; try (with_reducible rfl))
          try simp only [Act.put, List.setIfInBounds_toArray, List.set_cons_zero, List.set_cons_succ]
          refine take_ex (i := 1) (oi := { dst := some 98, op := Op.binOp BinOp.eql 26 (Operand.tmp 97) (Operand.const (Value.int IntKind.i64 0)) 26, type := 4, pos := "outright.go:115", after := #[{ on := 0, ground := Ground.data }], guard := none }) rfl (by kernel_rfl) (by kernel_rfl) (by kernel_rfl) (fun _ _ _ _ h => h) (by assumption) ?_
          apply Exists.intro
          apply And.intro
          · (refine Or.inl ⟨by rfl, ?_⟩; intro w hSw; (try dsimp only at hSw); go_simp; try (with_reducible rfl))
          try simp only [Act.put, List.setIfInBounds_toArray, List.set_cons_zero, List.set_cons_succ]
          refine take_ex (i := 2) (oi := { dst := some 99, op := Op.move (Operand.tmp 17), type := 4, pos := "outright.go:115", after := #[], guard := none }) rfl (by kernel_rfl) (by kernel_rfl) (by kernel_rfl) (fun _ _ _ _ h => h) (by assumption) ?_
          apply Exists.intro
          apply And.intro
          · (refine Or.inl ⟨by rfl, ?_⟩; intro w hSw; (try dsimp only at hSw); go_simp; try (with_reducible rfl))
          try simp only [Act.put, List.setIfInBounds_toArray, List.set_cons_zero, List.set_cons_succ]
          refine take_ex (i := 3) (oi := { dst := some 100, op := Op.binOp BinOp.neq 4 (Operand.tmp 98) (Operand.tmp 99) 4, type := 4, pos := "outright.go:115", after := #[{ on := 1, ground := Ground.data }, { on := 2, ground := Ground.data }], guard := none }) rfl (by kernel_rfl) (by kernel_rfl) (by kernel_rfl) (fun _ _ _ _ h => h) (by assumption) ?_
          apply Exists.intro
          apply And.intro
          · (refine Or.inl ⟨by rfl, ?_⟩; intro w hSw; (try dsimp only at hSw); go_simp; try (with_reducible rfl))
          try simp only [Act.put, List.setIfInBounds_toArray, List.set_cons_zero, List.set_cons_succ]
          refine take_ex (i := 4) (oi := { dst := some 101, op := Op.move (Operand.tmp 100), type := 4, pos := "outright.go:115", after := #[{ on := 3, ground := Ground.data }], guard := none }) rfl (by kernel_rfl) (by kernel_rfl) (by kernel_rfl) (fun _ _ _ _ h => h) (by assumption) ?_
          apply Exists.intro
          apply And.intro
          · (refine Or.inl ⟨by rfl, ?_⟩; intro w hSw; (try dsimp only at hSw); go_simp; try (with_reducible rfl))
          try simp only [Act.put, List.setIfInBounds_toArray, List.set_cons_zero, List.set_cons_succ]
          refine take_ex (i := 5) (oi := { dst := some 102, op := Op.move (Operand.tmp 17), type := 4, pos := "outright.go:115", after := #[{ on := 4, ground := Ground.guard }], guard := some (4, false) }) rfl (by kernel_rfl) (by kernel_rfl) (by kernel_rfl) (fun _ _ _ _ h => h) (by assumption) ?_
          apply Exists.intro
          apply And.intro
          · (refine Or.inl ⟨by rfl, ?_⟩; intro w hSw; (try dsimp only at hSw); go_simp; try (with_reducible rfl))
          try simp only [Act.put, List.setIfInBounds_toArray, List.set_cons_zero, List.set_cons_succ]
          refine take_ex (i := 6) (oi := { dst := some 103, op := Op.move (Operand.tmp 102), type := 4, pos := "outright.go:115", after := #[{ on := 5, ground := Ground.data }, { on := 4, ground := Ground.chain }, { on := 4, ground := Ground.guard }], guard := some (4, false) }) rfl (by kernel_rfl) (by kernel_rfl) (by kernel_rfl) (fun _ _ _ _ h => h) (by assumption) ?_
          apply Exists.intro
          apply And.intro
          · (refine Or.inl ⟨by rfl, ?_⟩; intro w hSw; (try dsimp only at hSw); go_simp; try (with_reducible rfl))
          try simp only [Act.put, List.setIfInBounds_toArray, List.set_cons_zero, List.set_cons_succ]
          first
            | (refine wpAnyH_take (i := 7) (oi := { dst := some 104, op := Op.move (Operand.tmp 15), type := 25, pos := "outright.go:115", after := #[{ on := 6, ground := Ground.guard }], guard := some (6, true) }) (v := undef) rfl (by kernel_rfl) (by kernel_rfl) (by kernel_rfl) (fun _ _ _ h => h) (Or.inr ⟨by rfl, rfl⟩) (by assumption) ?_
               try simp only [Act.put, List.setIfInBounds_toArray, List.set_cons_zero, List.set_cons_succ])
            | (refine take_ex (i := 7) (oi := { dst := some 104, op := Op.move (Operand.tmp 15), type := 25, pos := "outright.go:115", after := #[{ on := 6, ground := Ground.guard }], guard := some (6, true) }) rfl (by kernel_rfl) (by kernel_rfl) (by kernel_rfl) (fun _ _ _ _ h => h) (by assumption) ?_
               apply Exists.intro
               apply And.intro
               · (refine Or.inl ⟨by rfl, ?_⟩; intro w hSw; (try dsimp only at hSw); go_simp; try (with_reducible rfl))
               try simp only [Act.put, List.setIfInBounds_toArray, List.set_cons_zero, List.set_cons_succ])
          first
            | (refine wpAnyH_take (i := 8) (oi := { dst := some 105, op := Op.move (Operand.tmp 14), type := 25, pos := "outright.go:115", after := #[{ on := 6, ground := Ground.guard }], guard := some (6, true) }) (v := undef) rfl (by kernel_rfl) (by kernel_rfl) (by kernel_rfl) (fun _ _ _ h => h) (Or.inr ⟨by rfl, rfl⟩) (by assumption) ?_
               try simp only [Act.put, List.setIfInBounds_toArray, List.set_cons_zero, List.set_cons_succ])
            | (refine take_ex (i := 8) (oi := { dst := some 105, op := Op.move (Operand.tmp 14), type := 25, pos := "outright.go:115", after := #[{ on := 6, ground := Ground.guard }], guard := some (6, true) }) rfl (by kernel_rfl) (by kernel_rfl) (by kernel_rfl) (fun _ _ _ _ h => h) (by assumption) ?_
               apply Exists.intro
               apply And.intro
               · (refine Or.inl ⟨by rfl, ?_⟩; intro w hSw; (try dsimp only at hSw); go_simp; try (with_reducible rfl))
               try simp only [Act.put, List.setIfInBounds_toArray, List.set_cons_zero, List.set_cons_succ])
          first
            | (refine wpAnyH_take (i := 9) (oi := { dst := some 106, op := Op.binOp BinOp.neq 25 (Operand.tmp 104) (Operand.tmp 105) 25, type := 4, pos := "outright.go:115", after := #[{ on := 7, ground := Ground.data }, { on := 8, ground := Ground.data }, { on := 6, ground := Ground.guard }], guard := some (6, true) }) (v := undef) rfl (by kernel_rfl) (by kernel_rfl) (by kernel_rfl) (fun _ _ _ h => h) (Or.inr ⟨by rfl, rfl⟩) (by assumption) ?_
               try simp only [Act.put, List.setIfInBounds_toArray, List.set_cons_zero, List.set_cons_succ])
            | (refine take_ex (i := 9) (oi := { dst := some 106, op := Op.binOp BinOp.neq 25 (Operand.tmp 104) (Operand.tmp 105) 25, type := 4, pos := "outright.go:115", after := #[{ on := 7, ground := Ground.data }, { on := 8, ground := Ground.data }, { on := 6, ground := Ground.guard }], guard := some (6, true) }) rfl (by kernel_rfl) (by kernel_rfl) (by kernel_rfl) (fun _ _ _ _ h => h) (by assumption) ?_
               apply Exists.intro
               apply And.intro
               · (refine Or.inl ⟨by rfl, ?_⟩; intro w hSw; (try dsimp only at hSw); go_simp; try (with_reducible rfl))
               try simp only [Act.put, List.setIfInBounds_toArray, List.set_cons_zero, List.set_cons_succ])
          refine take_ex (i := 10) (oi := { dst := some 107, op := Op.pick (Operand.tmp 103) (Operand.tmp 106) (Operand.const (Value.bool false)), type := 4, pos := "outright.go:115", after := #[{ on := 6, ground := Ground.data }, { on := 9, ground := Ground.data }, { on := 4, ground := Ground.guard }], guard := some (4, false) }) rfl (by kernel_rfl) (by kernel_rfl) (by kernel_rfl) (fun _ _ _ _ h => h) (by assumption) ?_
          apply Exists.intro
          apply And.intro
          · (refine Or.inl ⟨by rfl, ?_⟩; intro w hSw; (try dsimp only at hSw); go_simp; try (with_reducible rfl))
          try simp only [Act.put, List.setIfInBounds_toArray, List.set_cons_zero, List.set_cons_succ]
          refine take_ex (i := 11) (oi := { dst := some 108, op := Op.pick (Operand.tmp 101) (Operand.const (Value.bool true)) (Operand.tmp 107), type := 4, pos := "outright.go:115", after := #[{ on := 4, ground := Ground.data }, { on := 10, ground := Ground.data }], guard := none }) rfl (by kernel_rfl) (by kernel_rfl) (by kernel_rfl) (fun _ _ _ _ h => h) (by assumption) ?_
          apply Exists.intro
          apply And.intro
          · (refine Or.inl ⟨by rfl, ?_⟩; intro w hSw; (try dsimp only at hSw); go_simp; try (with_reducible rfl))
          try simp only [Act.put, List.setIfInBounds_toArray, List.set_cons_zero, List.set_cons_succ]
          refine take_ex (i := 12) (oi := { dst := some 109, op := Op.move (Operand.tmp 108), type := 4, pos := "outright.go:115", after := #[{ on := 11, ground := Ground.data }, { on := 6, ground := Ground.chain }], guard := none }) rfl (by kernel_rfl) (by kernel_rfl) (by kernel_rfl) (fun _ _ _ _ h => h) (by assumption) ?_
          apply Exists.intro
          apply And.intro
          · (refine Or.inl ⟨by rfl, ?_⟩; intro w hSw; (try dsimp only at hSw); go_simp; try (with_reducible rfl))
          try simp only [Act.put, List.setIfInBounds_toArray, List.set_cons_zero, List.set_cons_succ]
          refine take_ex (i := 13) (oi := { dst := some 110, op := Op.move (Operand.tmp 8), type := 23, pos := "outright.go:115", after := #[{ on := 12, ground := Ground.guard }], guard := some (12, false) }) rfl (by kernel_rfl) (by kernel_rfl) (by kernel_rfl) (fun _ _ _ _ h => h) (by assumption) ?_
          apply Exists.intro
          apply And.intro
          · (refine Or.inl ⟨by rfl, ?_⟩; intro w hSw; (try dsimp only at hSw); go_simp; try (with_reducible rfl))
          try simp only [Act.put, List.setIfInBounds_toArray, List.set_cons_zero, List.set_cons_succ]
          refine take_ex (i := 14) (oi := { dst := some 111, op := Op.move (Operand.tmp 1), type := 25, pos := "outright.go:115", after := #[{ on := 12, ground := Ground.guard }], guard := some (12, false) }) rfl (by kernel_rfl) (by kernel_rfl) (by kernel_rfl) (fun _ _ _ _ h => h) (by assumption) ?_
          apply Exists.intro
          apply And.intro
          · (refine Or.inl ⟨by rfl, ?_⟩; intro w hSw; (try dsimp only at hSw); go_simp; try (with_reducible rfl))
          try simp only [Act.put, List.setIfInBounds_toArray, List.set_cons_zero, List.set_cons_succ]
          refine take_ex (i := 16) (oi := { dst := some 113, op := Op.move (Operand.tmp 7), type := 29, pos := "outright.go:115", after := #[{ on := 12, ground := Ground.guard }], guard := some (12, false) }) rfl (by kernel_rfl) (by kernel_rfl) (by kernel_rfl) (fun _ _ _ _ h => h) (by assumption) ?_
          apply Exists.intro
          apply And.intro
          · (refine Or.inl ⟨by rfl, ?_⟩; intro w hSw; (try dsimp only at hSw); go_simp; try (with_reducible rfl))
          try simp only [Act.put, List.setIfInBounds_toArray, List.set_cons_zero, List.set_cons_succ]
          refine take_ex (i := 17) (oi := { dst := some 114, op := Op.move (Operand.tmp 13), type := 3, pos := "outright.go:115", after := #[{ on := 12, ground := Ground.guard }], guard := some (12, false) }) rfl (by kernel_rfl) (by kernel_rfl) (by kernel_rfl) (fun _ _ _ _ h => h) (by assumption) ?_
          apply Exists.intro
          apply And.intro
          · (refine Or.inl ⟨by rfl, ?_⟩; intro w hSw; (try dsimp only at hSw); go_simp; try (with_reducible rfl))
          try simp only [Act.put, List.setIfInBounds_toArray, List.set_cons_zero, List.set_cons_succ]
          refine take_ex (i := 18) (oi := { dst := some 115, op := Op.indexAddr 29 (Operand.tmp 113) (Operand.tmp 114), type := 0, pos := "outright.go:115", after := #[{ on := 16, ground := Ground.data }, { on := 17, ground := Ground.data }, { on := 12, ground := Ground.guard }], guard := some (12, false) }) rfl (by kernel_rfl) (by kernel_rfl) (by kernel_rfl) (fun _ _ _ _ h => h) (by assumption) ?_
          apply Exists.intro
          apply And.intro
          · (refine Or.inl ⟨by rfl, ?_⟩; intro w hSw; (try dsimp only at hSw); go_simp; try (with_reducible rfl))
          try simp only [Act.put, List.setIfInBounds_toArray, List.set_cons_zero, List.set_cons_succ]
          refine take_ex (i := 19) (oi := { dst := some 116, op := Op.fieldAddr 40 (Operand.tmp 115) 0, type := 0, pos := "outright.go:115", after := #[{ on := 18, ground := Ground.data }, { on := 12, ground := Ground.guard }], guard := some (12, false) }) rfl (by kernel_rfl) (by kernel_rfl) (by kernel_rfl) (fun _ _ _ _ h => h) (by assumption) ?_
          apply Exists.intro
          apply And.intro
          · (refine Or.inl ⟨by rfl, ?_⟩; intro w hSw; (try dsimp only at hSw); go_simp; try (with_reducible rfl))
          try simp only [Act.put, List.setIfInBounds_toArray, List.set_cons_zero, List.set_cons_succ]
          refine take_ex (i := 20) (oi := { dst := some 117, op := Op.load 9 (Operand.tmp 116), type := 9, pos := "outright.go:115", after := #[{ on := 19, ground := Ground.data }, { on := 12, ground := Ground.guard }], guard := some (12, false) }) rfl (by kernel_rfl) (by kernel_rfl) (by kernel_rfl) (fun _ _ _ _ h => h) (by assumption) ?_
          apply Exists.intro
          apply And.intro
          · (refine Or.inl ⟨by rfl, ?_⟩; intro w hSw; (try dsimp only at hSw); go_simp; try (with_reducible rfl))
          try simp only [Act.put, List.setIfInBounds_toArray, List.set_cons_zero, List.set_cons_succ]
          refine take_ex (i := 22) (oi := { dst := some 119, op := Op.move (Operand.tmp 17), type := 4, pos := "outright.go:115", after := #[{ on := 12, ground := Ground.guard }], guard := some (12, false) }) rfl (by kernel_rfl) (by kernel_rfl) (by kernel_rfl) (fun _ _ _ _ h => h) (by assumption) ?_
          apply Exists.intro
          apply And.intro
          · (refine Or.inl ⟨by rfl, ?_⟩; intro w hSw; (try dsimp only at hSw); go_simp; try (with_reducible rfl))
          try simp only [Act.put, List.setIfInBounds_toArray, List.set_cons_zero, List.set_cons_succ]
          refine wpAnyH_ready (rs := [15]) (by kernel_rfl) (by simp) ?_
          refine AllReadyH.cons (o := { dst := some 112, op := Op.call { callee := Callee.value (Operand.func 12), args := #[Operand.tmp 110, Operand.tmp 111], argTypes := #[23, 25] }, type := 33, pos := "outright.go:115", after := #[{ on := 13, ground := Ground.data }, { on := 14, ground := Ground.data }, { on := 12, ground := Ground.chain }, { on := 12, ground := Ground.guard }], guard := some (12, false) }) rfl (fun K hK => ?_) AllReadyH.nil
          go_simp
          refine (belowM_any _ ss c _ hH0.2.2.1.out hc).mono ?_
          rintro e wr1 ⟨ur1, rfl, htx1, hcr1⟩
          go_wp2_with fail
          refine hK.out _ _ ?_ (fun hH1 => ?_)
          · exact ⟨cell_kept hcr1 hH0.1, cell_kept hcr1 hH0.2.1, Lib.hid (hH0.2.2.1.out.kept hcr1), below_join hH0.2.2.2 hcr1⟩
          clear hK K
          try simp only [Act.put, List.setIfInBounds_toArray, List.set_cons_zero, List.set_cons_succ]
          refine wpAnyH_ready (rs := [21]) (by kernel_rfl) (by simp) ?_
          refine AllReadyH.cons (o := { dst := some 118, op := Op.call { callee := Callee.value (Operand.func 25), args := #[Operand.tmp 112, Operand.tmp 117], argTypes := #[33, 9] }, type := 4, pos := "outright.go:115", after := #[{ on := 15, ground := Ground.data }, { on := 20, ground := Ground.data }, { on := 15, ground := Ground.chain }, { on := 12, ground := Ground.guard }], guard := some (12, false) }) rfl (fun K hK => ?_) AllReadyH.nil
          go_simp
          refine (has_any _ _ xn _ htx1).mono ?_
          rintro e w' ⟨rfl, rfl⟩
          rw [V1.out]
          go_wp2_with fail
          refine hK.out _ _ ?_ (fun hH2 => ?_)
          · exact hH1
          clear hK K htx1
          try simp only [Act.put, List.setIfInBounds_toArray, List.set_cons_zero, List.set_cons_succ]
          refine take_ex (i := 23) (oi := { dst := some 120, op := Op.binOp BinOp.neq 4 (Operand.tmp 118) (Operand.tmp 119) 4, type := 4, pos := "outright.go:115", after := #[{ on := 21, ground := Ground.data }, { on := 22, ground := Ground.data }, { on := 12, ground := Ground.guard }], guard := some (12, false) }) rfl (by kernel_rfl) (by kernel_rfl) (by kernel_rfl) (fun _ _ _ _ h => h) (by assumption) ?_
          apply Exists.intro
          apply And.intro
          · (refine Or.inl ⟨by rfl, ?_⟩; intro w hSw; (try dsimp only at hSw); go_simp; try (with_reducible rfl))
          try simp only [Act.put, List.setIfInBounds_toArray, List.set_cons_zero, List.set_cons_succ]
          refine take_ex (i := 24) (oi := { dst := some 121, op := Op.pick (Operand.tmp 109) (Operand.const (Value.bool true)) (Operand.tmp 120), type := 4, pos := "outright.go:115", after := #[{ on := 12, ground := Ground.data }, { on := 23, ground := Ground.data }], guard := none }) rfl (by kernel_rfl) (by kernel_rfl) (by kernel_rfl) (fun _ _ _ _ h => h) (by assumption) ?_
          apply Exists.intro
          apply And.intro
          · (refine Or.inl ⟨by rfl, ?_⟩; intro w hSw; (try dsimp only at hSw); go_simp; try (with_reducible rfl))
          try simp only [Act.put, List.setIfInBounds_toArray, List.set_cons_zero, List.set_cons_succ]
          refine take_ex (i := 25) (oi := { dst := some 122, op := Op.move (Operand.tmp 121), type := 4, pos := "outright.go:115", after := #[{ on := 24, ground := Ground.data }, { on := 21, ground := Ground.chain }], guard := none }) rfl (by kernel_rfl) (by kernel_rfl) (by kernel_rfl) (fun _ _ _ _ h => h) (by assumption) ?_
          apply Exists.intro
          apply And.intro
          · (refine Or.inl ⟨by rfl, ?_⟩; intro w hSw; (try dsimp only at hSw); go_simp; try (with_reducible rfl))
          try simp only [Act.put, List.setIfInBounds_toArray, List.set_cons_zero, List.set_cons_succ]
          refine take_ex (i := 26) (oi := { dst := some 123, op := Op.move (Operand.tmp 8), type := 23, pos := "outright.go:115", after := #[{ on := 25, ground := Ground.guard }], guard := some (25, false) }) rfl (by kernel_rfl) (by kernel_rfl) (by kernel_rfl) (fun _ _ _ _ h => h) (by assumption) ?_
          apply Exists.intro
          apply And.intro
          · (refine Or.inl ⟨by rfl, ?_⟩; intro w hSw; (try dsimp only at hSw); go_simp; try (with_reducible rfl))
          try simp only [Act.put, List.setIfInBounds_toArray, List.set_cons_zero, List.set_cons_succ]
          refine take_ex (i := 27) (oi := { dst := some 124, op := Op.move (Operand.tmp 1), type := 25, pos := "outright.go:115", after := #[{ on := 25, ground := Ground.guard }], guard := some (25, false) }) rfl (by kernel_rfl) (by kernel_rfl) (by kernel_rfl) (fun _ _ _ _ h => h) (by assumption) ?_
          apply Exists.intro
          apply And.intro
          · (refine Or.inl ⟨by rfl, ?_⟩; intro w hSw; (try dsimp only at hSw); go_simp; try (with_reducible rfl))
          try simp only [Act.put, List.setIfInBounds_toArray, List.set_cons_zero, List.set_cons_succ]
          refine take_ex (i := 29) (oi := { dst := some 126, op := Op.move (Operand.tmp 7), type := 29, pos := "outright.go:115", after := #[{ on := 25, ground := Ground.guard }], guard := some (25, false) }) rfl (by kernel_rfl) (by kernel_rfl) (by kernel_rfl) (fun _ _ _ _ h => h) (by assumption) ?_
          apply Exists.intro
          apply And.intro
          · (refine Or.inl ⟨by rfl, ?_⟩; intro w hSw; (try dsimp only at hSw); go_simp; try (with_reducible rfl))
          try simp only [Act.put, List.setIfInBounds_toArray, List.set_cons_zero, List.set_cons_succ]
          refine take_ex (i := 30) (oi := { dst := some 127, op := Op.move (Operand.tmp 13), type := 3, pos := "outright.go:115", after := #[{ on := 25, ground := Ground.guard }], guard := some (25, false) }) rfl (by kernel_rfl) (by kernel_rfl) (by kernel_rfl) (fun _ _ _ _ h => h) (by assumption) ?_
          apply Exists.intro
          apply And.intro
          · (refine Or.inl ⟨by rfl, ?_⟩; intro w hSw; (try dsimp only at hSw); go_simp; try (with_reducible rfl))
          try simp only [Act.put, List.setIfInBounds_toArray, List.set_cons_zero, List.set_cons_succ]
          refine take_ex (i := 31) (oi := { dst := some 128, op := Op.indexAddr 29 (Operand.tmp 126) (Operand.tmp 127), type := 0, pos := "outright.go:115", after := #[{ on := 29, ground := Ground.data }, { on := 30, ground := Ground.data }, { on := 25, ground := Ground.guard }], guard := some (25, false) }) rfl (by kernel_rfl) (by kernel_rfl) (by kernel_rfl) (fun _ _ _ _ h => h) (by assumption) ?_
          apply Exists.intro
          apply And.intro
          · (refine Or.inl ⟨by rfl, ?_⟩; intro w hSw; (try dsimp only at hSw); go_simp; try (with_reducible rfl))
          try simp only [Act.put, List.setIfInBounds_toArray, List.set_cons_zero, List.set_cons_succ]
          refine take_ex (i := 32) (oi := { dst := some 129, op := Op.fieldAddr 40 (Operand.tmp 128) 0, type := 0, pos := "outright.go:115", after := #[{ on := 31, ground := Ground.data }, { on := 25, ground := Ground.guard }], guard := some (25, false) }) rfl (by kernel_rfl) (by kernel_rfl) (by kernel_rfl) (fun _ _ _ _ h => h) (by assumption) ?_
          apply Exists.intro
          apply And.intro
          · (refine Or.inl ⟨by rfl, ?_⟩; intro w hSw; (try dsimp only at hSw); go_simp; try (with_reducible rfl))
          try simp only [Act.put, List.setIfInBounds_toArray, List.set_cons_zero, List.set_cons_succ]
          refine take_ex (i := 33) (oi := { dst := some 130, op := Op.load 9 (Operand.tmp 129), type := 9, pos := "outright.go:115", after := #[{ on := 32, ground := Ground.data }, { on := 25, ground := Ground.guard }], guard := some (25, false) }) rfl (by kernel_rfl) (by kernel_rfl) (by kernel_rfl) (fun _ _ _ _ h => h) (by assumption) ?_
          apply Exists.intro
          apply And.intro
          · (refine Or.inl ⟨by rfl, ?_⟩; intro w hSw; (try dsimp only at hSw); go_simp; try (with_reducible rfl))
          try simp only [Act.put, List.setIfInBounds_toArray, List.set_cons_zero, List.set_cons_succ]
          refine take_ex (i := 35) (oi := { dst := some 132, op := Op.move (Operand.tmp 1), type := 25, pos := "outright.go:115", after := #[{ on := 25, ground := Ground.guard }], guard := some (25, false) }) rfl (by kernel_rfl) (by kernel_rfl) (by kernel_rfl) (fun _ _ _ _ h => h) (by assumption) ?_
          apply Exists.intro
          apply And.intro
          · (refine Or.inl ⟨by rfl, ?_⟩; intro w hSw; (try dsimp only at hSw); go_simp; try (with_reducible rfl))
          try simp only [Act.put, List.setIfInBounds_toArray, List.set_cons_zero, List.set_cons_succ]
          refine take_ex (i := 36) (oi := { dst := some 133, op := Op.move (Operand.tmp 14), type := 25, pos := "outright.go:115", after := #[{ on := 25, ground := Ground.guard }], guard := some (25, false) }) rfl (by kernel_rfl) (by kernel_rfl) (by kernel_rfl) (fun _ _ _ _ h => h) (by assumption) ?_
          apply Exists.intro
          apply And.intro
          · (refine Or.inl ⟨by rfl, ?_⟩; intro w hSw; (try dsimp only at hSw); go_simp; try (with_reducible rfl))
          try simp only [Act.put, List.setIfInBounds_toArray, List.set_cons_zero, List.set_cons_succ]
          refine take_ex (i := 37) (oi := { dst := some 134, op := Op.binOp BinOp.andNot 25 (Operand.tmp 132) (Operand.tmp 133) 25, type := 25, pos := "outright.go:115", after := #[{ on := 35, ground := Ground.data }, { on := 36, ground := Ground.data }, { on := 25, ground := Ground.guard }], guard := some (25, false) }) rfl (by kernel_rfl) (by kernel_rfl) (by kernel_rfl) (fun _ _ _ _ h => h) (by assumption) ?_
          apply Exists.intro
          apply And.intro
          · (refine Or.inl ⟨by rfl, ?_⟩; intro w hSw; (try dsimp only at hSw); go_simp; try (with_reducible rfl))
          try simp only [Act.put, List.setIfInBounds_toArray, List.set_cons_zero, List.set_cons_succ]
          refine take_ex (i := 38) (oi := { dst := some 135, op := Op.binOp BinOp.eql 25 (Operand.tmp 134) (Operand.const (Value.int IntKind.u64 0)) 25, type := 4, pos := "outright.go:115", after := #[{ on := 37, ground := Ground.data }, { on := 25, ground := Ground.guard }], guard := some (25, false) }) rfl (by kernel_rfl) (by kernel_rfl) (by kernel_rfl) (fun _ _ _ _ h => h) (by assumption) ?_
          apply Exists.intro
          apply And.intro
          · (refine Or.inl ⟨by rfl, ?_⟩; intro w hSw; (try dsimp only at hSw); go_simp; try (with_reducible rfl))
          try simp only [Act.put, List.setIfInBounds_toArray, List.set_cons_zero, List.set_cons_succ]
          refine wpAnyH_ready (rs := [28]) (by kernel_rfl) (by simp) ?_
          refine AllReadyH.cons (o := { dst := some 125, op := Op.call { callee := Callee.value (Operand.func 13), args := #[Operand.tmp 123, Operand.tmp 124], argTypes := #[23, 25] }, type := 33, pos := "outright.go:115", after := #[{ on := 26, ground := Ground.data }, { on := 27, ground := Ground.data }, { on := 25, ground := Ground.chain }, { on := 25, ground := Ground.guard }], guard := some (25, false) }) rfl (fun K hK => ?_) AllReadyH.nil
          go_simp
          refine (aboveM_any _ ss c _ hH2.2.2.1.out hc).mono ?_
          rintro e wr3 ⟨ur3, rfl, htx3, hcr3⟩
          go_wp2_with fail
          refine hK.out _ _ ?_ (fun hH3 => ?_)
          · exact ⟨cell_kept hcr3 hH2.1, cell_kept hcr3 hH2.2.1, Lib.hid (hH2.2.2.1.out.kept hcr3), below_join hH2.2.2.2 hcr3⟩
          clear hK K
          try simp only [Act.put, List.setIfInBounds_toArray, List.set_cons_zero, List.set_cons_succ]
          refine wpAnyH_ready (rs := [34]) (by kernel_rfl) (by simp) ?_
          refine AllReadyH.cons (o := { dst := some 131, op := Op.call { callee := Callee.value (Operand.func 25), args := #[Operand.tmp 125, Operand.tmp 130], argTypes := #[33, 9] }, type := 4, pos := "outright.go:115", after := #[{ on := 28, ground := Ground.data }, { on := 33, ground := Ground.data }, { on := 28, ground := Ground.chain }, { on := 25, ground := Ground.guard }], guard := some (25, false) }) rfl (fun K hK => ?_) AllReadyH.nil
          go_simp
          refine (has_any _ _ xn _ htx3).mono ?_
          rintro e w' ⟨rfl, rfl⟩
          rw [V2.out]
          go_wp2_with fail
          refine hK.out _ _ ?_ (fun hH4 => ?_)
          · exact hH3
          clear hK K htx3
          try simp only [Act.put, List.setIfInBounds_toArray, List.set_cons_zero, List.set_cons_succ]
          refine take_ex (i := 39) (oi := { dst := some 136, op := Op.binOp BinOp.neq 4 (Operand.tmp 131) (Operand.tmp 135) 4, type := 4, pos := "outright.go:115", after := #[{ on := 34, ground := Ground.data }, { on := 38, ground := Ground.data }, { on := 25, ground := Ground.guard }], guard := some (25, false) }) rfl (by kernel_rfl) (by kernel_rfl) (by kernel_rfl) (fun _ _ _ _ h => h) (by assumption) ?_
          apply Exists.intro
          apply And.intro
          · (refine Or.inl ⟨by rfl, ?_⟩; intro w hSw; (try dsimp only at hSw); go_simp; try (with_reducible rfl))
          try simp only [Act.put, List.setIfInBounds_toArray, List.set_cons_zero, List.set_cons_succ]
          refine take_ex (i := 40) (oi := { dst := some 137, op := Op.pick (Operand.tmp 122) (Operand.const (Value.bool true)) (Operand.tmp 136), type := 4, pos := "outright.go:115", after := #[{ on := 25, ground := Ground.data }, { on := 39, ground := Ground.data }], guard := none }) rfl (by kernel_rfl) (by kernel_rfl) (by kernel_rfl) (fun _ _ _ _ h => h) (by assumption) ?_
          apply Exists.intro
          apply And.intro
          · (refine Or.inl ⟨by rfl, ?_⟩; intro w hSw; (try dsimp only at hSw); go_simp; try (with_reducible rfl))
          try simp only [Act.put, List.setIfInBounds_toArray, List.set_cons_zero, List.set_cons_succ]
          refine take_ex (i := 41) (oi := { dst := some 138, op := Op.move (Operand.tmp 137), type := 4, pos := "outright.go:115", after := #[{ on := 40, ground := Ground.data }, { on := 34, ground := Ground.chain }], guard := none }) rfl (by kernel_rfl) (by kernel_rfl) (by kernel_rfl) (fun _ _ _ _ h => h) (by assumption) ?_
          apply Exists.intro
          apply And.intro
          · (refine Or.inl ⟨by rfl, ?_⟩; intro w hSw; (try dsimp only at hSw); go_simp; try (with_reducible rfl))
          try simp only [Act.put, List.setIfInBounds_toArray, List.set_cons_zero, List.set_cons_succ]
          refine take_ex (i := 42) (oi := { dst := some 139, op := Op.move (Operand.tmp 8), type := 23, pos := "outright.go:115", after := #[{ on := 41, ground := Ground.guard }], guard := some (41, false) }) rfl (by kernel_rfl) (by kernel_rfl) (by kernel_rfl) (fun _ _ _ _ h => h) (by assumption) ?_
          apply Exists.intro
          apply And.intro
          · (refine Or.inl ⟨by rfl, ?_⟩; intro w hSw; (try dsimp only at hSw); go_simp; try (with_reducible rfl))
          try simp only [Act.put, List.setIfInBounds_toArray, List.set_cons_zero, List.set_cons_succ]
          refine take_ex (i := 43) (oi := { dst := some 140, op := Op.move (Operand.tmp 14), type := 25, pos := "outright.go:115", after := #[{ on := 41, ground := Ground.guard }], guard := some (41, false) }) rfl (by kernel_rfl) (by kernel_rfl) (by kernel_rfl) (fun _ _ _ _ h => h) (by assumption) ?_
          apply Exists.intro
          apply And.intro
          · (refine Or.inl ⟨by rfl, ?_⟩; intro w hSw; (try dsimp only at hSw); go_simp; try (with_reducible rfl))
          try simp only [Act.put, List.setIfInBounds_toArray, List.set_cons_zero, List.set_cons_succ]
          refine take_ex (i := 45) (oi := { dst := some 142, op := Op.move (Operand.tmp 7), type := 29, pos := "outright.go:115", after := #[{ on := 41, ground := Ground.guard }], guard := some (41, false) }) rfl (by kernel_rfl) (by kernel_rfl) (by kernel_rfl) (fun _ _ _ _ h => h) (by assumption) ?_
          apply Exists.intro
          apply And.intro
          · (refine Or.inl ⟨by rfl, ?_⟩; intro w hSw; (try dsimp only at hSw); go_simp; try (with_reducible rfl))
          try simp only [Act.put, List.setIfInBounds_toArray, List.set_cons_zero, List.set_cons_succ]
          refine take_ex (i := 46) (oi := { dst := some 143, op := Op.move (Operand.tmp 13), type := 3, pos := "outright.go:115", after := #[{ on := 41, ground := Ground.guard }], guard := some (41, false) }) rfl (by kernel_rfl) (by kernel_rfl) (by kernel_rfl) (fun _ _ _ _ h => h) (by assumption) ?_
          apply Exists.intro
          apply And.intro
          · (refine Or.inl ⟨by rfl, ?_⟩; intro w hSw; (try dsimp only at hSw); go_simp; try (with_reducible rfl))
          try simp only [Act.put, List.setIfInBounds_toArray, List.set_cons_zero, List.set_cons_succ]
          refine take_ex (i := 47) (oi := { dst := some 144, op := Op.indexAddr 29 (Operand.tmp 142) (Operand.tmp 143), type := 0, pos := "outright.go:115", after := #[{ on := 45, ground := Ground.data }, { on := 46, ground := Ground.data }, { on := 41, ground := Ground.guard }], guard := some (41, false) }) rfl (by kernel_rfl) (by kernel_rfl) (by kernel_rfl) (fun _ _ _ _ h => h) (by assumption) ?_
          apply Exists.intro
          apply And.intro
          · (refine Or.inl ⟨by rfl, ?_⟩; intro w hSw; (try dsimp only at hSw); go_simp; try (with_reducible rfl))
          try simp only [Act.put, List.setIfInBounds_toArray, List.set_cons_zero, List.set_cons_succ]
          refine take_ex (i := 48) (oi := { dst := some 145, op := Op.fieldAddr 40 (Operand.tmp 144) 0, type := 0, pos := "outright.go:115", after := #[{ on := 47, ground := Ground.data }, { on := 41, ground := Ground.guard }], guard := some (41, false) }) rfl (by kernel_rfl) (by kernel_rfl) (by kernel_rfl) (fun _ _ _ _ h => h) (by assumption) ?_
          apply Exists.intro
          apply And.intro
          · (refine Or.inl ⟨by rfl, ?_⟩; intro w hSw; (try dsimp only at hSw); go_simp; try (with_reducible rfl))
          try simp only [Act.put, List.setIfInBounds_toArray, List.set_cons_zero, List.set_cons_succ]
          refine take_ex (i := 49) (oi := { dst := some 146, op := Op.load 9 (Operand.tmp 145), type := 9, pos := "outright.go:115", after := #[{ on := 48, ground := Ground.data }, { on := 41, ground := Ground.guard }], guard := some (41, false) }) rfl (by kernel_rfl) (by kernel_rfl) (by kernel_rfl) (fun _ _ _ _ h => h) (by assumption) ?_
          apply Exists.intro
          apply And.intro
          · (refine Or.inl ⟨by rfl, ?_⟩; intro w hSw; (try dsimp only at hSw); go_simp; try (with_reducible rfl))
          try simp only [Act.put, List.setIfInBounds_toArray, List.set_cons_zero, List.set_cons_succ]
          refine wpAnyH_ready (rs := [44]) (by kernel_rfl) (by simp) ?_
          refine AllReadyH.cons (o := { dst := some 141, op := Op.call { callee := Callee.value (Operand.func 12), args := #[Operand.tmp 139, Operand.tmp 140], argTypes := #[23, 25] }, type := 33, pos := "outright.go:115", after := #[{ on := 42, ground := Ground.data }, { on := 43, ground := Ground.data }, { on := 41, ground := Ground.chain }, { on := 41, ground := Ground.guard }], guard := some (41, false) }) rfl (fun K hK => ?_) AllReadyH.nil
          go_simp
          refine (belowM_any _ ss a _ hH4.2.2.1.out ha).mono ?_
          rintro e wr5 ⟨ur5, rfl, htx5, hcr5⟩
          go_wp2_with fail
          refine hK.out _ _ ?_ (fun hH5 => ?_)
          · exact ⟨cell_kept hcr5 hH4.1, cell_kept hcr5 hH4.2.1, Lib.hid (hH4.2.2.1.out.kept hcr5), below_join hH4.2.2.2 hcr5⟩
          clear hK K
          try simp only [Act.put, List.setIfInBounds_toArray, List.set_cons_zero, List.set_cons_succ]
          refine wpAnyH_ready (rs := [50]) (by kernel_rfl) (by simp) ?_
          refine AllReadyH.cons (o := { dst := some 147, op := Op.call { callee := Callee.value (Operand.func 25), args := #[Operand.tmp 141, Operand.tmp 146], argTypes := #[33, 9] }, type := 4, pos := "outright.go:115", after := #[{ on := 44, ground := Ground.data }, { on := 49, ground := Ground.data }, { on := 44, ground := Ground.chain }, { on := 41, ground := Ground.guard }], guard := some (41, false) }) rfl (fun K hK => ?_) AllReadyH.nil
          go_simp
          refine (has_any _ _ xn _ htx5).mono ?_
          rintro e w' ⟨rfl, rfl⟩
          rw [V3.out]
          go_wp2_with fail
          refine hK.out _ _ ?_ (fun hH6 => ?_)
          · exact hH5
          clear hK K htx5
          try simp only [Act.put, List.setIfInBounds_toArray, List.set_cons_zero, List.set_cons_succ]
          refine take_ex (i := 51) (oi := { dst := some 148, op := Op.unOp UnOp.not 4 (Operand.tmp 147), type := 4, pos := "outright.go:115", after := #[{ on := 50, ground := Ground.data }, { on := 41, ground := Ground.guard }], guard := some (41, false) }) rfl (by kernel_rfl) (by kernel_rfl) (by kernel_rfl) (fun _ _ _ _ h => h) (by assumption) ?_
          apply Exists.intro
          apply And.intro
          · (refine Or.inl ⟨by rfl, ?_⟩; intro w hSw; (try dsimp only at hSw); go_simp; try (with_reducible rfl))
          try simp only [Act.put, List.setIfInBounds_toArray, List.set_cons_zero, List.set_cons_succ]
          refine take_ex (i := 52) (oi := { dst := some 149, op := Op.pick (Operand.tmp 138) (Operand.const (Value.bool true)) (Operand.tmp 148), type := 4, pos := "outright.go:115", after := #[{ on := 41, ground := Ground.data }, { on := 51, ground := Ground.data }], guard := none }) rfl (by kernel_rfl) (by kernel_rfl) (by kernel_rfl) (fun _ _ _ _ h => h) (by assumption) ?_
          apply Exists.intro
          apply And.intro
          · (refine Or.inl ⟨by rfl, ?_⟩; intro w hSw; (try dsimp only at hSw); go_simp; try (with_reducible rfl))
          try simp only [Act.put, List.setIfInBounds_toArray, List.set_cons_zero, List.set_cons_succ]
          refine take_ex (i := 53) (oi := { dst := some 150, op := Op.move (Operand.tmp 149), type := 4, pos := "outright.go:115", after := #[{ on := 52, ground := Ground.data }, { on := 50, ground := Ground.chain }], guard := none }) rfl (by kernel_rfl) (by kernel_rfl) (by kernel_rfl) (fun _ _ _ _ h => h) (by assumption) ?_
          apply Exists.intro
          apply And.intro
          · (refine Or.inl ⟨by rfl, ?_⟩; intro w hSw; (try dsimp only at hSw); go_simp; try (with_reducible rfl))
          try simp only [Act.put, List.setIfInBounds_toArray, List.set_cons_zero, List.set_cons_succ]
          refine take_ex (i := 54) (oi := { dst := some 151, op := Op.move (Operand.tmp 8), type := 23, pos := "outright.go:115", after := #[{ on := 53, ground := Ground.guard }], guard := some (53, false) }) rfl (by kernel_rfl) (by kernel_rfl) (by kernel_rfl) (fun _ _ _ _ h => h) (by assumption) ?_
          apply Exists.intro
          apply And.intro
          · (refine Or.inl ⟨by rfl, ?_⟩; intro w hSw; (try dsimp only at hSw); go_simp; try (with_reducible rfl))
          try simp only [Act.put, List.setIfInBounds_toArray, List.set_cons_zero, List.set_cons_succ]
          refine take_ex (i := 55) (oi := { dst := some 152, op := Op.move (Operand.tmp 14), type := 25, pos := "outright.go:115", after := #[{ on := 53, ground := Ground.guard }], guard := some (53, false) }) rfl (by kernel_rfl) (by kernel_rfl) (by kernel_rfl) (fun _ _ _ _ h => h) (by assumption) ?_
          apply Exists.intro
          apply And.intro
          · (refine Or.inl ⟨by rfl, ?_⟩; intro w hSw; (try dsimp only at hSw); go_simp; try (with_reducible rfl))
          try simp only [Act.put, List.setIfInBounds_toArray, List.set_cons_zero, List.set_cons_succ]
          refine take_ex (i := 57) (oi := { dst := some 154, op := Op.move (Operand.tmp 7), type := 29, pos := "outright.go:115", after := #[{ on := 53, ground := Ground.guard }], guard := some (53, false) }) rfl (by kernel_rfl) (by kernel_rfl) (by kernel_rfl) (fun _ _ _ _ h => h) (by assumption) ?_
          apply Exists.intro
          apply And.intro
          · (refine Or.inl ⟨by rfl, ?_⟩; intro w hSw; (try dsimp only at hSw); go_simp; try (with_reducible rfl))
          try simp only [Act.put, List.setIfInBounds_toArray, List.set_cons_zero, List.set_cons_succ]
          refine take_ex (i := 58) (oi := { dst := some 155, op := Op.move (Operand.tmp 13), type := 3, pos := "outright.go:115", after := #[{ on := 53, ground := Ground.guard }], guard := some (53, false) }) rfl (by kernel_rfl) (by kernel_rfl) (by kernel_rfl) (fun _ _ _ _ h => h) (by assumption) ?_
          apply Exists.intro
          apply And.intro
          · (refine Or.inl ⟨by rfl, ?_⟩; intro w hSw; (try dsimp only at hSw); go_simp; try (with_reducible rfl))
          try simp only [Act.put, List.setIfInBounds_toArray, List.set_cons_zero, List.set_cons_succ]
          refine take_ex (i := 59) (oi := { dst := some 156, op := Op.indexAddr 29 (Operand.tmp 154) (Operand.tmp 155), type := 0, pos := "outright.go:115", after := #[{ on := 57, ground := Ground.data }, { on := 58, ground := Ground.data }, { on := 53, ground := Ground.guard }], guard := some (53, false) }) rfl (by kernel_rfl) (by kernel_rfl) (by kernel_rfl) (fun _ _ _ _ h => h) (by assumption) ?_
          apply Exists.intro
          apply And.intro
          · (refine Or.inl ⟨by rfl, ?_⟩; intro w hSw; (try dsimp only at hSw); go_simp; try (with_reducible rfl))
          try simp only [Act.put, List.setIfInBounds_toArray, List.set_cons_zero, List.set_cons_succ]
          refine take_ex (i := 60) (oi := { dst := some 157, op := Op.fieldAddr 40 (Operand.tmp 156) 0, type := 0, pos := "outright.go:115", after := #[{ on := 59, ground := Ground.data }, { on := 53, ground := Ground.guard }], guard := some (53, false) }) rfl (by kernel_rfl) (by kernel_rfl) (by kernel_rfl) (fun _ _ _ _ h => h) (by assumption) ?_
          apply Exists.intro
          apply And.intro
          · (refine Or.inl ⟨by rfl, ?_⟩; intro w hSw; (try dsimp only at hSw); go_simp; try (with_reducible rfl))
          try simp only [Act.put, List.setIfInBounds_toArray, List.set_cons_zero, List.set_cons_succ]
          refine take_ex (i := 61) (oi := { dst := some 158, op := Op.load 9 (Operand.tmp 157), type := 9, pos := "outright.go:115", after := #[{ on := 60, ground := Ground.data }, { on := 53, ground := Ground.guard }], guard := some (53, false) }) rfl (by kernel_rfl) (by kernel_rfl) (by kernel_rfl) (fun _ _ _ _ h => h) (by assumption) ?_
          apply Exists.intro
          apply And.intro
          · (refine Or.inl ⟨by rfl, ?_⟩; intro w hSw; (try dsimp only at hSw); go_simp; try (with_reducible rfl))
          try simp only [Act.put, List.setIfInBounds_toArray, List.set_cons_zero, List.set_cons_succ]
          refine wpAnyH_ready (rs := [56]) (by kernel_rfl) (by simp) ?_
          refine AllReadyH.cons (o := { dst := some 153, op := Op.call { callee := Callee.value (Operand.func 13), args := #[Operand.tmp 151, Operand.tmp 152], argTypes := #[23, 25] }, type := 33, pos := "outright.go:115", after := #[{ on := 54, ground := Ground.data }, { on := 55, ground := Ground.data }, { on := 53, ground := Ground.chain }, { on := 53, ground := Ground.guard }], guard := some (53, false) }) rfl (fun K hK => ?_) AllReadyH.nil
          go_simp
          refine (aboveM_any _ ss a _ hH6.2.2.1.out ha).mono ?_
          rintro e wr7 ⟨ur7, rfl, htx7, hcr7⟩
          go_wp2_with fail
          refine hK.out _ _ ?_ (fun hH7 => ?_)
          · exact ⟨cell_kept hcr7 hH6.1, cell_kept hcr7 hH6.2.1, Lib.hid (hH6.2.2.1.out.kept hcr7), below_join hH6.2.2.2 hcr7⟩
          clear hK K
          try simp only [Act.put, List.setIfInBounds_toArray, List.set_cons_zero, List.set_cons_succ]
          refine wpAnyH_ready (rs := [62]) (by kernel_rfl) (by simp) ?_
          refine AllReadyH.cons (o := { dst := some 159, op := Op.call { callee := Callee.value (Operand.func 25), args := #[Operand.tmp 153, Operand.tmp 158], argTypes := #[33, 9] }, type := 4, pos := "outright.go:115", after := #[{ on := 56, ground := Ground.data }, { on := 61, ground := Ground.data }, { on := 56, ground := Ground.chain }, { on := 53, ground := Ground.guard }], guard := some (53, false) }) rfl (fun K hK => ?_) AllReadyH.nil
          go_simp
          refine (has_any _ _ xn _ htx7).mono ?_
          rintro e w' ⟨rfl, rfl⟩
          rw [V4.out]
          go_wp2_with fail
          refine hK.out _ _ ?_ (fun hH8 => ?_)
          · exact hH7
          clear hK K htx7
          try simp only [Act.put, List.setIfInBounds_toArray, List.set_cons_zero, List.set_cons_succ]
          refine take_ex (i := 63) (oi := { dst := some 160, op := Op.unOp UnOp.not 4 (Operand.tmp 159), type := 4, pos := "outright.go:115", after := #[{ on := 62, ground := Ground.data }, { on := 53, ground := Ground.guard }], guard := some (53, false) }) rfl (by kernel_rfl) (by kernel_rfl) (by kernel_rfl) (fun _ _ _ _ h => h) (by assumption) ?_
          apply Exists.intro
          apply And.intro
          · (refine Or.inl ⟨by rfl, ?_⟩; intro w hSw; (try dsimp only at hSw); go_simp; try (with_reducible rfl))
          try simp only [Act.put, List.setIfInBounds_toArray, List.set_cons_zero, List.set_cons_succ]
          refine take_ex (i := 64) (oi := { dst := some 161, op := Op.pick (Operand.tmp 150) (Operand.const (Value.bool true)) (Operand.tmp 160), type := 4, pos := "outright.go:115", after := #[{ on := 53, ground := Ground.data }, { on := 63, ground := Ground.data }], guard := none }) rfl (by kernel_rfl) (by kernel_rfl) (by kernel_rfl) (fun _ _ _ _ h => h) (by assumption) ?_
          apply Exists.intro
          apply And.intro
          · (refine Or.inl ⟨by rfl, ?_⟩; intro w hSw; (try dsimp only at hSw); go_simp; try (with_reducible rfl))
          try simp only [Act.put, List.setIfInBounds_toArray, List.set_cons_zero, List.set_cons_succ]
          refine wpAnyH_done (by kernel_rfl) ?_ _
          clear Hcl2 hA hB hA0 hB0 hH0 hH1 hH2 hH3 hH4 hH5 hH6 hH7
          have Hh8 := Lib.hid hH8
          clear hH8
          go_wp2_with fail
          obtain ⟨bad, had⟩ : ∃ t, belowN (c ||| d) a = t := ⟨_, rfl⟩
          obtain ⟨bbd, hbd⟩ : ∃ t, belowN a (c &&& d) = t := ⟨_, rfl⟩
          have V5 := Lib.hid (show hasB ((aboveV ss (c ||| d)).map Vw.nm) xn = bad from (Hha.out _).trans had)
          have V7 := Lib.hid (show hasB ((eraseV ss (c &&& d)).map Vw.nm) xn = bbd from (Hhb.out _).trans hbd)
          have Hl1 := Lib.hid (show bad = true → bca = true from fun h => by
            rw [← Hbca.out]; exact below_trans (below_or_l c d) (had.trans h))
          have Hl2 := Lib.hid (show bbd = true → belowN a c = true from fun h => below_trans (hbd.trans h) (below_and_l c d))
          clear had hbd
          cases bad
          all_goals
            cases bbd
            all_goals try (exfalso; have h := Hl2.out rfl; rw [Hac.out] at h; cases h; done)
            all_goals
              (try (obtain rfl : bca = true := Hl1.out rfl))
              have V6 := V2
              have V8 := V1
              as_aux_lemma =>
                refine wp_region_held_drew (S := fun w' => w'.cell? ⟨b, o + k * 2, none⟩ = some (.string xn) ∧ w'.cell? ⟨b, o + k * 2 + 1, none⟩ = some (.int .u64 (a : Int)) ∧ Hid (Pol w' (.pointer (some ⟨bp, 0, none⟩)) ss) ∧ Below w11.heap.size w11 w') (by kernel_rfl) ?_ (fun hHz => ?_)
                · exact ⟨Hh8.out.1, Hh8.out.2.1, Hh8.out.2.2.1, Hh8.out.2.2.2.drew⟩
                refine take_ex (i := 0) (oi := { dst := some 162, op := Op.move (Operand.tmp 8), type := 23, pos := "outright.go:118", after := #[], guard := none }) rfl (by kernel_rfl) (by kernel_rfl) (by kernel_rfl) (fun _ _ _ _ h => h) (by assumption) ?_
                apply Exists.intro
                apply And.intro
                · (refine Or.inl ⟨by rfl, ?_⟩; intro w hSw; (try dsimp only at hSw); go_simp; try (with_reducible rfl))
                try simp only [Act.put, List.setIfInBounds_toArray, List.set_cons_zero, List.set_cons_succ]
                refine take_ex (i := 1) (oi := { dst := some 163, op := Op.move (Operand.tmp 1), type := 25, pos := "outright.go:118", after := #[], guard := none }) rfl (by kernel_rfl) (by kernel_rfl) (by kernel_rfl) (fun _ _ _ _ h => h) (by assumption) ?_
                apply Exists.intro
                apply And.intro
                · (refine Or.inl ⟨by rfl, ?_⟩; intro w hSw; (try dsimp only at hSw); go_simp; try (with_reducible rfl))
                try simp only [Act.put, List.setIfInBounds_toArray, List.set_cons_zero, List.set_cons_succ]
                refine take_ex (i := 2) (oi := { dst := some 164, op := Op.move (Operand.tmp 2), type := 25, pos := "outright.go:118", after := #[], guard := none }) rfl (by kernel_rfl) (by kernel_rfl) (by kernel_rfl) (fun _ _ _ _ h => h) (by assumption) ?_
                apply Exists.intro
                apply And.intro
                · (refine Or.inl ⟨by rfl, ?_⟩; intro w hSw; (try dsimp only at hSw); go_simp; try (with_reducible rfl))
                try simp only [Act.put, List.setIfInBounds_toArray, List.set_cons_zero, List.set_cons_succ]
                refine take_ex (i := 3) (oi := { dst := some 165, op := Op.binOp BinOp.or 25 (Operand.tmp 163) (Operand.tmp 164) 25, type := 25, pos := "outright.go:118", after := #[{ on := 1, ground := Ground.data }, { on := 2, ground := Ground.data }], guard := none }) rfl (by kernel_rfl) (by kernel_rfl) (by kernel_rfl) (fun _ _ _ _ h => h) (by assumption) ?_
                apply Exists.intro
                apply And.intro
                · (refine Or.inl ⟨by rfl, ?_⟩; intro w hSw; (try dsimp only at hSw); go_simp; try (with_reducible rfl))
                try simp only [Act.put, List.setIfInBounds_toArray, List.set_cons_zero, List.set_cons_succ]
                refine take_ex (i := 5) (oi := { dst := some 167, op := Op.move (Operand.tmp 7), type := 29, pos := "outright.go:118", after := #[], guard := none }) rfl (by kernel_rfl) (by kernel_rfl) (by kernel_rfl) (fun _ _ _ _ h => h) (by assumption) ?_
                apply Exists.intro
                apply And.intro
                · (refine Or.inl ⟨by rfl, ?_⟩; intro w hSw; (try dsimp only at hSw); go_simp; try (with_reducible rfl))
                try simp only [Act.put, List.setIfInBounds_toArray, List.set_cons_zero, List.set_cons_succ]
                refine take_ex (i := 6) (oi := { dst := some 168, op := Op.move (Operand.tmp 13), type := 3, pos := "outright.go:118", after := #[], guard := none }) rfl (by kernel_rfl) (by kernel_rfl) (by kernel_rfl) (fun _ _ _ _ h => h) (by assumption) ?_
                apply Exists.intro
                apply And.intro
                · (refine Or.inl ⟨by rfl, ?_⟩; intro w hSw; (try dsimp only at hSw); go_simp; try (with_reducible rfl))
                try simp only [Act.put, List.setIfInBounds_toArray, List.set_cons_zero, List.set_cons_succ]
                refine take_ex (i := 7) (oi := { dst := some 169, op := Op.indexAddr 29 (Operand.tmp 167) (Operand.tmp 168), type := 0, pos := "outright.go:118", after := #[{ on := 5, ground := Ground.data }, { on := 6, ground := Ground.data }], guard := none }) rfl (by kernel_rfl) (by kernel_rfl) (by kernel_rfl) (fun _ _ _ _ h => h) (by assumption) ?_
                apply Exists.intro
                apply And.intro
                · (refine Or.inl ⟨by rfl, ?_⟩; intro w hSw; (try dsimp only at hSw); go_simp; try (with_reducible rfl))
                try simp only [Act.put, List.setIfInBounds_toArray, List.set_cons_zero, List.set_cons_succ]
                refine take_ex (i := 8) (oi := { dst := some 170, op := Op.fieldAddr 40 (Operand.tmp 169) 0, type := 0, pos := "outright.go:118", after := #[{ on := 7, ground := Ground.data }], guard := none }) rfl (by kernel_rfl) (by kernel_rfl) (by kernel_rfl) (fun _ _ _ _ h => h) (by assumption) ?_
                apply Exists.intro
                apply And.intro
                · (refine Or.inl ⟨by rfl, ?_⟩; intro w hSw; (try dsimp only at hSw); go_simp; try (with_reducible rfl))
                try simp only [Act.put, List.setIfInBounds_toArray, List.set_cons_zero, List.set_cons_succ]
                refine take_ex (i := 9) (oi := { dst := some 171, op := Op.load 9 (Operand.tmp 170), type := 9, pos := "outright.go:118", after := #[{ on := 8, ground := Ground.data }], guard := none }) rfl (by kernel_rfl) (by kernel_rfl) (by kernel_rfl) (fun _ _ _ _ h => h) (by assumption) ?_
                apply Exists.intro
                apply And.intro
                · (refine Or.inl ⟨by rfl, ?_⟩; intro w hSw; (try dsimp only at hSw); go_simp; try (with_reducible rfl))
                try simp only [Act.put, List.setIfInBounds_toArray, List.set_cons_zero, List.set_cons_succ]
                refine wpAnyH_ready (rs := [4]) (by kernel_rfl) (by simp) ?_
                refine AllReadyH.cons (o := { dst := some 166, op := Op.call { callee := Callee.value (Operand.func 13), args := #[Operand.tmp 162, Operand.tmp 165], argTypes := #[23, 25] }, type := 33, pos := "outright.go:118", after := #[{ on := 0, ground := Ground.data }, { on := 3, ground := Ground.data }], guard := none }) rfl (fun K hK => ?_) AllReadyH.nil
                go_simp
                refine (aboveM_any _ ss (c ||| d) _ hHz.2.2.1.out hcd2).mono ?_
                rintro e wr11 ⟨ur11, rfl, htx11, hcr11⟩
                go_wp2_with fail
                refine hK.out _ _ ?_ (fun hHz => ?_)
                · exact ⟨cell_kept hcr11 hHz.1, cell_kept hcr11 hHz.2.1, Lib.hid (hHz.2.2.1.out.kept hcr11), below_join hHz.2.2.2 hcr11⟩
                clear hK K
                try simp only [Act.put, List.setIfInBounds_toArray, List.set_cons_zero, List.set_cons_succ]
                refine wpAnyH_ready (rs := [10]) (by kernel_rfl) (by simp) ?_
                refine AllReadyH.cons (o := { dst := some 172, op := Op.call { callee := Callee.value (Operand.func 25), args := #[Operand.tmp 166, Operand.tmp 171], argTypes := #[33, 9] }, type := 4, pos := "outright.go:118", after := #[{ on := 4, ground := Ground.data }, { on := 9, ground := Ground.data }, { on := 4, ground := Ground.chain }], guard := none }) rfl (fun K hK => ?_) AllReadyH.nil
                go_simp
                refine (has_any _ _ xn _ htx11).mono ?_
                rintro e w' ⟨rfl, rfl⟩
                rw [V5.out]
                go_wp2_with fail
                refine hK.out _ _ ?_ (fun hHz => ?_)
                · exact hHz
                clear hK K htx11
                try simp only [Act.put, List.setIfInBounds_toArray, List.set_cons_zero, List.set_cons_succ]
                refine take_ex (i := 11) (oi := { dst := some 173, op := Op.move (Operand.tmp 172), type := 4, pos := "outright.go:118", after := #[{ on := 10, ground := Ground.data }, { on := 10, ground := Ground.chain }], guard := none }) rfl (by kernel_rfl) (by kernel_rfl) (by kernel_rfl) (fun _ _ _ _ h => h) (by assumption) ?_
                apply Exists.intro
                apply And.intro
                · (refine Or.inl ⟨by rfl, ?_⟩; intro w hSw; (try dsimp only at hSw); go_simp; try (with_reducible rfl))
                try simp only [Act.put, List.setIfInBounds_toArray, List.set_cons_zero, List.set_cons_succ]
                first
                  | (refine wpAnyH_take (i := 12) (oi := { dst := some 174, op := Op.move (Operand.tmp 8), type := 23, pos := "outright.go:118", after := #[{ on := 11, ground := Ground.guard }], guard := some (11, true) }) (v := undef) rfl (by kernel_rfl) (by kernel_rfl) (by kernel_rfl) (fun _ _ _ h => h) (Or.inr ⟨by rfl, rfl⟩) (by assumption) ?_
                     try simp only [Act.put, List.setIfInBounds_toArray, List.set_cons_zero, List.set_cons_succ])
                  | (refine take_ex (i := 12) (oi := { dst := some 174, op := Op.move (Operand.tmp 8), type := 23, pos := "outright.go:118", after := #[{ on := 11, ground := Ground.guard }], guard := some (11, true) }) rfl (by kernel_rfl) (by kernel_rfl) (by kernel_rfl) (fun _ _ _ _ h => h) (by assumption) ?_
                     apply Exists.intro
                     apply And.intro
                     · (refine Or.inl ⟨by rfl, ?_⟩; intro w hSw; (try dsimp only at hSw); go_simp; try (with_reducible rfl))
                     try simp only [Act.put, List.setIfInBounds_toArray, List.set_cons_zero, List.set_cons_succ])
                first
                  | (refine wpAnyH_take (i := 13) (oi := { dst := some 175, op := Op.move (Operand.tmp 1), type := 25, pos := "outright.go:118", after := #[{ on := 11, ground := Ground.guard }], guard := some (11, true) }) (v := undef) rfl (by kernel_rfl) (by kernel_rfl) (by kernel_rfl) (fun _ _ _ h => h) (Or.inr ⟨by rfl, rfl⟩) (by assumption) ?_
                     try simp only [Act.put, List.setIfInBounds_toArray, List.set_cons_zero, List.set_cons_succ])
                  | (refine take_ex (i := 13) (oi := { dst := some 175, op := Op.move (Operand.tmp 1), type := 25, pos := "outright.go:118", after := #[{ on := 11, ground := Ground.guard }], guard := some (11, true) }) rfl (by kernel_rfl) (by kernel_rfl) (by kernel_rfl) (fun _ _ _ _ h => h) (by assumption) ?_
                     apply Exists.intro
                     apply And.intro
                     · (refine Or.inl ⟨by rfl, ?_⟩; intro w hSw; (try dsimp only at hSw); go_simp; try (with_reducible rfl))
                     try simp only [Act.put, List.setIfInBounds_toArray, List.set_cons_zero, List.set_cons_succ])
                first
                  | (refine wpAnyH_take (i := 15) (oi := { dst := some 177, op := Op.move (Operand.tmp 7), type := 29, pos := "outright.go:118", after := #[{ on := 11, ground := Ground.guard }], guard := some (11, true) }) (v := undef) rfl (by kernel_rfl) (by kernel_rfl) (by kernel_rfl) (fun _ _ _ h => h) (Or.inr ⟨by rfl, rfl⟩) (by assumption) ?_
                     try simp only [Act.put, List.setIfInBounds_toArray, List.set_cons_zero, List.set_cons_succ])
                  | (refine take_ex (i := 15) (oi := { dst := some 177, op := Op.move (Operand.tmp 7), type := 29, pos := "outright.go:118", after := #[{ on := 11, ground := Ground.guard }], guard := some (11, true) }) rfl (by kernel_rfl) (by kernel_rfl) (by kernel_rfl) (fun _ _ _ _ h => h) (by assumption) ?_
                     apply Exists.intro
                     apply And.intro
                     · (refine Or.inl ⟨by rfl, ?_⟩; intro w hSw; (try dsimp only at hSw); go_simp; try (with_reducible rfl))
                     try simp only [Act.put, List.setIfInBounds_toArray, List.set_cons_zero, List.set_cons_succ])
                first
                  | (refine wpAnyH_take (i := 16) (oi := { dst := some 178, op := Op.move (Operand.tmp 13), type := 3, pos := "outright.go:118", after := #[{ on := 11, ground := Ground.guard }], guard := some (11, true) }) (v := undef) rfl (by kernel_rfl) (by kernel_rfl) (by kernel_rfl) (fun _ _ _ h => h) (Or.inr ⟨by rfl, rfl⟩) (by assumption) ?_
                     try simp only [Act.put, List.setIfInBounds_toArray, List.set_cons_zero, List.set_cons_succ])
                  | (refine take_ex (i := 16) (oi := { dst := some 178, op := Op.move (Operand.tmp 13), type := 3, pos := "outright.go:118", after := #[{ on := 11, ground := Ground.guard }], guard := some (11, true) }) rfl (by kernel_rfl) (by kernel_rfl) (by kernel_rfl) (fun _ _ _ _ h => h) (by assumption) ?_
                     apply Exists.intro
                     apply And.intro
                     · (refine Or.inl ⟨by rfl, ?_⟩; intro w hSw; (try dsimp only at hSw); go_simp; try (with_reducible rfl))
                     try simp only [Act.put, List.setIfInBounds_toArray, List.set_cons_zero, List.set_cons_succ])
                first
                  | (refine wpAnyH_take (i := 17) (oi := { dst := some 179, op := Op.indexAddr 29 (Operand.tmp 177) (Operand.tmp 178), type := 0, pos := "outright.go:118", after := #[{ on := 15, ground := Ground.data }, { on := 16, ground := Ground.data }, { on := 11, ground := Ground.guard }], guard := some (11, true) }) (v := undef) rfl (by kernel_rfl) (by kernel_rfl) (by kernel_rfl) (fun _ _ _ h => h) (Or.inr ⟨by rfl, rfl⟩) (by assumption) ?_
                     try simp only [Act.put, List.setIfInBounds_toArray, List.set_cons_zero, List.set_cons_succ])
                  | (refine take_ex (i := 17) (oi := { dst := some 179, op := Op.indexAddr 29 (Operand.tmp 177) (Operand.tmp 178), type := 0, pos := "outright.go:118", after := #[{ on := 15, ground := Ground.data }, { on := 16, ground := Ground.data }, { on := 11, ground := Ground.guard }], guard := some (11, true) }) rfl (by kernel_rfl) (by kernel_rfl) (by kernel_rfl) (fun _ _ _ _ h => h) (by assumption) ?_
                     apply Exists.intro
                     apply And.intro
                     · (refine Or.inl ⟨by rfl, ?_⟩; intro w hSw; (try dsimp only at hSw); go_simp; try (with_reducible rfl))
                     try simp only [Act.put, List.setIfInBounds_toArray, List.set_cons_zero, List.set_cons_succ])
                first
                  | (refine wpAnyH_take (i := 18) (oi := { dst := some 180, op := Op.fieldAddr 40 (Operand.tmp 179) 0, type := 0, pos := "outright.go:118", after := #[{ on := 17, ground := Ground.data }, { on := 11, ground := Ground.guard }], guard := some (11, true) }) (v := undef) rfl (by kernel_rfl) (by kernel_rfl) (by kernel_rfl) (fun _ _ _ h => h) (Or.inr ⟨by rfl, rfl⟩) (by assumption) ?_
                     try simp only [Act.put, List.setIfInBounds_toArray, List.set_cons_zero, List.set_cons_succ])
                  | (refine take_ex (i := 18) (oi := { dst := some 180, op := Op.fieldAddr 40 (Operand.tmp 179) 0, type := 0, pos := "outright.go:118", after := #[{ on := 17, ground := Ground.data }, { on := 11, ground := Ground.guard }], guard := some (11, true) }) rfl (by kernel_rfl) (by kernel_rfl) (by kernel_rfl) (fun _ _ _ _ h => h) (by assumption) ?_
                     apply Exists.intro
                     apply And.intro
                     · (refine Or.inl ⟨by rfl, ?_⟩; intro w hSw; (try dsimp only at hSw); go_simp; try (with_reducible rfl))
                     try simp only [Act.put, List.setIfInBounds_toArray, List.set_cons_zero, List.set_cons_succ])
                first
                  | (refine wpAnyH_take (i := 19) (oi := { dst := some 181, op := Op.load 9 (Operand.tmp 180), type := 9, pos := "outright.go:118", after := #[{ on := 18, ground := Ground.data }, { on := 11, ground := Ground.guard }], guard := some (11, true) }) (v := undef) rfl (by kernel_rfl) (by kernel_rfl) (by kernel_rfl) (fun _ _ _ h => h) (Or.inr ⟨by rfl, rfl⟩) (by assumption) ?_
                     try simp only [Act.put, List.setIfInBounds_toArray, List.set_cons_zero, List.set_cons_succ])
                  | (refine take_ex (i := 19) (oi := { dst := some 181, op := Op.load 9 (Operand.tmp 180), type := 9, pos := "outright.go:118", after := #[{ on := 18, ground := Ground.data }, { on := 11, ground := Ground.guard }], guard := some (11, true) }) rfl (by kernel_rfl) (by kernel_rfl) (by kernel_rfl) (fun _ _ _ _ h => h) (by assumption) ?_
                     apply Exists.intro
                     apply And.intro
                     · (refine Or.inl ⟨by rfl, ?_⟩; intro w hSw; (try dsimp only at hSw); go_simp; try (with_reducible rfl))
                     try simp only [Act.put, List.setIfInBounds_toArray, List.set_cons_zero, List.set_cons_succ])
                first
                  | (refine wpAnyH_take (i := 14) (oi := { dst := some 176, op := Op.call { callee := Callee.value (Operand.func 13), args := #[Operand.tmp 174, Operand.tmp 175], argTypes := #[23, 25] }, type := 33, pos := "outright.go:118", after := #[{ on := 12, ground := Ground.data }, { on := 13, ground := Ground.data }, { on := 11, ground := Ground.chain }, { on := 11, ground := Ground.guard }], guard := some (11, true) }) (v := undef) rfl (by kernel_rfl) (by kernel_rfl) (by kernel_rfl) (fun _ _ _ h => h) (Or.inr ⟨by rfl, rfl⟩) (by assumption) ?_
                     try simp only [Act.put, List.setIfInBounds_toArray, List.set_cons_zero, List.set_cons_succ])
                  | (refine wpAnyH_ready (rs := [14]) (by kernel_rfl) (by simp) ?_
                     refine AllReadyH.cons (o := { dst := some 176, op := Op.call { callee := Callee.value (Operand.func 13), args := #[Operand.tmp 174, Operand.tmp 175], argTypes := #[23, 25] }, type := 33, pos := "outright.go:118", after := #[{ on := 12, ground := Ground.data }, { on := 13, ground := Ground.data }, { on := 11, ground := Ground.chain }, { on := 11, ground := Ground.guard }], guard := some (11, true) }) rfl (fun K hK => ?_) AllReadyH.nil
                     go_simp
                     refine (aboveM_any _ ss c _ hHz.2.2.1.out hc).mono ?_
                     rintro e wr13 ⟨ur13, rfl, htx13, hcr13⟩
                     go_wp2_with fail
                     refine hK.out _ _ ?_ (fun hHz => ?_)
                     · exact ⟨cell_kept hcr13 hHz.1, cell_kept hcr13 hHz.2.1, Lib.hid (hHz.2.2.1.out.kept hcr13), below_join hHz.2.2.2 hcr13⟩
                     clear hK K
                     try simp only [Act.put, List.setIfInBounds_toArray, List.set_cons_zero, List.set_cons_succ])
                first
                  | (refine wpAnyH_take (i := 20) (oi := { dst := some 182, op := Op.call { callee := Callee.value (Operand.func 25), args := #[Operand.tmp 176, Operand.tmp 181], argTypes := #[33, 9] }, type := 4, pos := "outright.go:118", after := #[{ on := 14, ground := Ground.data }, { on := 19, ground := Ground.data }, { on := 14, ground := Ground.chain }, { on := 11, ground := Ground.guard }], guard := some (11, true) }) (v := undef) rfl (by kernel_rfl) (by kernel_rfl) (by kernel_rfl) (fun _ _ _ h => h) (Or.inr ⟨by rfl, rfl⟩) (by assumption) ?_
                     try simp only [Act.put, List.setIfInBounds_toArray, List.set_cons_zero, List.set_cons_succ])
                  | (refine wpAnyH_ready (rs := [20]) (by kernel_rfl) (by simp) ?_
                     refine AllReadyH.cons (o := { dst := some 182, op := Op.call { callee := Callee.value (Operand.func 25), args := #[Operand.tmp 176, Operand.tmp 181], argTypes := #[33, 9] }, type := 4, pos := "outright.go:118", after := #[{ on := 14, ground := Ground.data }, { on := 19, ground := Ground.data }, { on := 14, ground := Ground.chain }, { on := 11, ground := Ground.guard }], guard := some (11, true) }) rfl (fun K hK => ?_) AllReadyH.nil
                     go_simp
                     refine (has_any _ _ xn _ htx13).mono ?_
                     rintro e w' ⟨rfl, rfl⟩
                     rw [V6.out]
                     go_wp2_with fail
                     refine hK.out _ _ ?_ (fun hHz => ?_)
                     · exact hHz
                     clear hK K htx13
                     try simp only [Act.put, List.setIfInBounds_toArray, List.set_cons_zero, List.set_cons_succ])
                first
                  | (refine wpAnyH_take (i := 21) (oi := { dst := some 183, op := Op.unOp UnOp.not 4 (Operand.tmp 182), type := 4, pos := "outright.go:118", after := #[{ on := 20, ground := Ground.data }, { on := 11, ground := Ground.guard }], guard := some (11, true) }) (v := undef) rfl (by kernel_rfl) (by kernel_rfl) (by kernel_rfl) (fun _ _ _ h => h) (Or.inr ⟨by rfl, rfl⟩) (by assumption) ?_
                     try simp only [Act.put, List.setIfInBounds_toArray, List.set_cons_zero, List.set_cons_succ])
                  | (refine take_ex (i := 21) (oi := { dst := some 183, op := Op.unOp UnOp.not 4 (Operand.tmp 182), type := 4, pos := "outright.go:118", after := #[{ on := 20, ground := Ground.data }, { on := 11, ground := Ground.guard }], guard := some (11, true) }) rfl (by kernel_rfl) (by kernel_rfl) (by kernel_rfl) (fun _ _ _ _ h => h) (by assumption) ?_
                     apply Exists.intro
                     apply And.intro
                     · (refine Or.inl ⟨by rfl, ?_⟩; intro w hSw; (try dsimp only at hSw); go_simp; try (with_reducible rfl))
                     try simp only [Act.put, List.setIfInBounds_toArray, List.set_cons_zero, List.set_cons_succ])
                refine take_ex (i := 22) (oi := { dst := some 184, op := Op.pick (Operand.tmp 173) (Operand.tmp 183) (Operand.const (Value.bool false)), type := 4, pos := "outright.go:118", after := #[{ on := 11, ground := Ground.data }, { on := 21, ground := Ground.data }], guard := none }) rfl (by kernel_rfl) (by kernel_rfl) (by kernel_rfl) (fun _ _ _ _ h => h) (by assumption) ?_
                apply Exists.intro
                apply And.intro
                · (refine Or.inl ⟨by rfl, ?_⟩; intro w hSw; (try dsimp only at hSw); go_simp; try (with_reducible rfl))
                try simp only [Act.put, List.setIfInBounds_toArray, List.set_cons_zero, List.set_cons_succ]
                refine take_ex (i := 23) (oi := { dst := some 185, op := Op.move (Operand.tmp 184), type := 4, pos := "outright.go:118", after := #[{ on := 22, ground := Ground.data }, { on := 20, ground := Ground.chain }], guard := none }) rfl (by kernel_rfl) (by kernel_rfl) (by kernel_rfl) (fun _ _ _ _ h => h) (by assumption) ?_
                apply Exists.intro
                apply And.intro
                · (refine Or.inl ⟨by rfl, ?_⟩; intro w hSw; (try dsimp only at hSw); go_simp; try (with_reducible rfl))
                try simp only [Act.put, List.setIfInBounds_toArray, List.set_cons_zero, List.set_cons_succ]
                refine take_ex (i := 24) (oi := { dst := some 186, op := Op.move (Operand.tmp 8), type := 23, pos := "outright.go:118", after := #[{ on := 23, ground := Ground.guard }], guard := some (23, false) }) rfl (by kernel_rfl) (by kernel_rfl) (by kernel_rfl) (fun _ _ _ _ h => h) (by assumption) ?_
                apply Exists.intro
                apply And.intro
                · (refine Or.inl ⟨by rfl, ?_⟩; intro w hSw; (try dsimp only at hSw); go_simp; try (with_reducible rfl))
                try simp only [Act.put, List.setIfInBounds_toArray, List.set_cons_zero, List.set_cons_succ]
                refine take_ex (i := 25) (oi := { dst := some 187, op := Op.move (Operand.tmp 1), type := 25, pos := "outright.go:118", after := #[{ on := 23, ground := Ground.guard }], guard := some (23, false) }) rfl (by kernel_rfl) (by kernel_rfl) (by kernel_rfl) (fun _ _ _ _ h => h) (by assumption) ?_
                apply Exists.intro
                apply And.intro
                · (refine Or.inl ⟨by rfl, ?_⟩; intro w hSw; (try dsimp only at hSw); go_simp; try (with_reducible rfl))
                try simp only [Act.put, List.setIfInBounds_toArray, List.set_cons_zero, List.set_cons_succ]
                refine take_ex (i := 26) (oi := { dst := some 188, op := Op.move (Operand.tmp 2), type := 25, pos := "outright.go:118", after := #[{ on := 23, ground := Ground.guard }], guard := some (23, false) }) rfl (by kernel_rfl) (by kernel_rfl) (by kernel_rfl) (fun _ _ _ _ h => h) (by assumption) ?_
                apply Exists.intro
                apply And.intro
                · (refine Or.inl ⟨by rfl, ?_⟩; intro w hSw; (try dsimp only at hSw); go_simp; try (with_reducible rfl))
                try simp only [Act.put, List.setIfInBounds_toArray, List.set_cons_zero, List.set_cons_succ]
                refine take_ex (i := 27) (oi := { dst := some 189, op := Op.binOp BinOp.and 25 (Operand.tmp 187) (Operand.tmp 188) 25, type := 25, pos := "outright.go:118", after := #[{ on := 25, ground := Ground.data }, { on := 26, ground := Ground.data }, { on := 23, ground := Ground.guard }], guard := some (23, false) }) rfl (by kernel_rfl) (by kernel_rfl) (by kernel_rfl) (fun _ _ _ _ h => h) (by assumption) ?_
                apply Exists.intro
                apply And.intro
                · (refine Or.inl ⟨by rfl, ?_⟩; intro w hSw; (try dsimp only at hSw); go_simp; try (with_reducible rfl))
                try simp only [Act.put, List.setIfInBounds_toArray, List.set_cons_zero, List.set_cons_succ]
                refine take_ex (i := 29) (oi := { dst := some 191, op := Op.move (Operand.tmp 7), type := 29, pos := "outright.go:118", after := #[{ on := 23, ground := Ground.guard }], guard := some (23, false) }) rfl (by kernel_rfl) (by kernel_rfl) (by kernel_rfl) (fun _ _ _ _ h => h) (by assumption) ?_
                apply Exists.intro
                apply And.intro
                · (refine Or.inl ⟨by rfl, ?_⟩; intro w hSw; (try dsimp only at hSw); go_simp; try (with_reducible rfl))
                try simp only [Act.put, List.setIfInBounds_toArray, List.set_cons_zero, List.set_cons_succ]
                refine take_ex (i := 30) (oi := { dst := some 192, op := Op.move (Operand.tmp 13), type := 3, pos := "outright.go:118", after := #[{ on := 23, ground := Ground.guard }], guard := some (23, false) }) rfl (by kernel_rfl) (by kernel_rfl) (by kernel_rfl) (fun _ _ _ _ h => h) (by assumption) ?_
                apply Exists.intro
                apply And.intro
                · (refine Or.inl ⟨by rfl, ?_⟩; intro w hSw; (try dsimp only at hSw); go_simp; try (with_reducible rfl))
                try simp only [Act.put, List.setIfInBounds_toArray, List.set_cons_zero, List.set_cons_succ]
                refine take_ex (i := 31) (oi := { dst := some 193, op := Op.indexAddr 29 (Operand.tmp 191) (Operand.tmp 192), type := 0, pos := "outright.go:118", after := #[{ on := 29, ground := Ground.data }, { on := 30, ground := Ground.data }, { on := 23, ground := Ground.guard }], guard := some (23, false) }) rfl (by kernel_rfl) (by kernel_rfl) (by kernel_rfl) (fun _ _ _ _ h => h) (by assumption) ?_
                apply Exists.intro
                apply And.intro
                · (refine Or.inl ⟨by rfl, ?_⟩; intro w hSw; (try dsimp only at hSw); go_simp; try (with_reducible rfl))
                try simp only [Act.put, List.setIfInBounds_toArray, List.set_cons_zero, List.set_cons_succ]
                refine take_ex (i := 32) (oi := { dst := some 194, op := Op.fieldAddr 40 (Operand.tmp 193) 0, type := 0, pos := "outright.go:118", after := #[{ on := 31, ground := Ground.data }, { on := 23, ground := Ground.guard }], guard := some (23, false) }) rfl (by kernel_rfl) (by kernel_rfl) (by kernel_rfl) (fun _ _ _ _ h => h) (by assumption) ?_
                apply Exists.intro
                apply And.intro
                · (refine Or.inl ⟨by rfl, ?_⟩; intro w hSw; (try dsimp only at hSw); go_simp; try (with_reducible rfl))
                try simp only [Act.put, List.setIfInBounds_toArray, List.set_cons_zero, List.set_cons_succ]
                refine take_ex (i := 33) (oi := { dst := some 195, op := Op.load 9 (Operand.tmp 194), type := 9, pos := "outright.go:118", after := #[{ on := 32, ground := Ground.data }, { on := 23, ground := Ground.guard }], guard := some (23, false) }) rfl (by kernel_rfl) (by kernel_rfl) (by kernel_rfl) (fun _ _ _ _ h => h) (by assumption) ?_
                apply Exists.intro
                apply And.intro
                · (refine Or.inl ⟨by rfl, ?_⟩; intro w hSw; (try dsimp only at hSw); go_simp; try (with_reducible rfl))
                try simp only [Act.put, List.setIfInBounds_toArray, List.set_cons_zero, List.set_cons_succ]
                refine wpAnyH_ready (rs := [28]) (by kernel_rfl) (by simp) ?_
                refine AllReadyH.cons (o := { dst := some 190, op := Op.call { callee := Callee.value (Operand.func 12), args := #[Operand.tmp 186, Operand.tmp 189], argTypes := #[23, 25] }, type := 33, pos := "outright.go:118", after := #[{ on := 24, ground := Ground.data }, { on := 27, ground := Ground.data }, { on := 23, ground := Ground.chain }, { on := 23, ground := Ground.guard }], guard := some (23, false) }) rfl (fun K hK => ?_) AllReadyH.nil
                go_simp
                refine (belowM_any _ ss (c &&& d) _ hHz.2.2.1.out hcd).mono ?_
                rintro e wr15 ⟨ur15, rfl, htx15, hcr15⟩
                go_wp2_with fail
                refine hK.out _ _ ?_ (fun hHz => ?_)
                · exact ⟨cell_kept hcr15 hHz.1, cell_kept hcr15 hHz.2.1, Lib.hid (hHz.2.2.1.out.kept hcr15), below_join hHz.2.2.2 hcr15⟩
                clear hK K
                try simp only [Act.put, List.setIfInBounds_toArray, List.set_cons_zero, List.set_cons_succ]
                refine wpAnyH_ready (rs := [34]) (by kernel_rfl) (by simp) ?_
                refine AllReadyH.cons (o := { dst := some 196, op := Op.call { callee := Callee.value (Operand.func 25), args := #[Operand.tmp 190, Operand.tmp 195], argTypes := #[33, 9] }, type := 4, pos := "outright.go:118", after := #[{ on := 28, ground := Ground.data }, { on := 33, ground := Ground.data }, { on := 28, ground := Ground.chain }, { on := 23, ground := Ground.guard }], guard := some (23, false) }) rfl (fun K hK => ?_) AllReadyH.nil
                go_simp
                refine (has_any _ _ xn _ htx15).mono ?_
                rintro e w' ⟨rfl, rfl⟩
                rw [V7.out]
                go_wp2_with fail
                refine hK.out _ _ ?_ (fun hHz => ?_)
                · exact hHz
                clear hK K htx15
                try simp only [Act.put, List.setIfInBounds_toArray, List.set_cons_zero, List.set_cons_succ]
                refine take_ex (i := 35) (oi := { dst := some 197, op := Op.move (Operand.tmp 196), type := 4, pos := "outright.go:118", after := #[{ on := 34, ground := Ground.data }, { on := 34, ground := Ground.chain }, { on := 23, ground := Ground.guard }], guard := some (23, false) }) rfl (by kernel_rfl) (by kernel_rfl) (by kernel_rfl) (fun _ _ _ _ h => h) (by assumption) ?_
                apply Exists.intro
                apply And.intro
                · (refine Or.inl ⟨by rfl, ?_⟩; intro w hSw; (try dsimp only at hSw); go_simp; try (with_reducible rfl))
                try simp only [Act.put, List.setIfInBounds_toArray, List.set_cons_zero, List.set_cons_succ]
                first
                  | (refine wpAnyH_take (i := 36) (oi := { dst := some 198, op := Op.move (Operand.tmp 8), type := 23, pos := "outright.go:118", after := #[{ on := 35, ground := Ground.guard }], guard := some (35, true) }) (v := undef) rfl (by kernel_rfl) (by kernel_rfl) (by kernel_rfl) (fun _ _ _ h => h) (Or.inr ⟨by rfl, rfl⟩) (by assumption) ?_
                     try simp only [Act.put, List.setIfInBounds_toArray, List.set_cons_zero, List.set_cons_succ])
                  | (refine take_ex (i := 36) (oi := { dst := some 198, op := Op.move (Operand.tmp 8), type := 23, pos := "outright.go:118", after := #[{ on := 35, ground := Ground.guard }], guard := some (35, true) }) rfl (by kernel_rfl) (by kernel_rfl) (by kernel_rfl) (fun _ _ _ _ h => h) (by assumption) ?_
                     apply Exists.intro
                     apply And.intro
                     · (refine Or.inl ⟨by rfl, ?_⟩; intro w hSw; (try dsimp only at hSw); go_simp; try (with_reducible rfl))
                     try simp only [Act.put, List.setIfInBounds_toArray, List.set_cons_zero, List.set_cons_succ])
                first
                  | (refine wpAnyH_take (i := 37) (oi := { dst := some 199, op := Op.move (Operand.tmp 1), type := 25, pos := "outright.go:118", after := #[{ on := 35, ground := Ground.guard }], guard := some (35, true) }) (v := undef) rfl (by kernel_rfl) (by kernel_rfl) (by kernel_rfl) (fun _ _ _ h => h) (Or.inr ⟨by rfl, rfl⟩) (by assumption) ?_
                     try simp only [Act.put, List.setIfInBounds_toArray, List.set_cons_zero, List.set_cons_succ])
                  | (refine take_ex (i := 37) (oi := { dst := some 199, op := Op.move (Operand.tmp 1), type := 25, pos := "outright.go:118", after := #[{ on := 35, ground := Ground.guard }], guard := some (35, true) }) rfl (by kernel_rfl) (by kernel_rfl) (by kernel_rfl) (fun _ _ _ _ h => h) (by assumption) ?_
                     apply Exists.intro
                     apply And.intro
                     · (refine Or.inl ⟨by rfl, ?_⟩; intro w hSw; (try dsimp only at hSw); go_simp; try (with_reducible rfl))
                     try simp only [Act.put, List.setIfInBounds_toArray, List.set_cons_zero, List.set_cons_succ])
                first
                  | (refine wpAnyH_take (i := 39) (oi := { dst := some 201, op := Op.move (Operand.tmp 7), type := 29, pos := "outright.go:118", after := #[{ on := 35, ground := Ground.guard }], guard := some (35, true) }) (v := undef) rfl (by kernel_rfl) (by kernel_rfl) (by kernel_rfl) (fun _ _ _ h => h) (Or.inr ⟨by rfl, rfl⟩) (by assumption) ?_
                     try simp only [Act.put, List.setIfInBounds_toArray, List.set_cons_zero, List.set_cons_succ])
                  | (refine take_ex (i := 39) (oi := { dst := some 201, op := Op.move (Operand.tmp 7), type := 29, pos := "outright.go:118", after := #[{ on := 35, ground := Ground.guard }], guard := some (35, true) }) rfl (by kernel_rfl) (by kernel_rfl) (by kernel_rfl) (fun _ _ _ _ h => h) (by assumption) ?_
                     apply Exists.intro
                     apply And.intro
                     · (refine Or.inl ⟨by rfl, ?_⟩; intro w hSw; (try dsimp only at hSw); go_simp; try (with_reducible rfl))
                     try simp only [Act.put, List.setIfInBounds_toArray, List.set_cons_zero, List.set_cons_succ])
                first
                  | (refine wpAnyH_take (i := 40) (oi := { dst := some 202, op := Op.move (Operand.tmp 13), type := 3, pos := "outright.go:118", after := #[{ on := 35, ground := Ground.guard }], guard := some (35, true) }) (v := undef) rfl (by kernel_rfl) (by kernel_rfl) (by kernel_rfl) (fun _ _ _ h => h) (Or.inr ⟨by rfl, rfl⟩) (by assumption) ?_
                     try simp only [Act.put, List.setIfInBounds_toArray, List.set_cons_zero, List.set_cons_succ])
                  | (refine take_ex (i := 40) (oi := { dst := some 202, op := Op.move (Operand.tmp 13), type := 3, pos := "outright.go:118", after := #[{ on := 35, ground := Ground.guard }], guard := some (35, true) }) rfl (by kernel_rfl) (by kernel_rfl) (by kernel_rfl) (fun _ _ _ _ h => h) (by assumption) ?_
                     apply Exists.intro
                     apply And.intro
                     · (refine Or.inl ⟨by rfl, ?_⟩; intro w hSw; (try dsimp only at hSw); go_simp; try (with_reducible rfl))
                     try simp only [Act.put, List.setIfInBounds_toArray, List.set_cons_zero, List.set_cons_succ])
                first
                  | (refine wpAnyH_take (i := 41) (oi := { dst := some 203, op := Op.indexAddr 29 (Operand.tmp 201) (Operand.tmp 202), type := 0, pos := "outright.go:118", after := #[{ on := 39, ground := Ground.data }, { on := 40, ground := Ground.data }, { on := 35, ground := Ground.guard }], guard := some (35, true) }) (v := undef) rfl (by kernel_rfl) (by kernel_rfl) (by kernel_rfl) (fun _ _ _ h => h) (Or.inr ⟨by rfl, rfl⟩) (by assumption) ?_
                     try simp only [Act.put, List.setIfInBounds_toArray, List.set_cons_zero, List.set_cons_succ])
                  | (refine take_ex (i := 41) (oi := { dst := some 203, op := Op.indexAddr 29 (Operand.tmp 201) (Operand.tmp 202), type := 0, pos := "outright.go:118", after := #[{ on := 39, ground := Ground.data }, { on := 40, ground := Ground.data }, { on := 35, ground := Ground.guard }], guard := some (35, true) }) rfl (by kernel_rfl) (by kernel_rfl) (by kernel_rfl) (fun _ _ _ _ h => h) (by assumption) ?_
                     apply Exists.intro
                     apply And.intro
                     · (refine Or.inl ⟨by rfl, ?_⟩; intro w hSw; (try dsimp only at hSw); go_simp; try (with_reducible rfl))
                     try simp only [Act.put, List.setIfInBounds_toArray, List.set_cons_zero, List.set_cons_succ])
                first
                  | (refine wpAnyH_take (i := 42) (oi := { dst := some 204, op := Op.fieldAddr 40 (Operand.tmp 203) 0, type := 0, pos := "outright.go:118", after := #[{ on := 41, ground := Ground.data }, { on := 35, ground := Ground.guard }], guard := some (35, true) }) (v := undef) rfl (by kernel_rfl) (by kernel_rfl) (by kernel_rfl) (fun _ _ _ h => h) (Or.inr ⟨by rfl, rfl⟩) (by assumption) ?_
                     try simp only [Act.put, List.setIfInBounds_toArray, List.set_cons_zero, List.set_cons_succ])
                  | (refine take_ex (i := 42) (oi := { dst := some 204, op := Op.fieldAddr 40 (Operand.tmp 203) 0, type := 0, pos := "outright.go:118", after := #[{ on := 41, ground := Ground.data }, { on := 35, ground := Ground.guard }], guard := some (35, true) }) rfl (by kernel_rfl) (by kernel_rfl) (by kernel_rfl) (fun _ _ _ _ h => h) (by assumption) ?_
                     apply Exists.intro
                     apply And.intro
                     · (refine Or.inl ⟨by rfl, ?_⟩; intro w hSw; (try dsimp only at hSw); go_simp; try (with_reducible rfl))
                     try simp only [Act.put, List.setIfInBounds_toArray, List.set_cons_zero, List.set_cons_succ])
                first
                  | (refine wpAnyH_take (i := 43) (oi := { dst := some 205, op := Op.load 9 (Operand.tmp 204), type := 9, pos := "outright.go:118", after := #[{ on := 42, ground := Ground.data }, { on := 35, ground := Ground.guard }], guard := some (35, true) }) (v := undef) rfl (by kernel_rfl) (by kernel_rfl) (by kernel_rfl) (fun _ _ _ h => h) (Or.inr ⟨by rfl, rfl⟩) (by assumption) ?_
                     try simp only [Act.put, List.setIfInBounds_toArray, List.set_cons_zero, List.set_cons_succ])
                  | (refine take_ex (i := 43) (oi := { dst := some 205, op := Op.load 9 (Operand.tmp 204), type := 9, pos := "outright.go:118", after := #[{ on := 42, ground := Ground.data }, { on := 35, ground := Ground.guard }], guard := some (35, true) }) rfl (by kernel_rfl) (by kernel_rfl) (by kernel_rfl) (fun _ _ _ _ h => h) (by assumption) ?_
                     apply Exists.intro
                     apply And.intro
                     · (refine Or.inl ⟨by rfl, ?_⟩; intro w hSw; (try dsimp only at hSw); go_simp; try (with_reducible rfl))
                     try simp only [Act.put, List.setIfInBounds_toArray, List.set_cons_zero, List.set_cons_succ])
                first
                  | (refine wpAnyH_take (i := 38) (oi := { dst := some 200, op := Op.call { callee := Callee.value (Operand.func 12), args := #[Operand.tmp 198, Operand.tmp 199], argTypes := #[23, 25] }, type := 33, pos := "outright.go:118", after := #[{ on := 36, ground := Ground.data }, { on := 37, ground := Ground.data }, { on := 35, ground := Ground.chain }, { on := 35, ground := Ground.guard }], guard := some (35, true) }) (v := undef) rfl (by kernel_rfl) (by kernel_rfl) (by kernel_rfl) (fun _ _ _ h => h) (Or.inr ⟨by rfl, rfl⟩) (by assumption) ?_
                     try simp only [Act.put, List.setIfInBounds_toArray, List.set_cons_zero, List.set_cons_succ])
                  | (refine wpAnyH_ready (rs := [38]) (by kernel_rfl) (by simp) ?_
                     refine AllReadyH.cons (o := { dst := some 200, op := Op.call { callee := Callee.value (Operand.func 12), args := #[Operand.tmp 198, Operand.tmp 199], argTypes := #[23, 25] }, type := 33, pos := "outright.go:118", after := #[{ on := 36, ground := Ground.data }, { on := 37, ground := Ground.data }, { on := 35, ground := Ground.chain }, { on := 35, ground := Ground.guard }], guard := some (35, true) }) rfl (fun K hK => ?_) AllReadyH.nil
                     go_simp
                     refine (belowM_any _ ss c _ hHz.2.2.1.out hc).mono ?_
                     rintro e wr17 ⟨ur17, rfl, htx17, hcr17⟩
                     go_wp2_with fail
                     refine hK.out _ _ ?_ (fun hHz => ?_)
                     · exact ⟨cell_kept hcr17 hHz.1, cell_kept hcr17 hHz.2.1, Lib.hid (hHz.2.2.1.out.kept hcr17), below_join hHz.2.2.2 hcr17⟩
                     clear hK K
                     try simp only [Act.put, List.setIfInBounds_toArray, List.set_cons_zero, List.set_cons_succ])
                first
                  | (refine wpAnyH_take (i := 44) (oi := { dst := some 206, op := Op.call { callee := Callee.value (Operand.func 25), args := #[Operand.tmp 200, Operand.tmp 205], argTypes := #[33, 9] }, type := 4, pos := "outright.go:118", after := #[{ on := 38, ground := Ground.data }, { on := 43, ground := Ground.data }, { on := 38, ground := Ground.chain }, { on := 35, ground := Ground.guard }], guard := some (35, true) }) (v := undef) rfl (by kernel_rfl) (by kernel_rfl) (by kernel_rfl) (fun _ _ _ h => h) (Or.inr ⟨by rfl, rfl⟩) (by assumption) ?_
                     try simp only [Act.put, List.setIfInBounds_toArray, List.set_cons_zero, List.set_cons_succ])
                  | (refine wpAnyH_ready (rs := [44]) (by kernel_rfl) (by simp) ?_
                     refine AllReadyH.cons (o := { dst := some 206, op := Op.call { callee := Callee.value (Operand.func 25), args := #[Operand.tmp 200, Operand.tmp 205], argTypes := #[33, 9] }, type := 4, pos := "outright.go:118", after := #[{ on := 38, ground := Ground.data }, { on := 43, ground := Ground.data }, { on := 38, ground := Ground.chain }, { on := 35, ground := Ground.guard }], guard := some (35, true) }) rfl (fun K hK => ?_) AllReadyH.nil
                     go_simp
                     refine (has_any _ _ xn _ htx17).mono ?_
                     rintro e w' ⟨rfl, rfl⟩
                     rw [V8.out]
                     go_wp2_with fail
                     refine hK.out _ _ ?_ (fun hHz => ?_)
                     · exact hHz
                     clear hK K htx17
                     try simp only [Act.put, List.setIfInBounds_toArray, List.set_cons_zero, List.set_cons_succ])
                first
                  | (refine wpAnyH_take (i := 45) (oi := { dst := some 207, op := Op.unOp UnOp.not 4 (Operand.tmp 206), type := 4, pos := "outright.go:118", after := #[{ on := 44, ground := Ground.data }, { on := 35, ground := Ground.guard }], guard := some (35, true) }) (v := undef) rfl (by kernel_rfl) (by kernel_rfl) (by kernel_rfl) (fun _ _ _ h => h) (Or.inr ⟨by rfl, rfl⟩) (by assumption) ?_
                     try simp only [Act.put, List.setIfInBounds_toArray, List.set_cons_zero, List.set_cons_succ])
                  | (refine take_ex (i := 45) (oi := { dst := some 207, op := Op.unOp UnOp.not 4 (Operand.tmp 206), type := 4, pos := "outright.go:118", after := #[{ on := 44, ground := Ground.data }, { on := 35, ground := Ground.guard }], guard := some (35, true) }) rfl (by kernel_rfl) (by kernel_rfl) (by kernel_rfl) (fun _ _ _ _ h => h) (by assumption) ?_
                     apply Exists.intro
                     apply And.intro
                     · (refine Or.inl ⟨by rfl, ?_⟩; intro w hSw; (try dsimp only at hSw); go_simp; try (with_reducible rfl))
                     try simp only [Act.put, List.setIfInBounds_toArray, List.set_cons_zero, List.set_cons_succ])
                refine take_ex (i := 46) (oi := { dst := some 208, op := Op.pick (Operand.tmp 197) (Operand.tmp 207) (Operand.const (Value.bool false)), type := 4, pos := "outright.go:118", after := #[{ on := 35, ground := Ground.data }, { on := 45, ground := Ground.data }, { on := 23, ground := Ground.guard }], guard := some (23, false) }) rfl (by kernel_rfl) (by kernel_rfl) (by kernel_rfl) (fun _ _ _ _ h => h) (by assumption) ?_
                apply Exists.intro
                apply And.intro
                · (refine Or.inl ⟨by rfl, ?_⟩; intro w hSw; (try dsimp only at hSw); go_simp; try (with_reducible rfl))
                try simp only [Act.put, List.setIfInBounds_toArray, List.set_cons_zero, List.set_cons_succ]
                refine take_ex (i := 47) (oi := { dst := some 209, op := Op.pick (Operand.tmp 185) (Operand.const (Value.bool true)) (Operand.tmp 208), type := 4, pos := "outright.go:118", after := #[{ on := 23, ground := Ground.data }, { on := 46, ground := Ground.data }], guard := none }) rfl (by kernel_rfl) (by kernel_rfl) (by kernel_rfl) (fun _ _ _ _ h => h) (by assumption) ?_
                apply Exists.intro
                apply And.intro
                · (refine Or.inl ⟨by rfl, ?_⟩; intro w hSw; (try dsimp only at hSw); go_simp; try (with_reducible rfl))
                try simp only [Act.put, List.setIfInBounds_toArray, List.set_cons_zero, List.set_cons_succ]
                refine wpAnyH_done (by kernel_rfl) ?_ _
                have Hbz := Lib.hid hHz.2.2.2
                clear hHz
                go_wp2_with fail
                go_roundw
                case rel => exact ⟨k + 1, by omega, by go_num, Hbz.out⟩
                case measure => simp [intOf]; omega
    · go_wp2_with fail
      go_ret
      exact ⟨rfl, below_join B11.out Hbw.out⟩
end Go.Proofs.YtgodmfjcccakbaaGreatDoor
