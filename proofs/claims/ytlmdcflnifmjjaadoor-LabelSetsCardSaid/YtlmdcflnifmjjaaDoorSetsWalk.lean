import Derived.Test.YtlmdcflnifmjjaaDoorOpenNums
import Derived.Test.YtlmdcflnifmjjaaDoorRefList
import Derived.Test.YtlmdcflnifmjjaaDoorNumbers
import Derived.Maps.AppendAt
namespace Go.Proofs.YtlmdcflnifmjjaaDoor
open Go.RowKit

/-- a row's first part, as a slice -/
theorem own_front {w : World} {base g n cap : Nat} {e : TypeId} {q : IntKind} {l : List Int} {x : Value} (h : w.ownsRow base e 1 (.slice (some ⟨g, 0, none⟩) (n + 1) cap) (n + 1) (l.map (Value.int q) ++ [x])) : Nums q w (.slice (some ⟨g, 0, none⟩) n cap) l ∧ w.cell? ⟨g, n, none⟩ = some x ∧ n + 1 ≤ cap ∧ cap ≤ maxLen := by
  have hn : l.length = n := by have := h.1; simp at this; omega
  have hcap : n + 1 ≤ cap ∧ cap ≤ maxLen := by
    rcases h.2 with ⟨h1, _⟩ | ⟨g', cap', cur, hv, _, _, hnc, hcm, _⟩
    · cases h1
    · cases hv; exact ⟨hnc, hcm⟩
  refine ⟨?_, ?_, hcap.1, hcap.2⟩
  · by_cases h0 : 0 < n
    · refine .inr ⟨g, 0, cap, by rw [List.length_map, hn], by rw [List.length_map]; omega, by rw [List.length_map]; omega, hcap.2, fun i hi => ?_⟩
      rw [List.length_map] at hi
      rw [Nat.zero_add, h.cellAt i (by omega), List.getElem?_append_left (by rw [List.length_map]; exact hi), List.getElem?_eq_getElem (by rw [List.length_map]; exact hi)]
    · obtain rfl : n = 0 := by omega
      exact .inl ⟨_, _, rfl, by rw [List.eq_nil_of_length_eq_zero hn]; rfl⟩
  · rw [h.cellAt n (by omega), List.getElem?_append_right (by rw [List.length_map]; omega), List.length_map, hn, Nat.sub_self]
    rfl

set_option maxHeartbeats 16000000 in
set_option maxRecDepth 100000 in
theorem sets_walk (u : Value) (l : List Int) (w : World) (hu : Nums .i64 w u l) (hf : SliceForm u) (hlen : l.length * 8 ≤ 140737488351232) (hT : Deb w) :
    Calls Tryd.prog 3 #[u] w fun e w' => e = .returned (.bool true) ∧ Below w.heap.size w w' := by
  obtain ⟨i0, hi, hz0, hz1, hz2⟩ := info_parts Tryd.info3
  have HT := Lib.hid hT
  obtain ⟨ao, cap, hus⟩ := hu.slice
  obtain ⟨n, hn⟩ : ∃ n, l.length = n := ⟨_, rfl⟩
  have Hn := Lib.hid hn
  rw [hn] at hlen hus
  subst hus
  have Hu := Lib.hid hu
  have Hf := Lib.hid hf
  clear hT hu hf hn
  have Ho := Lib.hid (World.ownsRow_made (e := 3) (size := 1) w #[] 0 (Nat.le_refl w.heap.size) (Nat.zero_le _) rfl)
  have Hu1 := Lib.hid (Hu.out.kept ((Below.refl w.heap.size w).alloc (Nat.le_refl _) (.cells #[] 3)))
  go_enter Tryd.func3, Tryd.ntmps3
  go_wp2_with (at_builtin; refine wpList_append_nums rfl _ _ Tryd.underlying22 hi hz0 hz1 hz2 rfl rfl w.heap.size _ 0 [] rfl Ho.out _ l rfl Hu1.out Hf.out ?hb ?hs ?_)
  case hb => rw [Hn.out]; omega
  case hs => simp
  intro v1 w1 hown hgrow
  have Hown := Lib.hid (show w1.ownsRow w.heap.size 3 1 v1 n (l.map (Value.int .i64)) by rw [← Hn.out]; simpa using hown)
  have B1 := Lib.hid (((Below.refl w.heap.size w).alloc (Nat.le_refl _) (.cells #[] 3)).grown hgrow (by simp) (fun q hq => by cases hq; exact Nat.le_refl _))
  clear hown hgrow
  go_wp2_with (at_builtin; refine wpList_append_own _ rfl _ _ 22 rfl w.heap.size 3 i0 (.int .i64 0) 1 8 Tryd.underlying22 hi hz0 hz1 hz2 rfl (by decide) _ _ _ rfl (Hown.out.alloc _) ⟨w1.heap.size, 0, none⟩ 1 1 [.int .i64 77] rfl rfl (one_cell _ _ _) (one_list _ rfl) ?c3 ?c4 ?c5 ?_)
  case c3 => unfold maxLen; omega
  case c4 => omega
  case c5 => exact Nat.le_trans B1.out.size (by simp)
  intro v2 w2 hown hgrow _
  have B2 := Lib.hid ((B1.out.alloc B1.out.size _).grown hgrow (Nat.le_trans B1.out.size (by simp)) (fun q hq => (Hown.out.lt q hq).1))
  obtain ⟨g, gc, rfl⟩ := Joins.ownsRow_form hown (by omega)
  obtain ⟨hin, hc77, hgc, hgm⟩ := own_front hown
  have Hin := Lib.hid hin
  have H77 := Lib.hid hc77
  unfold maxLen at hgm
  clear hown hgrow hin hc77
  go_wp2_with fail
  refine (refOf_any _ l _ (Hu.out.kept B2.out)).mono ?_
  rintro e w3 ⟨rfl, hb⟩
  have B23 := Lib.hid hb
  have B3 := Lib.hid (below_join B2.out hb)
  have Hin3 := Lib.hid (Hin.out.kept hb)
  have H773 := Lib.hid (cell_kept hb H77.out)
  have ha := ofA_lt l
  obtain ⟨a, hae⟩ : ∃ a, ofA l = a := ⟨_, rfl⟩
  have Hae := Lib.hid hae
  obtain ⟨er, her⟩ : ∃ a, ofE l = a := ⟨_, rfl⟩
  have Her := Lib.hid her
  rw [hae, her]
  rw [hae] at ha
  clear hb hae her
  go_wp2_with fail
  refine (of_any _ l _ Hin3.out).mono ?_
  rintro e w4 ⟨rfl, hb⟩
  have B4 := Lib.hid (below_join B3.out hb)
  have Hin4 := Lib.hid (Hin3.out.kept hb)
  have H774 := Lib.hid (cell_kept hb H773.out)
  rw [Hae.out, Her.out]
  clear hb
  go_wp2_with fail
  refine (sameNumbers_any _ _ l l _ Hin4.out (Hu.out.kept B4.out)).mono ?_
  rintro e w5 ⟨rfl, hb⟩
  rw [decide_eq_true rfl]
  have B5 := Lib.hid (below_join B4.out hb)
  have c77 := cell_kept hb H774.out
  have hn1 : (n : Int) + 1 ≤ (gc : Int) := by omega
  have hn0 : (0 : Int) ≤ (n : Int) + 1 := by omega
  clear hb
  go_wp2_with fail
  refine (list_any a _ ha (HT.out.kept B5.out)).mono ?_
  rintro e w6 ⟨x, rfl, hx, hb⟩
  have Hx6 := Lib.hid hx
  have s56 := hb.size
  have B6 := Lib.hid (below_join B5.out hb)
  clear hx hb c77
  go_wp2_with fail
  refine (list_any a _ ha (HT.out.kept B6.out)).mono ?_
  rintro e w7 ⟨y, rfl, hy, hb⟩
  have Hy7 := Lib.hid hy
  have Hx7 := Lib.hid (own_kept Hx6.out hb)
  have B7 := Lib.hid (below_join B6.out hb)
  have s67 := hb.size
  have Hap : Hid (y.ownBlock = none ∨ y.ownBlock ≠ x.ownBlock) := by
    show _ ∨ _
    cases h : y.ownBlock with
    | none => exact .inl rfl
    | some k =>
      refine .inr fun e => ?_
      have h1 := (hy.lt k h).1
      have h2 := (Hx6.out.lt k e.symm).2
      omega
  clear hy hb
  go_wp2_with fail
  refine (refList_any a _ ha).mono ?_
  rintro e w8 ⟨z, rfl, hz, hb⟩
  have Hx8 := Lib.hid (own_kept Hx7.out hb)
  have Hy8 := Lib.hid (own_kept Hy7.out hb)
  have Hz8 := Lib.hid (Nums.of_own hz)
  have B8 := Lib.hid (below_join B7.out hb)
  have s78 := hb.size
  clear hz hb
  go_wp2_with fail
  refine (sameNumbers_any x z _ _ _ (Nums.of_own Hx8.out) Hz8.out).mono ?_
  rintro e w9 ⟨rfl, hb⟩
  rw [decide_eq_true rfl]
  have Hx9 := Lib.hid (own_kept Hx8.out hb)
  have Hy9 := Lib.hid (own_kept Hy8.out hb)
  have B9 := Lib.hid (below_join B8.out hb)
  have B69 := Lib.hid (Nat.le_trans s67 (Nat.le_trans s78 hb.size))
  have S56 := Lib.hid s56
  clear hb s56 s67 s78
  have hc64 := countN_le a
  obtain ⟨c, hce⟩ : ∃ c, countN a = c := ⟨_, rfl⟩
  have Hce := Lib.hid hce
  rw [hce] at Hx9 Hy9 hc64
  obtain ⟨xo, xcap, rfl⟩ : ∃ xo xcap, x = .slice xo c xcap := by
    rcases Joins.ownsRow_forms Hx9.out with ⟨hv, h0⟩ | ⟨g', cap', hv⟩
    · exact ⟨none, 0, by rw [hv, h0]⟩
    · exact ⟨_, _, hv⟩
  clear hce
  go_wp2_with fail
  refine (count_any a _ ha).mono ?_
  rintro e w' ⟨rfl, rfl⟩
  rw [Hce.out]
  go_wp2_with fail
  go_loopw [11] (fun i wr => ∃ (k : Nat) (xs : List Value), k ≤ c ∧ i = .int .i64 k ∧ wr.ownsRow w5.heap.size 3 1 (.slice xo c xcap) c xs ∧ wr.ownsRow w6.heap.size 3 1 y c ((intsOf (listN a)).map (Value.int .i64)) ∧ Below w.heap.size w wr ∧ w6.heap.size ≤ wr.heap.size) (fun i _ => c - (intOf i).toNat)
  case atStart => exact ⟨0, _, Nat.zero_le _, rfl, Hx9.out, Hy9.out, B9.out, B69.out⟩
  case round =>
    obtain ⟨k, xs, hk, rfl, hx, hy, hbw, h6⟩ := hrel
    have Hx := Lib.hid hx
    have Hy := Lib.hid hy
    have Hbw := Lib.hid hbw
    clear hx hy hbw
    by_cases hlt : k < c
    · obtain ⟨xg, xc, hxf⟩ := Joins.ownsRow_form Hx.out (by omega)
      cases hxf
      have hxl : xs.length = c := by have := Hx.out.1; simpa using this
      have c1 := Hx.out.cellAt k (by omega)
      rw [List.getElem?_eq_getElem (by omega)] at c1
      have f1 := Hx.out.frozenAt k
      have hst := Hx.out.stored k (.int .i64 (-1))
      have Hst := Lib.hid hst.1
      have Hy2 := Lib.hid (Hy.out.kept hst.2 Hap.out)
      have hxb := (Hx.out.lt xg rfl).1
      have hb5 := B5.out.size
      have Hb2 := Lib.hid (Hbw.out.setCell (p := ⟨xg, k, none⟩) (show w.heap.size ≤ xg by omega) (.int .i64 (-1)))
      obtain ⟨xk, hxk⟩ : ∃ v, xs[k]'(by omega) = v := ⟨_, rfl⟩
      rw [hxk] at c1
      clear hst hxk
      go_wp2_with fail
      go_roundw
      case rel => exact ⟨k + 1, _, by omega, by go_num, Hst.out, Hy2.out, Hb2.out, by simp; exact h6⟩
      case measure => simp [intOf]; omega
    · go_wp2_with fail
      obtain ⟨wo, rfl⟩ : ∃ wo : World, wo = wr := ⟨_, rfl⟩
      go_loopw [9, 12] (fun v i wr => ∃ (j : Nat) (zs : List Value), j ≤ 70 ∧ i = .int .i64 j ∧ wr.ownsRow w5.heap.size 3 1 v (c + j) zs ∧ (y.ownBlock = none ∨ y.ownBlock ≠ v.ownBlock) ∧ wr.ownsRow w6.heap.size 3 1 y c ((intsOf (listN a)).map (Value.int .i64)) ∧ Below w.heap.size w wr ∧ w6.heap.size ≤ wr.heap.size) (fun _ i _ => 70 - (intOf i).toNat)
      case atStart => exact ⟨0, _, Nat.zero_le _, rfl, Hx.out, Hap.out, Hy.out, Hbw.out, h6⟩
      case round =>
        obtain ⟨j, zs, hj, rfl, hv, hap, hy, hbq, h6q⟩ := hrel
        have Hv := Lib.hid hv
        have Hap2 := Lib.hid hap
        have Hyq := Lib.hid hy
        have Hbq := Lib.hid hbq
        clear hv hap hy hbq
        by_cases hjt : j < 70
        · have hs56 := S56.out
          go_wp2_with (at_builtin; refine wpList_append_own_at _ rfl _ _ 22 rfl w5.heap.size 3 i0 (.int .i64 0) 1 8 Tryd.underlying22 hi hz0 hz1 hz2 rfl (by decide) _ _ _ rfl (Hv.out.alloc _) ⟨wr.heap.size, 0, none⟩ 1 1 [.int .i64 (-2)] rfl rfl (one_cell _ _ _) (one_list _ rfl) ?d3 ?d4 ?d5 ?_)
          case d3 => unfold maxLen; omega
          case d4 => omega
          case d5 => simp; omega
          intro v' wz hown hgrow _ hat
          have Hown := Lib.hid hown
          have Hyz := Lib.hid ((Hyq.out.alloc _).kept hgrow Hap2.out)
          have Hbz := Lib.hid ((Hbq.out.alloc Hbq.out.size _).grown hgrow (Nat.le_trans Hbq.out.size (by simp)) (fun q hq => by have h1 := (Hv.out.lt q hq).1; have h2 := B5.out.size; omega))
          have hsz := hgrow.size
          have hsz2 : w6.heap.size ≤ wz.heap.size := by simp at hsz; omega
          have Hapz : Hid (y.ownBlock = none ∨ y.ownBlock ≠ v'.ownBlock) := by
            show _ ∨ _
            rcases Hap2.out with h | h
            · exact .inl h
            · rcases hat with e | e
              · rw [e]; exact .inr h
              · refine .inr fun e2 => ?_
                rw [e] at e2
                have h1 := (Hyq.out.lt _ e2).2
                have h2 : (wr.alloc (.cells #[.int .i64 (-2)] 3)).heap.size = wr.heap.size + 1 := World.size_alloc _ _
                omega
          have Hsz2 := Lib.hid hsz2
          clear hown hgrow hat hsz hsz2
          go_wp2_with fail
          go_roundw
          case rel => exact ⟨j + 1, _, by omega, by go_num, Hown.out, Hapz.out, Hyz.out, Hbz.out, Hsz2.out⟩
          case measure => simp [intOf]; omega
        · obtain rfl : j = 70 := by omega
          obtain ⟨vo, vcap, hvv⟩ : ∃ vo vcap, _ = Value.slice vo (c + 70) vcap := by
            rcases Joins.ownsRow_forms Hv.out with ⟨hv, h0⟩ | ⟨g', cap', hv⟩
            · omega
            · exact ⟨_, _, hv⟩
          subst hvv
          go_wp2_with fail
          refine (count_any a _ ha).mono ?_
          rintro e w' ⟨rfl, rfl⟩
          rw [Hce.out]
          go_wp2_with fail
          refine (refList_any a _ ha).mono ?_
          rintro e wa ⟨z, rfl, hz, hb⟩
          have Hya := Lib.hid (own_kept Hyq.out hb)
          have Hza := Lib.hid (Nums.of_own hz)
          have Ba := Lib.hid (below_join Hbq.out hb)
          clear hz hb
          go_wp2_with fail
          refine (sameNumbers_any y z _ _ _ (Nums.of_own Hya.out) Hza.out).mono ?_
          rintro e wb ⟨rfl, hb⟩
          rw [decide_eq_true rfl]
          have Bb := Lib.hid (below_join Ba.out hb)
          clear hb
          go_wp2_with fail
          go_ret
          exact ⟨rfl, Bb.out⟩
end Go.Proofs.YtlmdcflnifmjjaaDoor
