import Derived.Test.YtlmdcflnifmjjaaBtwIt
import Derived.Test.YtlmdcflnifmjjaaRefBtw
import Derived.Test.YtlmdcflnifmjjaaHighWalk
import Derived.RangeFuncFrom
import Derived.RangeFuncCalls
import Derived.RangeFuncWrites
import Derived.RegionIn
import Derived.BigRegionIn
namespace Go.Proofs.Ytlmdcflnifmjjaa
open Go.RowKit Go.Shelf

attribute [local go_sem] Oper.semAt_some

theorem res_between (w : World) (tmps : Array Value) (g : Nat) (v : Value) (hp : tmps.getD 6 undef = .pointer (some ⟨g, 0, none⟩)) (hc : w.cell? ⟨g, 0, none⟩ = some v) :
    (results Try.f4 tmps).run Try.prog w = .ok v w := by
  have hp' : tmps[6]?.getD undef = .pointer (some ⟨g, 0, none⟩) := by simpa using hp
  simp [results, Try.results4, hp', asAddr, go_sem, hc]
theorem nil_seq (W : World) : (binOp .eql 36 .nilFunc .nilFunc).run Try.prog W = .ok (.bool true) W := by kernel_rfl

set_option maxRecDepth 100000 in
set_option maxHeartbeats 16000000 in
theorem between_walk (a b : Nat) (leave : Int) (w : World) (ha : a < 18446744073709551616) (hb : b < 18446744073709551616) :
    Calls Try.prog 4 #[.int .u64 a, .int .u64 b, .int .i64 leave] w fun e w' => e = .returned (.bool true) ∧ Below w.heap.size w w' := by
  obtain ⟨i0, hi, hz0, hz1, hz2⟩ := info_parts Try.info25
  have hcl := countN_le a
  have Hcn : Hid ((listN a).length = countN a) := rfl
  refine (callsIn_wide (n := 6)).1 ?_
  refine callsIn_of_wp_marks Try.func4 rfl trivial ?_ rfl
  simp only [Try.ntmps4, List.size_toArray, List.length_cons, List.length_nil, Nat.reduceAdd, Nat.reduceSub, Array.replicate_succ, Array.replicate_zero, List.push_toArray, List.append_toArray, List.nil_append, List.cons_append]
  obtain ⟨s0, b0, rl0, rr0⟩ := two_cells w (.int .i64 leave) (.bool false) 3 4
  have S0 := Lib.hid s0
  have B0 := Lib.hid b0
  have RL0 := Lib.hid rl0
  have RR0 := Lib.hid rr0
  clear s0 b0 rl0 rr0
  gi_wp2_with fail
  refine ⟨trivial, (callsIn_wide.2 (count_any a _ ha)).mono ?_⟩
  rintro e w' ⟨rfl, rfl⟩
  gi_wp2_with fail
  refine ⟨trivial, (callsIn_wide.2 (refList_any a _ ha)).mono ?_⟩
  rintro e w1 ⟨lv, rfl, hlv, hb1⟩
  obtain ⟨lo, lc, hls⟩ := (Nums.of_own hlv).slice
  rw [intsOf_len, Hcn.out] at hls
  subst hls
  have B1 := Lib.hid (below_join B0.out hb1)
  have S1 : Hid (w.heap.size + 2 ≤ w1.heap.size) := by have := hb1.size; have := S0.out; show _ ≤ _; omega
  have RL1 := Lib.hid (row_kept hb1 RL0.out)
  have RR1 := Lib.hid (row_kept hb1 RR0.out)
  clear hb1 hlv S0 B0 RL0 RR0
  gi_wp2_with fail
  refine ⟨trivial, (callsIn_wide.2 (refBtw_any a b _ ha hb)).mono ?_⟩
  rintro e w2 ⟨hb2, ⟨h16, rfl⟩ | ⟨h16, wv, hs, rfl, hhs, hwo⟩⟩
  · have B2 := Lib.hid (below_join B1.out hb2)
    have R2 := Lib.hid (row_kept hb2 RR1.out)
    have B3 := Lib.hid (B2.out.alloc B2.out.size (.cells #[.slice none 0 0] 23))
    have R3 := Lib.hid (row_kept ((Below.refl w2.heap.size w2).alloc (Nat.le_refl _) (.cells #[.slice none 0 0] 23)) R2.out)
    have H16 := Lib.hid h16
    clear hb2 h16
    gi_wp2_with fail
    refine ⟨trivial, (callsIn_wide.2 (between_any a b _ ha hb)).mono ?_⟩
    rintro e w4 ⟨hb4, ⟨_, rfl⟩ | ⟨h16', _⟩⟩
    · have B4 := Lib.hid (below_join B3.out hb4)
      have R4 := Lib.hid (row_kept hb4 R3.out)
      have cr := cell_of_one R4.out
      have fr := free_of_one R4.out
      have hns := nil_seq
      clear hb4
      gi_wp2_with fail
      exact ⟨_, res_between _ _ (w.heap.size + 1) _ rfl (World.cell?_setCell_same' _ _ _ (by rw [cr]; rfl)), rfl, B4.out.setCell (Nat.le_succ _) _⟩
    · have := H16.out
      omega
  · have B2 := Lib.hid (below_join B1.out hb2)
    have R2 := Lib.hid (row_kept hb2 RR1.out)
    have RL2 := Lib.hid (row_kept hb2 RL1.out)
    have S2 := Lib.hid (Nat.le_trans S1.out hb2.size)
    have HW2 := Lib.hid (Labs.of_own hwo)
    have Hhs := Lib.hid hhs
    have H16 := Lib.hid h16
    have hal := (Below.refl w2.heap.size w2).alloc (Nat.le_refl _) (.cells #[wv] 23)
    have B3 := Lib.hid (below_join B2.out hal)
    have R3 := Lib.hid (row_kept hal R2.out)
    have RL3 := Lib.hid (row_kept hal RL2.out)
    have HW3 := Lib.hid (HW2.out.kept hal)
    have RW3 := Lib.hid (heap_alloc_new w2 (.cells #[wv] 23))
    obtain ⟨wo, wc, hws⟩ := HW2.out.slice
    clear hb2 hal hhs h16 hwo
    subst hws
    gi_wp2_with fail
    refine ⟨trivial, (callsIn_wide.2 (between_any a b _ ha hb)).mono ?_⟩
    rintro e w4 ⟨hb4, ⟨h16', _⟩ | ⟨_, g, hg, rfl, hga, hgb, hgf⟩⟩
    · have := H16.out
      omega
    · have B4 := Lib.hid (below_join B3.out hb4)
      have R4 := Lib.hid (row_kept hb4 R3.out)
      have RL4 := Lib.hid (row_kept hb4 RL3.out)
      have RW4 := Lib.hid (row_kept hb4 RW3.out)
      have HW4 := Lib.hid (HW3.out.kept hb4)
      have S4 : Hid (w.heap.size + 2 ≤ w4.heap.size) := by have h1 := hb4.size; have h2 := S2.out; simp at h1; show _ ≤ _; omega
      have W24 : Hid (w2.heap.size < w4.heap.size) := by have h1 := hb4.size; simp at h1; show _ < _; omega
      have GA := Lib.hid hga
      have GB := Lib.hid hgb
      have GF := Lib.hid hgf
      have hsn := fun W => seq_nil W (.pointer (some ⟨g, 0, none⟩)) (.pointer (some ⟨g + 1, 0, none⟩)) (.pointer (some ⟨g + 2, 0, none⟩))
      clear hb4 hga hgb hgf hg
      gi_wp2_with fail
      have b5 := (Below.refl w4.heap.size w4).alloc (Nat.le_refl _) (.cells #[.int .i64 0] 3)
      have rn5 := heap_alloc_new w4 (.cells #[.int .i64 0] 3)
      have s5 : (w4.alloc (.cells #[.int .i64 0] 3)).heap.size = w4.heap.size + 1 := World.size_alloc _ _
      obtain ⟨w5, hw5⟩ : ∃ w5, (w4.alloc (.cells #[.int .i64 0] 3)) = w5 := ⟨_, rfl⟩
      rw [hw5] at b5 rn5 s5 ⊢
      clear hw5
      have hlen1 : (btw a b).length ≤ 65536 := by
        rw [btw]
        split
        · rw [List.length_map, List.length_range]
          have h2 : 2 ^ countN (lessN b a) ≤ 2 ^ 16 := Nat.pow_le_pow_right (by decide) H16.out
          omega
        · simp
      have Hlen1 := Lib.hid hlen1
      clear hlen1
      refine' wpIn_rangeFunc_ownF rfl (by decide) (gf := 22) (lb := #[.pointer (some ⟨g, 0, none⟩), .pointer (some ⟨g + 1, 0, none⟩), .pointer (some ⟨g + 2, 0, none⟩)]) rfl trivial (enters_of Try.func22 (by kernel_rfl) rfl)
        (btw_stops 5 (by decide) g w4.heap.size a b ha hb ?hg w5 ?hn0 ?h1 ?h2 ?h3) belowK_t (belowK_b (by omega)) (Below.refl _ _) (fun _ => rfl)
        (fun pre W => W.heap[w4.heap.size]? = some (.cells #[.int .i64 (pre.length : Int)] 3 (0, 0)) ∧ Below w4.heap.size w4 W)
        (fun c pre W => c = .exit 0 ∧ Below w4.heap.size w4 W) ?hI ?hIx ?h0 _ ?assign ?body ?done ?stop
      case assign =>
        intro l x W K hK
        gi_wp2
        exact hK
      case hg => exact lt_of_block GF.out
      case hn0 => omega
      case h1 => exact cell_of_one (row_kept b5 GA.out)
      case h2 => exact cell_of_one (row_kept b5 GB.out)
      case h3 => exact cell_of_one (row_kept b5 GF.out)
      case hI =>
        rintro s W W' row ⟨h2, h4⟩ hgr hr
        refine ⟨?_, h4.grown hgr h4.size (fun k e => by have := (hr k e).1; omega)⟩
        rw [hgr.block _ (lt_of_block h2) (fun e => by
          obtain ⟨_, o, ho, hc⟩ := hr _ e.symm
          rw [h2] at ho
          cases ho
          cases hc)]
        exact h2
      case hIx =>
        rintro c s W W' row ⟨h2, h4⟩ hgr hr
        exact ⟨h2, h4.grown hgr h4.size (fun k e => by have := (hr k e).1; omega)⟩
      case h0 => exact ⟨rn5, b5⟩
      case body =>
        rintro l pre x W ⟨hm, hB⟩ hlt
        have hpl : pre.length ≤ 65535 := by have := Hlen1.out; omega
        have cl := cell_of_one (row_kept hB RL4.out)
        have cm := cell_of_one hm
        have fm := free_of_one hm
        have hne : w.heap.size ≠ w4.heap.size := by have := S4.out; omega
        have HB := Lib.hid hB
        have Hm := Lib.hid hm
        obtain ⟨m, hml⟩ : ∃ m, pre.length = m := ⟨_, rfl⟩
        rw [hml] at cm hpl
        have Hml := Lib.hid hml
        clear hm hB hml hlt
        gi_wp2_with fail
        · exact ⟨KeepsOthers.setCell _ _ _, rfl, HB.out.setCell (p := ⟨w4.heap.size, 0, none⟩) (Nat.le_refl _) _⟩
        · exact ⟨KeepsOthers.setCell _ _ _, (Below.refl _ _).setCell (p := ⟨w4.heap.size, 0, none⟩) (Nat.le_refl _) _, by rw [one_setCell Hm.out, List.length_append, Hml.out]; rfl, HB.out.setCell (p := ⟨w4.heap.size, 0, none⟩) (Nat.le_refl _) _⟩
      case done =>
        rintro D ys W hD _ ⟨_, hB⟩ hK
        have HB := Lib.hid hB
        have HD := Lib.hid hD
        have HK := Lib.hid hK
        have hWs := hB.size
        clear hB hD hK
        gi_wp2_with fail
        have b6 := (Below.refl W.heap.size W).alloc (Nat.le_refl _) (.cells #[.slice none 0 0] 23)
        have rg6 := heap_alloc_new W (.cells #[.slice none 0 0] 23)
        have s6 : (W.alloc (.cells #[.slice none 0 0] 23)).heap.size = W.heap.size + 1 := World.size_alloc _ _
        obtain ⟨w6, hw6⟩ : ∃ w6, (W.alloc (.cells #[.slice none 0 0] 23)) = w6 := ⟨_, rfl⟩
        rw [hw6] at b6 rg6 s6 ⊢
        clear hw6
        refine' wpIn_rangeFunc_ownF rfl (by decide) (gf := 22) (lb := #[.pointer (some ⟨g, 0, none⟩), .pointer (some ⟨g + 1, 0, none⟩), .pointer (some ⟨g + 2, 0, none⟩)]) rfl trivial (enters_of Try.func22 (by kernel_rfl) rfl)
          (btw_stops 5 (by decide) g W.heap.size a b ha hb ?hgA w6 ?hn0A ?h1A ?h2A ?h3A) belowK_t (belowK_b (by omega)) (Below.refl _ _) (fun _ => rfl)
          (fun pre V => (∃ v, V.heap[W.heap.size]? = some (.cells #[v] 23 (0, 0)) ∧ V.ownsRow (W.heap.size + 1) 25 1 v pre.length (valsL pre)) ∧ Below W.heap.size W V)
          (fun _ _ _ => False) ?hIA ?hIxA ?h0A _ ?assignA ?bodyA ?doneA ?stopA
        case assignA =>
          intro l x V K hK
          gi_wp2
          exact hK
        case hgA => exact Nat.lt_of_lt_of_le (lt_of_block GF.out) hWs
        case hn0A => omega
        case h1A => exact cell_of_one (row_kept b6 (row_kept HB.out GA.out))
        case h2A => exact cell_of_one (row_kept b6 (row_kept HB.out GB.out))
        case h3A => exact cell_of_one (row_kept b6 (row_kept HB.out GF.out))
        case hIA =>
          rintro s V V' row ⟨⟨v, h2, h3⟩, h4⟩ hgr hr
          refine ⟨⟨v, ?_, h3.kept hgr ?_⟩, h4.grown hgr h4.size (fun k e => by have := (hr k e).1; omega)⟩
          · rw [hgr.block _ (lt_of_block h2) (fun e => by
              obtain ⟨_, o, ho, hc⟩ := hr _ e.symm
              rw [h2] at ho
              cases ho
              cases hc)]
            exact h2
          · cases hv : v.ownBlock with
            | none => exact .inl rfl
            | some k =>
              refine .inr fun e => ?_
              obtain ⟨_, o, ho, hc⟩ := hr k e.symm
              rcases h3.2 with ⟨hvn, _⟩ | ⟨g', cap', cur, hvs, _, hgg, _⟩
              · rw [hvn] at hv; cases hv
              · rw [hvs] at hv
                cases hv
                rw [hgg] at ho
                cases ho
                cases hc
        case hIxA => exact fun c s V V' row h _ _ => h
        case h0A => exact ⟨⟨_, rg6, World.ownsRow_nil _ _ _ _⟩, b6⟩
        case bodyA =>
          rintro l pre x V ⟨⟨v, hgot, hrow⟩, hBV⟩ hlt
          have hpl : pre.length ≤ 65535 := by have := Hlen1.out; omega
          have cg := cell_of_one hgot
          have cw := cell_of_one (row_kept hBV (row_kept HB.out RW4.out))
          have HBV := Lib.hid hBV
          have Hgot := Lib.hid hgot
          have hVs := hBV.size
          have Hne : Hid (w2.heap.size ≠ W.heap.size) := by have := W24.out; show _ ≠ _; omega
          obtain ⟨m, hml⟩ : ∃ m, pre.length = m := ⟨_, rfl⟩
          have hlt2 : (m : Int) + 1 ≤ (hs.length : Int) := by
            have h := congrArg List.length Hhs.out
            rw [List.length_map] at h
            omega
          have hr2 := hrow
          rw [hml] at hr2 hpl
          have Hrow := Lib.hid hr2
          have Hml := Lib.hid hml
          clear hBV hgot hrow hlt hml hr2
          gi_wp2_with (gi_at_builtin; refine wpListIn_append_own _ rfl _ _ 23 rfl (W.heap.size + 1) 25 i0 (.int .u64 0) 1 8 Try.underlying23 hi hz0 hz1 hz2 rfl (by decide) _ _ _ rfl (Hrow.out.alloc _) ⟨V.heap.size, 0, none⟩ 1 1 [.int .u64 (x.1 : Int)] rfl rfl (one_cellL _ _ _) (one_listL _ rfl) (by unfold maxLen; omega) (by omega) (by simp; have := lt_of_block Hgot.out; omega) ?_)
          intro v' V1 hown' hgrow _
          obtain ⟨g', cap', rfl⟩ := ownsRow_succ hown'
          have k1 : KeepsOthers V V1 := (KeepsOthers.alloc V _).trans (KeepsOthers.of_grownBy hgrow (fun j o hj ho => by
            rcases Hrow.out.2 with ⟨hvn, _⟩ | ⟨g1, cap1, cur, hvs, _, hgg, _⟩
            · rw [hvn] at hj; cases hj
            · rw [hvs] at hj
              cases hj
              rw [Below.heap_alloc _ _ _ (lt_of_block hgg), hgg] at ho
              cases ho
              rfl))
          have bn : Below W.heap.size V V1 := ((Below.refl W.heap.size V).alloc hVs _).grown hgrow (Nat.le_trans hVs (by simp)) (fun q hq => by have := (Hrow.out.lt q hq).1; omega)
          have hgot1 : V1.heap[W.heap.size]? = some (.cells #[v] 23 (0, 0)) := by
            rw [hgrow.block W.heap.size (by have := lt_of_block Hgot.out; simp; omega) (fun e => by have := (Hrow.out.lt _ e.symm).1; omega), Below.heap_alloc _ _ _ (lt_of_block Hgot.out)]
            exact Hgot.out
          have cg1 := cell_of_one hgot1
          have fg1 := free_of_one hgot1
          have cw1 : V1.cell? ⟨w2.heap.size, 0, none⟩ = _ := (bn.cell (p := ⟨w2.heap.size, 0, none⟩) (show w2.heap.size < W.heap.size by have := W24.out; omega)).trans cw
          have Hown' := Lib.hid hown'
          have K1 := Lib.hid k1
          have BN := Lib.hid bn
          have Hgot1 := Lib.hid hgot1
          have hne := Hne.out
          clear hown' hgrow k1 bn hgot1 cg cw
          gi_wp2_with fail
          refine ⟨K1.out.trans (KeepsOthers.setCell _ _ _), BN.out.setCell (p := ⟨W.heap.size, 0, none⟩) (Nat.le_refl _) _, ⟨_, one_setCell Hgot1.out, ?_⟩, (HBV.out.trans BN.out).setCell (p := ⟨W.heap.size, 0, none⟩) (Nat.le_refl _) _⟩
          have e : valsL (pre ++ [x]) = valsL pre ++ [.int .u64 (x.1 : Int)] := by simp [valsL, encL]
          rw [e, List.length_append, Hml.out]
          exact ownsRow_setCell_other Hown'.out (a := ⟨W.heap.size, 0, none⟩) (fun e2 => by have h := (Hown'.out.lt W.heap.size e2).1; omega) _
        case stopA =>
          rintro D2 c pre V _ _ h _
          exact h.elim
        case doneA =>
          rintro D2 ys V hD2 hS ⟨⟨v, hgot, hrow⟩, hBV⟩ hK2
          obtain rfl : ys = hs := hs_same (hS.trans Hhs.out.symm)
          have cg := cell_of_one hgot
          have cw := cell_of_one (row_kept hBV (row_kept HB.out RW4.out))
          have HWV := Lib.hid ((HW4.out.kept HB.out).kept hBV)
          have HrV := Lib.hid (Labs.of_own hrow)
          have RV := Lib.hid (row_kept hBV (row_kept HB.out R4.out))
          have KD := Lib.hid (row_kept hBV HK.out)
          have KD2 := Lib.hid hK2
          have HD2 := Lib.hid hD2
          have BVV := Lib.hid (below_join B4.out (below_join HB.out hBV))
          have DW := Lib.hid (lt_of_block HK.out)
          clear hgot hrow hBV hK2 hD2 hS
          gi_wp2_with fail
          refine ⟨trivial, (callsIn_wide.2 (sameLabels_any v _ _ _ _ HrV.out.nums HWV.out.nums)).mono ?_⟩
          rintro e V2 ⟨rfl, hb2⟩
          rw [decide_eq_true rfl]
          have rr2 := row_kept hb2 RV.out
          have cr2 := cell_of_one rr2
          have fr2 := free_of_one rr2
          have RR2 := Lib.hid rr2
          have KE := Lib.hid (row_kept hb2 KD.out)
          have KE2 := Lib.hid (row_kept hb2 KD2.out)
          have BE := Lib.hid (below_join BVV.out hb2)
          clear hb2 rr2 cg cw
          gi_wp2_with fail
          have n1 : w.heap.size + 1 ≠ D2 := by have h1 := HD2.out; have h2 := S4.out; omega
          have n2 : w.heap.size + 1 ≠ D := by have h1 := HD.out; have h2 := S4.out; omega
          have n3 : D ≠ D2 := by have h1 := HD2.out; have h2 := DW.out; omega
          have q1 : (V2.setCell ⟨w.heap.size + 1, 0, none⟩ (.bool true)).heap[D2]? = some (.deferred (some [])) := by
            rw [heap_setCell_other _ _ _ _ (Ne.symm n1)]; exact KE2.out
          have q2 : ((V2.setCell ⟨w.heap.size + 1, 0, none⟩ (.bool true)).putObj D2 (.deferred none)).heap[D]? = some (.deferred (some [])) := by
            rw [World.putObj_heap_other n3, heap_setCell_other _ _ _ _ (Ne.symm n2)]; exact KE.out
          refine ⟨by simp, .inl ⟨_, _, rfl, run_takeDeferred q1, ?_⟩⟩
          refine ⟨by simp, .inl ⟨_, _, rfl, run_takeDeferred q2, ?_⟩⟩
          refine ⟨_, res_between _ _ (w.heap.size + 1) (.bool true) rfl ?_, rfl, ?_⟩
          · have h1 := World.cell?_setCell_same' V2 ⟨w.heap.size + 1, 0, none⟩ (.bool true) (by rw [cr2]; rfl)
            unfold World.cell? at h1 ⊢
            rw [World.putObj_heap_other n2, World.putObj_heap_other n1]
            exact h1
          · exact ((BE.out.setCell (p := ⟨w.heap.size + 1, 0, none⟩) (Nat.le_succ _) _).trans (belowK_b (w := w) (Nat.le_refl _) _ D2 _ _ (by have h1 := HD2.out; have h2 := S4.out; omega) q1 rfl rfl)).trans (belowK_b (w := w) (Nat.le_refl _) _ D _ _ (by have h1 := HD.out; have h2 := S4.out; omega) q2 rfl rfl)
      case stop =>
        rintro D c pre W hD _ ⟨rfl, hB⟩ hK
        have HB := Lib.hid hB
        have HD := Lib.hid hD
        have HK := Lib.hid hK
        have hWs := hB.size
        clear hB hD hK
        gi_wp2_with fail
        have b6 := (Below.refl W.heap.size W).alloc (Nat.le_refl _) (.cells #[.slice none 0 0] 23)
        have rg6 := heap_alloc_new W (.cells #[.slice none 0 0] 23)
        have s6 : (W.alloc (.cells #[.slice none 0 0] 23)).heap.size = W.heap.size + 1 := World.size_alloc _ _
        obtain ⟨w6, hw6⟩ : ∃ w6, (W.alloc (.cells #[.slice none 0 0] 23)) = w6 := ⟨_, rfl⟩
        rw [hw6] at b6 rg6 s6 ⊢
        clear hw6
        refine' wpIn_rangeFunc_ownF rfl (by decide) (gf := 22) (lb := #[.pointer (some ⟨g, 0, none⟩), .pointer (some ⟨g + 1, 0, none⟩), .pointer (some ⟨g + 2, 0, none⟩)]) rfl trivial (enters_of Try.func22 (by kernel_rfl) rfl)
          (btw_stops 5 (by decide) g W.heap.size a b ha hb ?hgB w6 ?hn0B ?h1B ?h2B ?h3B) belowK_t (belowK_b (by omega)) (Below.refl _ _) (fun _ => rfl)
          (fun pre V => (∃ v, V.heap[W.heap.size]? = some (.cells #[v] 23 (0, 0)) ∧ V.ownsRow (W.heap.size + 1) 25 1 v pre.length (valsL pre)) ∧ Below W.heap.size W V)
          (fun _ _ _ => False) ?hIB ?hIxB ?h0B _ ?assignB ?bodyB ?doneB ?stopB
        case assignB =>
          intro l x V K hK
          gi_wp2
          exact hK
        case hgB => exact Nat.lt_of_lt_of_le (lt_of_block GF.out) hWs
        case hn0B => omega
        case h1B => exact cell_of_one (row_kept b6 (row_kept HB.out GA.out))
        case h2B => exact cell_of_one (row_kept b6 (row_kept HB.out GB.out))
        case h3B => exact cell_of_one (row_kept b6 (row_kept HB.out GF.out))
        case hIB =>
          rintro s V V' row ⟨⟨v, h2, h3⟩, h4⟩ hgr hr
          refine ⟨⟨v, ?_, h3.kept hgr ?_⟩, h4.grown hgr h4.size (fun k e => by have := (hr k e).1; omega)⟩
          · rw [hgr.block _ (lt_of_block h2) (fun e => by
              obtain ⟨_, o, ho, hc⟩ := hr _ e.symm
              rw [h2] at ho
              cases ho
              cases hc)]
            exact h2
          · cases hv : v.ownBlock with
            | none => exact .inl rfl
            | some k =>
              refine .inr fun e => ?_
              obtain ⟨_, o, ho, hc⟩ := hr k e.symm
              rcases h3.2 with ⟨hvn, _⟩ | ⟨g', cap', cur, hvs, _, hgg, _⟩
              · rw [hvn] at hv; cases hv
              · rw [hvs] at hv
                cases hv
                rw [hgg] at ho
                cases ho
                cases hc
        case hIxB => exact fun c s V V' row h _ _ => h
        case h0B => exact ⟨⟨_, rg6, World.ownsRow_nil _ _ _ _⟩, b6⟩
        case bodyB =>
          rintro l pre x V ⟨⟨v, hgot, hrow⟩, hBV⟩ hlt
          have hpl : pre.length ≤ 65535 := by have := Hlen1.out; omega
          have cg := cell_of_one hgot
          have cw := cell_of_one (row_kept hBV (row_kept HB.out RW4.out))
          have HBV := Lib.hid hBV
          have Hgot := Lib.hid hgot
          have hVs := hBV.size
          have Hne : Hid (w2.heap.size ≠ W.heap.size) := by have := W24.out; show _ ≠ _; omega
          obtain ⟨m, hml⟩ : ∃ m, pre.length = m := ⟨_, rfl⟩
          have hlt2 : (m : Int) + 1 ≤ (hs.length : Int) := by
            have h := congrArg List.length Hhs.out
            rw [List.length_map] at h
            omega
          have hr2 := hrow
          rw [hml] at hr2 hpl
          have Hrow := Lib.hid hr2
          have Hml := Lib.hid hml
          clear hBV hgot hrow hlt hml hr2
          gi_wp2_with (gi_at_builtin; refine wpListIn_append_own _ rfl _ _ 23 rfl (W.heap.size + 1) 25 i0 (.int .u64 0) 1 8 Try.underlying23 hi hz0 hz1 hz2 rfl (by decide) _ _ _ rfl (Hrow.out.alloc _) ⟨V.heap.size, 0, none⟩ 1 1 [.int .u64 (x.1 : Int)] rfl rfl (one_cellL _ _ _) (one_listL _ rfl) (by unfold maxLen; omega) (by omega) (by simp; have := lt_of_block Hgot.out; omega) ?_)
          intro v' V1 hown' hgrow _
          obtain ⟨g', cap', rfl⟩ := ownsRow_succ hown'
          have k1 : KeepsOthers V V1 := (KeepsOthers.alloc V _).trans (KeepsOthers.of_grownBy hgrow (fun j o hj ho => by
            rcases Hrow.out.2 with ⟨hvn, _⟩ | ⟨g1, cap1, cur, hvs, _, hgg, _⟩
            · rw [hvn] at hj; cases hj
            · rw [hvs] at hj
              cases hj
              rw [Below.heap_alloc _ _ _ (lt_of_block hgg), hgg] at ho
              cases ho
              rfl))
          have bn : Below W.heap.size V V1 := ((Below.refl W.heap.size V).alloc hVs _).grown hgrow (Nat.le_trans hVs (by simp)) (fun q hq => by have := (Hrow.out.lt q hq).1; omega)
          have hgot1 : V1.heap[W.heap.size]? = some (.cells #[v] 23 (0, 0)) := by
            rw [hgrow.block W.heap.size (by have := lt_of_block Hgot.out; simp; omega) (fun e => by have := (Hrow.out.lt _ e.symm).1; omega), Below.heap_alloc _ _ _ (lt_of_block Hgot.out)]
            exact Hgot.out
          have cg1 := cell_of_one hgot1
          have fg1 := free_of_one hgot1
          have cw1 : V1.cell? ⟨w2.heap.size, 0, none⟩ = _ := (bn.cell (p := ⟨w2.heap.size, 0, none⟩) (show w2.heap.size < W.heap.size by have := W24.out; omega)).trans cw
          have Hown' := Lib.hid hown'
          have K1 := Lib.hid k1
          have BN := Lib.hid bn
          have Hgot1 := Lib.hid hgot1
          have hne := Hne.out
          clear hown' hgrow k1 bn hgot1 cg cw
          gi_wp2_with fail
          refine ⟨K1.out.trans (KeepsOthers.setCell _ _ _), BN.out.setCell (p := ⟨W.heap.size, 0, none⟩) (Nat.le_refl _) _, ⟨_, one_setCell Hgot1.out, ?_⟩, (HBV.out.trans BN.out).setCell (p := ⟨W.heap.size, 0, none⟩) (Nat.le_refl _) _⟩
          have e : valsL (pre ++ [x]) = valsL pre ++ [.int .u64 (x.1 : Int)] := by simp [valsL, encL]
          rw [e, List.length_append, Hml.out]
          exact ownsRow_setCell_other Hown'.out (a := ⟨W.heap.size, 0, none⟩) (fun e2 => by have h := (Hown'.out.lt W.heap.size e2).1; omega) _
        case stopB =>
          rintro D2 c pre V _ _ h _
          exact h.elim
        case doneB =>
          rintro D2 ys V hD2 hS ⟨⟨v, hgot, hrow⟩, hBV⟩ hK2
          obtain rfl : ys = hs := hs_same (hS.trans Hhs.out.symm)
          have cg := cell_of_one hgot
          have cw := cell_of_one (row_kept hBV (row_kept HB.out RW4.out))
          have HWV := Lib.hid ((HW4.out.kept HB.out).kept hBV)
          have HrV := Lib.hid (Labs.of_own hrow)
          have RV := Lib.hid (row_kept hBV (row_kept HB.out R4.out))
          have KD := Lib.hid (row_kept hBV HK.out)
          have KD2 := Lib.hid hK2
          have HD2 := Lib.hid hD2
          have BVV := Lib.hid (below_join B4.out (below_join HB.out hBV))
          have DW := Lib.hid (lt_of_block HK.out)
          clear hgot hrow hBV hK2 hD2 hS
          gi_wp2_with fail
          refine ⟨trivial, (callsIn_wide.2 (sameLabels_any v _ _ _ _ HrV.out.nums HWV.out.nums)).mono ?_⟩
          rintro e V2 ⟨rfl, hb2⟩
          rw [decide_eq_true rfl]
          have rr2 := row_kept hb2 RV.out
          have cr2 := cell_of_one rr2
          have fr2 := free_of_one rr2
          have RR2 := Lib.hid rr2
          have KE := Lib.hid (row_kept hb2 KD.out)
          have KE2 := Lib.hid (row_kept hb2 KD2.out)
          have BE := Lib.hid (below_join BVV.out hb2)
          clear hb2 rr2 cg cw
          gi_wp2_with fail
          have n1 : w.heap.size + 1 ≠ D2 := by have h1 := HD2.out; have h2 := S4.out; omega
          have n2 : w.heap.size + 1 ≠ D := by have h1 := HD.out; have h2 := S4.out; omega
          have n3 : D ≠ D2 := by have h1 := HD2.out; have h2 := DW.out; omega
          have q1 : (V2.setCell ⟨w.heap.size + 1, 0, none⟩ (.bool true)).heap[D2]? = some (.deferred (some [])) := by
            rw [heap_setCell_other _ _ _ _ (Ne.symm n1)]; exact KE2.out
          have q2 : ((V2.setCell ⟨w.heap.size + 1, 0, none⟩ (.bool true)).putObj D2 (.deferred none)).heap[D]? = some (.deferred (some [])) := by
            rw [World.putObj_heap_other n3, heap_setCell_other _ _ _ _ (Ne.symm n2)]; exact KE.out
          refine ⟨by simp, .inl ⟨_, _, rfl, run_takeDeferred q1, ?_⟩⟩
          refine ⟨by simp, .inl ⟨_, _, rfl, run_takeDeferred q2, ?_⟩⟩
          refine ⟨_, res_between _ _ (w.heap.size + 1) (.bool true) rfl ?_, rfl, ?_⟩
          · have h1 := World.cell?_setCell_same' V2 ⟨w.heap.size + 1, 0, none⟩ (.bool true) (by rw [cr2]; rfl)
            unfold World.cell? at h1 ⊢
            rw [World.putObj_heap_other n2, World.putObj_heap_other n1]
            exact h1
          · exact ((BE.out.setCell (p := ⟨w.heap.size + 1, 0, none⟩) (Nat.le_succ _) _).trans (belowK_b (w := w) (Nat.le_refl _) _ D2 _ _ (by have h1 := HD2.out; have h2 := S4.out; omega) q1 rfl rfl)).trans (belowK_b (w := w) (Nat.le_refl _) _ D _ _ (by have h1 := HD.out; have h2 := S4.out; omega) q2 rfl rfl)
end Go.Proofs.Ytlmdcflnifmjjaa
