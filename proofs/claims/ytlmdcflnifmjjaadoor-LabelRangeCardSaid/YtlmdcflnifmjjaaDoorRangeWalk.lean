import Derived.Test.YtlmdcflnifmjjaaDoorBtwIt
import Derived.Test.YtlmdcflnifmjjaaDoorAwake
import Derived.Test.YtlmdcflnifmjjaaDoorSetD
import Derived.Test.YtlmdcflnifmjjaaDoorLatMath
import Derived.RangeFuncFrom
import Derived.RangeFuncCalls
import Derived.RegionIn
import Derived.BigRegionIn
namespace Go.Proofs.YtlmdcflnifmjjaaDoor
open Go.RowKit Go.Shelf

attribute [local go_sem] Oper.semAt_some

/-- all between a and b, rising -/
def goodL (a b : Nat) (l : List Nat) : Prop := ∀ (i : Nat) (x : Nat), l[i]? = some x → belowN a x = true ∧ belowN x b = true ∧ (0 < i → ∀ y, l[i - 1]? = some y → y < x)

def lastOf (l : List Nat) : Nat := (l.getLast?).getD 0
theorem good_snoc {a b : Nat} {l : List Nat} {x : Nat} : goodL a b (l ++ [x]) ↔ goodL a b l ∧ belowN a x = true ∧ belowN x b = true ∧ (0 < l.length → lastOf l < x) := by
  constructor
  · intro h
    refine ⟨fun i y hy => ?_, ?_⟩
    · obtain ⟨hi, _⟩ := List.getElem?_eq_some_iff.1 hy
      obtain ⟨h1, h2, h3⟩ := h i y (by rw [List.getElem?_append_left hi]; exact hy)
      exact ⟨h1, h2, fun h0 z hz => h3 h0 z (by rw [List.getElem?_append_left (by omega)]; exact hz)⟩
    · obtain ⟨h1, h2, h3⟩ := h l.length x (by simp)
      refine ⟨h1, h2, fun h0 => h3 h0 _ ?_⟩
      rw [List.getElem?_append_left (by omega), lastOf, List.getLast?_eq_getElem?, List.getElem?_eq_getElem (by omega)]
      rfl
  · rintro ⟨h, h1, h2, h3⟩ i y hy
    by_cases hi : i < l.length
    · rw [List.getElem?_append_left hi] at hy
      obtain ⟨k1, k2, k3⟩ := h i y hy
      exact ⟨k1, k2, fun h0 z hz => k3 h0 z (by rw [List.getElem?_append_left (by omega)] at hz; exact hz)⟩
    · have hl : i = l.length := by
        obtain ⟨hi2, _⟩ := List.getElem?_eq_some_iff.1 hy
        simp at hi2
        omega
      subst hl
      simp at hy
      subst hy
      refine ⟨h1, h2, fun h0 z hz => ?_⟩
      rw [List.getElem?_append_left (by omega)] at hz
      have := h3 h0
      rw [lastOf, List.getLast?_eq_getElem?, hz] at this
      exact this
theorem good_pre {a b : Nat} {l m : List Nat} (h : goodL a b m) (hp : l <+: m) : goodL a b l := by
  obtain ⟨r, rfl⟩ := hp
  intro i y hy
  obtain ⟨hi, _⟩ := List.getElem?_eq_some_iff.1 hy
  obtain ⟨h1, h2, h3⟩ := h i y (by rw [List.getElem?_append_left hi]; exact hy)
  exact ⟨h1, h2, fun h0 z hz => h3 h0 z (by rw [List.getElem?_append_left (by omega)]; exact hz)⟩
theorem good_btw {a b : Nat} (ha : a < 18446744073709551616) (hb : b < 18446744073709551616) : goodL a b (btw a b) := by
  by_cases hab : lessN a b = 0
  · have hF := lessN_lt b a hb
    have hab' : belowN a b = true := by simp [belowN, hab]
    have hor : ∀ i, a ||| spread 64 (lessN b a) i = a + spread 64 (lessN b a) i := fun i => or_add ha (Nat.lt_of_le_of_lt (spread_le _ _ _) hF) fun k hk => by
      have := spread_sub _ _ _ k hk
      rw [lessN_bit, Bool.and_eq_true] at this
      simpa using this.2
    intro i x hx
    have hi : i < 2 ^ countN (lessN b a) := by
      obtain ⟨hi, _⟩ := List.getElem?_eq_some_iff.1 hx
      rwa [btw_len a b hab] at hi
    rw [btw_at hab hi] at hx
    cases hx
    refine ⟨?_, ?_, fun h0 y hy => ?_⟩
    · rw [← hor]; exact below_or_l _ _
    · rw [← hor]
      exact below_or hab' (below_bits.2 fun k hk => by
        have := spread_sub _ _ _ k hk
        rw [lessN_bit, Bool.and_eq_true] at this
        exact this.1)
    · rw [btw_at hab (by omega)] at hy
      cases hy
      have := spread_lt 64 (lessN b a) (i - 1) i (by omega) (by rw [ones_count]; exact hi)
      omega
  · intro i x hx
    rw [btw, if_neg hab] at hx
    simp at hx

theorem res_bool (w : World) (tmps : Array Value) (g : Nat) (v : Value) (hp : tmps.getD 4 undef = .pointer (some ⟨g, 0, none⟩)) (hc : w.cell? ⟨g, 0, none⟩ = some v) :
    (results Tryd.f9 tmps).run Tryd.prog w = .ok v w := by
  have hp' : tmps[4]?.getD undef = .pointer (some ⟨g, 0, none⟩) := by simpa using hp
  simp [results, Tryd.results9, hp', asAddr, go_sem, hc]

set_option maxRecDepth 100000 in
set_option maxHeartbeats 8000000 in
theorem range_walk (a b : Nat) (w : World) (ha : a < 18446744073709551616) (hb : b < 18446744073709551616) (hT : Deb w) :
    Calls Tryd.prog 9 #[.int .u64 a, .int .u64 b] w fun e w' => e = .returned (.bool true) ∧ Below w.heap.size w w' := by
  have HT := Lib.hid hT
  clear hT
  have hl := lessN_lt b a hb
  refine (callsIn_wide (n := 5)).1 ?_
  refine callsIn_of_wp_marks Tryd.func9 rfl trivial ?_ rfl
  simp only [Tryd.ntmps9, List.size_toArray, List.length_cons, List.length_nil, Nat.reduceAdd, Nat.reduceSub, Array.replicate_succ, Array.replicate_zero, List.push_toArray, List.append_toArray, List.nil_append, List.cons_append]
  obtain ⟨s0, b0, r0, ra0, rb0⟩ := three_cells w (.bool false) (.int .u64 (a : Int)) (.int .u64 (b : Int)) 4 24 24
  have S0 := Lib.hid s0
  have B0 := Lib.hid b0
  have R0 := Lib.hid r0
  have RA0 := Lib.hid ra0
  have RB0 := Lib.hid rb0
  clear s0 b0 r0 ra0 rb0
  gi_wp2_with fail
  refine ⟨trivial, (callsIn_wide.2 (awake_any _ (HT.out.kept B0.out))).mono ?_⟩
  rintro e w1 ⟨rfl, hb1⟩
  have B1 := Lib.hid (below_join B0.out hb1)
  have S1 : Hid (w.heap.size + 3 ≤ w1.heap.size) := by have := hb1.size; have := S0.out; show _ ≤ _; omega
  have R1 := Lib.hid (row_kept hb1 R0.out)
  have RA1 := Lib.hid (row_kept hb1 RA0.out)
  have RB1 := Lib.hid (row_kept hb1 RB0.out)
  clear S0 B0 R0 RA0 RB0 hb1
  have ca := cell_of_one RA1.out
  have cb := cell_of_one RB1.out
  gi_wp2_with fail
  refine ⟨trivial, (callsIn_wide.2 (between_any a b _ ha hb)).mono ?_⟩
  rintro e w2 ⟨hb2, ⟨h16, rfl⟩ | ⟨h16, g, hg, rfl, hga, hgb, hgf⟩⟩
  · have B2 := Lib.hid (below_join B1.out hb2)
    have R2 := Lib.hid (row_kept hb2 R1.out)
    have ca2 := cell_of_one (row_kept hb2 RA1.out)
    have cb2 := cell_of_one (row_kept hb2 RB1.out)
    have cr2 := cell_of_one R2.out
    have fr2 := free_of_one R2.out
    have h16' : (16 : Int) < (countN (lessN b a) : Int) := by omega
    obtain ⟨d, hd⟩ : ∃ d, lessN b a = d := ⟨_, rfl⟩
    rw [hd] at hl h16'
    have Hd := Lib.hid hd
    clear hb2 hd h16 ca cb
    gi_wp2_with fail
    refine ⟨trivial, (callsIn_wide.2 (less_any b a _ hb ha)).mono ?_⟩
    rintro e w' ⟨rfl, rfl⟩
    rw [Hd.out]
    gi_wp2_with fail
    refine ⟨trivial, (callsIn_wide.2 (count_any d _ hl)).mono ?_⟩
    rintro e w' ⟨rfl, rfl⟩
    gi_wp2_with fail
    exact ⟨_, res_bool _ _ w.heap.size _ rfl (World.cell?_setCell_same' _ _ _ (by rw [cr2]; rfl)), rfl, B2.out.setCell (Nat.le_refl _) _⟩
  · have B2 := Lib.hid (below_join B1.out hb2)
    have R2 := Lib.hid (row_kept hb2 R1.out)
    have RA2 := Lib.hid (row_kept hb2 RA1.out)
    have RB2 := Lib.hid (row_kept hb2 RB1.out)
    have RG := Lib.hid hga
    have RG1 := Lib.hid hgb
    have RG2 := Lib.hid hgf
    have ca2 := cell_of_one RA2.out
    have cb2 := cell_of_one RB2.out
    have h16' : (countN (lessN b a) : Int) ≤ 16 := by omega
    have S2 := Lib.hid (Nat.le_trans S1.out hb2.size)
    have G2 := Lib.hid (lt_of_block hgf)
    have Gg := Lib.hid (Nat.le_trans S1.out hg)
    have Hcn : Hid ((listN (lessN b a)).length = countN (lessN b a)) := rfl
    obtain ⟨d, hd⟩ : ∃ d, lessN b a = d := ⟨_, rfl⟩
    rw [hd] at hl h16' RG2 Hcn
    have Hd := Lib.hid hd
    clear hb2 hd h16 ca cb hga hgb hgf hg
    gi_wp2_with fail
    refine ⟨trivial, (callsIn_wide.2 (less_any b a _ hb ha)).mono ?_⟩
    rintro e w' ⟨rfl, rfl⟩
    rw [Hd.out]
    gi_wp2_with fail
    refine ⟨trivial, (callsIn_wide.2 (count_any d _ hl)).mono ?_⟩
    rintro e w' ⟨rfl, rfl⟩
    have hsn := fun W => seq_nil W (.pointer (some ⟨g, 0, none⟩)) (.pointer (some ⟨g + 1, 0, none⟩)) (.pointer (some ⟨g + 2, 0, none⟩))
    gi_wp2_with fail
    refine ⟨trivial, (callsIn_wide.2 (refBoth3_any b a _ hb ha)).mono ?_⟩
    rintro e w3 ⟨rfl, hb3⟩
    rw [Hd.out]
    have B23 := Lib.hid hb3
    clear hb3
    gi_wp2_with fail
    refine ⟨trivial, (callsIn_wide.2 (refList_any d _ hl)).mono ?_⟩
    rintro e w4 ⟨lv, rfl, hlv, hb4⟩
    have B24 := Lib.hid (below_join B23.out hb4)
    obtain ⟨lo, lc, hls⟩ := (Nums.of_own hlv).slice
    rw [intsOf_len, Hcn.out] at hls
    subst hls
    clear hb4 hlv
    have B4 := Lib.hid (below_join B2.out B24.out)
    have S4 := Lib.hid (Nat.le_trans S2.out B24.out.size)
    have R4 := Lib.hid (row_kept B24.out R2.out)
    have RA4 := Lib.hid (row_kept B24.out RA2.out)
    have RB4 := Lib.hid (row_kept B24.out RB2.out)
    have G4 := Lib.hid (row_kept B24.out RG.out)
    have G41 := Lib.hid (row_kept B24.out RG1.out)
    have G42 := Lib.hid (row_kept B24.out RG2.out)
    clear ca2 cb2
    gi_wp2_with fail
    obtain ⟨s5, b5, rm5, rl5⟩ := two_cells w4 (.int .i64 0) (.int .u64 0) 3 24
    obtain ⟨w5, hw5⟩ : ∃ w5, ((w4.alloc (.cells #[.int .i64 0] 3)).alloc (.cells #[.int .u64 0] 24)) = w5 := ⟨_, rfl⟩
    rw [hw5] at s5 b5 rm5 rl5 ⊢
    clear hw5
    refine' wpIn_rangeFunc_ownF rfl (by decide) (gf := 37) (lb := #[.pointer (some ⟨g, 0, none⟩), .pointer (some ⟨g + 1, 0, none⟩), .pointer (some ⟨g + 2, 0, none⟩)]) rfl trivial (enters_of Tryd.func37 (by kernel_rfl) rfl)
      (btw_stops 4 (by decide) g w4.heap.size a b ha hb ?hg w5 ?hn0 ?h1 ?h2 ?h3) belowK_t (belowK_b (by omega)) (Below.refl _ _) (fun _ => rfl)
      (fun pre W => Hid (goodL a b (pre.map Subtype.val)) ∧ W.heap[w4.heap.size]? = some (.cells #[.int .i64 (pre.length : Int)] 3 (0, 0)) ∧ W.heap[w4.heap.size + 1]? = some (.cells #[.int .u64 (lastOf (pre.map Subtype.val) : Int)] 24 (0, 0)) ∧ Below w4.heap.size w4 W)
      (fun c pre W => c = .ret ∧ ¬ goodL a b (pre.map Subtype.val)) ?hI ?hIx ?h0 _ ?assign ?body ?done ?stop
    case assign =>
      intro l x W K hK
      gi_wp2
      exact hK
    case hg => exact lt_of_block G42.out
    case hn0 => omega
    case h1 => exact cell_of_one (row_kept b5 G4.out)
    case h2 => exact cell_of_one (row_kept b5 G41.out)
    case h3 => rw [Hd.out]; exact cell_of_one (row_kept b5 G42.out)
    case hI =>
      rintro s W W' row ⟨h1, h2, h3, h4⟩ hgr hr
      have hkeep : ∀ (k : Nat) (v : Value) (t : TypeId), W.heap[k]? = some (.cells #[v] t (0, 0)) → W'.heap[k]? = some (.cells #[v] t (0, 0)) := by
        intro k v t hk
        rw [hgr.block k (lt_of_block hk) (fun e => by
          obtain ⟨_, o, ho, hc⟩ := hr k e.symm
          rw [hk] at ho
          cases ho
          cases hc)]
        exact hk
      exact ⟨h1, hkeep _ _ _ h2, hkeep _ _ _ h3, h4.grown hgr h4.size (fun k e => by have := (hr k e).1; omega)⟩
    case hIx => exact fun c s W W' row h _ _ => h
    case h0 => exact ⟨fun i x h => by simp at h, rm5, rl5, b5⟩
    case body =>
      rintro l pre x W ⟨Hgood, hm, hla, hB⟩ hlt
      have hN : (btw a b).length ≤ 65536 := by
        rw [btw]
        split
        · rw [List.length_map, List.length_range]
          have h2 : 2 ^ countN (lessN b a) ≤ 2 ^ 16 := Nat.pow_le_pow_right (by decide) (by rw [Hd.out]; omega)
          omega
        · simp
      have hpl : pre.length ≤ 65535 := by omega
      have cr := cell_of_one (row_kept hB R4.out)
      have fr := free_of_one (row_kept hB R4.out)
      have ca := cell_of_one (row_kept hB RA4.out)
      have cb := cell_of_one (row_kept hB RB4.out)
      have cm := cell_of_one hm
      have fm := free_of_one hm
      have cl := cell_of_one hla
      have fl := free_of_one hla
      have HB := Lib.hid hB
      have Hm := Lib.hid hm
      have Hla := Lib.hid hla
      obtain ⟨x, hx⟩ := x
      obtain ⟨q, hq⟩ : ∃ q, lastOf (pre.map Subtype.val) = q := ⟨_, rfl⟩
      have Hq := Lib.hid hq
      rw [hq] at cl
      obtain ⟨m, hml⟩ : ∃ m, pre.length = m := ⟨_, rfl⟩
      have Hml := Lib.hid hml
      rw [hml] at cm hpl
      have Hmap : Hid ((pre ++ [(⟨x, hx⟩ : L64)]).map Subtype.val = pre.map Subtype.val ++ [x]) := by show _ = _; rw [List.map_append]; rfl
      clear hB hm hla hq hml hlt hN
      cases hA : belowN a x
      · have HA := Lib.hid hA
        clear hA
        gi_wp2_with fail
        refine ⟨trivial, (CallsIn.inRound l (callsIn_wide.2 (below_any a x _ ha hx))).mono ?_⟩
        rintro e w' ⟨rfl, rfl⟩
        rw [HA.out]
        gi_wp2_with fail
        refine ⟨trivial, ?_⟩
        gi_wp2_with fail
        exact ⟨KeepsOthers.setCell _ _ _, rfl, fun h => by rw [Hmap.out] at h; have := (good_snoc.1 h); rw [HA.out] at this; simp at this⟩
      · have HA := Lib.hid hA
        clear hA
        cases hBb : belowN x b
        · have HBb := Lib.hid hBb
          clear hBb
          gi_wp2_with fail
          refine ⟨trivial, (CallsIn.inRound l (callsIn_wide.2 (below_any a x _ ha hx))).mono ?_⟩
          rintro e w' ⟨rfl, rfl⟩
          rw [HA.out]
          gi_wp2_with fail
          refine ⟨trivial, (CallsIn.inRound l (callsIn_wide.2 (below_any x b _ hx hb))).mono ?_⟩
          rintro e w' ⟨rfl, rfl⟩
          rw [HBb.out]
          gi_wp2_with fail
          exact ⟨KeepsOthers.setCell _ _ _, rfl, fun h => by rw [Hmap.out] at h; have := (good_snoc.1 h); rw [HBb.out] at this; simp at this⟩
        · have HBb := Lib.hid hBb
          clear hBb
          by_cases hm0 : 0 < m
          · by_cases hxq : x ≤ q
            · have hxq' : (x : Int) ≤ (q : Int) := by omega
              have Hxq := Lib.hid hxq
              have Hm0 := Lib.hid hm0
              gi_wp2_with fail
              refine ⟨trivial, (CallsIn.inRound l (callsIn_wide.2 (below_any a x _ ha hx))).mono ?_⟩
              rintro e w' ⟨rfl, rfl⟩
              rw [HA.out]
              gi_wp2_with fail
              refine ⟨trivial, (CallsIn.inRound l (callsIn_wide.2 (below_any x b _ hx hb))).mono ?_⟩
              rintro e w' ⟨rfl, rfl⟩
              rw [HBb.out]
              gi_wp2_with fail
              exact ⟨KeepsOthers.setCell _ _ _, rfl, fun h => by rw [Hmap.out] at h; have := (good_snoc.1 h); have h3 := this.2.2.2 (by rw [List.length_map, Hml.out]; exact Hm0.out); rw [Hq.out] at h3; have := Hxq.out; omega⟩
            · have hxq' : (q : Int) < (x : Int) := by omega
              have Hgood2 : Hid (goodL a b ((pre ++ [(⟨x, hx⟩ : L64)]).map Subtype.val)) := by
                show goodL _ _ _
                rw [Hmap.out]
                exact good_snoc.2 ⟨Hgood.out, HA.out, HBb.out, fun _ => by rw [Hq.out]; omega⟩
              gi_wp2_with fail
              refine ⟨trivial, (CallsIn.inRound l (callsIn_wide.2 (below_any a x _ ha hx))).mono ?_⟩
              rintro e w' ⟨rfl, rfl⟩
              rw [HA.out]
              gi_wp2_with fail
              refine ⟨trivial, (CallsIn.inRound l (callsIn_wide.2 (below_any x b _ hx hb))).mono ?_⟩
              rintro e w' ⟨rfl, rfl⟩
              rw [HBb.out]
              gi_wp2_with fail
              refine ⟨(KeepsOthers.setCell _ _ _).trans (KeepsOthers.setCell _ _ _), ((Below.refl _ _).setCell (p := ⟨w4.heap.size, 0, none⟩) (Nat.le_refl _) _).setCell (p := ⟨w4.heap.size + 1, 0, none⟩) (Nat.le_succ _) _, Hgood2, ?_, ?_, (HB.out.setCell (p := ⟨w4.heap.size, 0, none⟩) (Nat.le_refl _) _).setCell (p := ⟨w4.heap.size + 1, 0, none⟩) (Nat.le_succ _) _⟩
              · rw [heap_setCell_other _ _ _ _ (show w4.heap.size ≠ w4.heap.size + 1 by omega), one_setCell Hm.out, List.length_append, Hml.out]
                rfl
              · have h1 := one_setCell (u := .int .u64 (x : Int)) ((heap_setCell_other W ⟨w4.heap.size, 0, none⟩ (w4.heap.size + 1) (.int .i64 ((m : Int) + 1)) (show w4.heap.size + 1 ≠ w4.heap.size by omega)).trans Hla.out)
                rw [h1, Hmap.out, lastOf, List.getLast?_append]
                rfl
          · have hm0' : (m : Int) ≤ 0 := by omega
            have Hgood2 : Hid (goodL a b ((pre ++ [(⟨x, hx⟩ : L64)]).map Subtype.val)) := by
              show goodL _ _ _
              rw [Hmap.out]
              exact good_snoc.2 ⟨Hgood.out, HA.out, HBb.out, fun h => by rw [List.length_map, Hml.out] at h; omega⟩
            gi_wp2_with fail
            refine ⟨trivial, (CallsIn.inRound l (callsIn_wide.2 (below_any a x _ ha hx))).mono ?_⟩
            rintro e w' ⟨rfl, rfl⟩
            rw [HA.out]
            gi_wp2_with fail
            refine ⟨trivial, (CallsIn.inRound l (callsIn_wide.2 (below_any x b _ hx hb))).mono ?_⟩
            rintro e w' ⟨rfl, rfl⟩
            rw [HBb.out]
            gi_wp2_with fail
            refine ⟨(KeepsOthers.setCell _ _ _).trans (KeepsOthers.setCell _ _ _), ((Below.refl _ _).setCell (p := ⟨w4.heap.size, 0, none⟩) (Nat.le_refl _) _).setCell (p := ⟨w4.heap.size + 1, 0, none⟩) (Nat.le_succ _) _, Hgood2, ?_, ?_, (HB.out.setCell (p := ⟨w4.heap.size, 0, none⟩) (Nat.le_refl _) _).setCell (p := ⟨w4.heap.size + 1, 0, none⟩) (Nat.le_succ _) _⟩
            · rw [heap_setCell_other _ _ _ _ (show w4.heap.size ≠ w4.heap.size + 1 by omega), one_setCell Hm.out, List.length_append, Hml.out]
              rfl
            · have h1 := one_setCell (u := .int .u64 (x : Int)) ((heap_setCell_other W ⟨w4.heap.size, 0, none⟩ (w4.heap.size + 1) (.int .i64 ((m : Int) + 1)) (show w4.heap.size + 1 ≠ w4.heap.size by omega)).trans Hla.out)
              rw [h1, Hmap.out, lastOf, List.getLast?_append]
              rfl
    case done =>
      rintro D ys W hD hS ⟨Hgood, hm, hla, hB⟩ hK
      have rr := row_kept hB R4.out
      have cr := cell_of_one rr
      have fr := free_of_one rr
      have ca := cell_of_one (row_kept hB RA4.out)
      have cb := cell_of_one (row_kept hB RB4.out)
      have cm := cell_of_one hm
      have fm := free_of_one hm
      have hlen : ys.length = (btw a b).length := by rw [← hS, List.length_map]
      have HB := Lib.hid (below_join B4.out hB)
      have Hlen := Lib.hid hlen
      have HD := Lib.hid hD
      have HK := Lib.hid hK
      obtain ⟨m, hml⟩ : ∃ m, ys.length = m := ⟨_, rfl⟩
      rw [hml] at cm Hlen
      have Hblen := Lib.hid (btw_len a b)
      rw [Hd.out] at Hblen
      have Hbn : Hid (belowN a b = false → (btw a b).length = 0) := fun h => by
        rw [btw, if_neg (fun e => by rw [belowN, e] at h; cases h)]; rfl
      have fin : ∀ (v : Value), ((W.setCell ⟨w.heap.size, 0, none⟩ v).putObj D (.deferred none)).cell? ⟨w.heap.size, 0, none⟩ = some v ∧ Below w.heap.size w ((W.setCell ⟨w.heap.size, 0, none⟩ v).putObj D (.deferred none)) := by
        intro v
        have hDne : w.heap.size ≠ D := by have h1 := HD.out; have h2 := b5.size; have h3 := S4.out; omega
        have hk : (W.setCell ⟨w.heap.size, 0, none⟩ v).heap[D]? = some (.deferred (some [])) := by
          rw [heap_setCell_other _ _ _ _ (Ne.symm hDne)]; exact hK
        refine ⟨?_, ((HB.out.setCell (p := ⟨w.heap.size, 0, none⟩) (Nat.le_refl _) v)).trans (belowK_b (w := w) (Nat.le_refl _) _ D _ _ (by have h1 := HD.out; have h2 := b5.size; have h3 := S4.out; omega) hk rfl rfl)⟩
        have h1 := World.cell?_setCell_same' W ⟨w.heap.size, 0, none⟩ v (by rw [cr]; rfl)
        unfold World.cell? at h1 ⊢
        rw [World.putObj_heap_other hDne]
        exact h1
      have Hfin := Lib.hid fin
      have Hkk : Hid (∀ v, (W.setCell ⟨w.heap.size, 0, none⟩ v).heap[D]? = some (.deferred (some []))) := fun v => by
        have hDne : w.heap.size ≠ D := by have h1 := HD.out; have h2 := b5.size; have h3 := S4.out; omega
        rw [heap_setCell_other _ _ _ _ (Ne.symm hDne)]; exact hK
      clear hm hla hB hK hD hS hlen hml fin rr
      cases hbl : belowN a b
      · have hm0 : m = 0 := by rw [← Hlen.out] at *; have := Hbn.out hbl; have h2 := Hlen.out; omega
        subst hm0
        gi_wp2_with fail
        refine ⟨trivial, (callsIn_wide.2 (below_any a b _ ha hb)).mono ?_⟩
        rintro e w' ⟨rfl, rfl⟩
        rw [hbl]
        gi_wp2_with fail
        refine ⟨by simp, .inl ⟨_, _, rfl, run_takeDeferred (Hkk.out _), ?_⟩⟩
        exact ⟨_, res_bool _ _ w.heap.size _ rfl (Hfin.out _).1, rfl, (Hfin.out _).2⟩
      · have hm2 : m = 2 ^ countN d := by
          have h1 := Hblen.out (by simpa [belowN] using hbl)
          have h2 := Hlen.out
          omega
        have hc16 : countN d ≤ 16 := by omega
        have hp16 : 2 ^ countN d ≤ 2 ^ 16 := Nat.pow_le_pow_right (by decide) hc16
        have Hm2 := Lib.hid hm2
        clear hm2
        gi_wp2_with fail
        refine ⟨trivial, (callsIn_wide.2 (below_any a b _ ha hb)).mono ?_⟩
        rintro e w' ⟨rfl, rfl⟩
        rw [hbl]
        gi_wp2_with fail
        gi_region
        all_goals
          gi_wp2_with fail
          have e : ((m : Int) == wrap64 (2 ^ countN d)) = true := by
            have e1 : ((2 : Int) ^ countN d) = ((2 ^ countN d : Nat) : Int) := by simp
            rw [e1, ← Hm2.out, beq_iff_eq]
            have h1 : m ≤ 65536 := by rw [Hm2.out]; exact hp16
            simp only [wrap64]
            omega
          rw [e]
          refine ⟨by simp, .inl ⟨_, _, rfl, run_takeDeferred (show (W.setCell ⟨w.heap.size, 0, none⟩ (.bool true)).heap[D]? = _ from Hkk.out _), ?_⟩⟩
          refine ⟨_, res_bool _ _ w.heap.size _ rfl (show ((W.setCell ⟨w.heap.size, 0, none⟩ (.bool true)).putObj D (.deferred none)).cell? ⟨w.heap.size, 0, none⟩ = _ from (Hfin.out _).1), rfl, ?_⟩
          exact (Hfin.out (.bool true)).2.trans ⟨rfl, rfl, rfl, Nat.le_refl _, fun _ _ => rfl⟩
    case stop =>
      rintro D c pre W hD hSp ⟨rfl, hbad⟩ hK
      exact absurd (good_pre (good_btw ha hb) hSp) hbad
end Go.Proofs.YtlmdcflnifmjjaaDoor
