/- Own work: scrimref04's Sorted. -/
import Derived.Test.YtaconebkgajicaaRefSortB
import Derived.Test.YtaconebkgajicaaIdCounts
import Derived.Deep.CutBlock
import Derived.Deep.CutRange
namespace Go.Proofs.Ytaconebkgajicaa
open Go.RowKit Go.Sort Go.Shelf

/-- the first i lines in order -/
structure Sofar (l : List LineV) (i : Nat) (os : List TL) : Prop where
  perm : os.Perm (l.take i).zipIdx
  ord : os.Pairwise (fun x y => PT y x = false)
theorem Sofar.len {l : List LineV} {i : Nat} {os : List TL} (h : Sofar l i os) (hi : i ≤ l.length) : os.length = i := by
  rw [h.perm.length_eq]; simp; omega
theorem Sofar.next {l : List LineV} {i : Nat} {os : List TL} (h : Sofar l i os) (hi : i < l.length) (k : Nat) (hk : k ≤ i) (h1 : ∀ j, k ≤ j → j < i → ltT (l[i], i) os[j]! = true) (h2 : k = 0 ∨ ltT (l[i], i) os[k - 1]! = false) :
    Sofar l (i + 1) (os.take k ++ (l[i], i) :: os.drop k) := by
  have hlen := h.len (Nat.le_of_lt hi)
  have htag : ∀ x ∈ os, x.2 < i := by
    intro x hx
    have := (List.mem_zipIdx ((h.perm.mem_iff).1 hx)).2.1
    simp at this
    omega
  refine ⟨?_, ?_⟩
  · refine List.perm_middle.trans ?_
    rw [List.take_append_drop]
    have e : (l.take (i + 1)).zipIdx = (l.take i).zipIdx ++ [(l[i], i)] := by
      rw [← List.take_append_getElem hi, List.zipIdx_append]
      simp
      omega
    rw [e]
    exact (List.Perm.cons _ h.perm).trans (List.perm_append_singleton _ _).symm
  · have hord := h.ord
    rw [← List.take_append_drop k os, List.pairwise_append] at hord
    obtain ⟨o1, o2, o3⟩ := hord
    have hdrop : ∀ y ∈ os.drop k, ltT (l[i], i) y = true := by
      intro y hy
      obtain ⟨j, hj, rfl⟩ := List.getElem_of_mem hy
      rw [List.getElem_drop]
      have := h1 (k + j) (Nat.le_add_right _ _) (by simp at hj; omega)
      rwa [getElem!_pos os (k + j) (by simp at hj; omega)] at this
    have htake : ∀ y ∈ os.take k, ltT (l[i], i) y = false := by
      intro y hy
      obtain ⟨j, hj, rfl⟩ := List.getElem_of_mem hy
      rw [List.getElem_take]
      rw [List.length_take] at hj
      rcases h2 with h2 | h2
      · omega
      · rw [getElem!_pos os (k - 1) (by omega)] at h2
        by_cases he : j = k - 1
        · simpa only [he] using h2
        · have := (List.pairwise_iff_getElem.1 h.ord) j (k - 1) (by omega) (by omega) (by omega)
          rw [pB_f] at this
          exact ltT_swo.ntrans _ _ _ h2 this.1
    rw [List.pairwise_append]
    refine ⟨o1, List.pairwise_cons.2 ⟨fun y hy => ?_, o2⟩, fun a ha b hb => ?_⟩
    · rw [pB_f]
      exact ⟨ltT_swo.asymmA (hdrop y hy), .inl (hdrop y hy)⟩
    · rcases List.mem_cons.1 hb with rfl | hb
      · rw [pB_f]
        exact ⟨htake a ha, .inr (Nat.le_of_lt (htag a (List.mem_of_mem_take ha)))⟩
      · exact o3 a ha b hb
theorem Sofar.done {l : List LineV} {os : List TL} (h : Sofar l l.length os) : Stable l (os.map Prod.fst) := ⟨os, by simpa using h.perm, h.ord, rfl⟩
theorem own_grw {w W : World} {B n : Nat} {e : TypeId} {v : Value} {xs : List Value} (h : w.ownsRow B e 4 v n xs) (hG : Grw w W) : W.ownsRow B e 4 v n xs :=
  own_same h fun q hq => hG.below.block q (h.lt q hq).2
theorem refLess_grown (x y : LineV) (W : World) : ∀ n os, Calls Try.prog 22 #[x.agg, y.agg] (grow (W.drewN n) os) fun e w' => e = .returned (.bool (lessB x y)) ∧ ∃ q os', w' = grow ((grow (W.drewN n) os).drewN q) os' := fun _ _ =>
  (refLess_any x y _).mono fun _ _ ⟨he, q, os', hw⟩ => ⟨he, q, os', hw⟩
theorem cell_lt {W : World} {a : Addr} {v : Value} (h : W.cell? a = some v) : a.block < W.heap.size := by
  by_cases hb : a.block < W.heap.size
  · exact hb
  · simp [World.cell?, Array.getElem?_eq_none (Nat.le_of_not_lt hb)] at h
theorem Grw.drewN {w W : World} (h : Grw w W) (n : Nat) : Grw w (W.drewN n) := h.trans ⟨n, #[], by rw [grow_empty]⟩
def xNone : LineV := ⟨0, 0, 0, ⟨#[]⟩⟩

theorem spot (os : List TL) (x : TL) (k i : Nat) (hl : os.length = i) (hk : k ≤ i) : (os.take k ++ x :: os.drop k).map Prod.fst = ((os.map Prod.fst ++ [xNone]).take (k + 1) ++ ((os.map Prod.fst ++ [xNone]).drop k).take (i + 1 - (k + 1))).set k x.1 := by
  subst hl
  have ha : (os.map Prod.fst).length = os.length := by simp
  apply List.ext_getElem?
  intro j
  simp only [List.map_append, List.map_take, List.map_cons, List.map_drop]
  generalize os.map Prod.fst = a at ha ⊢
  rw [← ha] at hk ⊢
  have l1 : (a.take k).length = k := by simp; omega
  have l2 : ((a ++ [xNone]).take (k + 1)).length = k + 1 := by simp; omega
  rcases Nat.lt_trichotomy j k with h1 | h1 | h1
  · rw [List.getElem?_set_ne (by omega), List.getElem?_append_left (by omega), List.getElem?_append_left (by omega), List.getElem?_take_of_lt h1, List.getElem?_take_of_lt (by omega), List.getElem?_append_left (by omega)]
  · subst h1
    rw [List.getElem?_set_self (by rw [List.length_append]; omega), List.getElem?_append_right (by omega), l1, Nat.sub_self]
    rfl
  · obtain ⟨m, rfl⟩ : ∃ m, j = k + 1 + m := ⟨j - (k + 1), by omega⟩
    rw [List.getElem?_set_ne (by omega), List.getElem?_append_right (by omega), List.getElem?_append_right (by omega), l1, l2, show k + 1 + m - k = m + 1 by omega, show k + 1 + m - (k + 1) = m by omega, List.getElem?_cons_succ, List.getElem?_drop]
    by_cases hm : m < a.length - k
    · rw [List.getElem?_take_of_lt (by omega), List.getElem?_drop, List.getElem?_append_left (by omega)]
    · rw [List.getElem?_eq_none (by omega), List.getElem?_eq_none (by simp; omega)]
theorem own_setCell {w : World} {B g n cap s j : Nat} {e : TypeId} {xs : List Value} (h : w.ownsRow B e s (.slice (some ⟨g, 0, none⟩) n cap) n xs) (u : Value) : (w.setCell ⟨g, j, none⟩ u).ownsRow B e s (.slice (some ⟨g, 0, none⟩) n cap) n (xs.set j u) := by
  rcases h.2 with ⟨e, _⟩ | ⟨g', cap', cur, hv, hB, hg, hnc, hcm, hsz, htake⟩
  · cases e
  · cases hv
    refine ⟨by rw [List.length_set]; exact h.1, .inr ⟨g, cap, cur.setIfInBounds j u, rfl, hB, ?_, hnc, hcm, by simpa using hsz, ?_⟩⟩
    · rw [setCell_eq_setRow w g j cur e (0, 0) u hg]
      exact setRow_heap w g cur _ e _ hg
    · rw [Array.toList_setIfInBounds, List.take_set, htake]
theorem own_frozen {w : World} {B g n cap s : Nat} {e : TypeId} {xs : List Value} (h : w.ownsRow B e s (.slice (some ⟨g, 0, none⟩) n cap) n xs) (j : Nat) : w.frozen? ⟨g, j, none⟩ = false := by
  rcases h.2 with ⟨e, _⟩ | ⟨g', cap', cur, hv, _, hg, _⟩
  · cases e
  · cases hv
    simp [World.frozen?, hg]
theorem flatL_set : ∀ (L : List LineV) (k : Nat) (x : LineV), k < L.length → flatL (L.set k x) = ((((flatL L).set (k * 4) (.int .u64 x.lab)).set (k * 4 + 1) (.int .i64 x.num)).set (k * 4 + 2) (.int .i64 x.rev)).set (k * 4 + 3) (.string x.text)
  | [], _, _, h => absurd h (by simp)
  | y :: L, 0, x, _ => rfl
  | y :: L, k + 1, x, h => by
    have ih := flatL_set L k x (by simpa using h)
    have e : ∀ (z : LineV) (M : List LineV), flatL (z :: M) = [Value.int .u64 z.lab, .int .i64 z.num, .int .i64 z.rev, .string z.text] ++ flatL M := fun _ _ => rfl
    rw [List.set_cons_succ, e, e, ih]
    simp only [show (k + 1) * 4 = k * 4 + 1 + 1 + 1 + 1 by omega, show k * 4 + 1 + 1 + 1 + 1 + 1 = (k * 4 + 1) + 1 + 1 + 1 + 1 by omega, show k * 4 + 1 + 1 + 1 + 1 + 2 = (k * 4 + 2) + 1 + 1 + 1 + 1 by omega, show k * 4 + 1 + 1 + 1 + 1 + 3 = (k * 4 + 3) + 1 + 1 + 1 + 1 by omega, List.cons_append, List.nil_append, List.set_cons_succ]
set_option maxHeartbeats 32000000 in
set_option maxRecDepth 100000 in
theorem refSorted_any (u : Value) (l : List LineV) (w : World) (hu : Lns w u l) (hlen : l.length * 40 ≤ 140737488351232) :
    Calls Try.prog 15 #[u] w fun e w' => ∃ v' out, e = .returned v' ∧ w'.ownsRow w.heap.size 27 4 v' l.length (flatL out) ∧ Stable l out ∧ Below w.heap.size w w' := by
  obtain ⟨ao, cap, ub, uof, rfl, hao, hml, hc⟩ := hu.form
  obtain ⟨i0, hi, hz0, hz1, hz2⟩ := info_parts Try.info27
  have Hc := Lib.hid hc
  have Hao := Lib.hid hao
  have mixed := laysIns.mixed
  obtain ⟨n, hn⟩ : ∃ n, l.length = n := ⟨_, rfl⟩
  have Hn := Lib.hid hn
  rw [hn] at hlen Hao ⊢
  clear hn hc hao hml hu
  go_enter Try.func15, Try.ntmps15
  go_wp2_with fail
  go_loopw [3, 4] (fun v i wr => ∃ (k : Nat) (os : List TL) (vo : Option Addr) (vc : Nat), i = .int .i64 k ∧ v = .slice vo k vc ∧ k ≤ n ∧ Hid (0 < k → ∃ g, vo = some ⟨g, 0, none⟩) ∧ wr.ownsRow w.heap.size 27 4 (.slice vo k vc) k (flatL (os.map Prod.fst)) ∧ Hid (Sofar l k os) ∧ Below w.heap.size w wr) (fun _ i _ => n - (intOf i).toNat)
  case atStart => exact ⟨0, [], none, 0, rfl, rfl, Nat.zero_le _, (fun h => absurd h (by omega)), ⟨rfl, .inl ⟨rfl, rfl⟩⟩, ⟨.refl _, .nil⟩, Below.refl _ _⟩
  case round =>
    obtain ⟨i, os, vo, vc, rfl, rfl, hin, Hvo, ho, HS, hb⟩ := hrel
    have HO := Lib.hid ho
    have HB := Lib.hid hb
    clear hb
    clear ho
    by_cases hlt : i < n
    rotate_left
    · obtain rfl : i = n := by omega
      go_wp2_with fail
      go_ret
      have hS := HS.out
      rw [← Hn.out] at hS
      exact ⟨_, _, rfl, HO.out, hS.done, HB.out⟩
    have hil : i < l.length := by rw [Hn.out]; exact hlt
    obtain rfl := Hao.out (by omega)
    obtain ⟨c0, c1, c2, c3⟩ := Hc.out i hil
    have c0 := cell_kept HB.out c0
    have c1 := cell_kept HB.out c1
    have c2 := cell_kept HB.out c2
    have c3 := cell_kept HB.out c3
    obtain ⟨x, hx⟩ : ∃ x, l[i]'hil = x := ⟨_, rfl⟩
    have HX := Lib.hid hx
    have Hxc := Lib.hid (Hc.out i hil)
    rw [hx] at c0 c1 c2 c3 Hxc
    clear hx
    obtain ⟨x1, x2, x3, x4⟩ := x
    dsimp only at c0 c1 c2 c3 Hxc
    have hi0 : (0 : Int) ≤ (i : Int) := by omega
    have hi1 : (i : Int) < (n : Int) := by omega
    have HL := HS.out.len (by omega)
    obtain ⟨w1, rfl⟩ : ∃ w1, w1 = wr := ⟨_, rfl⟩
    go_upto_block 2 with fail
    go_cut [5] from 14 to 29 (fun kk w2 => ∃ k : Nat, kk = .int .i64 k ∧ k ≤ i ∧ Hid (∀ j, k ≤ j → j < i → ltT (⟨x1, x2, x3, x4⟩, i) os[j]! = true) ∧ Hid (k = 0 ∨ ltT (⟨x1, x2, x3, x4⟩, i) os[k - 1]! = false) ∧ Grw w1 w2)
    case first =>
      go_wp2_with fail
      go_loopw [5] (fun kk w2 => ∃ k : Nat, kk = .int .i64 k ∧ k ≤ i ∧ Hid (∀ j, k ≤ j → j < i → ltT (⟨x1, x2, x3, x4⟩, i) os[j]! = true) ∧ Grw w1 w2) (fun kk _ => (intOf kk).toNat)
      case atStart => exact ⟨i, rfl, Nat.le_refl _, fun j h1 h2 => absurd h1 (by omega), Grw.refl _⟩
      case round =>
        obtain ⟨k, rfl, hki, HK, hG⟩ := hrel
        have HG := Lib.hid hG
        clear hG
        by_cases hk0 : k = 0
        · have hd : decide (0 < k) = false := by simp [hk0]
          have Hk0 := Lib.hid hk0
          clear hk0 c0 c1 c2 c3
          go_wp2_with fail
          go_quiet (fail)
          go_wp2_with fail
          go_meet
          case rel => exact ⟨k, rfl, hki, HK.out, .inl Hk0.out, HG.out.drewN _⟩
        · obtain ⟨K, hkK⟩ : ∃ K, k = K + 1 := ⟨k - 1, by omega⟩
          obtain ⟨g, rfl⟩ := Hvo.out (by omega)
          obtain ⟨f0, f1, f2, f3⟩ := flatL_get (os.map Prod.fst) K (by simp; omega)
          have ey : (os.map Prod.fst)[K]'(by simp; omega) = (os[K]!).1 := by rw [getElem!_pos os K (by omega)]; simp
          rw [ey] at f0 f1 f2 f3
          have d0 := (HO.out.cellAt (K * 4) (by omega)).trans f0
          have d1 := (HO.out.cellAt (K * 4 + 1) (by omega)).trans f1
          have d2 := (HO.out.cellAt (K * 4 + 2) (by omega)).trans f2
          have d3 := (HO.out.cellAt (K * 4 + 3) (by omega)).trans f3
          clear f0 f1 f2 f3 ey
          have hcmp : ltT (⟨x1, x2, x3, x4⟩, i) os[K]! = lessB ⟨x1, x2, x3, x4⟩ (os[K]!).1 := rfl
          obtain ⟨y, hy⟩ : ∃ y, (os[K]!).1 = y := ⟨_, rfl⟩
          rw [hy] at d0 d1 d2 d3 hcmp
          clear hy
          obtain ⟨y1, y2, y3, y4⟩ := y
          dsimp only at d0 d1 d2 d3
          have c0 := cell_kept HG.out.below c0
          have c1 := cell_kept HG.out.below c1
          have c2 := cell_kept HG.out.below c2
          have c3 := cell_kept HG.out.below c3
          have d0 := cell_kept HG.out.below d0
          have d1 := cell_kept HG.out.below d1
          have d2 := cell_kept HG.out.below d2
          have d3 := cell_kept HG.out.below d3
          have hl := refLess_grown ⟨x1, x2, x3, x4⟩ ⟨y1, y2, y3, y4⟩ wr
          obtain ⟨b, hb⟩ : ∃ b, lessB ⟨x1, x2, x3, x4⟩ ⟨y1, y2, y3, y4⟩ = b := ⟨_, rfl⟩
          rw [hb] at hl hcmp
          have lw : ub < wr.heap.size := cell_lt c0
          have lw2 : g < wr.heap.size := cell_lt d0
          have c0 := cells_grown lw c0
          have c1 := cells_grown lw c1
          have c2 := cells_grown lw c2
          have c3 := cells_grown lw c3
          have d0 := cells_grown lw2 d0
          have d1 := cells_grown lw2 d1
          have d2 := cells_grown lw2 d2
          have d3 := cells_grown lw2 d3
          simp only [LineV.agg] at hl
          have Hl := Lib.hid hl
          have Hcmp := Lib.hid hcmp
          clear hl hb hcmp
          have hKz : (k : Int) - 1 = (K : Int) := by omega
          have hd : decide (0 < k) = true := by simp; omega
          have HkK := Lib.hid hkK
          clear hkK hk0
          have hK0 : (0 : Int) ≤ (K : Int) := by omega
          have hwK : IntKind.i64.wrap (K : Int) = (K : Int) := by simp [IntKind.wrap, IntKind.bits, IntKind.signed]; omega
          have hK1 : (K : Int) < (i : Int) := by omega
          cases b with
          | true =>
            go_wp2_with fail
            go_quiet_grown (first | (go_at_call 22; refine Calls.grown_of (Hl.out _ _)))
            go_wp2_with fail
            go_roundw
            case rel =>
              refine ⟨K, rfl, by have := HkK.out; omega, fun j h1 h2 => ?_, HG.out.grown _ _⟩
              by_cases hj : j = K
              · subst hj; exact Hcmp.out
              · exact HK.out j (by have := HkK.out; omega) h2
            case measure => have := HkK.out; simp [intOf]; omega
          | false =>
            go_wp2_with fail
            go_quiet_grown (first | (go_at_call 22; refine Calls.grown_of (Hl.out _ _)))
            go_wp2_with fail
            go_meet
            case rel => exact ⟨k, rfl, hki, HK.out, .inr (by rw [HkK.out]; exact Hcmp.out), HG.out.grown _ _⟩
    case rest =>
      obtain ⟨k, rfl, hki, HK, Hstop, hG⟩ := hcut
      obtain ⟨w3, rfl⟩ : ∃ w3, w3 = wc := ⟨_, rfl⟩
      have HG := Lib.hid hG
      have HB3 := Lib.hid (below_join HB.out hG.below)
      have HO3 := Lib.hid (own_grw HO.out hG)
      clear hG c0 c1 c2 c3
      go_wp2_with (at_builtin; first
        | (refine wpList_append_own _ rfl _ _ 22 rfl w.heap.size 27 i0 _ 4 40 Try.underlying22 hi hz0 hz1 hz2 rfl (by decide) _ _ _ rfl (HO3.out.alloc _) ⟨w3.heap.size, 0, none⟩ 1 1 xNone.cells rfl rfl (four_news w3 xNone _) (cells_plain xNone) (by unfold maxLen; omega) (by omega) (by have := HB3.out.size; simp; omega) ?_
           intro v4 w4 hown4 hg4 _
           obtain ⟨g4, cap4, rfl⟩ := Joins.ownsRow_form hown4 (by omega)
           rw [← flatL_one, ← flatL_two] at hown4
           obtain ⟨hcap4, hcm4⟩ := own_cap hown4
           unfold maxLen at hcm4
           have B4 := Lib.hid ((HB3.out.alloc HB3.out.size _).grown hg4 (by have := HB3.out.size; simp; omega) (fun q hq => (HO3.out.lt q hq).1))
           have Hown4 := Lib.hid hown4
           clear hown4 hg4))
      have hsz4 : (Try.prog.info? 27).map (·.size) = some 4 := by simp [hi, hz1]
      obtain ⟨P, hP⟩ : ∃ P, k + 1 = P := ⟨_, rfl⟩
      have hPz : (k : Int) + 1 = (P : Int) := by omega
      have hP0 : (0 : Int) ≤ (P : Int) := by omega
      have hP1 : (P : Int) ≤ ((i + 1 : Nat) : Int) := by omega
      have hP2 : P ≤ i + 1 := by omega
      have hP3 : P ≤ cap4 := by omega
      have hk0 : (0 : Int) ≤ (k : Int) := by omega
      have hk2 : k ≤ i + 1 := by omega
      have hk3 : k ≤ cap4 := by omega
      have hne2 : ¬ cap4 = k := by omega
      have hwP : IntKind.i64.wrap (P : Int) = (P : Int) := by simp [IntKind.wrap, IntKind.bits, IntKind.signed]; omega
      have hkP : k ≤ P := by omega
      have hP4 : (P : Int) ≤ (i : Int) + 1 := by omega
      have hk4 : (k : Int) ≤ (i : Int) + 1 := by omega
      obtain ⟨L, hL⟩ : ∃ L, os.map Prod.fst ++ [xNone] = L := ⟨_, rfl⟩
      have hLl : L.length = i + 1 := by rw [← hL]; simp; omega
      rw [hL] at Hown4
      have HLl := Lib.hid hLl
      have HLe := Lib.hid hL
      clear hL hLl
      go_cut [] from 34 to 41 (fun wx => wx.ownsRow w.heap.size 27 4 (.slice (some ⟨g4, 0, none⟩) (i + 1) cap4) (i + 1) (flatL (L.take P ++ (L.drop k).take (i + 1 - P))) ∧ Below w.heap.size w wx)
      case first =>
        by_cases hke : k = i
        · have hPi : P = i + 1 := by omega
          have HPi := Lib.hid hPi
          have Hend := Lib.hid (show L.take P ++ (L.drop k).take (i + 1 - P) = L by rw [hPi, Nat.sub_self, List.take_zero, List.append_nil, List.take_of_length_le (by rw [HLl.out]; exact Nat.le_refl _)])
          clear hke hPi
          by_cases hcp : cap4 = P
          · subst hcp
            go_region_law (refine step_copy_zero rfl (.tmp 37) (.tmp 40) 22 rfl 27 Try.underlying22 hsz4 (some ⟨g4, 0, none⟩) (some ⟨g4, k * 4, none⟩) 0 0 (i + 1 - k) (cap4 - k) (by simp [Act.eval, Act.put]) (by simp [Act.eval, Act.put]) (by show min _ 0 = 0; omega) ?_)
            all_goals
              go_wp2_with fail
              go_meet
              case rel => exact ⟨by rw [Hend.out]; exact Hown4.out, below_drewN B4.out 1⟩
          · go_region_law (refine step_copy_zero rfl (.tmp 37) (.tmp 40) 22 rfl 27 Try.underlying22 hsz4 (some ⟨g4, P * 4, none⟩) (some ⟨g4, k * 4, none⟩) (i + 1 - P) (cap4 - P) (i + 1 - k) (cap4 - k) (by kernel_rfl) (by kernel_rfl) (by have := HPi.out; show min _ (i + 1 - P) = 0; omega) ?_)
            all_goals
              go_wp2_with fail
              go_meet
              case rel => exact ⟨by rw [Hend.out]; exact Hown4.out, below_drewN B4.out 1⟩
        · have hne : ¬ cap4 = P := by omega
          have hPi : P < i + 1 := by omega
          go_region_law (refine step_copy_lines (w0 := w4) rfl (.tmp 37) (.tmp 40) 22 rfl 27 Try.underlying22 hsz4 w.heap.size g4 (i + 1) cap4 k P _ Hown4.out rfl hkP hPi (i + 1 - P) (cap4 - P) (i + 1 - k) (cap4 - k) rfl rfl (by kernel_rfl) (by kernel_rfl) ?_; intro w5 hown5 hg5)
          all_goals
            go_wp2_with fail
            go_meet
            case rel => exact ⟨hown5, (below_drewN B4.out 1).grown hg5 B4.out.size (fun q hq => by cases hq; exact (Hown4.out.lt g4 rfl).1)⟩
      case rest =>
        obtain ⟨hown5, hb5⟩ := hcut
        obtain ⟨w5, rfl⟩ : ∃ w5, w5 = wc := ⟨_, rfl⟩
        have HO5 := Lib.hid hown5
        have HB5 := Lib.hid hb5
        obtain ⟨e0, e1, e2, e3⟩ := Hxc.out
        have e0 := cell_kept hb5 e0
        have e1 := cell_kept hb5 e1
        have e2 := cell_kept hb5 e2
        have e3 := cell_kept hb5 e3
        obtain ⟨L9, hL9⟩ : ∃ L9, L.take P ++ (L.drop k).take (i + 1 - P) = L9 := ⟨_, rfl⟩
        rw [hL9] at HO5
        have HL9 := Lib.hid hL9
        have hl9 : L9.length = i + 1 := by have := HO5.out.1; rw [flatL_len] at this; omega
        obtain ⟨d0, d1, d2, d3⟩ := flatL_get L9 k (by omega)
        have d0 := (HO5.out.cellAt (k * 4) (by omega)).trans d0
        have d1 := (HO5.out.cellAt (k * 4 + 1) (by omega)).trans d1
        have d2 := (HO5.out.cellAt (k * 4 + 2) (by omega)).trans d2
        have d3 := (HO5.out.cellAt (k * 4 + 3) (by omega)).trans d3
        obtain ⟨y, hy⟩ : ∃ y, L9[k]'(by omega) = y := ⟨_, rfl⟩
        rw [hy] at d0 d1 d2 d3
        clear hy
        obtain ⟨y1, y2, y3, y4⟩ := y
        dsimp only at d0 d1 d2 d3
        have f0 := own_frozen HO5.out (k * 4)
        have f1 := own_frozen HO5.out (k * 4 + 1)
        have f2 := own_frozen HO5.out (k * 4 + 2)
        have f3 := own_frozen HO5.out (k * 4 + 3)
        have hki4 : (k : Int) < (i : Int) + 1 := by omega
        have HO6 := Lib.hid (own_setCell (own_setCell (own_setCell (own_setCell HO5.out (j := k * 4) (.int .u64 x1)) (j := k * 4 + 1) (.int .i64 x2)) (j := k * 4 + 2) (.int .i64 x3)) (j := k * 4 + 3) (.string x4))
        rw [show ((((flatL L9).set (k * 4) (.int .u64 x1)).set (k * 4 + 1) (.int .i64 x2)).set (k * 4 + 2) (.int .i64 x3)).set (k * 4 + 3) (.string x4) = flatL (L9.set k ⟨x1, x2, x3, x4⟩) from (flatL_set L9 k ⟨x1, x2, x3, x4⟩ (by omega)).symm] at HO6
        have hg4 := (HO5.out.lt g4 rfl).1
        have HB6 := Lib.hid ((((HB5.out.setCell (p := ⟨g4, k * 4, none⟩) hg4 (.int .u64 x1)).setCell (p := ⟨g4, k * 4 + 1, none⟩) hg4 (.int .i64 x2)).setCell (p := ⟨g4, k * 4 + 2, none⟩) hg4 (.int .i64 x3)).setCell (p := ⟨g4, k * 4 + 3, none⟩) hg4 (.string x4))
        clear hb5 hown5 hL9
        go_wp2_with fail
        go_roundw
        case rel =>
          have hS := HS.out.next hil k hki (by rw [HX.out]; exact HK.out) (by rw [HX.out]; exact Hstop.out)
          refine ⟨i + 1, _, some ⟨g4, 0, none⟩, cap4, rfl, rfl, by omega, fun _ => ⟨g4, rfl⟩, ?_, hS, HB6.out⟩
          have e : (os.take k ++ (l[i], i) :: os.drop k).map Prod.fst = L9.set k ⟨x1, x2, x3, x4⟩ := by
            rw [← HL9.out, ← HLe.out, ← hP, HX.out]
            exact spot _ _ _ _ HL hki
          rw [e]
          exact HO6.out
        case measure => simp [intOf]; omega
end Go.Proofs.Ytaconebkgajicaa
