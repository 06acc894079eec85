import Derived.Test.YtgodmfjcccakbaaDoorHiA
import Derived.Test.YtgodmfjcccakbaaDoorLabels
namespace Go.Proofs.YtgodmfjcccakbaaDoor
open Go.RowKit Go.Shelf Go.Sort

theorem Tryd.info23 : (Tryd.prog.info? 23).map (fun i => (i.zero, i.size, i.bytes)) = some (some (.int .u64 0), 1, 8) := by kernel_rfl
/-- one cell behind an address -/
theorem one_cellL (w : World) (v : Value) (t : TypeId) : ∀ (i : Nat) (u : Value), [v][i]? = some u → (w.alloc (.cells #[v] t)).cell? ((⟨w.heap.size, 0, none⟩ : Addr).add i) = some u := by
  intro i u hu
  match i, hu with
  | 0, hu =>
    simp at hu
    subst hu
    rw [show (⟨w.heap.size, 0, none⟩ : Addr).add 0 = ⟨w.heap.size, 0, none⟩ by simp [Addr.add], cell_of_row _ _ _ _ _ _ (heap_alloc_new w _)]
    rfl
  | i + 1, hu => simp at hu
theorem one_listL (v : Value) (h : v.oneCell' = true) : ∀ x ∈ [v], x.oneCell' = true := by
  intro x hx
  rw [List.mem_singleton] at hx
  rw [hx]; exact h
/-- a slice of labels -/
def Labs (w : World) (v : Value) (ls : List L64) : Prop := Vec w v (valsL ls)
def ints64 (ls : List L64) : List Int := ls.map fun x => (x.1 : Int)
theorem valsL_ints (ls : List L64) : valsL ls = (ints64 ls).map (Value.int .u64) := by
  rw [valsL, ints64, List.map_map]; rfl
theorem Labs.nums {w : World} {v : Value} {ls : List L64} (h : Labs w v ls) : Nums .u64 w v (ints64 ls) := by
  rw [Labs, valsL_ints] at h; exact h
theorem Labs.of_own {w : World} {base : Nat} {e : TypeId} {v : Value} {n : Nat} {ls : List L64} (h : w.ownsRow base e 1 v n (valsL ls)) : Labs w v ls := Vec.of_own h
theorem Labs.kept {w w' : World} {v : Value} {ls : List L64} (h : Labs w v ls) (hb : Below w.heap.size w w') : Labs w' v ls := Vec.kept h hb
/-- the k-th label -/
def atL (ls : List L64) (k : Nat) : Nat := (ls.getD k ⟨0, by decide⟩).1
theorem atL_lt (ls : List L64) (k : Nat) : atL ls k < 18446744073709551616 := (ls.getD k ⟨0, by decide⟩).2
def HiPost (w : World) (ls : List L64) (e : Ending) (w' : World) : Prop :=
  ∃ v hs, e = .returned v ∧ hs.map Subtype.val = hiProg (atL ls) ls.length ∧ w'.ownsRow w.heap.size 23 1 v hs.length (valsL hs) ∧ Below w.heap.size w w'

theorem map_any (hs : List L64) (a : Nat) : (hs.map Subtype.val).any (fun h => belowN a h) = hs.any fun h => belowN a h.1 := by
  rw [List.any_map]; rfl
theorem map_filter (hs : List L64) (a : Nat) : (hs.map Subtype.val).filter (fun h => !belowN h a) = (hs.filter fun h => !belowN h.1 a).map Subtype.val := by
  rw [List.filter_map]; rfl

set_option maxHeartbeats 8000000 in
set_option maxRecDepth 100000 in
theorem highest_any (u : Value) (ls : List L64) (w : World) (hu : Labs w u ls) (hlen : ls.length ≤ 1000) :
    Calls Tryd.prog 12 #[u] w (HiPost w ls) := by
  obtain ⟨i0, hi, hz0, hz1, hz2⟩ := info_parts Tryd.info23
  obtain ⟨ao, cap, b, o, rfl, hao, _, hc⟩ := Vec.form hu
  have hvl : (valsL ls).length = ls.length := by simp [valsL]
  rw [hvl] at hao ⊢
  obtain ⟨n, hn⟩ : ∃ n, ls.length = n := ⟨_, rfl⟩
  have Hn := Lib.hid hn
  rw [hn] at hao hlen ⊢
  have Hao := Lib.hid hao
  have Hc := Lib.hid hc
  have Hvl := Lib.hid hvl
  clear hu hao hc hvl hn
  go_enter Tryd.func12, Tryd.ntmps12
  go_wp2_with fail
  go_loopw [3, 8] (fun v i wr => ∃ (k : Nat) (hs : List L64), k ≤ n ∧ i = .int .i64 k ∧ Hid (hs.map Subtype.val = hiProg (atL ls) k) ∧ wr.ownsRow w.heap.size 23 1 v hs.length (valsL hs) ∧ Below w.heap.size w wr) (fun _ i _ => n - (intOf i).toNat)
  case atStart => exact ⟨0, [], Nat.zero_le _, rfl, rfl, World.ownsRow_nil _ _ _ _, Below.refl _ _⟩
  case round =>
    obtain ⟨k, hs, hk, rfl, Hhs, hown, hbw⟩ := hrel
    have Hown := Lib.hid hown
    have Hbw := Lib.hid hbw
    clear hown hbw
    by_cases hlt : k < n
    · have hka : k < ls.length := by have := Hn.out; omega
      obtain rfl := Hao.out (by omega)
      have c1 := cell_kept Hbw.out (Hc.out k (by rw [Hvl.out]; exact hka))
      have hax : atL ls k = (ls[k]'hka).1 := by rw [atL, List.getD_eq_getElem?_getD, List.getElem?_eq_getElem hka]; rfl
      have e1 : (valsL ls)[k]'(by rw [Hvl.out]; exact hka) = .int .u64 ((atL ls k : Nat) : Int) := by
        rw [hax]; simp [valsL, encL]
      rw [e1] at c1
      have hx := atL_lt ls k
      have hhl : hs.length ≤ k := by
        have h1 := congrArg List.length Hhs.out
        rw [List.length_map] at h1
        rw [h1]
        exact hiProg_len _ _
      have Hst : Hid (hiProg (atL ls) (k + 1) = hiStep (hs.map Subtype.val) (atL ls k)) := by
        show _ = _
        rw [Hhs.out]; rfl
      have hi0 : (0 : Int) ≤ (k : Int) := by omega
      have hi1 : (k : Int) < (n : Int) := by omega
      obtain ⟨x, hxe⟩ : ∃ x, atL ls k = x := ⟨_, rfl⟩
      rw [hxe] at c1 hx Hst
      clear hxe e1 hax
      have HA := Lib.hid (cell_of_row _ _ 0 _ _ _ (heap_alloc_new wr (.cells #[.int .u64 (x : Int)] 23)))
      have hnA : u3.ownBlock ≠ some wr.heap.size := fun e => by have := (Hown.out.lt _ e).2; omega
      have HnA := Lib.hid hnA
      obtain ⟨m, hm⟩ : ∃ m, hs.length = m := ⟨_, rfl⟩
      have Hm := Lib.hid hm
      rw [hm] at hhl
      clear hnA hm
      have hbs := Hbw.out.size
      cases hany : hs.any fun h => belowN x h.1
      · have Hany := Lib.hid hany
        clear hany
        go_wp2_with fail
        refine (contains_any x wr.heap.size u3 hs _ w.heap.size hx HA.out (Hown.out.alloc _) (by rw [Hm.out]; omega)).mono ?_
        rintro e w1 ⟨rfl, q, rfl⟩
        rw [Hany.out]
        have HA2 := Lib.hid (show ((wr.alloc (.cells #[.int .u64 (x : Int)] 23)).drewN q).cell? ⟨wr.heap.size, 0, none⟩ = some (.int .u64 (x : Int)) from HA.out)
        have Hown2 := Lib.hid (show ((wr.alloc (.cells #[.int .u64 (x : Int)] 23)).drewN q).ownsRow w.heap.size 23 1 u3 hs.length (valsL hs) from Hown.out.alloc _)
        go_wp2_with fail
        refine (delete_any x wr.heap.size u3 hs _ w.heap.size hx HA2.out Hown2.out (by rw [Hm.out]; omega) HnA.out).mono ?_
        rintro e w2 ⟨v2, rfl, hown2, hgrow, hv2⟩
        have hlt2 : wr.heap.size < ((wr.alloc (.cells #[.int .u64 (x : Int)] 23)).drewN q).heap.size := by
          show _ < (wr.alloc (.cells #[.int .u64 (x : Int)] 23)).heap.size
          rw [World.size_alloc]; omega
        have c2 : w2.cell? ⟨wr.heap.size, 0, none⟩ = some (.int .u64 (x : Int)) := by
          have h1 := hgrow.block wr.heap.size hlt2 (fun e => HnA.out e.symm)
          have h2 := HA2.out
          unfold World.cell? at h2 ⊢
          rw [h1]
          exact h2
        have B2 := Lib.hid ((show Below w.heap.size w ((wr.alloc (.cells #[.int .u64 (x : Int)] 23)).drewN q) from below_drewN (Hbw.out.alloc hbs _) q).grown hgrow (by omega) (fun k hk => (Hown.out.lt k hk).1))
        have hfl : (hs.filter fun h => !belowN h.1 x).length ≤ m := by rw [← Hm.out]; exact List.length_filter_le _ _
        have Hks : Hid ((hs.filter fun h => !belowN h.1 x).map Subtype.val ++ [x] = hiProg (atL ls) (k + 1)) := by
          show _ = _
          rw [Hst.out, hiStep, map_any, Hany.out, map_filter]
          rfl
        obtain ⟨ks, hks⟩ : ∃ ks, (hs.filter fun h => !belowN h.1 x) = ks := ⟨_, rfl⟩
        rw [hks] at hown2 hfl Hks
        have Ho2 := Lib.hid hown2
        have Hnl : Hid (ks.length ≤ 1000000) := by show _ ≤ _; omega
        clear hown2 hgrow hv2 hlt2 hks
        go_wp2_with (at_builtin; refine wpList_append_own _ rfl _ _ 34 rfl w.heap.size 23 i0 (.int .u64 0) 1 8 Tryd.underlying34 hi hz0 hz1 hz2 rfl (by decide) _ _ _ rfl (Ho2.out.alloc _) ⟨w2.heap.size, 0, none⟩ 1 1 [.int .u64 x] rfl rfl (one_cellL _ _ _) (one_listL _ rfl) ?d3 ?d4 ?d5 ?_)
        case d3 => unfold maxLen; omega
        case d4 => omega
        case d5 => exact Nat.le_trans B2.out.size (by simp)
        intro v3 w3 hown3 hgrow3 _
        have B3 := Lib.hid ((B2.out.alloc B2.out.size _).grown hgrow3 (Nat.le_trans B2.out.size (by simp)) (fun q hq => (Ho2.out.lt q hq).1))
        have Ho3 := Lib.hid hown3
        clear hown3 hgrow3
        go_wp2_with fail
        go_roundw
        case rel =>
          refine ⟨k + 1, ks ++ [⟨x, hx⟩], by omega, by go_num, ?_, ?_, B3.out⟩
          · show _ = _
            rw [List.map_append, ← Hks.out]; rfl
          · have e : valsL (ks ++ [⟨x, hx⟩]) = valsL ks ++ [.int .u64 (x : Int)] := by simp [valsL, encL]
            rw [e, List.length_append]
            exact Ho3.out
        case measure => simp [intOf]; omega
      · have Hany := Lib.hid hany
        clear hany
        go_wp2_with fail
        refine (contains_any x wr.heap.size u3 hs _ w.heap.size hx HA.out (Hown.out.alloc _) (by rw [Hm.out]; omega)).mono ?_
        rintro e w1 ⟨rfl, q, rfl⟩
        rw [Hany.out]
        go_wp2_with fail
        go_roundw
        case rel =>
          refine ⟨k + 1, hs, by omega, by go_num, ?_, Hown.out.alloc _, below_drewN (Hbw.out.alloc hbs _) q⟩
          show _ = _
          rw [Hst.out, hiStep, map_any, Hany.out]
          rfl
        case measure => simp [intOf]; omega
    · obtain rfl : k = n := by omega
      go_wp2_with fail
      go_ret
      exact ⟨_, hs, rfl, by rw [Hhs.out, Hn.out], Hown.out, Hbw.out⟩
end Go.Proofs.YtgodmfjcccakbaaDoor
