import Derived.Test.YtgodmfjcccakbaaDoorHiMath
import Derived.Test.YtgodmfjcccakbaaDoorLabA
import Derived.Test.YtgodmfjcccakbaaDoorLabBase
import Derived.Test.YtgodmfjcccakbaaDoorShelf
import Derived.Shelf.Abstract
namespace Go.Proofs.YtgodmfjcccakbaaDoor
open Go.RowKit Go.Shelf Go.Sort

/-- the labels that may be -/
abbrev L64 := { x : Nat // x < 18446744073709551616 }
instance : Inhabited L64 := ⟨⟨0, by decide⟩⟩
def encL (x : L64) : Value := .int .u64 (x.1 : Int)
def valsL (hs : List L64) : List Value := hs.map encL

set_option maxHeartbeats 1000000 in
theorem hi1_any (a : Nat) (A : Nat) (h : L64) (w : World) (ha : a < 18446744073709551616) (hc : w.cell? ⟨A, 0, none⟩ = some (.int .u64 a)) :
    Calls Tryd.prog 24 #[.int .u64 (h.1 : Int), .pointer (some ⟨A, 0, none⟩)] w fun e w' => e = .returned (.bool (belowN a h.1)) ∧ w = w' := by
  obtain ⟨h, hh⟩ := h
  go_enter Tryd.func24, Tryd.ntmps24
  go_wp2_with fail
  refine (below_any a h _ ha hh).mono ?_
  rintro e w' ⟨rfl, rfl⟩
  go_wp2_with fail
  go_ret
  exact ⟨rfl, rfl⟩
set_option maxHeartbeats 1000000 in
theorem hi2_any (a : Nat) (A : Nat) (h : L64) (w : World) (ha : a < 18446744073709551616) (hc : w.cell? ⟨A, 0, none⟩ = some (.int .u64 a)) :
    Calls Tryd.prog 26 #[.int .u64 (h.1 : Int), .pointer (some ⟨A, 0, none⟩)] w fun e w' => e = .returned (.bool (belowN h.1 a)) ∧ w = w' := by
  obtain ⟨h, hh⟩ := h
  go_enter Tryd.func26, Tryd.ntmps26
  go_wp2_with fail
  refine (below_any h a _ hh ha).mono ?_
  rintro e w' ⟨rfl, rfl⟩
  go_wp2_with fail
  go_ret
  exact ⟨rfl, rfl⟩

theorem contains_any (a A : Nat) (v : Value) (hs : List L64) (w : World) (base : Nat) (ha : a < 18446744073709551616) (hc : w.cell? ⟨A, 0, none⟩ = some (.int .u64 a))
    (hown : w.ownsRow base 23 1 v hs.length (valsL hs)) (hlen : hs.length ≤ 1000000) :
    Calls Tryd.prog 23 #[v, .func (.func 24) #[] #[.pointer (some ⟨A, 0, none⟩)]] w fun e w' => e = .returned (.bool (hs.any fun h => belowN a h.1)) ∧ ∃ q, w' = w.drewN q := by
  by_cases h0 : 0 < hs.length
  · obtain ⟨g, cap, rfl⟩ := Joins.ownsRow_form hown h0
    have h1 := Tryd.slices_ContainsFunc encL (fun h : L64 => belowN a h.1) 24 #[.pointer (some ⟨A, 0, none⟩)] (enters_of Tryd.func24 (by kernel_rfl) rfl) g 0 hs.length cap hs w
      (fun W x hb => (hi1_any a A x W ha (cell_kept hb hc)).mono fun e w' ⟨he, hw⟩ => ⟨he, 0, hw.symm⟩) (Nat.le_refl _) (by omega)
      (fun j hj => by
        rw [Nat.zero_add, hown.cellAt j (by omega), valsL, List.getElem?_map, List.getElem?_eq_getElem hj, getElem!_pos hs j hj]
        rfl)
    rw [List.take_length] at h1
    exact h1
  · have hz : hs = [] := List.eq_nil_of_length_eq_zero (by omega)
    subst hz
    obtain ⟨ao, cap, rfl⟩ : ∃ ao cap, v = .slice ao 0 cap := by
      rcases Joins.ownsRow_forms hown with ⟨hv, _⟩ | ⟨g, cap, hv⟩
      · exact ⟨_, _, hv⟩
      · exact ⟨_, _, hv⟩
    exact (Tryd.slices_ContainsFunc_empty (α := L64) ao cap _ w).mono fun e w' ⟨he, hw⟩ => ⟨he, 0, hw⟩

set_option maxHeartbeats 1000000 in
theorem delete_nil (ao : Option Addr) (cap : Nat) (fv : Value) (w : World) :
    Calls Tryd.prog 25 #[.slice ao 0 cap, fv] w fun e w' => e = .returned (.slice ao 0 cap) ∧ w = w' := by
  go_enter Tryd.func25, Tryd.ntmps25
  go_wp2_with fail
  refine (Tryd.slices_IndexFunc_empty (α := L64) ao cap fv _).mono ?_
  rintro e w' ⟨rfl, hw⟩
  have hw2 := hw.symm
  subst hw2
  go_wp2_with fail
  go_ret
  exact ⟨rfl, rfl⟩

theorem putCells_take (d : Array L64) (cur : Array Value) (h : d.size ≤ cur.size) : (putCells encL 0 d cur).toList.take d.size = valsL d.toList := by
  apply List.ext_getElem
  · simp [putCells, valsL]
    omega
  · intro i h1 h2
    have hi : i < d.size := by simpa [valsL] using h2
    simp only [List.getElem_take, Array.getElem_toList, putCells, Array.getElem_mapIdx, valsL, List.getElem_map, Nat.sub_zero]
    rw [if_pos ⟨Nat.zero_le _, by omega⟩, getElem!_pos d i hi]

/-- what DeleteFunc leaves: a row of the call's own, with what is kept -/
theorem delete_any (a A : Nat) (v : Value) (hs : List L64) (w : World) (base : Nat) (ha : a < 18446744073709551616) (hc : w.cell? ⟨A, 0, none⟩ = some (.int .u64 a))
    (hown : w.ownsRow base 23 1 v hs.length (valsL hs)) (hlen : hs.length ≤ 1000000) (hA : v.ownBlock ≠ some A) :
    Calls Tryd.prog 25 #[v, .func (.func 26) #[] #[.pointer (some ⟨A, 0, none⟩)]] w fun e w' =>
      ∃ v', e = .returned v' ∧ w'.ownsRow base 23 1 v' (hs.filter fun h => !belowN h.1 a).length (valsL (hs.filter fun h => !belowN h.1 a)) ∧ w.grownBy w' v.ownBlock ∧ v'.ownBlock = v.ownBlock := by
  by_cases h0 : 0 < hs.length
  · obtain ⟨g, cap, rfl⟩ := Joins.ownsRow_form hown h0
    have hgA : g ≠ A := fun e => hA (by rw [e]; rfl)
    rcases hown.2 with ⟨hv, _⟩ | ⟨g', cap', cur, hv, hbg, hg, hnc, hcm, hcs, htake⟩
    · cases hv
    · cases hv
      have hcell : ∀ j, j < hs.toArray.size → w.cell? ⟨g, 0 + j, none⟩ = some (encL hs.toArray[j]!) ∧ w.frozen? ⟨g, 0 + j, none⟩ = false := by
        intro j hj
        rw [List.size_toArray] at hj
        rw [Nat.zero_add]
        refine ⟨?_, hown.frozenAt j⟩
        rw [hown.cellAt j (by omega), valsL, List.getElem?_map, List.getElem?_eq_getElem hj, getElem!_pos hs.toArray j (by simpa using hj)]
        simp
      have h1 := Tryd.slices_DeleteFunc encL (fun _ => rfl) (fun h : L64 => belowN h.1 a) 26 #[.pointer (some ⟨A, 0, none⟩)] (enters_of Tryd.func26 (by kernel_rfl) rfl) ⟨0, by decide⟩ (fun w => by kernel_rfl) g 0 cap hs.toArray w
        (fun W x hb => (hi2_any a A x W ha (cell_kept hb hc)).mono fun e w' ⟨he, hw⟩ => ⟨he, 0, hw.symm⟩)
        (fun n os dk x hd => (hi2_any a A x _ ha (by
          have hlt := World.block_lt_of_cell? w _ hc
          have h2 : (putRow encL (Sort.ahead w n) g 0 dk).cell? ⟨A, 0, none⟩ = some (.int .u64 (a : Int)) := by
            rw [cell?_putRow_other _ _ _ _ _ _ (.inl (Ne.symm hgA))]
            exact hc
          have h3 : (putRow encL (Sort.ahead w n) g 0 dk).heap.size = w.heap.size := by rw [size_putRow]; rfl
          have h4 := Sort.heap_grow_old (putRow encL (Sort.ahead w n) g 0 dk) os (show A < _ by rw [h3]; exact hlt)
          unfold World.cell? at h2 ⊢
          rw [show (sortWorld encL w g 0 n dk os).heap[A]? = (putRow encL (Sort.ahead w n) g 0 dk).heap[A]? from h4]
          exact h2)).mono fun e w' ⟨he, hw⟩ => ⟨he, 0, hw.symm⟩)
        hcell (by rw [List.size_toArray]; omega) (by rw [List.size_toArray]; exact hnc)
      rw [List.size_toArray] at h1
      refine h1.mono fun e w' ⟨he, q, hw⟩ => ?_
      obtain ⟨ks, hks⟩ : ∃ ks, (hs.filter fun h => !belowN h.1 a) = ks := ⟨_, rfl⟩
      have hkl : ks.length ≤ hs.length := by rw [← hks]; exact List.length_filter_le _ _
      simp only [hks] at he hw ⊢
      obtain ⟨d, hd⟩ : ∃ d : Array L64, (ks ++ List.replicate (hs.length - ks.length) (⟨0, by decide⟩ : L64)).toArray = d := ⟨_, rfl⟩
      have hds : d.size = hs.length := by rw [← hd]; simp; omega
      simp only [hd] at hw
      have hg2 : w'.heap[g]? = some (.cells (putCells encL 0 d cur) 23 (0, 0)) := by
        rw [hw]
        show ((Sort.ahead w q).heap.modify g _)[g]? = _
        rw [Array.getElem?_modify, if_pos rfl]
        show (w.heap[g]?).map _ = _
        rw [hg]
        rfl
      refine ⟨_, he, ⟨by simp [valsL], .inr ⟨g, cap, putCells encL 0 d cur, rfl, hbg, hg2, by omega, hcm, by rw [putCells, Array.size_mapIdx]; exact hcs, ?_⟩⟩, ?_, rfl⟩
      · have h2 := putCells_take d cur (by rw [hds, hcs]; omega)
        have h3 := congrArg (List.take ks.length) h2
        rw [List.take_take, Nat.min_eq_left (by omega)] at h3
        rw [Nat.mul_one, h3, ← hd]
        simp [valsL]
      · rw [hw]
        refine ⟨rfl, rfl, rfl, by rw [size_putRow]; exact Nat.le_refl _, fun k hk hne => ?_⟩
        show ((Sort.ahead w q).heap.modify g _)[k]? = _
        rw [Array.getElem?_modify, if_neg (fun e => hne (by rw [e]; rfl))]
        rfl
  · have hz : hs = [] := List.eq_nil_of_length_eq_zero (by omega)
    subst hz
    obtain ⟨ao, cap, hv⟩ : ∃ ao cap, v = .slice ao 0 cap := by
      rcases Joins.ownsRow_forms hown with ⟨hv, _⟩ | ⟨g, cap, hv⟩
      · exact ⟨_, _, hv⟩
      · exact ⟨_, _, hv⟩
    subst hv
    refine (delete_nil ao cap _ w).mono fun e w' ⟨he, hw⟩ => ?_
    subst hw
    exact ⟨_, he, hown, ⟨rfl, rfl, rfl, Nat.le_refl _, fun _ _ _ => rfl⟩, rfl⟩
end Go.Proofs.YtgodmfjcccakbaaDoor
