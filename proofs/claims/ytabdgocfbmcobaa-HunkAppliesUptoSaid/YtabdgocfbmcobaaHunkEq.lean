/- Own work: slices.Equal at texts; within. -/
import Derived.Test.YtabdgocfbmcobaaHunkMem
import Derived.Test.YtabdgocfbmcobaaShelf
namespace Go.Proofs.Ytabdgocfbmcobaa
open Go.RowKit

theorem equal_any (u v : Value) (a b : List ByteArray) (w : World) (hu : Texts w u a) (hv : Texts w v b) :
    Calls Try.prog 35 #[u, v] w fun e w' => e = .returned (.bool (decide (a = b))) ∧ ∃ q, w' = w.drewN q := by
  by_cases hl : a.length = b.length
  · by_cases h0 : a.length = 0
    · obtain ⟨ao, cap, e1⟩ := hu.lenForm
      obtain ⟨bo, cap', e2⟩ := hv.lenForm
      subst e1 e2
      have ha := List.eq_nil_of_length_eq_zero h0
      have hb := List.eq_nil_of_length_eq_zero (hl ▸ h0 : b.length = 0)
      subst ha hb
      refine (Try.slices_Equal_string_empty ao bo cap 0 cap' w (by omega)).mono ?_
      rintro e w' ⟨rfl, rfl⟩
      exact ⟨by simp, 0, rfl⟩
    · rcases hu with ⟨_, _, _, rfl⟩ | ⟨bu, ou, cu, rfl, hpu, huc, hum, hcu⟩
      · simp at h0
      · rcases hv with ⟨_, _, _, rfl⟩ | ⟨bv, ov, cv, rfl, hpv, hvc, hvm, hcv⟩
        · simp only [List.length_nil] at hl; omega
        · unfold maxLen at hum hvm
          refine (Try.slices_Equal_string bu ou a.length cu bv ov b.length cv a b w (Nat.le_refl _) (Nat.le_refl _) (by omega) (by omega) (fun j hj => ?_) (fun j hj => ?_)).mono ?_
          · rw [hcu j hj, List.getD_eq_getElem?_getD, List.getElem?_eq_getElem hj]; rfl
          · rw [hcv j hj, List.getD_eq_getElem?_getD, List.getElem?_eq_getElem hj]; rfl
          · rintro e w' ⟨rfl, q, rfl⟩
            refine ⟨?_, q, rfl⟩
            rw [List.take_length, List.take_length]
  · obtain ⟨ao, cap, e1⟩ := hu.lenForm
    obtain ⟨bo, cap', e2⟩ := hv.lenForm
    subst e1 e2
    refine (Try.slices_Equal_string_lens ao bo a.length cap b.length cap' w hl).mono ?_
    rintro e w' ⟨rfl, rfl⟩
    refine ⟨?_, 0, rfl⟩
    rw [decide_eq_false (fun e => hl (by rw [e]))]

def HunkV.agg (h : HunkV) : Value := .agg #[.int .i64 h.at_, h.ov, h.nv]
set_option maxHeartbeats 1000000 in
theorem within_any (at_ : Nat) (oo : Option Addr) (on oc : Nat) (nv : Value) (n : Nat) (w : World) (h1 : at_ ≤ 2147483647) (h2 : on * 16 ≤ 140737488355328) :
    Calls Try.prog 34 #[.agg #[.int .i64 (at_ : Int), .slice oo on oc, nv], .int .i64 (n : Int)] w fun e w' => e = .returned (.bool (decide (at_ + on ≤ n))) ∧ Below w.heap.size w w' := by
  go_enter Try.func34, Try.ntmps34
  have hra := heap_alloc_new w (.cells #[.int .i64 (at_ : Int), .slice oo on oc, nv] 43)
  have a0 := cell_of_row _ _ 0 _ _ _ hra
  have a1 := cell_of_row _ _ 1 _ _ _ hra
  clear hra
  go_wp2_with fail
  all_goals
    go_ret
    refine ⟨?_, (Below.refl _ _).alloc (Nat.le_refl _) _⟩
    first
      | (rw [Bool.eq_iff_iff]; simp; omega)
      | (simp; omega)
end Go.Proofs.Ytabdgocfbmcobaa
