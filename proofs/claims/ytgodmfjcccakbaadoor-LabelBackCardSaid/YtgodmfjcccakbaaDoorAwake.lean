import Derived.Test.YtgodmfjcccakbaaDoorTxtA
namespace Go.Proofs.YtgodmfjcccakbaaDoor
open Go.RowKit

theorem aw1 : ofA [3, 7] = 136 ∧ ofE [3, 7] = 0 := by decide +kernel
theorem aw2 : ofA [7] = 128 ∧ ofE [7] = 0 := by decide +kernel
theorem aw3 : belowN 128 136 = true ∧ belowN 136 128 = false ∧ countN 136 = 2 := by decide +kernel
theorem aw4 : textB 136 = ⟨#[51, 43, 55]⟩ := by
  have e : listN 136 = [3, 7] := by decide +kernel
  rw [textB, if_neg (by decide), e]
  show plusT [digB 3, digB 7] = _
  rw [digB, digB, dec_small (by decide), dec_small (by decide)]
  rfl

theorem nums_lit (w : World) (l : List Int) (t : TypeId) (h0 : 0 < l.length) (hm : l.length ≤ maxLen) : Nums .i64 (w.alloc (.cells (l.map (Value.int .i64)).toArray t)) (.slice (some ⟨w.heap.size, 0, none⟩) l.length l.length) l := by
  refine .inr ⟨w.heap.size, 0, l.length, by rw [List.length_map], by rw [List.length_map]; exact h0, by rw [List.length_map]; exact Nat.le_refl _, hm, fun i hi => ?_⟩
  rw [Nat.zero_add, cell_of_row _ _ _ _ _ _ (heap_alloc_new w _)]
  simp at hi ⊢

set_option maxHeartbeats 4000000 in
set_option maxRecDepth 100000 in
theorem awake_any (w : World) (hT : Deb w) :
    Calls Tryd.prog 9 #[] w fun e w' => e = .returned (.bool true) ∧ Below w.heap.size w w' := by
  have HT := Lib.hid hT
  clear hT
  go_enter Tryd.func9, Tryd.ntmps9
  go_wp2_with fail
  refine (of_any _ [3, 7] _ (nums_lit w [3, 7] _ (by decide) (by decide))).mono ?_
  rintro e w1 ⟨rfl, hb⟩
  rw [aw1.1, aw1.2]
  have B1 := Lib.hid (((Below.refl _ _).alloc (Nat.le_refl _) _).trans (hb.mono (by simp)))
  clear hb
  go_wp2_with fail
  refine (of_any _ [7] _ (nums_lit w1 [7] _ (by decide) (by decide))).mono ?_
  rintro e w2 ⟨rfl, hb⟩
  rw [aw2.1, aw2.2]
  have B2 := Lib.hid (below_join B1.out (((Below.refl _ _).alloc (Nat.le_refl _) _).trans (hb.mono (by simp))))
  clear hb
  go_wp2_with fail
  refine (below_any 128 136 _ (by decide) (by decide)).mono ?_
  rintro e w' ⟨rfl, rfl⟩
  rw [aw3.1]
  go_wp2_with fail
  refine (below_any 136 128 _ (by decide) (by decide)).mono ?_
  rintro e w' ⟨rfl, rfl⟩
  rw [aw3.2.1]
  go_wp2_with fail
  refine (labText_any 136 _ (by decide) (HT.out.kept B2.out)).mono ?_
  rintro e w3 ⟨rfl, hb⟩
  rw [aw4]
  have B3 := Lib.hid (below_join B2.out hb)
  clear hb
  go_wp2_with fail
  refine (count_any 136 _ (by decide)).mono ?_
  rintro e w' ⟨rfl, rfl⟩
  rw [aw3.2.2]
  go_wp2_with fail
  go_ret
  exact ⟨rfl, B3.out⟩
end Go.Proofs.YtgodmfjcccakbaaDoor
