/- Own work: ViewNames' walk. -/
import Derived.Test.YtgchcgllpceghaaSeeLabels
import Derived.Test.YtgchcgllpceghaaSeePut2
namespace Go.Proofs.Ytgchcgllpceghaa
open Go.RowKit Go.Joins

theorem names_below : belowN 1 3 = true ∧ belowN 3 1 = false ∧ belowN 4 3 = false := by decide +kernel
set_option maxRecDepth 100000 in
set_option maxHeartbeats 16000000 in
theorem names_walk (w : World) : Calls Try.prog 7 #[] w fun e w' => e = .returned (.bool true) ∧ Below w.heap.size w w' := by
  have nof : ∀ x ∈ ([] : List LineV), x.fine := fun x hx => by cases hx
  have Hnof := Lib.hid nof
  have Hnil : Hid (∀ W : World, Lns W (.slice none 0 0) []) := fun W => .inl ⟨_, _, rfl, rfl⟩
  have HB3 := Lib.hid names_below
  clear nof
  go_enter Try.func7, Try.ntmps7
  go_wp2_with fail
  refine (put_any (.slice none 0 0) (.slice none 0 0) [] [] 3 _ (Hnil.out _) (Hnil.out _) Hnof.out (by decide) (.inl rfl) (by decide)).mono ?_
  rintro e w1 ⟨hb1, ⟨_, v, rfl, hv⟩ | ⟨hne, _⟩⟩
  rotate_left
  · exact absurd rfl hne
  obtain ⟨vo, vc, rfl, _⟩ := own_slice (show w1.ownsRow w.heap.size 26 4 v 0 [] from hv)
  have B1 := Lib.hid hb1
  clear hb1 hv
  have hal := (Below.refl w1.heap.size w1).alloc (Nat.le_refl _) (.cells #[.int .u64 0, .int .i64 1, .int .i64 0, .string ⟨#[]⟩] 26)
  have HAL := Lib.hid hal
  have HX := Lib.hid (lns_one w1 ⟨0, 1, 0, ⟨#[]⟩⟩ 26)
  clear hal
  go_wp2_with fail
  refine (put_any (.slice none 0 0) _ [] [⟨0, 1, 0, ⟨#[]⟩⟩] 3 _ (Hnil.out _) HX.out Hnof.out (by decide) (.inl rfl) (by decide)).mono ?_
  rintro e w2 ⟨hb2, ⟨hne, _⟩ | ⟨_, rfl⟩⟩
  · cases hne
  have B2 := Lib.hid (below_join (below_join B1.out HAL.out) hb2)
  clear hb2
  go_wp2_with fail
  refine (of_any (.slice none 0 0) [] 3 _ (Hnil.out _) Hnof.out (by decide) (by decide)).mono ?_
  rintro e w3 ⟨v3, rfl, hv3, hb3⟩
  obtain ⟨o3, c3, rfl, _⟩ := own_slice (show w3.ownsRow w2.heap.size 26 4 v3 0 [] from hv3)
  have B3 := Lib.hid (below_join B2.out hb3)
  clear hb3 hv3
  go_wp2_with fail
  refine (hidden_any (.slice none 0 0) [] 3 _ (Hnil.out _) Hnof.out (by decide) (by decide)).mono ?_
  rintro e w4 ⟨v4, rfl, hv4, hb4⟩
  obtain ⟨o4, c4, rfl, _⟩ := own_slice (show w4.ownsRow w3.heap.size 26 4 v4 0 [] from hv4)
  have B4 := Lib.hid (below_join B3.out hb4)
  clear hb4 hv4
  go_wp2_with fail
  refine (labels_any (.slice none 0 0) [] _ (Hnil.out _) Hnof.out (by decide)).mono ?_
  rintro e w5 ⟨v5, m5, out5, rfl, hv5, hr5, hb5⟩
  have h0 : out5 = [] := List.eq_nil_iff_forall_not_mem.2 fun x hx => by have := (hr5.2 x).1 hx; simp at this
  subst h0
  have hm : m5 = 0 := by have := hv5.1; simp at this; omega
  subst hm
  obtain ⟨o5, c5, rfl, _⟩ := own_slice hv5
  have B5 := Lib.hid (below_join B4.out hb5)
  clear hb5 hv5 hr5
  have hal := (Below.refl w5.heap.size w5).alloc (Nat.le_refl _) (.cells #[.int .u64 4, .int .i64 0, .int .i64 0, .string ⟨#[]⟩] 26)
  have HAL5 := Lib.hid hal
  have HX5 := Lib.hid (lns_one w5 ⟨4, 0, 0, ⟨#[]⟩⟩ 26)
  have hf4 : ∀ x ∈ ([⟨4, 0, 0, ⟨#[]⟩⟩] : List LineV), x.fine := by
    intro x hx
    rw [List.mem_singleton] at hx
    subst hx
    exact ⟨by decide, by decide⟩
  have Hf4 := Lib.hid hf4
  have hs4 : ([] : List LineV).filter (LineV.seen 3) = ([⟨4, 0, 0, ⟨#[]⟩⟩] : List LineV).filter (LineV.seen 3) := by
    have : LineV.seen 3 ⟨4, 0, 0, ⟨#[]⟩⟩ = false := HB3.out.2.2
    simp [this]
  have Hs4 := Lib.hid hs4
  clear hal hf4 hs4
  go_wp2_with fail
  refine (alike_any (.slice none 0 0) _ [] [⟨4, 0, 0, ⟨#[]⟩⟩] 3 _ (Hnil.out _) HX5.out Hnof.out Hf4.out (by decide) (by decide) (by decide)).mono ?_
  rintro e w6 ⟨rfl, hb6⟩
  rw [decide_eq_true Hs4.out]
  have B6 := Lib.hid (below_join (below_join B5.out HAL5.out) hb6)
  clear hb6
  go_wp2_with fail
  refine (seen_any 3 1 0 0 ⟨#[]⟩ _ (by decide) (by decide) (by decide)).mono ?_
  rintro e w7 ⟨rfl, hb7⟩
  have e7 : belowN (Int.toNat 1) 3 = true := HB3.out.1
  rw [e7]
  have B7 := Lib.hid (below_join B6.out hb7)
  clear hb7 e7
  go_wp2_with fail
  refine (seen_any 1 3 0 0 ⟨#[]⟩ _ (by decide) (by decide) (by decide)).mono ?_
  rintro e w8 ⟨rfl, hb8⟩
  have e8 : belowN (Int.toNat 3) 1 = false := HB3.out.2.1
  rw [e8]
  have B8 := Lib.hid (below_join B7.out hb8)
  clear hb8 e8
  go_wp2_with fail
  go_ret
  exact ⟨rfl, B8.out⟩
end Go.Proofs.Ytgchcgllpceghaa
