/- Own work: the ident laws' first question. -/
import Derived.Test.YtajjikbigacbaaaDoorIdNil
import Derived.Test.YtajjikbigacbaaaDoorIdText
namespace Go.Proofs.YtajjikbigacbaaaDoor
open Go.RowKit Go.Maps

/-- two lines in a new block -/
theorem lns_two (w : World) (x y : LineV) (t : TypeId) : Lns (w.alloc (.cells #[.int .u64 x.lab, .int .i64 x.num, .int .i64 x.rev, .string x.text, .int .u64 y.lab, .int .i64 y.num, .int .i64 y.rev, .string y.text] t)) (.slice (some ⟨w.heap.size, 0, none⟩) 2 2) [x, y] := by
  refine .inr ⟨w.heap.size, 0, 2, rfl, by simp, by simp, by decide, fun i hi => ?_⟩
  have hr := heap_alloc_new w (.cells #[.int .u64 x.lab, .int .i64 x.num, .int .i64 x.rev, .string x.text, .int .u64 y.lab, .int .i64 y.num, .int .i64 y.rev, .string y.text] t)
  have hc := fun j => cell_of_row _ _ j _ _ _ hr
  match i, hi with
  | 0, _ => exact ⟨hc 0, hc 1, hc 2, hc 3⟩
  | 1, _ => exact ⟨hc 4, hc 5, hc 6, hc 7⟩
abbrev awL : List LineV := [⟨3, 4, 0, ⟨#[]⟩⟩, ⟨0, 1, 0, ⟨#[]⟩⟩]
theorem aw_at (a : Int) : maxF awL a = if 3 = a then 4 else if 0 = a then 1 else 0 := by
  simp only [maxF, List.foldl_cons, List.foldl_nil]
  by_cases h3 : (3 : Int) = a
  · subst h3; rfl
  · by_cases h0 : (0 : Int) = a
    · subst h0; rfl
    · simp [h3, h0]
theorem aw_next3 : nextF (maxF awL) 3 = (5, 0) := by simp [nextF, aw_at]
theorem aw_next9 : nextF (nextU (maxF awL) 3) 9 = (1, 0) := by simp [nextF, nextU, upd, aw_at]
theorem aw_last0 : nextU (nextU (maxF awL) 3) 9 0 = 1 := by simp [nextU, upd, aw_at]
theorem idsOk_aw : idsOk awL = true := by simp [idsOk, twV, twGo, numOk, LineV.id]
theorem aw_fine : ∀ x ∈ awL, x.ok := fun x hx => by
  simp at hx
  rcases hx with rfl | rfl <;> exact ⟨by unfold u64; decide, by unfold i64; decide, by unfold i64; decide⟩
theorem aw_text : idB 3 4 = ⟨#[48, 43, 49, 35, 52]⟩ := by
  have e : listN 3 = [0, 1] := by decide +kernel
  have e1 : textB 3 = ⟨#[48, 43, 49]⟩ := by
    rw [textB, if_neg (by decide), e]
    show plusT [digB 0, digB 1] = _
    rw [digB, digB, dec_small (by decide), dec_small (by decide)]
    rfl
  have e2 : Lib.itoa 4 = [52] := by
    rw [Lib.itoa, if_neg (by decide)]
    exact dec_small (by decide)
  rw [idB, e1, e2]
  rfl
theorem u64_9 : u64 9 := by unfold u64; decide
theorem i64_4 : i64 4 := by unfold i64; decide

set_option maxHeartbeats 16000000 in
set_option maxRecDepth 100000 in
theorem awake_any (w : World) (hT : Deb w) (hP : Pow w) : Calls Tryd.prog 10 #[] w fun e w' => e = .returned (.bool true) ∧ Below w.heap.size w w' := by
  have HT := Lib.hid hT
  have HP := Lib.hid hP
  clear hT hP
  go_enter Tryd.func10, Tryd.ntmps10
  go_wp2_with fail
  refine (idNew_any _ awL _ (lns_two _ ⟨3, 4, 0, ⟨#[]⟩⟩ ⟨0, 1, 0, ⟨#[]⟩⟩ _) aw_fine).mono ?_
  rintro e w1 ⟨hb, ⟨hno, _⟩ | ⟨_, q, mq, rfl, hq⟩⟩
  · rw [idsOk_aw] at hno; cases hno
  obtain ⟨b, rfl⟩ := hq.ptr
  have hql := hq.lts
  simp only [World.size_alloc] at hql
  have B1 := Lib.hid (below_join ((Below.refl _ _).alloc (Nat.le_refl _) _) hb)
  have Hq := Lib.hid hq
  clear hb hq
  go_wp2_with fail
  refine (next_any _ _ _ _ _ 3 _ Hq.out u64_3 (by decide)).mono ?_
  rintro e w2 ⟨rfl, hq, hg⟩
  have B2 := Lib.hid (B1.out.grown hg B1.out.size (fun j hj => by cases hj; omega))
  have Hq2 := Lib.hid hq
  rw [aw_next3]
  clear hg hq
  go_wp2_with fail
  refine (next_any _ _ _ _ _ 9 _ Hq2.out u64_9 (by decide)).mono ?_
  rintro e w3 ⟨rfl, hq, hg⟩
  have B3 := Lib.hid (B2.out.grown hg B2.out.size (fun j hj => by cases hj; omega))
  have Hq3 := Lib.hid hq
  rw [aw_next9]
  clear hg hq
  go_wp2_with fail
  refine (last_any _ _ _ _ _ _ _ Hq3.out u64_0).mono ?_
  rintro e w' ⟨rfl, rfl⟩
  rw [aw_last0]
  go_wp2_with fail
  refine (idText_any 3 4 0 ⟨#[]⟩ _ (by decide) i64_4 (HT.out.kept B3.out) (HP.out.kept B3.out)).mono ?_
  rintro e w4 ⟨rfl, hb⟩
  rw [aw_text]
  have B4 := Lib.hid (below_join B3.out hb)
  clear hb
  go_wp2_with fail
  go_ret
  exact ⟨rfl, B4.out⟩
end Go.Proofs.YtajjikbigacbaaaDoor
