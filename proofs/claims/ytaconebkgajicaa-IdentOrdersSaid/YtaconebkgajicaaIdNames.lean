/- Own work: IdentNames' walk. -/
import Derived.Test.YtaconebkgajicaaIdNew
namespace Go.Proofs.Ytaconebkgajicaa
open Go.RowKit Go.Maps

set_option maxHeartbeats 1000000 in
theorem nilNext (a : Int) (w : World) : Calls Try.prog 9 #[.pointer none, .int .u64 a] w fun e w' => e = .returned (.tuple #[.int .i64 0, .int .i64 2]) ∧ w' = w := by
  go_enter Try.func9, Try.ntmps9
  go_wp2
  go_ret2
  exact ⟨rfl, rfl⟩
set_option maxHeartbeats 1000000 in
theorem nilLast (a : Int) (w : World) : Calls Try.prog 13 #[.pointer none, .int .u64 a] w fun e w' => e = .returned (.int .i64 0) ∧ w' = w := by
  go_enter Try.func13, Try.ntmps13
  go_wp2
  go_ret
  exact ⟨rfl, rfl⟩
set_option maxHeartbeats 1000000 in
theorem nilCopy (w : World) : Calls Try.prog 11 #[.pointer none] w fun e w' => e = .returned (.pointer none) ∧ w' = w := by
  go_enter Try.func11, Try.ntmps11
  go_wp2
  go_ret
  exact ⟨rfl, rfl⟩
/-- a line alone in a new block -/
theorem lns_one (w : World) (x : LineV) (t : TypeId) : Lns (w.alloc (.cells #[.int .u64 x.lab, .int .i64 x.num, .int .i64 x.rev, .string x.text] t)) (.slice (some ⟨w.heap.size, 0, none⟩) 1 1) [x] := by
  refine .inr ⟨w.heap.size, 0, 1, rfl, by simp, by simp, by decide, fun i hi => ?_⟩
  obtain ⟨d0, d1, d2, d3⟩ := four_new w x.lab x.num x.rev x.text t
  simp only [List.length_singleton] at hi
  obtain rfl : i = 0 := by omega
  exact ⟨d0, d1, d2, d3⟩
theorem Cnt.ptr {B : Nat} {w : World} {p : Value} {mb n : Nat} {f : Int → Int} (h : Cnt B w p mb n f) : ∃ b, p = .pointer (some ⟨b, 0, none⟩) := by
  obtain ⟨b, D, h1, _⟩ := h
  exact ⟨b, h1⟩
theorem Cnt.lts {B : Nat} {w : World} {b mb n : Nat} {f : Int → Int} (h : Cnt B w (.pointer (some ⟨b, 0, none⟩)) mb n f) : b < w.heap.size ∧ mb < w.heap.size ∧ B ≤ b ∧ B ≤ mb := by
  obtain ⟨b', D, h1, h2, h3, _, _, h4, h5, _⟩ := h
  cases h1
  exact ⟨lt_of_block h2, h3.lt, h4, h5⟩
abbrev topL : List LineV := [⟨0, 4611686018427387904, 0, ⟨#[]⟩⟩]
theorem top_at (a : Int) : maxF topL a = if 0 = a then 4611686018427387904 else 0 := by
  simp only [maxF, List.foldl_cons, List.foldl_nil]
  split <;> omega
theorem top_next0 : nextF (maxF topL) 0 = (0, 3) := by simp [nextF, top_at]
theorem top_next1 : nextF (maxF topL) 1 = (1, 0) := by simp [nextF, top_at]
theorem top_u0 : nextU (maxF topL) 0 = maxF topL := by simp [nextU, top_at]
theorem top_u1 : nextU (maxF topL) 1 0 = 4611686018427387904 := by simp [nextU, upd, top_at]
theorem none_at (a : Int) : maxF [] a = 0 := rfl
theorem idsOk_nil : idsOk [] = true := rfl
theorem idsOk_top : idsOk topL = true := by simp [idsOk, twV, twGo, numOk]
theorem top_fine : ∀ x ∈ topL, x.ok := fun x hx => by rw [List.mem_singleton] at hx; rw [hx]; exact ⟨by unfold u64; decide, by unfold i64; decide, by unfold i64; decide⟩
theorem u64_0 : u64 0 := by unfold u64; decide
theorem u64_1 : u64 1 := by unfold u64; decide
theorem u64_3 : u64 3 := by unfold u64; decide

set_option maxHeartbeats 16000000 in
set_option maxRecDepth 100000 in
theorem names_walk (w : World) : Calls Try.prog 5 #[] w fun e w' => e = .returned (.bool true) ∧ Below w.heap.size w w' := by
  go_enter Try.func5, Try.ntmps5
  go_wp2_with fail
  refine (nilNext 3 _).mono ?_
  rintro e w1 ⟨rfl, rfl⟩
  go_wp2_with fail
  refine (idNew_any _ [] _ (.inl ⟨none, 0, rfl, rfl⟩) (fun x hx => by cases hx)).mono ?_
  rintro e w2 ⟨hb, ⟨hno, _⟩ | ⟨_, p, mb, rfl, hp⟩⟩
  · rw [idsOk_nil] at hno; cases hno
  have B2 := Lib.hid hb
  have Hp := Lib.hid hp
  clear hb hp
  go_wp2_with fail
  refine (idNew_any _ topL _ (lns_one _ ⟨0, 4611686018427387904, 0, ⟨#[]⟩⟩ _) top_fine).mono ?_
  rintro e w3 ⟨hb, ⟨hno, _⟩ | ⟨_, q, mq, rfl, hq⟩⟩
  · rw [idsOk_top] at hno; cases hno
  obtain ⟨b, rfl⟩ := hq.ptr
  have hql := hq.lts
  have B3 := Lib.hid (below_join (B2.out.alloc B2.out.size _) hb)
  have Hp3 := Lib.hid ((Hp.out.kept ((Below.refl _ _).alloc (Nat.le_refl _) _)).kept hb)
  have hpl : mb < w2.heap.size := by
    obtain ⟨_, D, _, _, h3, _⟩ := Hp.out
    exact h3.lt
  have Hq := Lib.hid hq
  simp only [World.size_alloc] at hql
  clear hb hq
  go_wp2_with fail
  refine (next_any _ _ _ _ _ 0 _ Hq.out u64_0 (by decide)).mono ?_
  rintro e w4 ⟨rfl, hq, hg⟩
  rw [top_u0] at hq
  have B4 := Lib.hid (B3.out.grown hg B3.out.size (fun j hj => by cases hj; have := B2.out.size; omega))
  obtain ⟨bp, rfl⟩ := Hp3.out.ptr
  have hbpl := (Hp.out.lts).1
  have Hp4 := Lib.hid (Hp3.out.grown hg (fun b' hb' => by cases hb'; omega) (by omega))
  have Hq4 := Lib.hid hq
  clear hg hq
  go_wp2_with fail
  refine (next_any _ _ _ _ _ 1 _ Hq4.out u64_1 (by decide)).mono ?_
  rintro e w5 ⟨rfl, hq, hg⟩
  have B5 := Lib.hid (B4.out.grown hg B4.out.size (fun j hj => by cases hj; have := B2.out.size; omega))
  have Hp5 := Lib.hid (Hp4.out.grown hg (fun b' hb' => by cases hb'; omega) (by omega))
  have Hq5 := Lib.hid hq
  clear hg hq
  rw [top_next0, top_next1]
  go_wp2_with fail
  refine (nilLast _ _).mono ?_
  rintro e w' ⟨rfl, rfl⟩
  go_wp2_with fail
  refine (nilCopy _).mono ?_
  rintro e w' ⟨rfl, rfl⟩
  go_wp2_with fail
  refine (last_any _ _ _ _ _ _ _ Hp5.out u64_0).mono ?_
  rintro e w' ⟨rfl, rfl⟩
  rw [none_at]
  go_wp2_with fail
  refine (last_any _ _ _ _ _ _ _ Hq5.out u64_0).mono ?_
  rintro e w' ⟨rfl, rfl⟩
  rw [top_u1]
  go_wp2_with fail
  go_ret
  exact ⟨rfl, B5.out⟩
end Go.Proofs.Ytaconebkgajicaa
