/- Own work: a nil policy's methods; the clearances of 64 viewers without compartments. -/
import Derived.Test.YtgodmfjcccakbaaGreatDoorPolWorks
import Derived.Test.YtgodmfjcccakbaaGreatDoorSortZ2
import Derived.Test.YtgodmfjcccakbaaGreatDoorFitA
import Derived.Test.YtgodmfjcccakbaaGreatDoorShelf2
namespace Go.Proofs.YtgodmfjcccakbaaGreatDoor
open Go.RowKit Go.Maps Go.Shelf Go.Sort Go.Lib Num

set_option maxHeartbeats 1000000 in
theorem toldV_nil (fv : Value) (w : World) : Calls Tryz.prog 26 #[.pointer none, fv] w fun e w' => e = .returned (.slice none 0 0) ∧ w = w' := by
  go_enter Tryz.func26, Tryz.ntmps26
  go_wp2_with fail
  go_ret
  exact ⟨rfl, rfl⟩
set_option maxHeartbeats 1000000 in
theorem toldS_nil (fv : Value) (w : World) : Calls Tryz.prog 32 #[.pointer none, fv] w fun e w' => e = .returned (.slice none 0 0) ∧ w = w' := by
  go_enter Tryz.func32, Tryz.ntmps32
  go_wp2_with fail
  go_ret
  exact ⟨rfl, rfl⟩
set_option maxHeartbeats 1000000 in
theorem toldL_nil (fv : Value) (w : World) : Calls Tryz.prog 28 #[.pointer none, fv] w fun e w' => e = .returned (.slice none 0 0) ∧ w = w' := by
  go_enter Tryz.func28, Tryz.ntmps28
  go_wp2_with fail
  go_ret
  exact ⟨rfl, rfl⟩
set_option maxHeartbeats 1000000 in
theorem clearance_nil (s : ByteArray) (w : World) : Calls Tryz.prog 9 #[.pointer none, .string s] w fun e w' => e = .returned (.tuple #[.int .u64 0, .int .i64 2]) ∧ w = w' := by
  go_enter Tryz.func9, Tryz.ntmps9
  go_wp2_with fail
  go_ret2
  exact ⟨rfl, rfl⟩
set_option maxHeartbeats 1000000 in
theorem viewers_nil (w : World) : Calls Tryz.prog 10 #[.pointer none] w fun e w' => e = .returned (.slice none 0 0) ∧ w = w' := by
  go_enter Tryz.func10, Tryz.ntmps10
  go_wp2_with fail
  refine (toldV_nil _ _).mono ?_
  rintro e w' ⟨rfl, rfl⟩
  go_wp2_with fail
  go_ret
  exact ⟨rfl, rfl⟩
set_option maxHeartbeats 1000000 in
theorem below_nil (c : Int) (w : World) : Calls Tryz.prog 12 #[.pointer none, .int .u64 c] w fun e w' => e = .returned (.slice none 0 0) ∧ Below w.heap.size w w' := by
  go_enter Tryz.func12, Tryz.ntmps12
  go_wp2_with fail
  refine (toldS_nil _ _).mono ?_
  rintro e w' ⟨rfl, rfl⟩
  go_wp2_with fail
  go_ret
  exact ⟨rfl, (Below.refl _ _).alloc (Nat.le_refl _) _⟩
set_option maxHeartbeats 1000000 in
theorem above_nil (c : Int) (w : World) : Calls Tryz.prog 13 #[.pointer none, .int .u64 c] w fun e w' => e = .returned (.slice none 0 0) ∧ Below w.heap.size w w' := by
  go_enter Tryz.func13, Tryz.ntmps13
  go_wp2_with fail
  refine (toldS_nil _ _).mono ?_
  rintro e w' ⟨rfl, rfl⟩
  go_wp2_with fail
  go_ret
  exact ⟨rfl, (Below.refl _ _).alloc (Nat.le_refl _) _⟩
set_option maxHeartbeats 1000000 in
theorem erase_nil (c : Int) (w : World) : Calls Tryz.prog 15 #[.pointer none, .int .u64 c] w fun e w' => e = .returned (.pointer none) ∧ Below w.heap.size w w' := by
  go_enter Tryz.func15, Tryz.ntmps15
  go_wp2_with fail
  go_ret
  exact ⟨rfl, (Below.refl _ _).alloc (Nat.le_refl _) _⟩
set_option maxHeartbeats 1000000 in
theorem print_nil (w : World) : Calls Tryz.prog 14 #[.pointer none] w fun e w' => e = .returned (.string ⟨#[]⟩) ∧ Below w.heap.size w w' := by
  go_enter Tryz.func14, Tryz.ntmps14
  go_wp2_with fail
  refine (toldS_nil _ _).mono ?_
  rintro e w' ⟨rfl, rfl⟩
  go_wp2_with fail
  refine (joined_any _ [] _ (.inl ⟨_, _, rfl, rfl⟩) (by decide)).mono ?_
  rintro e w1 ⟨rfl, hb⟩
  rw [show joinT [] = ⟨#[]⟩ from rfl]
  have HB := Lib.hid hb
  clear hb
  go_wp2_with fail
  go_ret
  exact ⟨rfl, HB.out⟩

set_option maxHeartbeats 4000000 in
theorem insN_any (w : World) : Calls Tryz.prog 75 #[.slice none 0 0, .int .i64 0, .int .i64 0] w fun e w' => e = .returned (.tuple #[]) ∧ w = w' := by
  go_enter Tryz.func75, Tryz.ntmps75
  go_wp2_with fail
  go_loopw [6] (fun i wr => i = .int .i64 1 ∧ wr = w) (fun _ _ => 0)
  case atStart => exact ⟨rfl, rfl⟩
  case round =>
    obtain ⟨rfl, rfl⟩ := hrel
    go_wp2_with fail
    go_end0
    exact ⟨rfl, rfl⟩
set_option maxHeartbeats 4000000 in
set_option maxRecDepth 100000 in
theorem pdqN_any (w : World) : Calls Tryz.prog 56 #[.slice none 0 0, .int .i64 0, .int .i64 0, .int .i64 0] w fun e w' => e = .returned (.tuple #[]) ∧ w = w' := by
  go_enter Tryz.func56, Tryz.ntmps56
  go_wp2_with fail
  go_loopw [1, 2, 3, 8, 9] (fun a b c i j wr => a = .int .i64 0 ∧ b = .int .i64 0 ∧ c = .int .i64 0 ∧ i = .bool true ∧ j = .bool true ∧ wr = w) (fun _ _ _ _ _ _ => 0)
  case atStart => exact ⟨rfl, rfl, rfl, rfl, rfl, rfl⟩
  case round =>
    obtain ⟨rfl, rfl, rfl, rfl, rfl, rfl⟩ := hrel
    go_wp2_with fail
    refine (insN_any _).mono ?_
    rintro e w' ⟨rfl, rfl⟩
    go_wp2_with fail
    (try simp only [Exit.inBlock, Exit.then])
    refine bodyPost_ret (results_none rfl _ _ _) rfl ?_
    exact ⟨rfl, rfl⟩
set_option maxHeartbeats 4000000 in
theorem bitsLen0_any (w : World) : Calls Tryz.prog 57 #[.int .u64 0] w fun e w' => e = .returned (.int .i64 0) ∧ w = w' := by
  have h : Lib.bitLen (0 : Int).toNat = 0 := by decide +kernel
  go_enter Tryz.func57, Tryz.ntmps57
  go_wp2_with fail
  refine (Tryz.bits_Len64 0 _ (by omega) (by omega)).mono ?_
  rintro e w' ⟨rfl, rfl⟩
  rw [h]
  go_wp2_with fail
  go_ret
  exact ⟨rfl, rfl⟩
set_option maxHeartbeats 4000000 in
theorem sortN_any (w : World) : Calls Tryz.prog 30 #[.slice none 0 0] w fun e w' => e = .returned (.tuple #[]) ∧ w = w' := by
  go_enter Tryz.func30, Tryz.ntmps30
  go_wp2_with fail
  refine (bitsLen0_any _).mono ?_
  rintro e w' ⟨rfl, rfl⟩
  go_wp2_with fail
  refine (pdqN_any _).mono ?_
  rintro e w' ⟨rfl, rfl⟩
  go_wp2_with fail
  go_end0
  exact ⟨rfl, rfl⟩
set_option maxHeartbeats 4000000 in
theorem compactN_any (w : World) : Calls Tryz.prog 31 #[.slice none 0 0] w fun e w' => e = .returned (.slice none 0 0) ∧ w = w' := by
  go_enter Tryz.func31, Tryz.ntmps31
  go_wp2_with fail
  go_ret
  exact ⟨rfl, rfl⟩
set_option maxHeartbeats 4000000 in
theorem clearances_nil (w : World) : Calls Tryz.prog 11 #[.pointer none] w fun e w' => e = .returned (.slice none 0 0) ∧ w = w' := by
  go_enter Tryz.func11, Tryz.ntmps11
  go_wp2_with fail
  refine (toldL_nil _ _).mono ?_
  rintro e w' ⟨rfl, rfl⟩
  go_wp2_with fail
  refine (sortN_any _).mono ?_
  rintro e w' ⟨rfl, rfl⟩
  go_wp2_with fail
  refine (compactN_any _).mono ?_
  rintro e w' ⟨rfl, rfl⟩
  go_wp2_with fail
  go_ret
  exact ⟨rfl, rfl⟩

theorem below_putRow {α : Type} [Inhabited α] {B blk : Nat} {w0 w : World} (h : Below B w0 w) (enc : α → Value) (q off : Nat) (d : Array α) (hb : B ≤ blk) : Below B w0 (putRow enc (Sort.ahead w q) blk off d) :=
  h.trans ⟨rfl, rfl, rfl, by rw [size_putRow]; exact Nat.le_refl _, fun k hk => by
    show ((Sort.ahead w q).heap.modify blk _)[k]? = _
    rw [Array.getElem?_modify, if_neg (by omega)]
    rfl⟩
theorem compact_len : (compactUpTo (List.replicate 64 (0 : Int)).toArray 64).length = 1 := by decide +kernel

set_option maxHeartbeats 4000000 in
set_option maxRecDepth 100000 in
theorem clearances_zero (p : Value) (vs : List Vw) (w : World) (hp : Pol w p vs) (hl : vs.length = 64) (h0 : ∀ v ∈ vs, v.lab = 0) :
    Calls Tryz.prog 11 #[p] w fun e w' => ∃ a cap, e = .returned (.slice a 1 cap) ∧ Below w.heap.size w w' := by
  have HP := Lib.hid hp
  have Ha := Lib.hid (asks_all (g := 29) (enc := fun v => .int .u64 (v.lab : Int)) (is := fun _ => true) (w := w) hp.facts.2.2 fun W v _ _ => clear1_any v.nm v.lab W)
  clear hp
  go_enter Tryz.func11, Tryz.ntmps11
  go_wp2_with fail
  refine (toldL_any _ _ (enters_at Tryz.func29 (by kernel_rfl) rfl) _ p vs _ HP.out Ha.out).mono ?_
  rintro e w1 ⟨u, rfl, hown, hb⟩
  have hfl : (vs.filter fun _ => true) = vs := List.filter_eq_self.2 fun _ _ => rfl
  rw [hfl, hl] at hown
  have hvals : (vs.map fun v => Value.int .u64 (v.lab : Int)) = List.replicate 64 (Value.int .u64 0) := by
    rw [← hl]
    refine List.eq_replicate_iff.2 ⟨by simp, fun x hx => ?_⟩
    obtain ⟨v, hv, rfl⟩ := List.mem_map.1 hx
    rw [h0 v hv]; rfl
  rw [hvals] at hown
  obtain ⟨g, cap, rfl⟩ := Joins.ownsRow_form hown (by omega)
  have hg := (hown.lt g rfl).1
  have hcap : 64 ≤ cap := by
    rcases hown.2 with ⟨h1, _⟩ | ⟨g', cap', cur, hv, _, _, hnc, _⟩
    · cases h1
    · cases hv; exact hnc
  have B1 := Lib.hid hb
  have Hown := Lib.hid hown
  have Hz := Lib.hid (show Zeros w1 g from fun i hi => by rw [hown.cellAt i (by omega), List.getElem?_replicate, if_pos hi])
  clear hown hb hfl hvals
  go_wp2_with fail
  refine (sortZ_any g cap _ Hz.out).mono ?_
  rintro e w2 ⟨rfl, hb⟩
  have B2 := Lib.hid (below_join B1.out hb)
  have Hown2 := Lib.hid (own_kept Hown.out hb)
  have hH : Holds (Value.int .u64) w2 g 0 (List.replicate 64 (0 : Int)).toArray := fun j hj => by
    have hj' : j < 64 := by simpa using hj
    rw [Nat.zero_add]
    refine ⟨?_, Hown2.out.frozenAt j⟩
    rw [Hown2.out.cellAt j (by omega), List.getElem?_replicate, if_pos hj', getElem!_pos _ j hj, List.getElem_toArray, List.getElem_replicate]
  have HH := Lib.hid hH
  clear hb hH
  go_wp2_with fail
  refine (Tryz.slices_Compact (Value.int .u64) (fun _ => rfl) (Go.Proofs.EqlAt.int _ _ _) (Go.Proofs.NeqAt.int _ _ _) 0 Tryz.zeroValue25 g 0 cap (List.replicate 64 (0 : Int)).toArray _ HH.out (by simp) (by simpa using hcap)).mono ?_
  rintro e w3 ⟨he, q, rfl⟩
  have hsz : (List.replicate 64 (0 : Int)).toArray.size = 64 := by simp
  rw [hsz, compact_len] at he
  subst he
  go_wp2_with fail
  go_ret
  exact ⟨_, _, rfl, below_putRow B2.out _ _ _ _ hg⟩
end Go.Proofs.YtgodmfjcccakbaaGreatDoor
