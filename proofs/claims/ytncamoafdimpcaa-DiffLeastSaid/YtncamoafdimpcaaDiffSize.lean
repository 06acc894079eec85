/- Own work: sizes of a patch, by the program and by the document's answer. -/
import Derived.Test.YtncamoafdimpcaaDiffMem
namespace Go.Proofs.Ytncamoafdimpcaa
open Go.RowKit

/-- sums as an int has them -/
def sumI (l : List Nat) : Int := l.foldl (fun (s : Int) (n : Nat) => wrap64 (s + (n : Int))) 0
theorem sumI_snoc (l : List Nat) (n : Nat) : sumI (l ++ [n]) = wrap64 (sumI l + n) := by simp [sumI]
theorem sumI_at {α : Type} (f : α → Nat) (l : List α) (k : Nat) (hk : k < l.length) : sumI ((l.map f).take (k + 1)) = wrap64 (sumI ((l.map f).take k) + f (l[k]'hk)) := by
  rw [← sumI_snoc, ← List.map_take, ← List.map_take, List.take_succ_eq_append_getElem hk, List.map_append, List.map_singleton]
/-- a hunk of which only the numbers of its texts are asked -/
structure HunkN where
  at_ : Int
  ov : Value
  nv : Value
  on : Nat
  nn : Nat
/-- v is a slice that holds hunks with so many texts -/
def HunkNs (w : World) (v : Value) (l : List HunkN) : Prop :=
  ∃ ao cap b o, v = .slice ao l.length cap ∧ (0 < l.length → ao = some ⟨b, o, none⟩) ∧ l.length ≤ maxLen ∧ ∀ (i : Nat) (h : i < l.length),
    w.cell? ⟨b, o + i * 3, none⟩ = some (.int .i64 (l[i]'h).at_) ∧ w.cell? ⟨b, o + i * 3 + 1, none⟩ = some (l[i]'h).ov ∧ w.cell? ⟨b, o + i * 3 + 2, none⟩ = some (l[i]'h).nv ∧
    (∃ ao cap, (l[i]'h).ov = .slice ao (l[i]'h).on cap) ∧ ∃ ao cap, (l[i]'h).nv = .slice ao (l[i]'h).nn cap
theorem HunkNs.kept {w w' : World} {v : Value} {l : List HunkN} (h : HunkNs w v l) (hb : Below w.heap.size w w') : HunkNs w' v l := by
  obtain ⟨ao, cap, b, o, h1, h2, h3, h4⟩ := h
  refine ⟨ao, cap, b, o, h1, h2, h3, fun i hi => ?_⟩
  obtain ⟨c0, c1, c2, t⟩ := h4 i hi
  exact ⟨cell_kept hb c0, cell_kept hb c1, cell_kept hb c2, t⟩
theorem Texts.lenForm {w : World} {v : Value} {l : List ByteArray} (h : Texts w v l) : ∃ ao cap, v = .slice ao l.length cap := by
  obtain ⟨ao, cap, _, _, h1, _⟩ := h.form
  exact ⟨ao, cap, h1⟩
def HunkM.num (m : HunkM) : HunkN := ⟨m.at_, m.ov, m.nv, m.old.length, m.new.length⟩
theorem Hunks.nums {w : World} {v : Value} {l : List HunkM} (h : Hunks w v l) : HunkNs w v (l.map HunkM.num) := by
  obtain ⟨ao, cap, b, o, h1, h2, h3, h4⟩ := h
  refine ⟨ao, cap, b, o, by rw [List.length_map]; exact h1, by rw [List.length_map]; exact h2, by rw [List.length_map]; exact h3, fun i hi => ?_⟩
  rw [List.length_map] at hi
  obtain ⟨c0, c1, c2, t1, t2⟩ := h4 i hi
  simp only [List.getElem_map, HunkM.num]
  exact ⟨c0, c1, c2, t1.lenForm, t2.lenForm⟩

set_option maxRecDepth 100000 in
set_option maxHeartbeats 4000000 in
theorem size_any (v : Value) (l : List HunkN) (w : World) (hv : HunkNs w v l) :
    Calls Try.prog 11 #[v] w fun e w' => e = .returned (.tuple #[.int .i64 (sumI (l.map HunkN.on)), .int .i64 (sumI (l.map HunkN.nn))]) ∧ Below w.heap.size w w' := by
  obtain ⟨ao, cap, b, o, rfl, hao, hm, hc⟩ := hv
  obtain ⟨n, hn⟩ : ∃ n, l.length = n := ⟨_, rfl⟩
  have Hn := Lib.hid hn
  rw [hn] at hao hm ⊢
  have Hao := Lib.hid hao
  have Hc := Lib.hid hc
  clear hao hc hn
  unfold maxLen at hm
  go_enter Try.func11, Try.ntmps11
  go_wp2_with fail
  go_loopw [2, 3, 8] (fun s t i wr => ∃ k : Nat, k ≤ n ∧ i = .int .i64 k ∧ s = .int .i64 (sumI ((l.map HunkN.on).take k)) ∧ t = .int .i64 (sumI ((l.map HunkN.nn).take k)) ∧ Below w.heap.size w wr) (fun _ _ i _ => n - (intOf i).toNat)
  case atStart => exact ⟨0, Nat.zero_le _, rfl, rfl, rfl, Below.refl _ _⟩
  case round =>
    obtain ⟨k, hk, rfl, rfl, rfl, hb⟩ := hrel
    have HB := Lib.hid hb
    clear hb
    by_cases hlt : k < n
    · have hkl : k < l.length := by have := Hn.out; omega
      obtain rfl := Hao.out (by omega)
      obtain ⟨c0, c1, c2, ⟨ao1, cap1, t1⟩, ao2, cap2, t2⟩ := Hc.out k hkl
      have S1 := Lib.hid (sumI_at HunkN.on l k hkl)
      have S2 := Lib.hid (sumI_at HunkN.nn l k hkl)
      obtain ⟨x, hx⟩ : ∃ x, l[k]'hkl = x := ⟨_, rfl⟩
      rw [hx] at c0 c1 c2 t1 t2 S1 S2
      obtain ⟨x1, x2, x3, x4, x5⟩ := x
      dsimp only at c0 c1 c2 t1 t2 S1 S2
      subst t1 t2
      have c0 := cell_kept HB.out c0
      have c1 := cell_kept HB.out c1
      have c2 := cell_kept HB.out c2
      have hi0 : (0 : Int) ≤ (k : Int) := by omega
      have hi1 : (k : Int) < (n : Int) := by omega
      clear hx
      go_wp2_with fail
      go_roundw
      case rel =>
        refine ⟨k + 1, by omega, by go_num, ?_, ?_, (HB.out).alloc (Nat.le_trans (Nat.le_refl _) HB.out.size) _⟩
        · have e := S1.out
          rw [e]
        · have e := S2.out
          rw [e]
      case measure => simp [intOf]; omega
    · obtain rfl : k = n := by omega
      go_wp2_with fail
      go_ret2
      rw [List.take_of_length_le (by rw [List.length_map, Hn.out]; exact Nat.le_refl _), List.take_of_length_le (by rw [List.length_map, Hn.out]; exact Nat.le_refl _)]
      exact ⟨rfl, HB.out⟩
set_option maxRecDepth 100000 in
set_option maxHeartbeats 4000000 in
theorem refSize_any (v : Value) (l : List HunkN) (w : World) (hv : HunkNs w v l) :
    Calls Try.prog 17 #[v] w fun e w' => e = .returned (.tuple #[.int .i64 (sumI (l.map HunkN.on)), .int .i64 (sumI (l.map HunkN.nn))]) ∧ Below w.heap.size w w' := by
  obtain ⟨ao, cap, b, o, rfl, hao, hm, hc⟩ := hv
  obtain ⟨n, hn⟩ : ∃ n, l.length = n := ⟨_, rfl⟩
  have Hn := Lib.hid hn
  rw [hn] at hao hm ⊢
  have Hao := Lib.hid hao
  have Hc := Lib.hid hc
  clear hao hc hn
  unfold maxLen at hm
  go_enter Try.func17, Try.ntmps17
  go_wp2_with fail
  go_loopw [4, 5, 6] (fun s t i wr => ∃ k : Nat, k ≤ n ∧ i = .int .i64 k ∧ s = .int .i64 (sumI ((l.map HunkN.on).take k)) ∧ t = .int .i64 (sumI ((l.map HunkN.nn).take k)) ∧ Below w.heap.size w wr) (fun _ _ i _ => n - (intOf i).toNat)
  case atStart => exact ⟨0, Nat.zero_le _, rfl, rfl, rfl, Below.refl _ _⟩
  case round =>
    obtain ⟨k, hk, rfl, rfl, rfl, hb⟩ := hrel
    have HB := Lib.hid hb
    clear hb
    by_cases hlt : k < n
    · have hkl : k < l.length := by have := Hn.out; omega
      obtain rfl := Hao.out (by omega)
      obtain ⟨c0, c1, c2, ⟨ao1, cap1, t1⟩, ao2, cap2, t2⟩ := Hc.out k hkl
      have S1 := Lib.hid (sumI_at HunkN.on l k hkl)
      have S2 := Lib.hid (sumI_at HunkN.nn l k hkl)
      obtain ⟨x, hx⟩ : ∃ x, l[k]'hkl = x := ⟨_, rfl⟩
      rw [hx] at c0 c1 c2 t1 t2 S1 S2
      obtain ⟨x1, x2, x3, x4, x5⟩ := x
      dsimp only at c0 c1 c2 t1 t2 S1 S2
      subst t1 t2
      have c0 := cell_kept HB.out c0
      have c1 := cell_kept HB.out c1
      have c2 := cell_kept HB.out c2
      have hi0 : (0 : Int) ≤ (k : Int) := by omega
      have hi1 : (k : Int) < (n : Int) := by omega
      clear hx
      go_wp2_with fail
      go_roundw
      case rel =>
        refine ⟨k + 1, by omega, by go_num, ?_, ?_, HB.out⟩
        · have e := S1.out
          rw [e]
        · have e := S2.out
          rw [e]
      case measure => simp [intOf]; omega
    · obtain rfl : k = n := by omega
      go_wp2_with fail
      go_ret2
      rw [List.take_of_length_le (by rw [List.length_map, Hn.out]; exact Nat.le_refl _), List.take_of_length_le (by rw [List.length_map, Hn.out]; exact Nat.le_refl _)]
      exact ⟨rfl, HB.out⟩
end Go.Proofs.Ytncamoafdimpcaa
