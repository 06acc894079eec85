/- Own work: DiffSizes' walk. -/
import Derived.Test.YtncamoafdimpcaaDiffSize
import Derived.SliceStrings
import Derived.SizedLaws
import Derived.Deep.Strs
import Derived.ChangeSlices
namespace Go.Proofs.Ytncamoafdimpcaa
open Go.RowKit Go.ChangeShapes Go.WideShapes Go.Joins

/-- a hunk's cells, as they come in -/
theorem open_hunk {H : Type} {enc : TypeId × Value → H} {W : World} {m : Nat} {cs : List Value} {y : DataW H × List MemPlace}
    (h : DataW.trod enc Try.prog W 0 (fun _ => true) true m 30 cs = some y) : ∃ k : HunkN, cs = [.int .i64 k.at_, k.ov, k.nv] ∧ (∃ ao cap, k.ov = .slice ao k.on cap) ∧ ∃ ao cap, k.nv = .slice ao k.nn cap := by
  obtain ⟨y0, y1, y2, n, hx, hl, t0, t1, t2⟩ := Go.Deep.trod_struct3 Try.underlying30 h
  have hC : Try.prog.cellsOf 30 = 3 := by kernel_rfl
  have k3 : Try.prog.cellsOf 3 = 1 := by kernel_rfl
  have k9 : Try.prog.cellsOf 23 = 1 := by kernel_rfl
  rw [hC] at hl
  match cs, hl with
  | [c0, c1, c2], _ =>
    simp only [k3, k9, List.drop_zero, List.drop_succ_cons, List.take_succ_cons, List.take_zero] at t0 t1 t2
    obtain ⟨l, e0, z0, _⟩ := DataW.trod_int Try.underlying3 t0
    have sl : ∀ {c : Value} {z : DataW H × List MemPlace}, DataW.trod enc Try.prog W 0 (fun _ => true) true n 23 [c] = some z → ∃ (q : Nat) (ao : Option Addr) (cap : Nat), c = .slice ao q cap := by
      intro c z hz
      rcases DataW.trod_slice Try.underlying23 hz with ⟨hcs, _⟩ | ⟨a, len', cap', _, _, _, _, hcs, _⟩
      · injection hcs with hcs _
        exact ⟨0, none, 0, hcs⟩
      · injection hcs with hcs _
        exact ⟨_, _, _, hcs⟩
    obtain ⟨q1, a1, p1, s1⟩ := sl t1
    obtain ⟨q2, a2, p2, s2⟩ := sl t2
    cases e0
    exact ⟨⟨l, c1, c2, q1, q2⟩, rfl, ⟨a1, p1, s1⟩, a2, p2, s2⟩
theorem open_hunks {H : Type} {enc : TypeId × Value → H} {W : World} {r : Reach} {b0 : Nat} {v : Value} {d : DataW H} {p : List MemPlace}
    (k : Value.okWide Try.prog W r b0 25 v) (h : DataW.Trod enc Try.prog W 0 (fun _ => true) true 25 v d p) :
    ∃ ls : List HunkN, HunkNs W v ls := by
  obtain ⟨a0, len, cap, rfl⟩ := okWide_slice Try.underlying25 k
  obtain ⟨fuel, hf⟩ := h
  have hC : Try.prog.cellsOf 30 = 3 := by kernel_rfl
  rcases DataW.trod_slice Try.underlying25 hf with ⟨hcs, hx⟩ | ⟨a, len', cap', elems, rest, n, _, hcs, hx, hb, hl, hm, hlen, hel, _, _⟩
  · simp [Value.cells] at hcs
    obtain ⟨rfl, rfl, rfl⟩ := hcs
    exact ⟨[], none, 0, 0, 0, rfl, fun h => absurd h (by simp), by simp, fun i h => absurd h (by simp)⟩
  · simp [Value.cells] at hcs
    obtain ⟨rfl, rfl, rfl⟩ := hcs
    rw [hC] at hel
    have each : ∀ i, i < len → ∃ k : HunkN, (∀ j, j < 3 → W.cell? ((a.add (i * 3)).add j) = ([.int .i64 k.at_, k.ov, k.nv] : List Value)[j]?) ∧ (∃ ao cap, k.ov = .slice ao k.on cap) ∧ ∃ ao cap, k.nv = .slice ao k.nn cap := by
      intro i hi
      have h1 := hel i hi
      rw [List.getElem?_eq_getElem (by omega), Option.bind_eq_some_iff] at h1
      obtain ⟨cs, hc, ht⟩ := h1
      obtain ⟨_, _, hat⟩ := World.cells?_some hc
      obtain ⟨k, rfl, h2⟩ := open_hunk ht
      exact ⟨k, fun j hj => hat j hj, h2⟩
    have all : ∀ q, q ≤ len → ∃ ls : List HunkN, ls.length = q ∧ ∀ (i : Nat) (h : i < ls.length), (∀ j, j < 3 → W.cell? ((a.add (i * 3)).add j) = ([.int .i64 (ls[i]'h).at_, (ls[i]'h).ov, (ls[i]'h).nv] : List Value)[j]?) ∧ (∃ ao cap, (ls[i]'h).ov = .slice ao (ls[i]'h).on cap) ∧ ∃ ao cap, (ls[i]'h).nv = .slice ao (ls[i]'h).nn cap := by
      intro q
      induction q with
      | zero => intro _; exact ⟨[], rfl, fun i h => absurd h (by simp)⟩
      | succ q ih =>
        intro hq
        obtain ⟨ls, h1, h2⟩ := ih (by omega)
        obtain ⟨k, hk⟩ := each q (by omega)
        refine ⟨ls ++ [k], by simp [h1], fun i hi => ?_⟩
        by_cases he : i < ls.length
        · rw [List.getElem_append_left he]
          exact h2 i he
        · have : i = ls.length := by simp at hi; omega
          subst this
          rw [List.getElem_append_right (by omega)]
          simp only [Nat.sub_self, List.getElem_cons_zero]
          rw [h1]
          exact hk
    obtain ⟨ls, h1, h2⟩ := all len (Nat.le_refl _)
    obtain ⟨b, off, spot⟩ := a
    by_cases h0 : 0 < len
    · have hspot : spot = none := by
        have h3 := (h2 0 (by omega)).1 0 (by omega)
        have h4 := World.cell?_spot (h3.trans (show _ = some _ from rfl))
        simpa [Addr.add] using h4
      subst hspot
      refine ⟨ls, _, cap, b, off, by rw [h1], fun _ => rfl, by omega, fun i hi => ?_⟩
      obtain ⟨g, g2⟩ := h2 i hi
      simp only [addr_add] at g
      exact ⟨g 0 (by omega), g 1 (by omega), g 2 (by omega), g2⟩
    · obtain rfl : len = 0 := by omega
      exact ⟨[], _, cap, b, off, rfl, fun h => absurd h (by simp), by simp, fun i h => absurd h (by simp)⟩

set_option maxHeartbeats 1000000 in
theorem sizes_walk (v : Value) (l : List HunkN) (w : World) (hv : HunkNs w v l) :
    Calls Try.prog 5 #[v] w fun e w' => e = .returned (.bool true) ∧ Below w.heap.size w w' := by
  have Hv := Lib.hid hv
  obtain ⟨ao, cap, _, _, rfl, _⟩ := hv
  go_enter Try.func5, Try.ntmps5
  go_wp2_with fail
  refine (size_any _ l _ Hv.out).mono ?_
  rintro e w1 ⟨rfl, hb1⟩
  have B1 := Lib.hid hb1
  clear hb1
  go_wp2_with fail
  refine (refSize_any _ l _ (Hv.out.kept B1.out)).mono ?_
  rintro e w2 ⟨rfl, hb2⟩
  have B2 := Lib.hid hb2
  clear hb2
  go_wp2_with fail
  go_ret
  exact ⟨by simp, below_join B1.out B2.out⟩
end Go.Proofs.Ytncamoafdimpcaa
