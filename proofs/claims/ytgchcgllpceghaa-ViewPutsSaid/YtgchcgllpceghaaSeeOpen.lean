/- Own work: the arguments of the view laws. -/
import Derived.Test.YtgchcgllpceghaaSeeA
namespace Go.Proofs.Ytgchcgllpceghaa
open Go.RowKit Go.ChangeShapes Go.WideShapes Go.Joins

theorem fine_of {a : Int} (h : (Lit.int .u64 a).wf = true) : 0 ≤ a ∧ a < 18446744073709551616 := by
  simp [Lit.wf, IntKind.min, IntKind.max, IntKind.signed, IntKind.bits] at h; omega
set_option maxRecDepth 100000 in
theorem line_fine {H : Type} {enc : TypeId × Value → H} {W : World} {m : Nat} {cs : List Value} {y : DataW H × List MemPlace}
    (h : DataW.trod enc Try.prog W 0 (fun _ => true) true m 26 cs = some y) : (lineOf y).fine := by
  obtain ⟨y0, y1, y2, y3, n, hx, hl, t0, t1, t2, t3⟩ := trod_struct4 Try.underlying26 h
  have hC : Try.prog.cellsOf 26 = 4 := by kernel_rfl
  have k23 : Try.prog.cellsOf 24 = 1 := by kernel_rfl
  have k3 : Try.prog.cellsOf 3 = 1 := by kernel_rfl
  have k9 : Try.prog.cellsOf 9 = 1 := by kernel_rfl
  rw [hC] at hl
  match cs, hl with
  | [c0, c1, c2, c3], _ =>
    simp only [k23, k3, k9, List.drop_zero, List.drop_succ_cons, List.take_succ_cons, List.take_zero] at t0 t1 t2 t3
    obtain ⟨l, e0, z0, w0⟩ := DataW.trod_int Try.underlying24 t0
    obtain ⟨nn, e1, z1, _⟩ := DataW.trod_int Try.underlying3 t1
    obtain ⟨r, e2, z2, _⟩ := DataW.trod_int Try.underlying3 t2
    obtain ⟨s, e3, z3, _⟩ := DataW.trod_string Try.underlying9 t3
    cases e0; cases e1; cases e2; cases e3
    subst z0; subst z1; subst z2; subst z3
    rw [hx]
    exact fine_of w0

set_option maxRecDepth 100000 in
theorem open_fines {H : Type} {enc : TypeId × Value → H} {W : World} {r : Reach} {b0 : Nat} {v : Value} {d : DataW H} {p : List MemPlace}
    (k : Value.okWide Try.prog W r b0 22 v) (h : DataW.Trod enc Try.prog W 0 (fun _ => true) true 22 v d p) :
    ∃ ls : List LineV, Lns W v ls ∧ SliceForm v ∧ (∀ x ∈ ls, x.fine) ∧ (ls = [] ∨ ∃ elems spare, d = .slice elems spare ∧ elems.length = ls.length) := by
  obtain ⟨a0, len, cap, rfl⟩ := okWide_slice Try.underlying22 k
  obtain ⟨fuel, hf⟩ := h
  have hC : Try.prog.cellsOf 26 = 4 := by kernel_rfl
  rcases DataW.trod_slice Try.underlying22 hf with ⟨hcs, hx⟩ | ⟨a, len', cap', elems, rest, n, _, hcs, hx, hb, hl, hm, hlen, hel, _, _⟩
  · simp [Value.cells] at hcs
    obtain ⟨rfl, rfl, rfl⟩ := hcs
    exact ⟨[], .inl ⟨_, _, rfl, rfl⟩, .inl rfl, (fun x hx => by cases hx), .inl rfl⟩
  · simp [Value.cells] at hcs
    obtain ⟨rfl, rfl, rfl⟩ := hcs
    simp only [Prod.mk.injEq] at hx
    rw [hC] at hel
    refine ⟨elems.map lineOf, ?_, .inr ⟨_, _, _, rfl⟩, ?_, .inr ⟨_, _, hx.1, by simp⟩⟩
    rotate_left
    · intro x hx'
      obtain ⟨y, hy, rfl⟩ := List.mem_map.1 hx'
      obtain ⟨i, hi, rfl⟩ := List.getElem_of_mem hy
      have h1 := hel i (by omega)
      rw [List.getElem?_eq_getElem (by omega), Option.bind_eq_some_iff] at h1
      obtain ⟨cs, hc, ht⟩ := h1
      exact line_fine ht
    by_cases h0 : 0 < len
    · have cell : ∀ (i : Nat) (hi : i < len) (j : Nat), j < 4 → W.cell? ((a.add (i * 4)).add j) = (lineOf (elems[i]'(by omega))).cells[j]? := by
        intro i hi j hj
        have h1 := hel i hi
        rw [List.getElem?_eq_getElem (by omega), Option.bind_eq_some_iff] at h1
        obtain ⟨cs, hc, ht⟩ := h1
        obtain ⟨_, _, hat⟩ := World.cells?_some hc
        rw [hat j hj, open_line ht]
      obtain ⟨b, off, spot⟩ := a
      have hspot : spot = none := by
        have h1 := cell 0 h0 0 (by omega)
        have h2 := World.cell?_spot (h1.trans (show _ = some _ from rfl))
        simpa [Addr.add] using h2
      subst hspot
      refine .inr ⟨b, off, cap, by rw [List.length_map, hlen], by rw [List.length_map]; omega, by rw [List.length_map]; omega, hm, fun i hi => ?_⟩
      rw [List.length_map] at hi
      have hc := fun j hj => cell i (by omega) j hj
      simp only [addr_add] at hc
      rw [List.getElem_map]
      exact ⟨hc 0 (by omega), hc 1 (by omega), hc 2 (by omega), hc 3 (by omega)⟩
    · obtain rfl : len = 0 := by omega
      exact .inl ⟨_, _, rfl, by rw [List.eq_nil_of_length_eq_zero hlen]; rfl⟩

end Go.Proofs.Ytgchcgllpceghaa
