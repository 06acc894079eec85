/- Own work: the asks of IdentCounts. -/
import Derived.Test.YtaconebkgajicaaIdOpen
namespace Go.Proofs.Ytaconebkgajicaa
open Go.RowKit Go.ChangeShapes Go.WideShapes Go.Joins

structure AskV where
  kind : Int
  lab : Int
def AskV.cells (x : AskV) : List Value := [.int .i64 x.kind, .int .u64 x.lab]
def Aks (w : World) (v : Value) (ls : List AskV) : Prop :=
  (∃ ao cap, v = .slice ao 0 cap ∧ ls = []) ∨
  ∃ b o cap, v = .slice (some ⟨b, o, none⟩) ls.length cap ∧ 0 < ls.length ∧ ls.length ≤ cap ∧ cap ≤ maxLen ∧
    ∀ (i : Nat) (h : i < ls.length), w.cell? ⟨b, o + i * 2, none⟩ = some (.int .i64 (ls[i]'h).kind) ∧ w.cell? ⟨b, o + i * 2 + 1, none⟩ = some (.int .u64 (ls[i]'h).lab)
theorem Aks.form {w : World} {v : Value} {ls : List AskV} (h : Aks w v ls) :
    ∃ ao cap b o, v = .slice ao ls.length cap ∧ (0 < ls.length → ao = some ⟨b, o, none⟩) ∧ ls.length ≤ maxLen ∧ ∀ (i : Nat) (h : i < ls.length), w.cell? ⟨b, o + i * 2, none⟩ = some (.int .i64 (ls[i]'h).kind) ∧ w.cell? ⟨b, o + i * 2 + 1, none⟩ = some (.int .u64 (ls[i]'h).lab) := by
  rcases h with ⟨ao, cap, h1, rfl⟩ | ⟨b, o, cap, h1, _, h3, h4, h5⟩
  · exact ⟨ao, cap, 0, 0, h1, fun h => absurd h (by simp), Nat.zero_le _, fun i h => absurd h (by simp)⟩
  · exact ⟨_, cap, b, o, h1, fun _ => rfl, Nat.le_trans h3 h4, h5⟩
def askOf {H : Type} (y : DataW H × List MemPlace) : AskV := match y.1 with
  | .agg [.lit (.int _ k), .lit (.int _ l)] => ⟨k, l⟩
  | _ => ⟨0, 0⟩
theorem open_ask0 {H : Type} {enc : TypeId × Value → H} {W : World} {m : Nat} {cs : List Value} {y : DataW H × List MemPlace}
    (h : DataW.trod enc Try.prog W 0 (fun _ => true) true m 37 cs = some y) : cs = (askOf y).cells ∧ u64 (askOf y).lab := by
  obtain ⟨y0, y1, n, hx, hl, t0, t1⟩ := trod_struct2 Try.underlying37 h
  have hC : Try.prog.cellsOf 37 = 2 := by kernel_rfl
  have k24 : Try.prog.cellsOf 24 = 1 := by kernel_rfl
  have k3 : Try.prog.cellsOf 3 = 1 := by kernel_rfl
  rw [hC] at hl
  match cs, hl with
  | [c0, c1], _ =>
    simp only [k24, k3, List.drop_zero, List.drop_succ_cons, List.take_succ_cons, List.take_zero] at t0 t1
    obtain ⟨k, e0, z0, _⟩ := DataW.trod_int Try.underlying3 t0
    obtain ⟨l, e1, z1, w1⟩ := DataW.trod_int Try.underlying24 t1
    cases e0; cases e1
    subst z0; subst z1
    rw [hx]
    exact ⟨rfl, u64_of w1⟩
theorem open_ask {H : Type} {enc : TypeId × Value → H} {W : World} {m : Nat} {cs : List Value} {y : DataW H × List MemPlace}
    (h : DataW.trod enc Try.prog W 0 (fun _ => true) true m 37 cs = some y) : cs = (askOf y).cells := (open_ask0 h).1
theorem ask_ok {H : Type} {enc : TypeId × Value → H} {W : World} {m : Nat} {cs : List Value} {y : DataW H × List MemPlace}
    (h : DataW.trod enc Try.prog W 0 (fun _ => true) true m 37 cs = some y) : u64 (askOf y).lab := (open_ask0 h).2

theorem open_asks {H : Type} {enc : TypeId × Value → H} {W : World} {r : Reach} {b0 : Nat} {v : Value} {d : DataW H} {p : List MemPlace}
    (k : Value.okWide Try.prog W r b0 23 v) (h : DataW.Trod enc Try.prog W 0 (fun _ => true) true 23 v d p) :
    ∃ ls : List AskV, Aks W v ls ∧ (∀ x ∈ ls, u64 x.lab) ∧ (ls = [] ∨ ∃ elems spare, d = .slice elems spare ∧ elems.length = ls.length) := by
  obtain ⟨a0, len, cap, rfl⟩ := okWide_slice Try.underlying23 k
  obtain ⟨fuel, hf⟩ := h
  have hC : Try.prog.cellsOf 37 = 2 := by kernel_rfl
  rcases DataW.trod_slice Try.underlying23 hf with ⟨hcs, hx⟩ | ⟨a, len', cap', elems, rest, n, _, hcs, hx, hb, hl, hm, hlen, hel, _, _⟩
  · simp [Value.cells] at hcs
    obtain ⟨rfl, rfl, rfl⟩ := hcs
    exact ⟨[], .inl ⟨_, _, rfl, rfl⟩, (fun x hx => by cases hx), .inl rfl⟩
  · simp [Value.cells] at hcs
    obtain ⟨rfl, rfl, rfl⟩ := hcs
    simp only [Prod.mk.injEq] at hx
    rw [hC] at hel
    refine ⟨elems.map askOf, ?_, ?_, .inr ⟨_, _, hx.1, by simp⟩⟩
    rotate_left
    · intro x hx'
      obtain ⟨y, hy, rfl⟩ := List.mem_map.1 hx'
      obtain ⟨i, hi, rfl⟩ := List.getElem_of_mem hy
      have h1 := hel i (by omega)
      rw [List.getElem?_eq_getElem (by omega), Option.bind_eq_some_iff] at h1
      obtain ⟨cs, hc, ht⟩ := h1
      exact ask_ok ht
    by_cases h0 : 0 < len
    · have cell : ∀ (i : Nat) (hi : i < len) (j : Nat), j < 2 → W.cell? ((a.add (i * 2)).add j) = (askOf (elems[i]'(by omega))).cells[j]? := by
        intro i hi j hj
        have h1 := hel i hi
        rw [List.getElem?_eq_getElem (by omega), Option.bind_eq_some_iff] at h1
        obtain ⟨cs, hc, ht⟩ := h1
        obtain ⟨_, _, hat⟩ := World.cells?_some hc
        rw [hat j hj, open_ask ht]
      obtain ⟨b, off, spot⟩ := a
      have hspot : spot = none := by
        have h1 := cell 0 h0 0 (by omega)
        have h2 := World.cell?_spot (h1.trans (show _ = some _ from rfl))
        simpa [Addr.add] using h2
      subst hspot
      refine .inr ⟨b, off, cap, by rw [List.length_map, hlen], by rw [List.length_map]; omega, by rw [List.length_map]; omega, hm, fun i hi => ?_⟩
      rw [List.length_map] at hi
      have hc := fun j hj => cell i (by omega) j hj
      simp only [addr_add] at hc
      rw [List.getElem_map]
      exact ⟨hc 0 (by omega), hc 1 (by omega)⟩
    · obtain rfl : len = 0 := by omega
      exact .inl ⟨_, _, rfl, by rw [List.eq_nil_of_length_eq_zero hlen]; rfl⟩

end Go.Proofs.Ytaconebkgajicaa
