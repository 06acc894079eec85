/- Own work: slices of viewers in memory. -/
import Derived.Test.YtajjikbigacbaaaGreatDoorPolMath
import Derived.Test.YtajjikbigacbaaaGreatDoorTexts
import Derived.Laws.AppendOwnNone
import Derived.Maps.AppendAt
import Derived.Maps.OwnOps
import Derived.Maps.OwnSet
import Derived.Maps.Views
namespace Go.Proofs.YtajjikbigacbaaaGreatDoor
open Go.RowKit

def Vw.cells (v : Vw) : List Value := [.string v.nm, .int .u64 (v.lab : Int)]
/-- v is a slice that holds these viewers -/
def Vws (w : World) (v : Value) (ls : List Vw) : Prop :=
  (∃ ao cap, v = .slice ao 0 cap ∧ ls = []) ∨
  ∃ b o cap, v = .slice (some ⟨b, o, none⟩) ls.length cap ∧ 0 < ls.length ∧ ls.length ≤ cap ∧ cap ≤ maxLen ∧
    ∀ (i : Nat) (h : i < ls.length), w.cell? ⟨b, o + i * 2, none⟩ = some (.string (ls[i]'h).nm) ∧ w.cell? ⟨b, o + i * 2 + 1, none⟩ = some (.int .u64 ((ls[i]'h).lab : Int))
theorem Vws.kept {w w' : World} {v : Value} {ls : List Vw} (h : Vws w v ls) (hb : Below w.heap.size w w') : Vws w' v ls := by
  rcases h with h | ⟨b, o, cap, h1, h2, h3, h4, h5⟩
  · exact .inl h
  · refine .inr ⟨b, o, cap, h1, h2, h3, h4, fun i hi => ?_⟩
    obtain ⟨c0, c1⟩ := h5 i hi
    exact ⟨cell_kept hb c0, cell_kept hb c1⟩
theorem Vws.form {w : World} {v : Value} {ls : List Vw} (h : Vws w v ls) :
    ∃ ao cap b o, v = .slice ao ls.length cap ∧ (0 < ls.length → ao = some ⟨b, o, none⟩) ∧ ls.length ≤ maxLen ∧ ∀ (i : Nat) (h : i < ls.length), w.cell? ⟨b, o + i * 2, none⟩ = some (.string (ls[i]'h).nm) ∧ w.cell? ⟨b, o + i * 2 + 1, none⟩ = some (.int .u64 ((ls[i]'h).lab : Int)) := by
  rcases h with ⟨ao, cap, h1, rfl⟩ | ⟨b, o, cap, h1, _, h3, h4, h5⟩
  · exact ⟨ao, cap, 0, 0, h1, fun h => absurd h (by simp), Nat.zero_le _, fun i h => absurd h (by simp)⟩
  · exact ⟨_, cap, b, o, h1, fun _ => rfl, Nat.le_trans h3 h4, h5⟩
theorem Vws.slice {w : World} {v : Value} {ls : List Vw} (h : Vws w v ls) : ∃ ao cap, v = .slice ao ls.length cap := by
  obtain ⟨ao, cap, _, _, h1, _⟩ := h.form
  exact ⟨ao, cap, h1⟩
/-- all cells of a list of viewers -/
def flatV (ls : List Vw) : List Value := ls.flatMap Vw.cells
theorem flatV_len : ∀ (ls : List Vw), (flatV ls).length = ls.length * 2
  | [] => rfl
  | l :: ls => by
    have e : flatV (l :: ls) = l.cells ++ flatV ls := rfl
    rw [e, List.length_append, flatV_len ls]
    simp [Vw.cells]
    omega
theorem flatV_get : ∀ (ls : List Vw) (i : Nat) (h : i < ls.length), (flatV ls)[i * 2]? = some (.string (ls[i]'h).nm) ∧ (flatV ls)[i * 2 + 1]? = some (.int .u64 ((ls[i]'h).lab : Int))
  | [], _, h => absurd h (by simp)
  | l :: ls, 0, _ => ⟨rfl, rfl⟩
  | l :: ls, i + 1, h => by
    have ih := flatV_get ls i (by simpa using h)
    have e : flatV (l :: ls) = l.cells ++ flatV ls := rfl
    have hl : l.cells.length = 2 := rfl
    rw [e]
    refine ⟨?_, ?_⟩
    · rw [List.getElem?_append_right (by omega), hl, show (i + 1) * 2 - 2 = i * 2 by omega]; exact ih.1
    · rw [List.getElem?_append_right (by omega), hl, show (i + 1) * 2 + 1 - 2 = i * 2 + 1 by omega]; exact ih.2
theorem flatV_append (a b : List Vw) : flatV (a ++ b) = flatV a ++ flatV b := by simp [flatV]
theorem flatV_one (v : Vw) : flatV [v] = v.cells := by simp [flatV]
theorem flatV_plain (l : List Vw) : ∀ y ∈ flatV l, y.oneCell' = true := by
  intro y hy
  obtain ⟨z, _, hz⟩ := List.mem_flatMap.1 hy
  simp [Vw.cells] at hz
  rcases hz with rfl | rfl <;> rfl
theorem Vws.of_own {w : World} {base : Nat} {e : TypeId} {v : Value} {ls : List Vw} (h : w.ownsRow base e 2 v ls.length (flatV ls)) : Vws w v ls := by
  by_cases h0 : 0 < ls.length
  · obtain ⟨g, cap, rfl⟩ := Joins.ownsRow_form h h0
    rcases h.2 with ⟨_, hz⟩ | ⟨g', cap', cur, hv, _, _, hnc, hcm, _, _⟩
    · omega
    · cases hv
      refine .inr ⟨g, 0, cap, rfl, h0, hnc, hcm, fun i hi => ?_⟩
      obtain ⟨f0, f1⟩ := flatV_get ls i hi
      simp only [Nat.zero_add]
      exact ⟨(h.cellAt _ (by omega)).trans f0, (h.cellAt _ (by omega)).trans f1⟩
  · have hz : ls = [] := List.eq_nil_of_length_eq_zero (by omega)
    subst hz
    rcases Joins.ownsRow_forms h with ⟨hv, _⟩ | ⟨g, cap, hv⟩
    · exact .inl ⟨_, _, hv, rfl⟩
    · exact .inl ⟨_, _, hv, rfl⟩
theorem Tryz.info33 : (Tryz.prog.info? 33).map (fun i => (i.zero, i.size, i.bytes)) = some (some (.agg #[.string ⟨#[]⟩, .int .u64 0]), 2, 24) := by kernel_rfl

/-- append(v, x...), v a row of the call's own, x any slice of viewers -/
theorem wpList_append_vws {w : World} {ops : Array Oper} {rest : List Oper} {o : Oper} {a : Act} {Q : Exit → Act → World → Prop} (hgd : o.guard = none) (s x : Operand)
    (ho : o.op = .call { callee := .builtin .append, args := #[s, x], argTypes := #[22, 22] })
    (base : Nat) (v : Value) (n : Nat) (xs : List Value) (hs : a.eval s = v) (hown : w.ownsRow base 33 2 v n xs)
    (u : Value) (l : List Vw) (hx : a.eval x = u) (hu : Vws w u l) (hf : SliceForm u)
    (hn : (n + l.length) * 24 ≤ 140737488355328) (hbase : base ≤ w.heap.size)
    (h : ∀ v' w', w'.ownsRow base 33 2 v' (n + l.length) (xs ++ flatV l) → w.grownBy w' v.ownBlock → wpList Tryz.prog ops Q rest (a.put o.dst v') w') : wpList Tryz.prog ops Q (o :: rest) a w := by
  obtain ⟨i0, hi, hz0, hz1, hz2⟩ := info_parts Tryz.info33
  rcases hf with rfl | ⟨ad, m, cap, rfl⟩
  · have hl : l = [] := by
      rcases hu with ⟨_, _, _, h2⟩ | ⟨_, _, _, h1, _⟩
      · exact h2
      · cases h1
    subst hl
    refine wpList_append_own_none hgd s x 22 ho base 33 i0 2 Tryz.underlying22 hi v n xs hs hown hx ?_
    exact h v w (by simpa [flatV] using hown) ⟨rfl, rfl, rfl, Nat.le_refl _, fun _ _ _ => rfl⟩
  · have hm : m = l.length := by
      rcases hu with ⟨_, _, h1, h2⟩ | ⟨_, _, _, h1, _⟩
      · cases h1; rw [h2]; rfl
      · cases h1; rfl
    subst hm
    refine wpList_append_own _ hgd s x 22 ho base 33 i0 _ 2 24 Tryz.underlying22 hi hz0 hz1 hz2 rfl (by decide) v n xs hs hown ad l.length cap (flatV l) hx (flatV_len l) ?_ (flatV_plain l) (by unfold maxLen; omega) hn hbase ?_
    · intro j y hy
      have hj : j < l.length * 2 := by rw [← flatV_len l]; exact (List.getElem?_eq_some_iff.1 hy).1
      rcases hu with ⟨_, _, _, h2⟩ | ⟨b, o', _, h1, _, _, _, h5⟩
      · subst h2; simp at hj
      · cases h1
        rw [addr_add]
        obtain ⟨q, r, hr, rfl⟩ : ∃ q r, r < 2 ∧ j = q * 2 + r := ⟨j / 2, j % 2, by omega, by omega⟩
        have hq : q < l.length := by omega
        obtain ⟨c0, c1⟩ := h5 q hq
        obtain ⟨f0, f1⟩ := flatV_get l q hq
        match r, hr with
        | 0, _ => rw [Nat.add_zero] at hy ⊢; rw [f0] at hy; cases hy; exact c0
        | 1, _ => rw [f1] at hy; cases hy; rw [← Nat.add_assoc]; exact c1
    · intro v' w' h1 h2 _
      exact h v' w' h1 h2
/-- two cells behind a new block's address -/
theorem two_cellV (w : World) (x : Vw) (t : TypeId) : ∀ (i : Nat) (u : Value), x.cells[i]? = some u → (w.alloc (.cells #[.string x.nm, .int .u64 (x.lab : Int)] t)).cell? ((⟨w.heap.size, 0, none⟩ : Addr).add i) = some u := by
  intro i u hu
  rw [addr_add, Nat.zero_add, cell_of_row _ _ _ _ _ _ (heap_alloc_new w _)]
  simpa [Vw.cells] using hu
/-- the viewers that may come: labels of 64 compartments, names that an int can count -/
def Fits (l : List Vw) : Prop := ∀ v ∈ l, v.lab < 18446744073709551616 ∧ v.nm.size ≤ maxLen
theorem Fits.sub {a b : List Vw} (h : Fits b) (k : ∀ v ∈ a, v ∈ b) : Fits a := fun v hv => h v (k v hv)
end Go.Proofs.YtajjikbigacbaaaGreatDoor
/- Own work: a policy in memory. -/
namespace Go.Proofs.YtajjikbigacbaaaGreatDoor
open Go.RowKit Go.Maps

theorem keyed : Keyed Tryz.prog 9 := string_keyed Tryz.underlying9
theorem key_of {s : ByteArray} (h : s.size ≤ maxLen) : keyOf Tryz.prog 9 (.string s) = some (.string s.data.toList) := by
  simp [keyOf, Tryz.underlying9, mapKey, h]
theorem lab_elem {a : Nat} (h : a < 18446744073709551616) : plainElem (H := Unit) Tryz.prog 24 (.int .u64 (a : Int)) = some (.lit (.int .u64 (a : Int)), []) :=
  plainElem_int Tryz.underlying24 (by simp [Lit.wf, IntKind.min, IntKind.max, IntKind.signed, IntKind.bits]; omega)
/-- the map's datum says of these viewers, and of nobody else -/
def Tells (D : DataW Unit) (vs : List Vw) : Prop :=
  (∀ s, Maps.has D (.string s) = vs.any fun v => v.key == s) ∧ ∀ v ∈ vs, D.atKey (.string v.key) (.lit (.int .u64 0)) = .lit (.int .u64 (v.lab : Int))
abbrev MapAt (w : World) (mb n : Nat) (D : DataW Unit) : Prop := w.ownsMap Tryz.prog 9 (plainElem Tryz.prog 24) mb n D
theorem map_kept {w w' : World} {mb n : Nat} {D : DataW Unit} (h : MapAt w mb n D) (hb : Below w.heap.size w w') : MapAt w' mb n D := by
  obtain ⟨es, clock, h1, h2⟩ := h
  exact ⟨es, clock, row_kept hb h1, h2⟩
/-- p points to a policy with these viewers -/
def Pol (w : World) (p : Value) (vs : List Vw) : Prop :=
  ∃ b nv mb n D, p = .pointer (some ⟨b, 0, none⟩) ∧ w.heap[b]? = some (.cells #[nv, .map (some mb)] 92 (0, 0)) ∧ Texts w nv (vs.map Vw.nm) ∧ MapAt w mb n D ∧ Tells D vs ∧ Rising vs ∧ polOk vs ∧ Fits vs
theorem Pol.kept {w w' : World} {p : Value} {vs : List Vw} (h : Pol w p vs) (hb : Below w.heap.size w w') : Pol w' p vs := by
  obtain ⟨b, nv, mb, n, D, h1, h2, h3, h4, h5⟩ := h
  exact ⟨b, nv, mb, n, D, h1, row_kept hb h2, h3.kept hb, map_kept h4 hb, h5⟩
theorem Pol.facts {w : World} {p : Value} {vs : List Vw} (h : Pol w p vs) : Rising vs ∧ polOk vs ∧ Fits vs := by
  obtain ⟨b, nv, mb, n, D, h1, h2, h3, h4, h5, h6⟩ := h
  exact h6
theorem tells_at {D : DataW Unit} {vs : List Vw} (h : Tells D vs) (s : List UInt8) :
    (∃ v, findV vs s = some v ∧ v ∈ vs ∧ Maps.has D (.string s) = true ∧ D.atKey (.string s) (.lit (.int .u64 0)) = .lit (.int .u64 (v.lab : Int))) ∨
    (findV vs s = none ∧ Maps.has D (.string s) = false) := by
  cases hf : findV vs s with
  | none =>
    refine .inr ⟨rfl, ?_⟩
    rw [h.1 s, List.any_eq_false]
    intro v hv
    have := findV_none hf v hv
    simpa using this
  | some v =>
    obtain ⟨hv, hk⟩ := findV_some hf
    refine .inl ⟨v, rfl, hv, ?_, ?_⟩
    · rw [h.1 s, List.any_eq_true]
      exact ⟨v, hv, by simpa using hk⟩
    · rw [← hk]; exact h.2 v hv
theorem lit_at {c d : Int} (h : (DataW.lit (.int .u64 c) : DataW Unit) = .lit (.int .u64 d)) : d = c := by
  injection h with h; injection h with h1 h2; exact h2.symm

def clrV (vs : List Vw) (s : List UInt8) : Nat × Int := match findV vs s with | some v => (v.lab, 0) | none => (0, 160)

set_option maxHeartbeats 4000000 in
set_option maxRecDepth 100000 in
theorem clearance_any (p : Value) (vs : List Vw) (s : ByteArray) (w : World) (hp : Pol w p vs) (hs : s.size ≤ maxLen) :
    Calls Tryz.prog 50 #[p, .string s] w fun e w' => e = .returned (.tuple #[.int .u64 ((clrV vs s.data.toList).1 : Int), .int .i64 (clrV vs s.data.toList).2]) ∧ w = w' := by
  obtain ⟨b, nv, mb, n, D, rfl, hb, _, hm, ht, _⟩ := hp
  have hz : (zeroValue 24).run Tryz.prog w = .ok (.int .u64 0) w := Tryz.zeroValue24 w
  rcases tells_at ht s.data.toList with ⟨v, hf, _, hh, hat⟩ | ⟨hf, hh⟩
  · have Hr := Lib.hid (show clrV vs s.data.toList = (v.lab, 0) by rw [clrV, hf])
    rw [Hr.out]
    have c1 := cell_of_row _ _ 1 _ _ _ hb
    go_enter Tryz.func50, Tryz.ntmps50
    go_wp2_with (at_lookup; refine wpList_lookup_own_ok_int _ rfl _ _ 85 rfl 9 24 .u64 keyed Tryz.underlying85 Tryz.underlying24 hz mb n D rfl hm _ _ rfl (key_of hs) ?_; intro c hc _; rw [hh]; obtain rfl := lit_at (hat.symm.trans hc))
    go_ret2
    exact ⟨rfl, rfl⟩
  · have Hr := Lib.hid (show clrV vs s.data.toList = (0, 160) by rw [clrV, hf])
    rw [Hr.out]
    have c1 := cell_of_row _ _ 1 _ _ _ hb
    go_enter Tryz.func50, Tryz.ntmps50
    go_wp2_with (at_lookup; refine wpList_lookup_own_ok_int _ rfl _ _ 85 rfl 9 24 .u64 keyed Tryz.underlying85 Tryz.underlying24 hz mb n D rfl hm _ _ rfl (key_of hs) ?_; intro c hc _; rw [hh])
    go_ret2
    exact ⟨rfl, rfl⟩
end Go.Proofs.YtajjikbigacbaaaGreatDoor
