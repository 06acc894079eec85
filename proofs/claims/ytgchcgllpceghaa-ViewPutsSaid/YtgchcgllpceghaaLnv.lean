/- Own work: lists of lines in memory. -/
import Derived.Test.YtgchcgllpceghaaLabBase
import Derived.SliceStrings
import Derived.SizedLaws
import Derived.ChangeSlices
import Derived.Laws.AppendOwnNone
import Derived.Deep.RegionHeld3
namespace Go.Proofs.Ytgchcgllpceghaa
open Go.RowKit Go.ChangeShapes Go.WideShapes Go.Joins

/-- a line as it lies in memory: label, number, revision, text -/
structure LineV where
  lab : Int
  num : Int
  rev : Int
  text : ByteArray
def LineV.cells (l : LineV) : List Value := [.int .u64 l.lab, .int .i64 l.num, .int .i64 l.rev, .string l.text]
def LineV.agg (l : LineV) : Value := .agg #[.int .u64 l.lab, .int .i64 l.num, .int .i64 l.rev, .string l.text]
/-- are two lines the same? -/
def oneB (a b : LineV) : Bool := a.lab == b.lab && a.num == b.num && a.rev == b.rev && a.text.toList == b.text.toList

/-- v is a slice that holds these lines -/
def Lns (w : World) (v : Value) (ls : List LineV) : Prop :=
  (∃ ao cap, v = .slice ao 0 cap ∧ ls = []) ∨
  ∃ b o cap, v = .slice (some ⟨b, o, none⟩) ls.length cap ∧ 0 < ls.length ∧ ls.length ≤ cap ∧ cap ≤ maxLen ∧
    ∀ (i : Nat) (h : i < ls.length), w.cell? ⟨b, o + i * 4, none⟩ = some (.int .u64 (ls[i]'h).lab) ∧ w.cell? ⟨b, o + i * 4 + 1, none⟩ = some (.int .i64 (ls[i]'h).num) ∧
      w.cell? ⟨b, o + i * 4 + 2, none⟩ = some (.int .i64 (ls[i]'h).rev) ∧ w.cell? ⟨b, o + i * 4 + 3, none⟩ = some (.string (ls[i]'h).text)
theorem Lns.kept {w w' : World} {v : Value} {ls : List LineV} (h : Lns w v ls) (hb : Below w.heap.size w w') : Lns w' v ls := by
  rcases h with h | ⟨b, o, cap, h1, h2, h3, h4, h5⟩
  · exact .inl h
  · refine .inr ⟨b, o, cap, h1, h2, h3, h4, fun i hi => ?_⟩
    obtain ⟨c0, c1, c2, c3⟩ := h5 i hi
    exact ⟨cell_kept hb c0, cell_kept hb c1, cell_kept hb c2, cell_kept hb c3⟩

/-- are two lists of lines the same, one by one? -/
def sameL : List LineV → List LineV → Bool
  | [], [] => true
  | a :: r, b :: q => oneB a b && sameL r q
  | _, _ => false
theorem sameL_len : ∀ {a b : List LineV}, a.length ≠ b.length → sameL a b = false
  | [], [], h => absurd rfl h
  | [], _ :: _, _ => rfl
  | _ :: _, [], _ => rfl
  | a :: r, b :: q, h => by
    rw [sameL, sameL_len (by simpa using h), Bool.and_false]
theorem sameL_at : ∀ {a b : List LineV} (k : Nat) (ha : k < a.length) (hb : k < b.length), oneB a[k] b[k] = false → sameL a b = false
  | [], _, k, ha, _, _ => by simp at ha
  | _ :: _, [], k, _, hb, _ => by simp at hb
  | a :: r, b :: q, 0, _, _, h => by
    simp at h
    rw [sameL, h, Bool.false_and]
  | a :: r, b :: q, k + 1, ha, hb, h => by
    simp at h
    rw [sameL, sameL_at k (by simpa using ha) (by simpa using hb) h, Bool.and_false]
theorem sameL_all : ∀ {a b : List LineV}, a.length = b.length → (∀ (j : Nat) (ha : j < a.length) (hb : j < b.length), oneB a[j] b[j] = true) → sameL a b = true
  | [], [], _, _ => rfl
  | [], _ :: _, h, _ => by simp at h
  | _ :: _, [], h, _ => by simp at h
  | a :: r, b :: q, hl, h => by
    have h0 := h 0 (by simp) (by simp)
    simp at h0
    rw [sameL, h0, Bool.true_and]
    exact sameL_all (by simpa using hl) fun j ha hb => by
      have := h (j + 1) (by simpa using ha) (by simpa using hb)
      simpa using this

theorem Lns.form {w : World} {v : Value} {ls : List LineV} (h : Lns w v ls) :
    ∃ ao cap b o, v = .slice ao ls.length cap ∧ (0 < ls.length → ao = some ⟨b, o, none⟩) ∧ ls.length ≤ maxLen ∧ ∀ (i : Nat) (h : i < ls.length), w.cell? ⟨b, o + i * 4, none⟩ = some (.int .u64 (ls[i]'h).lab) ∧ w.cell? ⟨b, o + i * 4 + 1, none⟩ = some (.int .i64 (ls[i]'h).num) ∧
      w.cell? ⟨b, o + i * 4 + 2, none⟩ = some (.int .i64 (ls[i]'h).rev) ∧ w.cell? ⟨b, o + i * 4 + 3, none⟩ = some (.string (ls[i]'h).text) := by
  rcases h with ⟨ao, cap, h1, rfl⟩ | ⟨b, o, cap, h1, _, h3, h4, h5⟩
  · exact ⟨ao, cap, 0, 0, h1, fun h => absurd h (by simp), Nat.zero_le _, fun i h => absurd h (by simp)⟩
  · exact ⟨_, cap, b, o, h1, fun _ => rfl, Nat.le_trans h3 h4, h5⟩

theorem Try.info26 : (Try.prog.info? 26).map (fun i => (i.zero, i.size, i.bytes)) = some (some (.agg #[.int .u64 0, .int .i64 0, .int .i64 0, .string ⟨#[]⟩]), 4, 40) := by kernel_rfl

/-- all cells of a list of lines -/
def flatL (ls : List LineV) : List Value := ls.flatMap LineV.cells
theorem flatL_len : ∀ (ls : List LineV), (flatL ls).length = ls.length * 4
  | [] => rfl
  | l :: ls => by
    have e : flatL (l :: ls) = l.cells ++ flatL ls := rfl
    rw [e, List.length_append, flatL_len ls]
    simp [LineV.cells]
    omega
theorem flatL_get : ∀ (ls : List LineV) (i : Nat) (h : i < ls.length), (flatL ls)[i * 4]? = some (.int .u64 (ls[i]'h).lab) ∧ (flatL ls)[i * 4 + 1]? = some (.int .i64 (ls[i]'h).num) ∧
    (flatL ls)[i * 4 + 2]? = some (.int .i64 (ls[i]'h).rev) ∧ (flatL ls)[i * 4 + 3]? = some (.string (ls[i]'h).text)
  | [], _, h => absurd h (by simp)
  | l :: ls, 0, _ => ⟨rfl, rfl, rfl, rfl⟩
  | l :: ls, i + 1, h => by
    have ih := flatL_get ls i (by simpa using h)
    have e : flatL (l :: ls) = l.cells ++ flatL ls := rfl
    have hl : l.cells.length = 4 := rfl
    rw [e]
    refine ⟨?_, ?_, ?_, ?_⟩
    · rw [List.getElem?_append_right (by omega), hl, show (i + 1) * 4 - 4 = i * 4 by omega]; exact ih.1
    · rw [List.getElem?_append_right (by omega), hl, show (i + 1) * 4 + 1 - 4 = i * 4 + 1 by omega]; exact ih.2.1
    · rw [List.getElem?_append_right (by omega), hl, show (i + 1) * 4 + 2 - 4 = i * 4 + 2 by omega]; exact ih.2.2.1
    · rw [List.getElem?_append_right (by omega), hl, show (i + 1) * 4 + 3 - 4 = i * 4 + 3 by omega]; exact ih.2.2.2
theorem Lns.of_own {w : World} {base : Nat} {e : TypeId} {v : Value} {ls : List LineV} (h : w.ownsRow base e 4 v ls.length (flatL ls)) : Lns w v ls := by
  by_cases h0 : 0 < ls.length
  · obtain ⟨g, cap, rfl⟩ := Joins.ownsRow_form h h0
    rcases h.2 with ⟨_, hz⟩ | ⟨g', cap', cur, hv, _, _, hnc, hcm, _, _⟩
    · omega
    · cases hv
      refine .inr ⟨g, 0, cap, rfl, h0, hnc, hcm, fun i hi => ?_⟩
      obtain ⟨f0, f1, f2, f3⟩ := flatL_get ls i hi
      simp only [Nat.zero_add]
      exact ⟨(h.cellAt _ (by omega)).trans f0, (h.cellAt _ (by omega)).trans f1, (h.cellAt _ (by omega)).trans f2, (h.cellAt _ (by omega)).trans f3⟩
  · have hz : ls = [] := List.eq_nil_of_length_eq_zero (by omega)
    subst hz
    rcases Joins.ownsRow_forms h with ⟨hv, _⟩ | ⟨g, cap, hv⟩
    · exact .inl ⟨_, _, hv, rfl⟩
    · exact .inl ⟨_, _, hv, rfl⟩


/-- append(v, x...), v a row of the call's own, x any slice of lines -/
theorem wpList_append_lines {w : World} {ops : Array Oper} {rest : List Oper} {o : Oper} {a : Act} {Q : Exit → Act → World → Prop} (hgd : o.guard = none) (s x : Operand)
    (ho : o.op = .call { callee := .builtin .append, args := #[s, x], argTypes := #[22, 22] })
    (base : Nat) (v : Value) (n : Nat) (xs : List Value) (hs : a.eval s = v) (hown : w.ownsRow base 26 4 v n xs)
    (u : Value) (l : List LineV) (hx : a.eval x = u) (hu : Lns w u l) (hf : SliceForm u)
    (hn : (n + l.length) * 40 ≤ 140737488355328) (hbase : base ≤ w.heap.size)
    (h : ∀ v' w', w'.ownsRow base 26 4 v' (n + l.length) (xs ++ flatL l) → w.grownBy w' v.ownBlock → wpList Try.prog ops Q rest (a.put o.dst v') w') : wpList Try.prog ops Q (o :: rest) a w := by
  obtain ⟨i0, hi, hz0, hz1, hz2⟩ := info_parts Try.info26
  rcases hf with rfl | ⟨ad, m, cap, rfl⟩
  · have hl : l = [] := by
      rcases hu with ⟨_, _, _, h2⟩ | ⟨_, _, _, h1, _⟩
      · exact h2
      · cases h1
    subst hl
    refine wpList_append_own_none hgd s x 22 ho base 26 i0 4 Try.underlying22 hi v n xs hs hown hx ?_
    exact h v w (by simpa [flatL] using hown) ⟨rfl, rfl, rfl, Nat.le_refl _, fun _ _ _ => rfl⟩
  · have hm : m = l.length := by
      rcases hu with ⟨_, _, h1, h2⟩ | ⟨_, _, _, h1, _⟩
      · cases h1; rw [h2]; rfl
      · cases h1; rfl
    subst hm
    refine wpList_append_own _ hgd s x 22 ho base 26 i0 _ 4 40 Try.underlying22 hi hz0 hz1 hz2 rfl (by decide) v n xs hs hown ad l.length cap (flatL l) hx (flatL_len l) ?_ ?_ (by unfold maxLen; omega) hn hbase ?_
    · intro j y hy
      have hj : j < l.length * 4 := by rw [← flatL_len l]; exact (List.getElem?_eq_some_iff.1 hy).1
      rcases hu with ⟨_, _, _, h2⟩ | ⟨b, o', _, h1, _, _, _, h5⟩
      · subst h2; simp at hj
      · cases h1
        rw [addr_add]
        obtain ⟨q, r, hr, rfl⟩ : ∃ q r, r < 4 ∧ j = q * 4 + r := ⟨j / 4, j % 4, by omega, by omega⟩
        have hq : q < l.length := by omega
        obtain ⟨c0, c1, c2, c3⟩ := h5 q hq
        obtain ⟨f0, f1, f2, f3⟩ := flatL_get l q hq
        match r, hr with
        | 0, _ => rw [Nat.add_zero] at hy ⊢; rw [f0] at hy; cases hy; exact c0
        | 1, _ => rw [f1] at hy; cases hy; rw [← Nat.add_assoc]; exact c1
        | 2, _ => rw [f2] at hy; cases hy; rw [← Nat.add_assoc]; exact c2
        | 3, _ => rw [f3] at hy; cases hy; rw [← Nat.add_assoc]; exact c3
    · intro y hy
      obtain ⟨z, _, hz⟩ := List.mem_flatMap.1 hy
      simp [LineV.cells] at hz
      rcases hz with rfl | rfl | rfl | rfl <;> rfl
    · intro v' w' h1 h2 _
      exact h v' w' h1 h2
theorem oneB_refl (a : LineV) : oneB a a = true := by simp [oneB]
theorem sameL_refl : ∀ (a : List LineV), sameL a a = true
  | [] => rfl
  | x :: r => by rw [sameL, oneB_refl, Bool.true_and]; exact sameL_refl r
/-- the line that a datum is -/
def lineOf {H : Type} (y : DataW H × List MemPlace) : LineV := match y.1 with
  | .agg [.lit (.int _ l), .lit (.int _ n), .lit (.int _ r), .lit (.string t)] => ⟨l, n, r, ⟨t.toArray⟩⟩
  | _ => ⟨0, 0, 0, ⟨#[]⟩⟩

set_option maxRecDepth 100000 in
theorem open_line {H : Type} {enc : TypeId × Value → H} {W : World} {m : Nat} {cs : List Value} {y : DataW H × List MemPlace}
    (h : DataW.trod enc Try.prog W 0 (fun _ => true) true m 26 cs = some y) : cs = (lineOf y).cells := by
  obtain ⟨y0, y1, y2, y3, n, hx, hl, t0, t1, t2, t3⟩ := trod_struct4 Try.underlying26 h
  have hC : Try.prog.cellsOf 26 = 4 := by kernel_rfl
  have k23 : Try.prog.cellsOf 24 = 1 := by kernel_rfl
  have k3 : Try.prog.cellsOf 3 = 1 := by kernel_rfl
  have k9 : Try.prog.cellsOf 9 = 1 := by kernel_rfl
  rw [hC] at hl
  match cs, hl with
  | [c0, c1, c2, c3], _ =>
    simp only [k23, k3, k9, List.drop_zero, List.drop_succ_cons, List.take_succ_cons, List.take_zero] at t0 t1 t2 t3
    obtain ⟨l, e0, z0, _⟩ := DataW.trod_int Try.underlying24 t0
    obtain ⟨nn, e1, z1, _⟩ := DataW.trod_int Try.underlying3 t1
    obtain ⟨r, e2, z2, _⟩ := DataW.trod_int Try.underlying3 t2
    obtain ⟨s, e3, z3, _⟩ := DataW.trod_string Try.underlying9 t3
    cases e0; cases e1; cases e2; cases e3
    subst z0; subst z1; subst z2; subst z3
    rw [hx]
    rfl

set_option maxRecDepth 100000 in
theorem open_lines {H : Type} {enc : TypeId × Value → H} {W : World} {r : Reach} {b0 : Nat} {v : Value} {d : DataW H} {p : List MemPlace}
    (k : Value.okWide Try.prog W r b0 22 v) (h : DataW.Trod enc Try.prog W 0 (fun _ => true) true 22 v d p) :
    ∃ ls : List LineV, Lns W v ls ∧ SliceForm v ∧ (ls = [] ∨ ∃ elems spare, d = .slice elems spare ∧ elems.length = ls.length) := by
  obtain ⟨a0, len, cap, rfl⟩ := okWide_slice Try.underlying22 k
  obtain ⟨fuel, hf⟩ := h
  have hC : Try.prog.cellsOf 26 = 4 := by kernel_rfl
  rcases DataW.trod_slice Try.underlying22 hf with ⟨hcs, hx⟩ | ⟨a, len', cap', elems, rest, n, _, hcs, hx, hb, hl, hm, hlen, hel, _, _⟩
  · simp [Value.cells] at hcs
    obtain ⟨rfl, rfl, rfl⟩ := hcs
    exact ⟨[], .inl ⟨_, _, rfl, rfl⟩, .inl rfl, .inl rfl⟩
  · simp [Value.cells] at hcs
    obtain ⟨rfl, rfl, rfl⟩ := hcs
    simp only [Prod.mk.injEq] at hx
    rw [hC] at hel
    refine ⟨elems.map lineOf, ?_, .inr ⟨_, _, _, rfl⟩, .inr ⟨_, _, hx.1, by simp⟩⟩
    by_cases h0 : 0 < len
    · have cell : ∀ (i : Nat) (hi : i < len) (j : Nat), j < 4 → W.cell? ((a.add (i * 4)).add j) = (lineOf (elems[i]'(by omega))).cells[j]? := by
        intro i hi j hj
        have h1 := hel i hi
        rw [List.getElem?_eq_getElem (by omega), Option.bind_eq_some_iff] at h1
        obtain ⟨cs, hc, ht⟩ := h1
        obtain ⟨_, _, hat⟩ := World.cells?_some hc
        rw [hat j hj, open_line ht]
      obtain ⟨b, off, spot⟩ := a
      have hspot : spot = none := by
        have h1 := cell 0 h0 0 (by omega)
        have h2 := World.cell?_spot (h1.trans (show _ = some _ from rfl))
        simpa [Addr.add] using h2
      subst hspot
      refine .inr ⟨b, off, cap, by rw [List.length_map, hlen], by rw [List.length_map]; omega, by rw [List.length_map]; omega, hm, fun i hi => ?_⟩
      rw [List.length_map] at hi
      have hc := fun j hj => cell i (by omega) j hj
      simp only [addr_add] at hc
      rw [List.getElem_map]
      exact ⟨hc 0 (by omega), hc 1 (by omega), hc 2 (by omega), hc 3 (by omega)⟩
    · obtain rfl : len = 0 := by omega
      exact .inl ⟨_, _, rfl, by rw [List.eq_nil_of_length_eq_zero hlen]; rfl⟩

end Go.Proofs.Ytgchcgllpceghaa
