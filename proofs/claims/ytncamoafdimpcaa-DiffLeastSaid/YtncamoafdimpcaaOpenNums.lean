import Derived.Test.YtncamoafdimpcaaLabBase
import Derived.ChangeSlices
import Derived.SliceStrings
import Derived.Laws.AppendOwnNone
namespace Go.Proofs.Ytncamoafdimpcaa
open Go.RowKit Go.ChangeShapes Go.WideShapes


/-- a slice of numbers that came in -/
theorem open_nums {P : Program} {H : Type} {enc : TypeId × Value → H} {W : World} {r : Reach} {b0 : Nat} {v : Value} {d : DataW H} {p : List MemPlace} {t e : TypeId} {q : IntKind}
    (ht : P.underlying t = some (.slice e)) (he : P.underlying e = some (.int q)) (hc1 : P.cellsOf e = 1)
    (k : Value.okWide P W r b0 t v) (h : DataW.Trod enc P W 0 (fun _ => true) true t v d p) :
    ∃ l : List Int, Nums q W v l ∧ SliceForm v ∧ (∀ n ∈ l, (Lit.int q n).wf = true) ∧ (l = [] ∨ ∃ elems spare, d = .slice elems spare ∧ elems.length = l.length) := by
  obtain ⟨a0, len, cap, rfl⟩ := okWide_slice ht k
  obtain ⟨fuel, hf⟩ := h
  rcases open_ints ht he hc1 hf with ⟨hcs, hx⟩ | ⟨a, len', cap', zs, hcs, _, hl, hm, hz, hx, hcell, hwf⟩
  · simp [Value.cells] at hcs
    obtain ⟨rfl, rfl, rfl⟩ := hcs
    exact ⟨[], .inl ⟨_, _, rfl, rfl⟩, .inl rfl, fun n hn => (List.not_mem_nil hn).elim, .inl rfl⟩
  · simp [Value.cells] at hcs
    obtain ⟨rfl, rfl, rfl⟩ := hcs
    simp only [Prod.mk.injEq] at hx
    simp only [if_true] at hz
    have htl : (zs.take len).length = len := by rw [List.length_take]; omega
    refine ⟨zs.take len, ?_, .inr ⟨_, _, _, rfl⟩, fun n hn => hwf n (List.mem_of_mem_take hn), .inr ⟨_, _, hx.1, by simp [lits]⟩⟩
    by_cases h0 : 0 < len
    · obtain ⟨b, off, spot⟩ := a
      have hspot : spot = none := by simpa [Addr.add] using World.cell?_spot (hcell 0 (by omega))
      subst hspot
      refine .inr ⟨b, off, cap, by rw [List.length_map, htl], by rw [List.length_map]; omega, by rw [List.length_map]; omega, hm, fun i hi => ?_⟩
      rw [List.length_map] at hi
      have := hcell i (by omega)
      rw [addr_add] at this
      rw [this, List.getElem_map, List.getElem_take, List.getD_eq_getElem?_getD, List.getElem?_eq_getElem (by omega)]
      rfl
    · obtain rfl : len = 0 := by omega
      exact .inl ⟨_, _, rfl, by simp⟩

/-- append(v, x...), v a row of the call's own, x any slice of numbers -/
theorem wpList_append_nums {P : Program} {w : World} {ops : Array Oper} {rest : List Oper} {o : Oper} {a : Act} {Q : Exit → Act → World → Prop} {q : IntKind} {t e : TypeId} {i : TypeInfo} {z : Value} (hgd : o.guard = none) (s x : Operand)
    (hu : P.underlying t = some (.slice e)) (hi : P.info? e = some i) (hz0 : i.zero = some z) (hz1 : i.size = 1) (hz2 : i.bytes = 8) (hz3 : z.cells.size = 1)
    (ho : o.op = .call { callee := .builtin .append, args := #[s, x], argTypes := #[t, t] })
    (base : Nat) (v : Value) (n : Nat) (xs : List Value) (hs : a.eval s = v) (hown : w.ownsRow base e 1 v n xs)
    (u : Value) (l : List Int) (hx : a.eval x = u) (hl : Nums q w u l) (hf : SliceForm u)
    (hn : (n + l.length) * 8 ≤ 140737488355328) (hbase : base ≤ w.heap.size)
    (h : ∀ v' w', w'.ownsRow base e 1 v' (n + l.length) (xs ++ l.map (Value.int q)) → w.grownBy w' v.ownBlock → wpList P ops Q rest (a.put o.dst v') w') : wpList P ops Q (o :: rest) a w := by
  rcases hf with rfl | ⟨ad, m, cap, rfl⟩
  · have hl0 : l = [] := by
      rcases hl with ⟨_, _, _, h2⟩ | ⟨_, _, _, h1, _⟩
      · simpa using h2
      · cases h1
    subst hl0
    refine wpList_append_own_none hgd s x t ho base e i 1 hu hi v n xs hs hown hx ?_
    exact h v w (by simpa using hown) ⟨rfl, rfl, rfl, Nat.le_refl _, fun _ _ _ => rfl⟩
  · have hm : m = l.length := by
      rcases hl with ⟨_, _, h1, h2⟩ | ⟨_, _, _, h1, _⟩
      · cases h1
        have := congrArg List.length h2
        simpa using this.symm
      · cases h1; simp
    subst hm
    refine wpList_append_own _ hgd s x t ho base e i z 1 8 hu hi hz0 hz1 hz2 hz3 (by decide) v n xs hs hown ad l.length cap (l.map (Value.int q)) hx (by simp) ?_ ?_ (by unfold maxLen; omega) hn hbase ?_
    · intro j y hy
      obtain ⟨_, _, b, o', h1, h2, _, h4⟩ := Nums.form hl
      rw [List.getElem?_map, Option.map_eq_some_iff] at hy
      obtain ⟨y', hy1, rfl⟩ := hy
      obtain ⟨hj, rfl⟩ := List.getElem?_eq_some_iff.1 hy1
      have := h2 (by omega)
      cases h1
      cases this
      rw [addr_add]
      exact h4 j hj
    · intro y hy
      obtain ⟨y', _, rfl⟩ := List.mem_map.1 hy
      rfl
    · intro v' w' h1 h2 _
      exact h v' w' h1 h2
end Go.Proofs.Ytncamoafdimpcaa
