import Derived.Test.YtphepdhppjnfpaaDoorJoinB
import Derived.Laws.AppendOwnNone
namespace Go.Proofs.YtphepdhppjnfpaaDoor
open Go.RowKit Num

/-- a slice's outer form: nil, or some row's -/
def SliceForm (v : Value) : Prop := v = .slice none 0 0 ∨ ∃ a n cap, v = .slice (some a) n cap
theorem SliceForm.of_own {w : World} {base : Nat} {e : TypeId} {size n : Nat} {v : Value} {xs : List Value} (h : w.ownsRow base e size v n xs) : SliceForm v := by
  rcases Joins.ownsRow_forms h with ⟨hv, _⟩ | ⟨g, cap, hv⟩
  · exact .inl hv
  · exact .inr ⟨_, _, _, hv⟩

/-- append(v, x...), v a row of the call's own, x any slice of texts -/
theorem wpList_append_texts {w : World} {ops : Array Oper} {rest : List Oper} {o : Oper} {a : Act} {Q : Exit → Act → World → Prop} (hgd : o.guard = none) (s x : Operand)
    (ho : o.op = .call { callee := .builtin .append, args := #[s, x], argTypes := #[31, 31] })
    (base : Nat) (v : Value) (n : Nat) (xs : List Value) (hs : a.eval s = v) (hown : w.ownsRow base 9 1 v n xs)
    (u : Value) (l : List ByteArray) (hx : a.eval x = u) (hu : Texts w u l) (hf : SliceForm u)
    (hn : n + l.length ≤ 4294967296) (hbase : base ≤ w.heap.size)
    (h : ∀ v' w', w'.ownsRow base 9 1 v' (n + l.length) (xs ++ l.map Value.string) → w.grownBy w' v.ownBlock → wpList Tryd.prog ops Q rest (a.put o.dst v') w') : wpList Tryd.prog ops Q (o :: rest) a w := by
  obtain ⟨i0, hi, hz0, hz1, hz2⟩ := info_parts Tryd.info9
  rcases hf with rfl | ⟨ad, m, cap, rfl⟩
  · have hl : l = [] := by
      rcases hu with ⟨_, _, _, h2⟩ | ⟨_, _, _, h1, _⟩
      · exact h2
      · cases h1
    subst hl
    refine wpList_append_own_none hgd s x 31 ho base 9 i0 1 Tryd.underlying31 hi v n xs hs hown hx ?_
    exact h v w (by simpa using hown) ⟨rfl, rfl, rfl, Nat.le_refl _, fun _ _ _ => rfl⟩
  · have hm : m = l.length := by
      rcases hu with ⟨_, _, h1, h2⟩ | ⟨_, _, _, h1, _⟩
      · cases h1; rw [h2]; rfl
      · cases h1; rfl
    subst hm
    refine wpList_append_own _ hgd s x 31 ho base 9 i0 (.string ⟨#[]⟩) 1 16 Tryd.underlying31 hi hz0 hz1 hz2 rfl (by decide) v n xs hs hown ad l.length cap (l.map Value.string) hx (by simp) ?_ ?_ (by unfold maxLen; omega) (by omega) hbase ?_
    · intro j y hy
      rw [List.getElem?_map, Option.map_eq_some_iff] at hy
      obtain ⟨z, hz, rfl⟩ := hy
      obtain ⟨hj, hz2⟩ := List.getElem?_eq_some_iff.1 hz
      rcases hu with ⟨_, _, _, h2⟩ | ⟨b, o', _, h1, _, _, _, h5⟩
      · subst h2; simp at hj
      · cases h1
        rw [← hz2]
        have e : (⟨b, o', none⟩ : Addr).add j = ⟨b, o' + j, none⟩ := by by_cases h : j = 0 <;> simp [Addr.add, h]
        rw [e]
        exact h5 j hj
    · intro y hy
      obtain ⟨z, _, rfl⟩ := List.mem_map.1 hy
      rfl
    · intro v' w' h1 h2 _
      exact h v' w' h1 h2

theorem Pow.kept {w w' : World} (h : Pow w) (hb : Below w.heap.size w w') : Pow w' := by
  unfold Pow Lib.TabIs World.var? at *
  cases hg : Tryd.prog.globalNamed "internal/strconv.uint64pow10" with
  | none => simp [hg] at h
  | some g =>
    simp only [hg, Option.bind_some] at h ⊢
    have hlt : g < w.heap.size := by
      by_cases hc : g < w.heap.size
      · exact hc
      · rw [Array.getElem?_eq_none (by omega)] at h
        simp at h
    rw [hb.block g hlt]
    exact h
/-- what every later world of a law gives: nothing of the caller's has turned, the tables stand -/
structure Inv (w w' : World) : Prop where
  below : Below w.heap.size w w'
  pow : Pow w'
  maxl : MaxL w'
theorem Inv.step {w w1 w2 : World} (h : Inv w w1) (hb : Below w1.heap.size w1 w2) : Inv w w2 :=
  ⟨below_join h.below hb, h.pow.kept hb, h.maxl.kept hb⟩
theorem Inv.size {w w' : World} (h : Inv w w') : w.heap.size ≤ w'.heap.size := h.below.size
end Go.Proofs.YtphepdhppjnfpaaDoor
