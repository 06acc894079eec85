/- Own work: texts, pairs of places and hunks in memory. -/
import Derived.Test.YtncamoafdimpcaaTexts
import Derived.Test.YtncamoafdimpcaaLabBase
import Derived.Test.YtncamoafdimpcaaGrown
import Derived.Test.YtncamoafdimpcaaDiffMath
import Derived.Laws.AppendOwnNone
import Derived.Deep.AppendLies
namespace Go.Proofs.Ytncamoafdimpcaa
open Go.RowKit

/-- a list of texts that is the call's own -/
def OwnT (w : World) (B : Nat) (v : Value) (l : List ByteArray) : Prop := w.ownsRow B 9 1 v l.length (l.map Value.string)
theorem OwnT.texts {w : World} {B : Nat} {v : Value} {l : List ByteArray} (h : OwnT w B v l) : Texts w v l := Texts.of_own h
theorem OwnT.form {w : World} {B : Nat} {v : Value} {l : List ByteArray} (h : OwnT w B v l) : SliceForm v := SliceForm.of_own h
theorem OwnT.below {w w' : World} {B : Nat} {v : Value} {l : List ByteArray} (h : OwnT w B v l) (hb : Below w.heap.size w w') : OwnT w' B v l := own_kept h hb

/-- append(v, x...), v a row of the call's own, x any slice of texts, of any size -/
theorem wpList_append_lot {w : World} {ops : Array Oper} {rest : List Oper} {o : Oper} {a : Act} {Q : Exit → Act → World → Prop} (hgd : o.guard = none) (s x : Operand)
    (ho : o.op = .call { callee := .builtin .append, args := #[s, x], argTypes := #[23, 23] })
    (base : Nat) (v : Value) (xs : List ByteArray) (hs : a.eval s = v) (hown : OwnT w base v xs)
    (u : Value) (l : List ByteArray) (hx : a.eval x = u) (hu : Texts w u l) (hf : SliceForm u)
    (hn : (xs.length + l.length) * 16 ≤ 140737488355328) (hbase : base ≤ w.heap.size)
    (h : ∀ v' w', OwnT w' base v' (xs ++ l) → w.grownBy w' v.ownBlock → wpList Try.prog ops Q rest (a.put o.dst v') w') : wpList Try.prog ops Q (o :: rest) a w := by
  obtain ⟨i0, hi, hz0, hz1, hz2⟩ := info_parts Try.info9
  rcases hf with rfl | ⟨ad, m, cap, rfl⟩
  · have hl : l = [] := by
      rcases hu with ⟨_, _, _, h2⟩ | ⟨_, _, _, h1, _⟩
      · exact h2
      · cases h1
    subst hl
    refine wpList_append_own_none hgd s x 23 ho base 9 i0 1 Try.underlying23 hi v xs.length _ hs hown hx ?_
    exact h v w (by simpa using hown) ⟨rfl, rfl, rfl, Nat.le_refl _, fun _ _ _ => rfl⟩
  · have hm : m = l.length := by
      rcases hu with ⟨_, _, h1, h2⟩ | ⟨_, _, _, h1, _⟩
      · cases h1; rw [h2]; rfl
      · cases h1; rfl
    subst hm
    refine wpList_append_own _ hgd s x 23 ho base 9 i0 (.string ⟨#[]⟩) 1 16 Try.underlying23 hi hz0 hz1 hz2 rfl (by decide) v xs.length _ hs hown ad l.length cap (l.map Value.string) hx (by simp) ?_ ?_ (by unfold maxLen; omega) hn hbase ?_
    · intro j y hy
      rw [List.getElem?_map, Option.map_eq_some_iff] at hy
      obtain ⟨z, hz, rfl⟩ := hy
      obtain ⟨hj, hz2⟩ := List.getElem?_eq_some_iff.1 hz
      rcases hu with ⟨_, _, _, h2⟩ | ⟨b, o', _, h1, _, _, _, h5⟩
      · subst h2; simp at hj
      · cases h1
        rw [← hz2, addr_add]
        exact h5 j hj
    · intro y hy
      obtain ⟨z, _, rfl⟩ := List.mem_map.1 hy
      rfl
    · intro v' w' h1 h2 _
      refine h v' w' ?_ h2
      unfold OwnT
      rw [List.length_append, List.map_append]
      exact h1

/-- a part of a slice of texts -/
def subV (ao : Option Addr) (cap lo hi : Nat) : Value := .slice (if cap = lo then ao else ao.map (·.add lo)) (hi - lo) (cap - lo)
theorem run_sub (ao : Option Addr) (n cap lo hi : Nat) (h1 : lo ≤ hi) (h2 : hi ≤ cap) (W : World) :
    (Instr.slice 23 (.slice ao n cap) (some (.int .i64 (lo : Int))) (some (.int .i64 (hi : Int))) none).run Try.prog W = .ok (subV ao cap lo hi) W := by
  have e1 : (0 : Int) ≤ (lo : Int) := by omega
  have e2 : (0 : Int) ≤ (hi : Int) := by omega
  simp [Instr.slice, Instr.sliceBounds, Instr.sliceBound, asIntOf, run_underlying Try.underlying23, go_sem, e1, e2, h1, h2, subV]
theorem texts_sub {w : World} {ao : Option Addr} {n cap : Nat} {l : List ByteArray} (h : Texts w (.slice ao n cap) l) (lo hi : Nat) (h1 : lo ≤ hi) (h2 : hi ≤ n) : Texts w (subV ao cap lo hi) ((l.drop lo).take (hi - lo)) := by
  by_cases he : hi = lo
  · subst he
    exact .inl ⟨if cap = hi then ao else ao.map (·.add hi), cap - hi, by rw [subV, Nat.sub_self], by simp⟩
  · rcases h with ⟨ao', cap', h3, rfl⟩ | ⟨b, o, cap', h3, h4, h5, h6, h7⟩
    · cases h3
      omega
    · cases h3
      have hlen : ((l.drop lo).take (hi - lo)).length = hi - lo := by simp; omega
      refine .inr ⟨b, o + lo, cap - lo, ?_, by omega, by omega, by omega, ?_⟩
      · rw [subV, if_neg (by omega), hlen]
        simp [addr_add]
      · intro i hi'
        rw [hlen] at hi'
        have := h7 (lo + i) (by omega)
        rw [show o + lo + i = o + (lo + i) by omega, this]
        simp
theorem form_sub {ao : Option Addr} {n cap lo hi : Nat} (h : SliceForm (.slice ao n cap)) (h1 : lo ≤ hi) (h2 : hi ≤ n) : SliceForm (subV ao cap lo hi) := by
  rcases h with h | ⟨a, n', cap', h⟩
  · cases h
    have e1 : lo = 0 := by omega
    have e2 : hi = 0 := by omega
    subst e1 e2
    exact .inl rfl
  · cases h
    refine .inr ?_
    unfold subV
    split
    · exact ⟨_, _, _, rfl⟩
    · exact ⟨_, _, _, rfl⟩
theorem Texts.cap {w : World} {ao : Option Addr} {n cap : Nat} {l : List ByteArray} (h : Texts w (.slice ao n cap) l) : n = l.length ∧ n ≤ cap := by
  rcases h with ⟨ao', cap', h3, rfl⟩ | ⟨b, o, cap', h3, h4, h5, h6, h7⟩
  · cases h3; exact ⟨rfl, Nat.zero_le _⟩
  · cases h3; exact ⟨rfl, h5⟩

/-- pairs of places -/
def cellsP (x : Nat × Nat) : List Value := [.int .i64 (x.1 : Int), .int .i64 (x.2 : Int)]
def flatP (l : List (Nat × Nat)) : List Value := l.flatMap cellsP
theorem flatP_append (l m : List (Nat × Nat)) : flatP (l ++ m) = flatP l ++ flatP m := by simp [flatP]
theorem flatP_one (x : Nat × Nat) : flatP [x] = cellsP x := by simp [flatP]
theorem flatP_len : ∀ (l : List (Nat × Nat)), (flatP l).length = l.length * 2
  | [] => rfl
  | x :: l => by
    have e : flatP (x :: l) = cellsP x ++ flatP l := rfl
    rw [e, List.length_append, flatP_len l]
    simp [cellsP]
    omega
theorem flatP_get : ∀ (l : List (Nat × Nat)) (i : Nat) (h : i < l.length), (flatP l)[i * 2]? = some (.int .i64 ((l[i]'h).1 : Int)) ∧ (flatP l)[i * 2 + 1]? = some (.int .i64 ((l[i]'h).2 : Int))
  | [], _, h => absurd h (by simp)
  | x :: l, 0, _ => ⟨rfl, rfl⟩
  | x :: l, i + 1, h => by
    have ih := flatP_get l i (by simpa using h)
    have e : flatP (x :: l) = cellsP x ++ flatP l := rfl
    have hl : (cellsP x).length = 2 := rfl
    rw [e]
    refine ⟨?_, ?_⟩
    · rw [List.getElem?_append_right (by omega), hl, show (i + 1) * 2 - 2 = i * 2 by omega]; exact ih.1
    · rw [List.getElem?_append_right (by omega), hl, show (i + 1) * 2 + 1 - 2 = i * 2 + 1 by omega]; exact ih.2
def OwnP (w : World) (B : Nat) (v : Value) (l : List (Nat × Nat)) : Prop := w.ownsRow B 39 2 v l.length (flatP l)
theorem OwnP.below {w w' : World} {B : Nat} {v : Value} {l : List (Nat × Nat)} (h : OwnP w B v l) (hb : Below w.heap.size w w') : OwnP w' B v l := own_kept h hb
theorem OwnP.form {w : World} {B : Nat} {v : Value} {l : List (Nat × Nat)} (h : OwnP w B v l) : ∃ ao cap b, v = .slice ao l.length cap ∧ (0 < l.length → ao = some ⟨b, 0, none⟩) ∧ l.length ≤ maxLen ∧
    ∀ (i : Nat) (h : i < l.length), w.cell? ⟨b, i * 2, none⟩ = some (.int .i64 ((l[i]'h).1 : Int)) ∧ w.cell? ⟨b, i * 2 + 1, none⟩ = some (.int .i64 ((l[i]'h).2 : Int)) := by
  unfold OwnP at h
  rcases h.2 with ⟨hv, hz⟩ | ⟨g, cap, cur, hv, _, _, hnc, hcm, _, _⟩
  · exact ⟨none, 0, 0, by rw [hv, hz], fun h => by omega, by omega, fun i hi => by omega⟩
  · subst hv
    refine ⟨_, cap, g, rfl, fun _ => rfl, Nat.le_trans hnc hcm, fun i hi => ?_⟩
    obtain ⟨f0, f1⟩ := flatP_get l i hi
    exact ⟨(h.cellAt _ (by omega)).trans f0, (h.cellAt _ (by omega)).trans f1⟩
theorem Try.info39 : (Try.prog.info? 39).map (fun i => (i.zero, i.size, i.bytes)) = some (some (.agg #[.int .i64 0, .int .i64 0]), 2, 16) := by kernel_rfl
theorem ownP_nil (w : World) (B : Nat) : OwnP w B (.slice none 0 0) [] := ⟨rfl, .inl ⟨rfl, rfl⟩⟩
theorem ownT_nil (w : World) (B : Nat) : OwnT w B (.slice none 0 0) [] := ⟨rfl, .inl ⟨rfl, rfl⟩⟩
theorem news_two (w : World) (u v : Value) (t : TypeId) : ∀ (i : Nat) (y : Value), ([u, v] : List Value)[i]? = some y → (w.alloc (.cells #[u, v] t)).cell? ((⟨w.heap.size, 0, none⟩ : Addr).add i) = some y := by
  intro i y hy
  rw [addr_add, Nat.zero_add, cell_of_row _ _ _ _ _ _ (heap_alloc_new w _)]
  simpa using hy
/-- append(v, [2]int{..}) -/
theorem wpList_append_pair {w0 : World} {ops : Array Oper} {rest : List Oper} {o : Oper} {a : Act} {Q : Exit → Act → World → Prop} (hgd : o.guard = none) (s x : Operand)
    (ho : o.op = .call { callee := .builtin .append, args := #[s, x], argTypes := #[31, 31] })
    (base : Nat) (v : Value) (xs : List (Nat × Nat)) (p : Nat × Nat) (hs : a.eval s = v) (hown : OwnP w0 base v xs) (t : TypeId)
    (hx : a.eval x = .slice (some ⟨w0.heap.size, 0, none⟩) 1 1)
    (hn : (xs.length + 1) * 16 ≤ 140737488355328) (hbase : base ≤ w0.heap.size)
    (h : ∀ v' w', OwnP w' base v' (xs ++ [p]) → Below base w0 w' → wpList Try.prog ops Q rest (a.put o.dst v') w') : wpList Try.prog ops Q (o :: rest) a (w0.alloc (.cells #[.int .i64 (p.1 : Int), .int .i64 (p.2 : Int)] t)) := by
  obtain ⟨i0, hi, hz0, hz1, hz2⟩ := info_parts Try.info39
  refine wpList_append_own _ hgd s x 31 ho base 39 i0 _ 2 16 Try.underlying31 hi hz0 hz1 hz2 rfl (by decide) v xs.length (flatP xs) hs (hown.alloc _) ⟨w0.heap.size, 0, none⟩ 1 1 (cellsP p) hx rfl (news_two w0 _ _ t) ?_ (by unfold maxLen; omega) hn (by simp; omega) ?_
  · intro y hy
    simp [cellsP] at hy
    rcases hy with rfl | rfl <;> rfl
  · intro v' w' h1 h2 _
    refine h v' w' ?_ (((Below.refl _ _).alloc hbase _).grown h2 (by simp; omega) (fun q hq => (hown.lt q hq).1))
    unfold OwnP
    rw [flatP_append, flatP_one, List.length_append]
    exact h1

/-- a hunk as it lies in memory -/
structure HunkM where
  at_ : Nat
  ov : Value
  nv : Value
  old : List ByteArray
  new : List ByteArray
def HunkM.txt (h : HunkM) : HunkT := ⟨h.at_, h.old, h.new⟩
def HunkM.cells (h : HunkM) : List Value := [.int .i64 (h.at_ : Int), h.ov, h.nv]
def flatH (l : List HunkM) : List Value := l.flatMap HunkM.cells
theorem flatH_append (l m : List HunkM) : flatH (l ++ m) = flatH l ++ flatH m := by simp [flatH]
theorem flatH_one (x : HunkM) : flatH [x] = x.cells := by simp [flatH]
theorem flatH_len : ∀ (l : List HunkM), (flatH l).length = l.length * 3
  | [] => rfl
  | x :: l => by
    have e : flatH (x :: l) = x.cells ++ flatH l := rfl
    rw [e, List.length_append, flatH_len l]
    simp [HunkM.cells]
    omega
theorem flatH_get : ∀ (l : List HunkM) (i : Nat) (h : i < l.length), (flatH l)[i * 3]? = some (.int .i64 ((l[i]'h).at_ : Int)) ∧ (flatH l)[i * 3 + 1]? = some (l[i]'h).ov ∧ (flatH l)[i * 3 + 2]? = some (l[i]'h).nv
  | [], _, h => absurd h (by simp)
  | x :: l, 0, _ => ⟨rfl, rfl, rfl⟩
  | x :: l, i + 1, h => by
    have ih := flatH_get l i (by simpa using h)
    have e : flatH (x :: l) = x.cells ++ flatH l := rfl
    have hl : x.cells.length = 3 := rfl
    rw [e]
    refine ⟨?_, ?_, ?_⟩
    · rw [List.getElem?_append_right (by omega), hl, show (i + 1) * 3 - 3 = i * 3 by omega]; exact ih.1
    · rw [List.getElem?_append_right (by omega), hl, show (i + 1) * 3 + 1 - 3 = i * 3 + 1 by omega]; exact ih.2.1
    · rw [List.getElem?_append_right (by omega), hl, show (i + 1) * 3 + 2 - 3 = i * 3 + 2 by omega]; exact ih.2.2
/-- a list of hunks that is the call's own, with all their texts -/
def OwnH (w : World) (B : Nat) (v : Value) (l : List HunkM) : Prop := w.ownsRow B 30 3 v l.length (flatH l) ∧ ∀ m ∈ l, OwnT w B m.ov m.old ∧ OwnT w B m.nv m.new
theorem OwnH.below {w w' : World} {B : Nat} {v : Value} {l : List HunkM} (h : OwnH w B v l) (hb : Below w.heap.size w w') : OwnH w' B v l :=
  ⟨own_kept h.1 hb, fun m hm => ⟨(h.2 m hm).1.below hb, (h.2 m hm).2.below hb⟩⟩
/-- v is a slice that holds these hunks -/
def Hunks (w : World) (v : Value) (l : List HunkM) : Prop :=
  ∃ ao cap b o, v = .slice ao l.length cap ∧ (0 < l.length → ao = some ⟨b, o, none⟩) ∧ l.length ≤ maxLen ∧ ∀ (i : Nat) (h : i < l.length),
    w.cell? ⟨b, o + i * 3, none⟩ = some (.int .i64 ((l[i]'h).at_ : Int)) ∧ w.cell? ⟨b, o + i * 3 + 1, none⟩ = some (l[i]'h).ov ∧ w.cell? ⟨b, o + i * 3 + 2, none⟩ = some (l[i]'h).nv ∧ Texts w (l[i]'h).ov (l[i]'h).old ∧ Texts w (l[i]'h).nv (l[i]'h).new
theorem Hunks.kept {w w' : World} {v : Value} {l : List HunkM} (h : Hunks w v l) (hb : Below w.heap.size w w') : Hunks w' v l := by
  obtain ⟨ao, cap, b, o, h1, h2, h3, h4⟩ := h
  refine ⟨ao, cap, b, o, h1, h2, h3, fun i hi => ?_⟩
  obtain ⟨c0, c1, c2, t1, t2⟩ := h4 i hi
  exact ⟨cell_kept hb c0, cell_kept hb c1, cell_kept hb c2, t1.kept hb, t2.kept hb⟩
theorem OwnH.hunks {w : World} {B : Nat} {v : Value} {l : List HunkM} (h : OwnH w B v l) : Hunks w v l := by
  obtain ⟨h, ht⟩ := h
  rcases h.2 with ⟨hv, hz⟩ | ⟨g, cap, cur, hv, _, _, hnc, hcm, _, _⟩
  · exact ⟨none, 0, 0, 0, by rw [hv, hz], fun h => by omega, by omega, fun i hi => by omega⟩
  · subst hv
    refine ⟨_, cap, g, 0, rfl, fun _ => rfl, Nat.le_trans hnc hcm, fun i hi => ?_⟩
    obtain ⟨f0, f1, f2⟩ := flatH_get l i hi
    obtain ⟨t1, t2⟩ := ht _ (List.getElem_mem hi)
    simp only [Nat.zero_add]
    exact ⟨(h.cellAt _ (by omega)).trans f0, (h.cellAt _ (by omega)).trans f1, (h.cellAt _ (by omega)).trans f2, t1.texts, t2.texts⟩
theorem Try.info30 : (Try.prog.info? 30).map (fun i => (i.zero, i.size, i.bytes)) = some (some (.agg #[.int .i64 0, .slice none 0 0, .slice none 0 0]), 3, 56) := by kernel_rfl
theorem form_one {v : Value} (h : SliceForm v) : v.oneCell' = true := by
  rcases h with rfl | ⟨a, n, cap, rfl⟩ <;> rfl
theorem news_hunk (w : World) (m : HunkM) (t : TypeId) : ∀ (i : Nat) (y : Value), m.cells[i]? = some y → (w.alloc (.cells #[.int .i64 (m.at_ : Int), m.ov, m.nv] t)).cell? ((⟨w.heap.size, 0, none⟩ : Addr).add i) = some y := by
  intro i y hy
  rw [addr_add, Nat.zero_add, cell_of_row _ _ _ _ _ _ (heap_alloc_new w _)]
  simpa [HunkM.cells] using hy
end Go.Proofs.Ytncamoafdimpcaa
