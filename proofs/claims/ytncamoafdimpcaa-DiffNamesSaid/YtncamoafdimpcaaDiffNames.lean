/- Own work: DiffNames' walk. -/
import Derived.Test.YtncamoafdimpcaaDiffApart
import Derived.OwnWalk
import Derived.ArgAppend
import Derived.Laws.BytesArg
namespace Go.Proofs.Ytncamoafdimpcaa
open Go.RowKit

/-- the first texts of a row -/
theorem texts_front {w : World} {B g n cap m : Nat} {l r : List ByteArray} (h : OwnT w B (.slice (some ⟨g, 0, none⟩) n cap) (l ++ r)) (hm : l.length = m) (cap' : Nat) (hc : m ≤ cap') (hcm : cap' ≤ maxLen) : Texts w (.slice (some ⟨g, 0, none⟩) m cap') l := by
  unfold OwnT at h
  rcases h.2 with ⟨e, _⟩ | ⟨g', c, cur, hv, _, _, hnc, hcm2, _, _⟩
  · cases e
  · cases hv
    by_cases h0 : 0 < l.length
    · refine .inr ⟨g, 0, cap', by rw [hm], h0, by omega, hcm, fun i hi => ?_⟩
      rw [Nat.zero_add, h.cellAt i (by simp; omega)]
      rw [List.getElem?_map, List.getElem?_append_left hi, List.getElem?_eq_getElem hi]
      rfl
    · have : l = [] := List.eq_nil_of_length_eq_zero (by omega)
      subst this
      simp at hm
      subst hm
      exact .inl ⟨_, _, rfl, rfl⟩
/-- append(v, s), and what the elder slice still holds -/
theorem wpList_append_more {w0 : World} {ops : Array Oper} {rest : List Oper} {o : Oper} {a : Act} {Q : Exit → Act → World → Prop} (hgd : o.guard = none) (s x : Operand)
    (ho : o.op = .call { callee := .builtin .append, args := #[s, x], argTypes := #[23, 23] })
    (base g n cap : Nat) (xs : List ByteArray) (p : ByteArray) (hs : a.eval s = .slice (some ⟨g, 0, none⟩) n cap) (hown : OwnT w0 base (.slice (some ⟨g, 0, none⟩) n cap) xs) (hlen : xs.length = n) (t : TypeId) (H : Nat) (hH : w0.heap.size = H)
    (hx : a.eval x = .slice (some ⟨H, 0, none⟩) 1 1)
    (hn : (n + 1) * 16 ≤ 140737488355328) (hbase : base ≤ w0.heap.size)
    (h : ∀ v' w', OwnT w' base v' (xs ++ [p]) → Texts w' (.slice (some ⟨g, 0, none⟩) n cap) xs → Below base w0 w' → (∀ g', v'.ownBlock = some g' → g' = g ∨ w0.heap.size ≤ g') → w0.grownBy w' (some g) → wpList Try.prog ops Q rest (a.put o.dst v') w') : wpList Try.prog ops Q (o :: rest) a (w0.alloc (.cells #[.string p] t)) := by
  subst hH
  have hal : Below w0.heap.size w0 (w0.alloc (.cells #[.string p] t)) := (Below.refl _ _).alloc (Nat.le_refl _) _
  obtain ⟨i0, hi, hz0, hz1, hz2⟩ := info_parts Try.info9
  have hca : n ≤ cap ∧ cap ≤ maxLen := by
    rcases hown.2 with ⟨e, _⟩ | ⟨g', c, cur, hv, _, _, hnc, hcm2, _, _⟩
    · cases e
    · cases hv; exact ⟨by omega, hcm2⟩
  have hol := hown.below hal
  have hone : ∀ (j : Nat) (u : Value), [Value.string p][j]? = some u → (w0.alloc (.cells #[.string p] t)).cell? ((⟨w0.heap.size, 0, none⟩ : Addr).add j) = some u := by
    intro j u hu
    rw [addr_add, Nat.zero_add, cell_of_row _ _ _ _ _ _ (heap_alloc_new w0 _)]
    simpa using hu
  have hpl : ∀ u ∈ [Value.string p], u.oneCell' = true := by intro u hu; obtain rfl := List.mem_singleton.1 hu; rfl
  have hol2 := hol
  unfold OwnT at hol2
  rw [hlen] at hol2
  have hg : g < w0.heap.size := (hown.lt g rfl).2
  by_cases hr : n + 1 ≤ cap
  · refine wpList_append_fits _ hgd s x 23 ho base 9 i0 1 Try.underlying23 hi hz1 g n cap (xs.map Value.string) hs hol2 ⟨w0.heap.size, 0, none⟩ 1 1 [.string p] hx rfl hone hpl hr ?_
    intro w' h1 h2
    have h3 : OwnT w' base (.slice (some ⟨g, 0, none⟩) (n + 1) cap) (xs ++ [p]) := by
      unfold OwnT
      rw [List.length_append, List.map_append, hlen]
      exact h1
    refine h _ w' h3 (texts_front h3 hlen cap hca.1 hca.2) (((Below.refl base w0).alloc hbase _).grown h2 (by simp; omega) (fun q hq => (hown.lt q hq).1)) (fun g' hg' => .inl (Option.some.inj hg').symm) (grown_step (grown_alloc w0 _ _) h2 (fun _ h => .inl h))
  · refine wpList_append_grows _ hgd s x 23 ho 9 i0 (.string ⟨#[]⟩) 1 16 Try.underlying23 hi hz0 hz1 hz2 rfl (by decide) (some ⟨g, 0, none⟩) n cap (xs.map Value.string) hs (fun h => by cases h) (by simp [hlen]) ?_ ⟨w0.heap.size, 0, none⟩ 1 1 [.string p] hx rfl hone hpl (by omega) (by unfold maxLen; omega) hn ?_
    · intro b hb j u hj
      cases hb
      have := hol.cells (g := g) rfl j u hj
      exact this
    · intro v' w' h1 h2
      have hb : Below w0.heap.size w0 w' := hal.grown h2 (by simp) (fun q hq => by cases hq)
      have h3 : OwnT w' base v' (xs ++ [p]) := by
        unfold OwnT
        rw [List.length_append, List.map_append, hlen]
        exact own_base h1 (by simp; omega)
      refine h v' w' h3 ((hown.below hb).texts) (hb.mono hbase) (fun g' hg' => .inr ?_) (grown_step (grown_alloc w0 _ _) h2 (fun _ h => by cases h))
      have := (h1.lt g' hg').1
      simp at this
      omega
/-- append(v, s), and where it lies -/
theorem wpList_append_one2 {w0 : World} {ops : Array Oper} {rest : List Oper} {o : Oper} {a : Act} {Q : Exit → Act → World → Prop} (hgd : o.guard = none) (s x : Operand)
    (ho : o.op = .call { callee := .builtin .append, args := #[s, x], argTypes := #[23, 23] })
    (base : Nat) (v : Value) (xs : List ByteArray) (p : ByteArray) (hs : a.eval s = v) (hown : OwnT w0 base v xs) (t : TypeId) (H : Nat) (hH : w0.heap.size = H)
    (hx : a.eval x = .slice (some ⟨H, 0, none⟩) 1 1)
    (hn : (xs.length + 1) * 16 ≤ 140737488355328) (hbase : base ≤ w0.heap.size)
    (h : ∀ v' w', OwnT w' base v' (xs ++ [p]) → w0.grownBy w' v.ownBlock → (∀ g, v'.ownBlock = some g → v.ownBlock = some g ∨ w0.heap.size ≤ g) → wpList Try.prog ops Q rest (a.put o.dst v') w') : wpList Try.prog ops Q (o :: rest) a (w0.alloc (.cells #[.string p] t)) := by
  subst hH
  obtain ⟨i0, hi, hz0, hz1, hz2⟩ := info_parts Try.info9
  have hal : Below w0.heap.size w0 (w0.alloc (.cells #[.string p] t)) := (Below.refl _ _).alloc (Nat.le_refl _) _
  have hone : ∀ (j : Nat) (u : Value), [Value.string p][j]? = some u → (w0.alloc (.cells #[.string p] t)).cell? ((⟨w0.heap.size, 0, none⟩ : Addr).add j) = some u := by
    intro j u hu
    rw [addr_add, Nat.zero_add, cell_of_row _ _ _ _ _ _ (heap_alloc_new w0 _)]
    simpa using hu
  refine wpList_append_lies _ hgd s x 23 ho base 9 i0 _ 1 16 Try.underlying23 hi hz0 hz1 hz2 rfl (by decide) v xs.length (xs.map Value.string) hs (hown.below hal) ⟨w0.heap.size, 0, none⟩ 1 1 [.string p] hx rfl hone ?_ (by decide) (by unfold maxLen; omega) hn (by simp; omega) (w0.heap.size + 1) (by simp) ?_
  · intro u hu; obtain rfl := List.mem_singleton.1 hu; rfl
  · intro g cap w' h1 h2 h3 _
    refine h _ w' ?_ (grown_step (grown_alloc w0 _ v.ownBlock) h2 (fun _ h => .inl h)) ?_
    · unfold OwnT
      rw [List.map_append, List.length_append]
      exact h1
    · intro g' hg'
      have : g = g' := Option.some.inj hg'
      subst this
      rcases h3 with h3 | h3
      · exact .inl h3
      · exact .inr (by omega)

def tA (k : Nat) : ByteArray := strOfNums [1, (k : Int) % 256, (k : Int) / 256]
def tB (k : Nat) : ByteArray := strOfNums [2, (k : Int) % 256, (k : Int) / 256]
def txOne : ByteArray := ⟨#[111, 110, 101]⟩
def txMore : ByteArray := ⟨#[109, 111, 114, 101]⟩
theorem head_tA (k : Nat) : (tA k).data[0]? = some 1 := rfl
theorem head_tB (k : Nat) : (tB k).data[0]? = some 2 := rfl
theorem ab_other (i j : Nat) : tA i ≠ tB j := by
  intro h
  have := congrArg (fun s : ByteArray => s.data[0]?) h
  simp only [head_tA, head_tB] at this
  exact absurd this (by decide)
theorem one_otherA (i : Nat) : txOne ≠ tA i := by
  intro h
  have := congrArg (fun s : ByteArray => s.data[0]?) h
  simp only [head_tA] at this
  exact absurd this (by decide)
theorem one_otherB (i : Nat) : txOne ≠ tB i := by
  intro h
  have := congrArg (fun s : ByteArray => s.data[0]?) h
  simp only [head_tB] at this
  exact absurd this (by decide)
theorem more_otherA (i : Nat) : tA i ≠ txMore := by
  intro h
  have := congrArg (fun s : ByteArray => s.data[0]?) h
  simp only [head_tA] at this
  exact absurd this (by decide)
def LA (k : Nat) : List ByteArray := (List.range k).map tA
def LB (k : Nat) : List ByteArray := (List.range k).map tB
theorem LA_succ (k : Nat) : LA (k + 1) = LA k ++ [tA k] := by simp [LA, List.range_succ]
theorem LB_succ (k : Nat) : LB (k + 1) = LB k ++ [tB k] := by simp [LB, List.range_succ]
theorem LA_len (k : Nat) : (LA k).length = k := by simp [LA]
theorem LB_len (k : Nat) : (LB k).length = k := by simp [LB]
def NA : List ByteArray := (LA 1024).set 500 txOne
def NB : List ByteArray := (LB 1024).set 20 txOne
theorem NA_len : NA.length = 1024 := by rw [NA, List.length_set, LA_len]
theorem NB_len : NB.length = 1024 := by rw [NB, List.length_set, LB_len]
theorem NA_get (i : Nat) (hi : i < 1024) : NA[i]? = some (if i = 500 then txOne else tA i) := by
  unfold NA
  by_cases h : i = 500
  · subst h
    rw [List.getElem?_set_self (by rw [LA_len]; omega), if_pos rfl]
  · rw [List.getElem?_set_ne (fun e => h e.symm), if_neg h]
    simp [LA, hi]
theorem NB_get (i : Nat) (hi : i < 1024) : NB[i]? = some (if i = 20 then txOne else tB i) := by
  unfold NB
  by_cases h : i = 20
  · subst h
    rw [List.getElem?_set_self (by rw [LB_len]; omega), if_pos rfl]
  · rw [List.getElem?_set_ne (fun e => h e.symm), if_neg h]
    simp [LB, hi]
theorem names_common : commonL NA NB = [(500, 20)] := by
  refine common_one (by rw [NA_len]; omega) (by rw [NB_len]; omega) (by rw [NA_get 500 (by omega), NB_get 20 (by omega)]; rfl) ?_ (by rw [NA_len, NB_len]; decide)
  intro i j hi hj h
  rw [NA_len] at hi
  rw [NB_len] at hj
  rw [NA_get i hi, NB_get j hj] at h
  have h := Option.some.inj h
  by_cases h1 : i = 500
  · by_cases h2 : j = 20
    · exact ⟨h1, h2⟩
    · rw [if_pos h1, if_neg h2] at h
      exact absurd h (one_otherB j)
  · by_cases h2 : j = 20
    · rw [if_neg h1, if_pos h2] at h
      exact absurd h.symm (one_otherA i)
    · rw [if_neg h1, if_neg h2] at h
      exact absurd h (ab_other i j)
theorem names_great : commonL NA (NB ++ [txMore]) = [] := by
  refine common_great ?_ ?_ (by rw [List.length_append, NA_len, NB_len]; decide)
  · refine preL_eq (by omega) (by omega) (fun i h => by omega) (.inr (.inr ?_))
    rw [NA_get 0 (by omega), List.getElem?_append_left (by rw [NB_len]; omega), NB_get 0 (by omega), if_neg (by omega), if_neg (by omega)]
    intro e
    exact ab_other 0 0 (Option.some.inj e)
  · refine sufL_eq (by omega) (by omega) (fun i h => by omega) (.inr (.inr ?_))
    rw [NA_len, List.length_append, NB_len, NA_get _ (by omega), if_neg (by omega)]
    rw [List.getElem?_append_right (by rw [NB_len]; simp), NB_len]
    intro e
    exact more_otherA 1023 (Option.some.inj e)
theorem names_lines : ∃ o n o2 n2, linesL NA NB = [⟨0, o, n⟩, ⟨501, o2, n2⟩] ∧ n.length = 20 := by
  rw [linesL, names_common, NA_len, NB_len]
  refine ⟨_, _, _, _, rfl, ?_⟩
  simp [NB_len]
theorem names_lines2 : ∃ o n, linesL NA (NB ++ [txMore]) = [⟨0, o, n⟩] ∧ o.length = 1024 ∧ n.length = 1025 := by
  rw [linesL, names_great, List.length_append, NA_len, NB_len]
  refine ⟨_, _, rfl, ?_, ?_⟩
  · simp [NA_len]
  · simp [NB_len]
end Go.Proofs.Ytncamoafdimpcaa
