/- Own work: texts in memory: rows of the call's own, parts of slices. -/
import Derived.Test.YtabdgocfbmcobaaTexts
import Derived.Test.YtabdgocfbmcobaaLabBase
import Derived.Test.YtabdgocfbmcobaaGrown
import Derived.Laws.AppendOwnNone
import Derived.Deep.AppendLies
namespace Go.Proofs.Ytabdgocfbmcobaa
open Go.RowKit

/-- a list of texts that is the call's own -/
def OwnT (w : World) (B : Nat) (v : Value) (l : List ByteArray) : Prop := w.ownsRow B 9 1 v l.length (l.map Value.string)
theorem OwnT.texts {w : World} {B : Nat} {v : Value} {l : List ByteArray} (h : OwnT w B v l) : Texts w v l := Texts.of_own h
theorem OwnT.form {w : World} {B : Nat} {v : Value} {l : List ByteArray} (h : OwnT w B v l) : SliceForm v := SliceForm.of_own h
theorem OwnT.below {w w' : World} {B : Nat} {v : Value} {l : List ByteArray} (h : OwnT w B v l) (hb : Below w.heap.size w w') : OwnT w' B v l := own_kept h hb

/-- append(v, x...), v a row of the call's own, x any slice of texts, of any size -/
theorem wpList_append_lot {w : World} {ops : Array Oper} {rest : List Oper} {o : Oper} {a : Act} {Q : Exit → Act → World → Prop} (hgd : o.guard = none) (s x : Operand)
    (ho : o.op = .call { callee := .builtin .append, args := #[s, x], argTypes := #[23, 23] })
    (base : Nat) (v : Value) (xs : List ByteArray) (hs : a.eval s = v) (hown : OwnT w base v xs)
    (u : Value) (l : List ByteArray) (hx : a.eval x = u) (hu : Texts w u l) (hf : SliceForm u)
    (hn : (xs.length + l.length) * 16 ≤ 140737488355328) (hbase : base ≤ w.heap.size)
    (h : ∀ v' w', OwnT w' base v' (xs ++ l) → w.grownBy w' v.ownBlock → wpList Try.prog ops Q rest (a.put o.dst v') w') : wpList Try.prog ops Q (o :: rest) a w := by
  obtain ⟨i0, hi, hz0, hz1, hz2⟩ := info_parts Try.info9
  rcases hf with rfl | ⟨ad, m, cap, rfl⟩
  · have hl : l = [] := by
      rcases hu with ⟨_, _, _, h2⟩ | ⟨_, _, _, h1, _⟩
      · exact h2
      · cases h1
    subst hl
    refine wpList_append_own_none hgd s x 23 ho base 9 i0 1 Try.underlying23 hi v xs.length _ hs hown hx ?_
    exact h v w (by simpa using hown) ⟨rfl, rfl, rfl, Nat.le_refl _, fun _ _ _ => rfl⟩
  · have hm : m = l.length := by
      rcases hu with ⟨_, _, h1, h2⟩ | ⟨_, _, _, h1, _⟩
      · cases h1; rw [h2]; rfl
      · cases h1; rfl
    subst hm
    refine wpList_append_own _ hgd s x 23 ho base 9 i0 (.string ⟨#[]⟩) 1 16 Try.underlying23 hi hz0 hz1 hz2 rfl (by decide) v xs.length _ hs hown ad l.length cap (l.map Value.string) hx (by simp) ?_ ?_ (by unfold maxLen; omega) hn hbase ?_
    · intro j y hy
      rw [List.getElem?_map, Option.map_eq_some_iff] at hy
      obtain ⟨z, hz, rfl⟩ := hy
      obtain ⟨hj, hz2⟩ := List.getElem?_eq_some_iff.1 hz
      rcases hu with ⟨_, _, _, h2⟩ | ⟨b, o', _, h1, _, _, _, h5⟩
      · subst h2; simp at hj
      · cases h1
        rw [← hz2, addr_add]
        exact h5 j hj
    · intro y hy
      obtain ⟨z, _, rfl⟩ := List.mem_map.1 hy
      rfl
    · intro v' w' h1 h2 _
      refine h v' w' ?_ h2
      unfold OwnT
      rw [List.length_append, List.map_append]
      exact h1

/-- a part of a slice of texts -/
def subV (ao : Option Addr) (cap lo hi : Nat) : Value := .slice (if cap = lo then ao else ao.map (·.add lo)) (hi - lo) (cap - lo)
theorem run_sub (ao : Option Addr) (n cap lo hi : Nat) (h1 : lo ≤ hi) (h2 : hi ≤ cap) (W : World) :
    (Instr.slice 23 (.slice ao n cap) (some (.int .i64 (lo : Int))) (some (.int .i64 (hi : Int))) none).run Try.prog W = .ok (subV ao cap lo hi) W := by
  have e1 : (0 : Int) ≤ (lo : Int) := by omega
  have e2 : (0 : Int) ≤ (hi : Int) := by omega
  simp [Instr.slice, Instr.sliceBounds, Instr.sliceBound, asIntOf, run_underlying Try.underlying23, go_sem, e1, e2, h1, h2, subV]
theorem texts_sub {w : World} {ao : Option Addr} {n cap : Nat} {l : List ByteArray} (h : Texts w (.slice ao n cap) l) (lo hi : Nat) (h1 : lo ≤ hi) (h2 : hi ≤ n) : Texts w (subV ao cap lo hi) ((l.drop lo).take (hi - lo)) := by
  by_cases he : hi = lo
  · subst he
    exact .inl ⟨if cap = hi then ao else ao.map (·.add hi), cap - hi, by rw [subV, Nat.sub_self], by simp⟩
  · rcases h with ⟨ao', cap', h3, rfl⟩ | ⟨b, o, cap', h3, h4, h5, h6, h7⟩
    · cases h3
      omega
    · cases h3
      have hlen : ((l.drop lo).take (hi - lo)).length = hi - lo := by simp; omega
      refine .inr ⟨b, o + lo, cap - lo, ?_, by omega, by omega, by omega, ?_⟩
      · rw [subV, if_neg (by omega), hlen]
        simp [addr_add]
      · intro i hi'
        rw [hlen] at hi'
        have := h7 (lo + i) (by omega)
        rw [show o + lo + i = o + (lo + i) by omega, this]
        simp
theorem form_sub {ao : Option Addr} {n cap lo hi : Nat} (h : SliceForm (.slice ao n cap)) (h1 : lo ≤ hi) (h2 : hi ≤ n) : SliceForm (subV ao cap lo hi) := by
  rcases h with h | ⟨a, n', cap', h⟩
  · cases h
    have e1 : lo = 0 := by omega
    have e2 : hi = 0 := by omega
    subst e1 e2
    exact .inl rfl
  · cases h
    refine .inr ?_
    unfold subV
    split
    · exact ⟨_, _, _, rfl⟩
    · exact ⟨_, _, _, rfl⟩
theorem Texts.cap {w : World} {ao : Option Addr} {n cap : Nat} {l : List ByteArray} (h : Texts w (.slice ao n cap) l) : n = l.length ∧ n ≤ cap := by
  rcases h with ⟨ao', cap', h3, rfl⟩ | ⟨b, o, cap', h3, h4, h5, h6, h7⟩
  · cases h3; exact ⟨rfl, Nat.zero_le _⟩
  · cases h3; exact ⟨rfl, h5⟩

theorem ownT_nil (w : World) (B : Nat) : OwnT w B (.slice none 0 0) [] := ⟨rfl, .inl ⟨rfl, rfl⟩⟩
theorem form_one {v : Value} (h : SliceForm v) : v.oneCell' = true := by
  rcases h with rfl | ⟨a, n, cap, rfl⟩ <;> rfl
theorem texts_lit (w : World) (l : List ByteArray) (t : TypeId) (h0 : 0 < l.length) (hm : l.length ≤ maxLen) : Texts (w.alloc (.cells (l.map Value.string).toArray t)) (.slice (some ⟨w.heap.size, 0, none⟩) l.length l.length) l := by
  refine .inr ⟨w.heap.size, 0, l.length, rfl, h0, Nat.le_refl _, hm, fun i hi => ?_⟩
  rw [Nat.zero_add, cell_of_row _ _ _ _ _ _ (heap_alloc_new w _)]
  simp [hi]
theorem own_empty1 {W : World} {B H : Nat} (h : W.heap[H]? = some (.cells #[] 9 (0, 0))) (hB : B ≤ H) : OwnT W B (.slice (some ⟨H, 0, none⟩) 0 0) [] :=
  ⟨rfl, .inr ⟨H, 0, #[], rfl, hB, h, Nat.le_refl _, Nat.zero_le _, rfl, rfl⟩⟩
theorem cell_stays {W W' : World} {b o : Nat} {y : Value} {r : Option Nat} (h : W.cell? ⟨b, o, none⟩ = some y) (hg : W.grownBy W' r) (hne : r ≠ some b) : W'.cell? ⟨b, o, none⟩ = some y := by
  have hlt := World.block_lt_of_cell? _ _ h
  have h5 := hg.block b hlt (fun e => hne e.symm)
  unfold World.cell? at h ⊢
  rw [h5]
  exact h
theorem row_stays {W W' : World} {b : Nat} {c : Obj} {r : Option Nat} (h : W.heap[b]? = some c) (hg : W.grownBy W' r) (hne : r ≠ some b) : W'.heap[b]? = some c := by
  rw [hg.block b (lt_of_block h) (fun e => hne e.symm)]
  exact h
theorem kinds_apart {w : World} {g g' : Nat} {c c' : Array Value} {t t' : TypeId} {f f' : Nat × Nat} (h : w.heap[g]? = some (.cells c t f)) (h' : w.heap[g']? = some (.cells c' t' f')) (hne : t ≠ t') : g ≠ g' := by
  rintro rfl
  rw [h] at h'
  injection h' with h'
  injection h' with _ h2 _
  exact hne h2
theorem own_row {w : World} {B n s g : Nat} {e : TypeId} {v : Value} {xs : List Value} (h : w.ownsRow B e s v n xs) (hg : v.ownBlock = some g) : ∃ cur, w.heap[g]? = some (.cells cur e (0, 0)) := by
  rcases h.2 with ⟨h1, _⟩ | ⟨g', cap, cur, hv, _, hc, _⟩
  · rw [h1] at hg; cases hg
  · rw [hv] at hg
    cases hg
    exact ⟨cur, hc⟩
/-- a row stands while another one grows -/
theorem own_grown {w w' : World} {B n s : Nat} {e : TypeId} {v : Value} {xs : List Value} {r : Option Nat} (h : w.ownsRow B e s v n xs) (hg : w.grownBy w' r) (hne : ∀ g, v.ownBlock = some g → r ≠ some g) : w'.ownsRow B e s v n xs := by
  refine ⟨h.1, ?_⟩
  rcases h.2 with h2 | ⟨g, cap, cur, hv, hB, hc, rest⟩
  · exact .inl h2
  · refine .inr ⟨g, cap, cur, hv, hB, ?_, rest⟩
    rw [hg.block g (lt_of_block hc) (fun e => hne g (by rw [hv]; rfl) e.symm)]
    exact hc
theorem bytes_beq {x y : ByteArray} (h : x = y) : (x.toList == y.toList) = true := by rw [h]; simp
theorem bytes_bne {x y : ByteArray} (h : ¬ x = y) : (x.toList == y.toList) = false := by rw [bytes_eq]; simpa using h
theorem run_sub2 (ao : Option Addr) (n cap lo : Nat) (h1 : lo ≤ n) (W : World) :
    (Instr.slice 23 (.slice ao n cap) (some (.int .i64 (lo : Int))) none none).run Try.prog W = .ok (subV ao cap lo n) W := by
  have e1 : (0 : Int) ≤ (lo : Int) := by omega
  simp [Instr.slice, Instr.sliceBounds, Instr.sliceBound, asIntOf, run_underlying Try.underlying23, go_sem, e1, h1, subV]
theorem run_front (ao : Option Addr) (n cap h : Nat) (h2 : h ≤ cap) (W : World) :
    (Instr.slice 23 (.slice ao n cap) none (some (.int .i64 (h : Int))) none).run Try.prog W = .ok (.slice ao h cap) W := by
  have e2 : (0 : Int) ≤ (h : Int) := by omega
  cases ao <;> simp [Instr.slice, Instr.sliceBounds, Instr.sliceBound, asIntOf, run_underlying Try.underlying23, go_sem, e2, h2, Addr.add]
theorem texts_take {w : World} {ao : Option Addr} {n cap : Nat} {l : List ByteArray} (h : Texts w (.slice ao n cap) l) (k : Nat) (hk : k ≤ n) : Texts w (.slice ao k cap) (l.take k) := by
  rcases h with ⟨ao', cap', h3, rfl⟩ | ⟨b, o, cap', h3, h4, h5, h6, h7⟩
  · cases h3
    obtain rfl : k = 0 := by omega
    exact .inl ⟨_, _, rfl, by simp⟩
  · cases h3
    have hl : (l.take k).length = k := by rw [List.length_take]; omega
    by_cases h0 : k = 0
    · subst h0
      exact .inl ⟨_, _, rfl, by simp⟩
    · refine .inr ⟨b, o, cap, by rw [hl], by omega, by omega, h6, fun i hi => ?_⟩
      rw [hl] at hi
      rw [h7 i (by omega), List.getElem_take]
theorem Texts.lenForm {w : World} {v : Value} {l : List ByteArray} (h : Texts w v l) : ∃ ao cap, v = .slice ao l.length cap := by
  obtain ⟨ao, cap, _, _, h1, _⟩ := h.form
  exact ⟨ao, cap, h1⟩
end Go.Proofs.Ytabdgocfbmcobaa
