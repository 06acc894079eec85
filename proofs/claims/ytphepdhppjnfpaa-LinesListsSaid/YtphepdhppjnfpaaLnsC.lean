import Derived.Test.YtphepdhppjnfpaaLnsB
import Derived.Laws.AppendOwnNone
namespace Go.Proofs.Ytphepdhppjnfpaa
open Go.RowKit

/-- the cells of the first k lines' texts -/
def tcells (a : List LineV) (k : Nat) : List Value := ((a.take k).map LineV.text).map Value.string
theorem tcells_succ (a : List LineV) (k : Nat) (h : k < a.length) : tcells a (k + 1) = tcells a k ++ [.string (a[k]'h).text] := by
  rw [tcells, List.take_succ_eq_append_getElem h, List.map_append, List.map_append]
  rfl

set_option maxRecDepth 100000 in
set_option maxHeartbeats 8000000 in
theorem refTexts_any (u : Value) (a : List LineV) (w : World) (hu : Lns w u a) (hlen : a.length ≤ 4398046511104) :
    Calls Try.prog 13 #[u] w fun e w' => ∃ v, e = .returned v ∧ w'.ownsRow w.heap.size 9 1 v a.length ((a.map LineV.text).map Value.string) ∧ Below w.heap.size w w' := by
  obtain ⟨ao, acap, ab, aof, rfl, hao, hma, hac⟩ := hu.form
  have Hao := Lib.hid hao
  have Hac := Lib.hid hac
  clear hu hao hac hma
  obtain ⟨n, hn⟩ : ∃ n, a.length = n := ⟨_, rfl⟩
  have Hn := Lib.hid hn
  rw [hn] at hlen ⊢
  clear hn
  obtain ⟨i0, hi, hz0, hz1, hz2⟩ := info_parts Try.info9
  go_enter Try.func13, Try.ntmps13
  go_wp2_with fail
  go_loopw [3, 4] (fun v i wr => ∃ k : Nat, k ≤ n ∧ i = .int .i64 k ∧ wr.ownsRow w.heap.size 9 1 v k (tcells a k) ∧ Below w.heap.size w wr) (fun _ i _ => n - (intOf i).toNat)
  case atStart => exact ⟨0, Nat.zero_le _, rfl, World.ownsRow_nil _ _ _ _, Below.refl _ _⟩
  case round =>
    obtain ⟨k, hk, rfl, hown, hbw⟩ := hrel
    by_cases hlt : k < n
    · have hka : k < a.length := by rw [Hn.out]; exact hlt
      obtain rfl := Hao.out (by omega)
      obtain ⟨_, _, _, c3⟩ := Hac.out k hka
      have c3 := cell_kept hbw c3
      have hi0 : (0 : Int) ≤ (k : Int) := by omega
      have hi1 : (k : Int) < (n : Int) := by omega
      have Htk := Lib.hid (tcells_succ a k hka)
      obtain ⟨x, hx⟩ : ∃ x, (a[k]'hka).text = x := ⟨_, rfl⟩
      have Hx := Lib.hid hx
      rw [hx] at c3
      have Hbw := Lib.hid hbw
      have Hown := Lib.hid hown
      clear hx hbw hown
      go_wp2_with (at_builtin; refine wpList_append_own _ rfl _ _ 31 rfl w.heap.size 9 i0 (.string ⟨#[]⟩) 1 16 Try.underlying31 hi hz0 hz1 hz2 rfl (by decide) _ _ _ rfl (Hown.out.alloc _) ⟨wr.heap.size, 0, none⟩ 1 1 [.string x] rfl rfl ?d1 ?d2 ?d3 ?d4 ?d5 ?_)
      case d2 => rfl
      case d3 => unfold maxLen; omega
      case d4 => omega
      case d5 => exact Nat.le_trans Hbw.out.size (by simp)
      intro v' w1 hown1 hgrow _
      have Hb1 := Lib.hid ((Hbw.out.alloc Hbw.out.size _).grown hgrow (Nat.le_trans Hbw.out.size (by simp)) (fun q hq => (Hown.out.lt q hq).1))
      have hown2 : w1.ownsRow w.heap.size 9 1 v' (k + 1) (tcells a (k + 1)) := by
        rw [Htk.out, Hx.out]
        exact hown1
      have Hown2 := Lib.hid hown2
      clear hown1 hown2 hgrow
      go_wp2_with fail
      go_roundw
      case rel => exact ⟨k + 1, by omega, by go_num, Hown2.out, Hb1.out⟩
      case measure => simp [intOf]; omega
    · have hall : a.take k = a := List.take_of_length_le (by rw [Hn.out]; omega)
      obtain rfl : k = n := by omega
      rw [tcells, hall] at hown
      have Hown := Lib.hid hown
      clear hown
      go_wp2_with fail
      go_ret
      exact ⟨_, rfl, Hown.out, hbw⟩


theorem Try.info25 : (Try.prog.info? 25).map (fun i => (i.zero, i.size, i.bytes)) = some (some (.agg #[.int .u64 0, .int .i64 0, .int .i64 0, .string ⟨#[]⟩]), 4, 40) := by kernel_rfl

/-- all cells of a list of lines -/
def flatL (ls : List LineV) : List Value := ls.flatMap LineV.cells
theorem flatL_len : ∀ (ls : List LineV), (flatL ls).length = ls.length * 4
  | [] => rfl
  | l :: ls => by
    have e : flatL (l :: ls) = l.cells ++ flatL ls := rfl
    rw [e, List.length_append, flatL_len ls]
    simp [LineV.cells]
    omega
theorem flatL_get : ∀ (ls : List LineV) (i : Nat) (h : i < ls.length), (flatL ls)[i * 4]? = some (.int .u64 (ls[i]'h).lab) ∧ (flatL ls)[i * 4 + 1]? = some (.int .i64 (ls[i]'h).num) ∧
    (flatL ls)[i * 4 + 2]? = some (.int .i64 (ls[i]'h).rev) ∧ (flatL ls)[i * 4 + 3]? = some (.string (ls[i]'h).text)
  | [], _, h => absurd h (by simp)
  | l :: ls, 0, _ => ⟨rfl, rfl, rfl, rfl⟩
  | l :: ls, i + 1, h => by
    have ih := flatL_get ls i (by simpa using h)
    have e : flatL (l :: ls) = l.cells ++ flatL ls := rfl
    have hl : l.cells.length = 4 := rfl
    rw [e]
    refine ⟨?_, ?_, ?_, ?_⟩
    · rw [List.getElem?_append_right (by omega), hl, show (i + 1) * 4 - 4 = i * 4 by omega]; exact ih.1
    · rw [List.getElem?_append_right (by omega), hl, show (i + 1) * 4 + 1 - 4 = i * 4 + 1 by omega]; exact ih.2.1
    · rw [List.getElem?_append_right (by omega), hl, show (i + 1) * 4 + 2 - 4 = i * 4 + 2 by omega]; exact ih.2.2.1
    · rw [List.getElem?_append_right (by omega), hl, show (i + 1) * 4 + 3 - 4 = i * 4 + 3 by omega]; exact ih.2.2.2
theorem Lns.of_own {w : World} {base : Nat} {e : TypeId} {v : Value} {ls : List LineV} (h : w.ownsRow base e 4 v ls.length (flatL ls)) : Lns w v ls := by
  by_cases h0 : 0 < ls.length
  · obtain ⟨g, cap, rfl⟩ := Joins.ownsRow_form h h0
    rcases h.2 with ⟨_, hz⟩ | ⟨g', cap', cur, hv, _, _, hnc, hcm, _, _⟩
    · omega
    · cases hv
      refine .inr ⟨g, 0, cap, rfl, h0, hnc, hcm, fun i hi => ?_⟩
      obtain ⟨f0, f1, f2, f3⟩ := flatL_get ls i hi
      simp only [Nat.zero_add]
      exact ⟨(h.cellAt _ (by omega)).trans f0, (h.cellAt _ (by omega)).trans f1, (h.cellAt _ (by omega)).trans f2, (h.cellAt _ (by omega)).trans f3⟩
  · have hz : ls = [] := List.eq_nil_of_length_eq_zero (by omega)
    subst hz
    rcases Joins.ownsRow_forms h with ⟨hv, _⟩ | ⟨g, cap, hv⟩
    · exact .inl ⟨_, _, hv, rfl⟩
    · exact .inl ⟨_, _, hv, rfl⟩
/-- a slice's outer form: nil, or some row's -/
def SliceForm (v : Value) : Prop := v = .slice none 0 0 ∨ ∃ a n cap, v = .slice (some a) n cap
theorem SliceForm.of_own {w : World} {base : Nat} {e : TypeId} {size n : Nat} {v : Value} {xs : List Value} (h : w.ownsRow base e size v n xs) : SliceForm v := by
  rcases Joins.ownsRow_forms h with ⟨hv, _⟩ | ⟨g, cap, hv⟩
  · exact .inl hv
  · exact .inr ⟨_, _, _, hv⟩

theorem addr_add (b o j : Nat) : (⟨b, o, none⟩ : Addr).add j = ⟨b, o + j, none⟩ := by by_cases h : j = 0 <;> simp [Addr.add, h]

/-- append(v, x...), v a row of the call's own, x any slice of lines -/
theorem wpList_append_lines {w : World} {ops : Array Oper} {rest : List Oper} {o : Oper} {a : Act} {Q : Exit → Act → World → Prop} (hgd : o.guard = none) (s x : Operand)
    (ho : o.op = .call { callee := .builtin .append, args := #[s, x], argTypes := #[30, 30] })
    (base : Nat) (v : Value) (n : Nat) (xs : List Value) (hs : a.eval s = v) (hown : w.ownsRow base 25 4 v n xs)
    (u : Value) (l : List LineV) (hx : a.eval x = u) (hu : Lns w u l) (hf : SliceForm u)
    (hn : (n + l.length) * 40 ≤ 140737488355328) (hbase : base ≤ w.heap.size)
    (h : ∀ v' w', w'.ownsRow base 25 4 v' (n + l.length) (xs ++ flatL l) → w.grownBy w' v.ownBlock → wpList Try.prog ops Q rest (a.put o.dst v') w') : wpList Try.prog ops Q (o :: rest) a w := by
  obtain ⟨i0, hi, hz0, hz1, hz2⟩ := info_parts Try.info25
  rcases hf with rfl | ⟨ad, m, cap, rfl⟩
  · have hl : l = [] := by
      rcases hu with ⟨_, _, _, h2⟩ | ⟨_, _, _, h1, _⟩
      · exact h2
      · cases h1
    subst hl
    refine wpList_append_own_none hgd s x 30 ho base 25 i0 4 Try.underlying30 hi v n xs hs hown hx ?_
    exact h v w (by simpa [flatL] using hown) ⟨rfl, rfl, rfl, Nat.le_refl _, fun _ _ _ => rfl⟩
  · have hm : m = l.length := by
      rcases hu with ⟨_, _, h1, h2⟩ | ⟨_, _, _, h1, _⟩
      · cases h1; rw [h2]; rfl
      · cases h1; rfl
    subst hm
    refine wpList_append_own _ hgd s x 30 ho base 25 i0 _ 4 40 Try.underlying30 hi hz0 hz1 hz2 rfl (by decide) v n xs hs hown ad l.length cap (flatL l) hx (flatL_len l) ?_ ?_ (by unfold maxLen; omega) hn hbase ?_
    · intro j y hy
      have hj : j < l.length * 4 := by rw [← flatL_len l]; exact (List.getElem?_eq_some_iff.1 hy).1
      rcases hu with ⟨_, _, _, h2⟩ | ⟨b, o', _, h1, _, _, _, h5⟩
      · subst h2; simp at hj
      · cases h1
        rw [addr_add]
        obtain ⟨q, r, hr, rfl⟩ : ∃ q r, r < 4 ∧ j = q * 4 + r := ⟨j / 4, j % 4, by omega, by omega⟩
        have hq : q < l.length := by omega
        obtain ⟨c0, c1, c2, c3⟩ := h5 q hq
        obtain ⟨f0, f1, f2, f3⟩ := flatL_get l q hq
        match r, hr with
        | 0, _ => rw [Nat.add_zero] at hy ⊢; rw [f0] at hy; cases hy; exact c0
        | 1, _ => rw [f1] at hy; cases hy; rw [← Nat.add_assoc]; exact c1
        | 2, _ => rw [f2] at hy; cases hy; rw [← Nat.add_assoc]; exact c2
        | 3, _ => rw [f3] at hy; cases hy; rw [← Nat.add_assoc]; exact c3
    · intro y hy
      obtain ⟨z, _, hz⟩ := List.mem_flatMap.1 hy
      simp [LineV.cells] at hz
      rcases hz with rfl | rfl | rfl | rfl <;> rfl
    · intro v' w' h1 h2 _
      exact h v' w' h1 h2
theorem oneB_refl (a : LineV) : oneB a a = true := by simp [oneB]
theorem sameL_refl : ∀ (a : List LineV), sameL a a = true
  | [] => rfl
  | x :: r => by rw [sameL, oneB_refl, Bool.true_and]; exact sameL_refl r
end Go.Proofs.Ytphepdhppjnfpaa
