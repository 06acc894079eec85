/- Own work: in a region that draws its order: texts copied behind an empty list; a hunk put behind others. -/
import Derived.Test.YtabdgocfbmcobaaHunkMem
import Derived.Deep.AppendLies
import Derived.Deep.RegionHeld3
import Derived.Laws.OwnMore
namespace Go.Proofs.Ytabdgocfbmcobaa
open Go.RowKit

/-- an empty row of texts -/
def EmptyAt (w : World) (H : Nat) : Prop := w.heap[H]? = some (.cells #[] 9 (0, 0))
theorem EmptyAt.new {w : World} {H : Nat} (h : w.heap.size = H) : EmptyAt (w.alloc (.cells #[] 9)) H := by subst h; exact heap_alloc_new w _
theorem EmptyAt.alloc {w : World} {H : Nat} (h : EmptyAt w H) (o : Obj) : EmptyAt (w.alloc o) H := (heap_alloc_old w o (lt_of_block h)).trans h
theorem EmptyAt.drew {w : World} {H : Nat} (h : EmptyAt w H) : EmptyAt w.drew H := h
theorem EmptyAt.grown {w w' : World} {H H' : Nat} (h : EmptyAt w H) (hg : w.grownBy w' (some H')) (hne : H' ≠ H) : EmptyAt w' H := (hg.block H (lt_of_block h) (fun e => hne (Option.some.inj e).symm)).trans h
theorem OwnT.alloc {w : World} {B : Nat} {v : Value} {l : List ByteArray} (h : OwnT w B v l) (o : Obj) : OwnT (w.alloc o) B v l := World.ownsRow.alloc h o
theorem OwnT.drew {w : World} {B : Nat} {v : Value} {l : List ByteArray} (h : OwnT w B v l) : OwnT w.drew B v l := h
theorem OwnT.grown {w w' : World} {B g n cap H' : Nat} {l : List ByteArray} (h : OwnT w B (.slice (some ⟨g, 0, none⟩) n cap) l) (hg : w.grownBy w' (some H')) (hne : H' ≠ g) : OwnT w' B (.slice (some ⟨g, 0, none⟩) n cap) l := by
  refine own_grown h hg ?_
  intro k hk e
  have a : g = k := Option.some.inj hk
  have b : H' = k := Option.some.inj e
  omega

theorem OwnT.base {w : World} {B B' : Nat} {v : Value} {l : List ByteArray} (h : OwnT w B v l) (hb : B' ≤ B) : OwnT w B' v l := own_base h hb
theorem step_copy_lot {w0 w : World} {ops : Array Oper} {o : Oper} {a : Act} {K : Act → World → Prop} {Q : Exit → Act → World → Prop} {E : Prop} (hgd : o.guard = none) (s x : Operand)
    (ho : o.op = .call { callee := .builtin .append, args := #[s, x], argTypes := #[23, 23] })
    (Hb : Nat) (hs : a.eval s = .slice (some ⟨Hb, 0, none⟩) 0 0) (u : Value) (l : List ByteArray) (hx : a.eval x = u) (hu : Texts w0 u l) (hf : SliceForm u)
    (hn : l.length * 16 ≤ 140737488355328) (hge : w0.heap.size ≤ Hb) (hemp : EmptyAt w Hb) (hB : Below w0.heap.size w0 w)
    (h : ∀ g cap w', OwnT w' w0.heap.size (.slice (some ⟨g, 0, none⟩) l.length cap) l → w.grownBy w' (some Hb) → Below w0.heap.size w0 w' → (Hb = g ∨ w.heap.size ≤ g) → g < w'.heap.size → K (a.put o.dst (.slice (some ⟨g, 0, none⟩) l.length cap)) w') :
    if Region.wanted o (yielded ops a.tmps) = true then Oper.wp Try.prog o a w K Q else E := by
  have hw : Region.wanted o (yielded ops a.tmps) = true := by simp [Region.wanted, hgd]
  rw [if_pos hw]
  obtain ⟨i0, hi, hz0, hz1, hz2⟩ := info_parts Try.info9
  have hown : w.ownsRow w0.heap.size 9 1 (.slice (some ⟨Hb, 0, none⟩) 0 0) 0 [] := ⟨rfl, .inr ⟨Hb, 0, #[], rfl, hge, hemp, Nat.le_refl _, Nat.zero_le _, rfl, rfl⟩⟩
  have hu := hu.kept hB
  rcases hf with rfl | ⟨ad, m, cap, rfl⟩
  · have hl : l = [] := by
      rcases hu with ⟨_, _, _, h2⟩ | ⟨_, _, _, h1, _⟩
      · exact h2
      · cases h1
    subst hl
    have hrun := run_append_owned_none (P := Try.prog) (w := w) w0.heap.size 23 o.type 9 i0 1 Try.underlying23 hi _ 0 [] hown
    unfold Oper.wp execOp
    simp only [ho, resolve, invoke, builtin, Sem.run_bind, Sem.run_pure, Result.andThen_ok, List.map_toArray, List.map_cons, List.map_nil, hs, hx, hrun]
    exact h Hb 0 w hown ⟨rfl, rfl, rfl, Nat.le_refl _, fun _ _ _ => rfl⟩ hB (.inl rfl) (lt_of_block hemp)
  · have hm : m = l.length := by
      rcases hu with ⟨_, _, h1, h2⟩ | ⟨_, _, _, h1, _⟩
      · cases h1; rw [h2]; rfl
      · cases h1; rfl
    subst hm
    obtain ⟨v', w', hr, h2, h3, _, h5⟩ := run_append_own_at (P := Try.prog) w w0.heap.size 23 o.type 9 i0 (.string ⟨#[]⟩) 1 16 Try.underlying23 hi hz0 hz1 hz2 rfl (by decide) _ 0 [] hown ad l.length cap (l.map Value.string) (by simp) (by
      intro j y hy
      rw [List.getElem?_map, Option.map_eq_some_iff] at hy
      obtain ⟨z, hz, rfl⟩ := hy
      obtain ⟨hj, hz2⟩ := List.getElem?_eq_some_iff.1 hz
      rcases hu with ⟨_, _, _, h2⟩ | ⟨b, o', _, h1, _, _, _, h5⟩
      · subst h2; simp at hj
      · cases h1
        rw [← hz2, addr_add]
        exact h5 j hj) (by
      intro y hy
      obtain ⟨z, _, rfl⟩ := List.mem_map.1 hy
      rfl) (by unfold maxLen; omega) (by omega) hB.size
    unfold Oper.wp execOp
    simp only [ho, resolve, invoke, builtin, Sem.run_bind, Sem.run_pure, Result.andThen_ok, List.map_toArray, List.map_cons, List.map_nil, hs, hx, hr]
    have hform : ∃ g cap', v' = .slice (some ⟨g, 0, none⟩) l.length cap' := by
      rcases Joins.ownsRow_forms h2 with ⟨h6, h7⟩ | ⟨g, cap', h6⟩
      · rw [h6] at h5
        rcases h5 with h5 | h5 <;> cases h5
      · exact ⟨g, cap', by rw [h6, Nat.zero_add]⟩
    obtain ⟨g, cap', rfl⟩ := hform
    rw [Nat.zero_add, List.nil_append] at h2
    have hg : w.grownBy w' (some Hb) := h3
    refine h g cap' w' h2 hg (hB.grown hg hB.size (fun q hq => by cases hq; exact hge)) ?_ (h2.lt g rfl).2
    rcases h5 with h5 | h5
    · exact .inl (Option.some.inj h5).symm
    · exact .inr (Nat.le_of_eq (Option.some.inj h5).symm)

/-- append(v, api.Hunk{..}) -/
theorem step_append_hk {w0 : World} {ops : Array Oper} {o : Oper} {a : Act} {K : Act → World → Prop} {Q : Exit → Act → World → Prop} {E : Prop} (hgd : o.guard = none) (s x : Operand)
    (ho : o.op = .call { callee := .builtin .append, args := #[s, x], argTypes := #[22, 22] })
    (base : Nat) (v : Value) (hs : List HunkV) (mm : HunkV) (hsv : a.eval s = v) (hown : OwnK w0 base v hs) (hmo : OwnT w0 base mm.ov mm.old) (hmn : OwnT w0 base mm.nv mm.new) (t : TypeId) (H : Nat) (hH : w0.heap.size = H)
    (hx : a.eval x = .slice (some ⟨H, 0, none⟩) 1 1)
    (hn : (hs.length + 1) * 56 ≤ 140737488355328) (hbase : base ≤ w0.heap.size)
    (h : ∀ v' w', OwnK w' base v' (hs ++ [mm]) → Below base w0 w' → K (a.put o.dst v') w') :
    if Region.wanted o (yielded ops a.tmps) = true then Oper.wp Try.prog o a (w0.alloc (.cells #[.int .i64 mm.at_, mm.ov, mm.nv] t)) K Q else E := by
  subst hH
  obtain ⟨i0, hi, hz0, hz1, hz2⟩ := info_parts Try.info43
  have hal : Below w0.heap.size w0 (w0.alloc (.cells #[.int .i64 mm.at_, mm.ov, mm.nv] t)) := (Below.refl _ _).alloc (Nat.le_refl _) _
  refine step_append_lies _ hgd s x 22 ho base 43 i0 _ 3 56 Try.underlying22 hi hz0 hz1 hz2 rfl (by decide) v hs.length (flatK hs) hsv (hown.1.alloc _) ⟨w0.heap.size, 0, none⟩ 1 1 mm.cells hx rfl (news_hunk w0 mm t) ?_ (by decide) (by unfold maxLen; omega) hn (by simp; omega) (w0.heap.size + 1) (by simp) ?_
  · intro y hy
    simp [HunkV.cells] at hy
    rcases hy with rfl | rfl | rfl
    · rfl
    · exact form_one hmo.form
    · exact form_one hmn.form
  · intro g cap w' h1 h2 h3 _
    refine h _ w' ⟨?_, ?_⟩ (((Below.refl base w0).alloc hbase _).grown h2 (by simp; omega) (fun q hq => (hown.1.lt q hq).1))
    · rw [flatK_append, flatK_one, List.length_append]
      exact h1
    · intro y hy
      rcases List.mem_append.1 hy with hy | hy
      · exact ⟨((hown.2 y hy).1.below hal).besideK (own_kept hown.1 hal) h2, ((hown.2 y hy).2.below hal).besideK (own_kept hown.1 hal) h2⟩
      · obtain rfl : y = mm := by simpa using hy
        exact ⟨(hmo.below hal).besideK (own_kept hown.1 hal) h2, (hmn.below hal).besideK (own_kept hown.1 hal) h2⟩
end Go.Proofs.Ytabdgocfbmcobaa
