/- Own work: the maps of package ident: their keys, what they say. -/
import Derived.Test.YtajjikbigacbaaaDoorLnv
import Derived.Maps.Own
import Derived.Maps.OwnOps
import Derived.Maps.OwnSet
import Derived.Maps.Views
import Derived.Maps.Ext
import Derived.Maps.RangeWalk
import Derived.DeepKeys4
namespace Go.Proofs.YtajjikbigacbaaaDoor
open Go.RowKit Go.Maps

/-! ### identities -/
def LineV.id (l : LineV) : Int × Int := (l.lab, l.num)
def u64 (a : Int) : Prop := 0 ≤ a ∧ a < 18446744073709551616
def i64 (a : Int) : Prop := -9223372036854775808 ≤ a ∧ a < 9223372036854775808
def LineV.ok (l : LineV) : Prop := u64 l.lab ∧ i64 l.num ∧ i64 l.rev
theorem wf_u64 {a : Int} (h : u64 a) : (Lit.int .u64 a).wf = true := by
  simp [Lit.wf, IntKind.min, IntKind.max, IntKind.signed, IntKind.bits]; unfold u64 at h; omega
theorem wf_i64 {a : Int} (h : i64 a) : (Lit.int .i64 a).wf = true := by
  simp [Lit.wf, IntKind.min, IntKind.max, IntKind.signed, IntKind.bits]; unfold i64 at h; omega

/-! ### a map by label -/
theorem keyedL : Keyed Tryd.prog 23 := int_keyed Tryd.underlying23
theorem keyL {a : Int} (h : u64 a) : keyOf Tryd.prog 23 (.int .u64 a) = some (.int .u64 a) := keyOf_int_mk Tryd.underlying23 (wf_u64 h)
abbrev LMap (w : World) (mb n : Nat) (D : DataW Unit) : Prop := w.ownsMap Tryd.prog 23 (plainElem Tryd.prog 3) mb n D
theorem numElem {a : Int} (h : i64 a) : plainElem (H := Unit) Tryd.prog 3 (.int .i64 a) = some (.lit (.int .i64 a), []) := plainElem_int Tryd.underlying3 (wf_i64 h)
/-- the map's datum says f of each label -/
def Says (D : DataW Unit) (f : Int → Int) : Prop := ∀ a, u64 a → D.atKey (.int .u64 a) (.lit (.int .i64 0)) = .lit (.int .i64 (f a))
theorem says_none : Says (.map []) fun _ => 0 := fun _ _ => rfl
def upd (f : Int → Int) (a v : Int) : Int → Int := fun x => if x = a then v else f x
theorem Says.put {D : DataW Unit} {f : Int → Int} (h : Says D f) (hm : IsMap D) {a v : Int} : Says (D.put (.int .u64 a) (.lit (.int .i64 v))) (upd f a v) := by
  intro x hx
  unfold upd
  split
  · rename_i e
    subst e
    exact atKey_put_same hm (show WideAt.IsKeyLit (.int .u64 x) from trivial) _ _
  · rename_i e
    rw [atKey_put_other (fun h => e (by injection h))]
    exact h x hx
theorem num_at {c d : Int} (h : (DataW.lit (.int .i64 c) : DataW Unit) = .lit (.int .i64 d)) : d = c := by
  injection h with h; injection h with h1 h2; exact h2.symm
theorem lmap_kept {w w' : World} {mb n : Nat} {D : DataW Unit} (h : LMap w mb n D) (hb : Below w.heap.size w w') : LMap w' mb n D := by
  obtain ⟨es, clock, h1, h2⟩ := h
  exact ⟨es, clock, row_kept hb h1, h2⟩

/-! ### a set of identities -/
theorem laidOutP : laidOutB Tryd.prog = true := by kernel_rfl
theorem keyedI : Keyed Tryd.prog 65 :=
  Keyed.of_law (deep_law_laid laidOutP (m := 2) (by omega) (of_decide_eq_true (by kernel_rfl)) (by kernel_rfl) (by rw [Tryd.underlying65]))
theorem keyTypeI : Tryd.prog.keyType 65 = true := by kernel_rfl
theorem cellsI : Tryd.prog.cellsOf 65 = 2 := by kernel_rfl
theorem litsI {a n : Int} (ha : u64 a) (hn : i64 n) (d : Nat) : Tryd.prog.keyLits (d + 2) 65 [.int .u64 a, .int .i64 n] = some [.int .u64 a, .int .i64 n] := by
  have c1 : Tryd.prog.cellsOf 23 = 1 := by kernel_rfl
  have c2 : Tryd.prog.cellsOf 3 = 1 := by kernel_rfl
  simp [Program.keyLits, Tryd.underlying65, Tryd.underlying23, Tryd.underlying3, cellsI, c1, c2, wf_u64 ha, wf_i64 hn]
def idKey (x : Int × Int) : Lit := .string (keyBytes [.int .u64 x.1, .int .i64 x.2])
theorem keyI {a n : Int} (ha : u64 a) (hn : i64 n) : keyOf Tryd.prog 65 (.agg #[.int .u64 a, .int .i64 n]) = some (idKey (a, n)) := by
  obtain ⟨d, hd⟩ : ∃ d, Tryd.prog.types.size + 1 = d + 2 := by
    have : (0 : Nat) < Tryd.prog.types.size := of_decide_eq_true (by kernel_rfl)
    exact ⟨Tryd.prog.types.size - 1, by omega⟩
  have hf : (Value.agg #[.int .u64 a, .int .i64 n]).formed Tryd.prog 65 = true := by simp [Value.formed, Tryd.underlying65, cellsI]
  simp only [keyOf, Tryd.underlying65, keyTypeI, hf, Bool.and_self, if_true, hd]
  rw [show (Value.agg #[.int .u64 a, .int .i64 n]).cells.toList = [.int .u64 a, .int .i64 n] from rfl, litsI ha hn]
  rfl
theorem idKey_inj {a n b m : Int} (ha : u64 a) (hn : i64 n) (hb : u64 b) (hm : i64 m) (h : idKey (a, n) = idKey (b, m)) : (a, n) = (b, m) := by
  have e := keyedI.inj (keyI ha hn) (h ▸ keyI hb hm)
  simp only [Value.agg.injEq, Array.mk.injEq, List.cons.injEq, Value.int.injEq, true_and, and_true] at e
  rw [e.1, e.2]
abbrev ISet (w : World) (mb n : Nat) (D : DataW Unit) : Prop := w.ownsMap Tryd.prog 65 unitElem mb n D
/-- the map's datum has these identities, and no other one -/
def Has (D : DataW Unit) (s : List (Int × Int)) : Prop := ∀ a n, u64 a → i64 n → Maps.has D (idKey (a, n)) = s.contains (a, n)
theorem has_none : Has (.map []) [] := fun _ _ _ _ => rfl
theorem Has.put {D : DataW Unit} {s : List (Int × Int)} (h : Has D s) (hm : IsMap D) {a n : Int} (ha : u64 a) (hn : i64 n) (d : DataW Unit) : Has (D.put (idKey (a, n)) d) (s ++ [(a, n)]) := by
  intro b m hb hm'
  by_cases e : (b, m) = (a, n)
  · rw [e, has_put_same hm (show WideAt.IsKeyLit (idKey (a, n)) from trivial)]
    simp
  · rw [has_put_other (fun h => e (idKey_inj hb hm' ha hn h)), h b m hb hm']
    simp [e]
theorem iset_kept {w w' : World} {mb n : Nat} {D : DataW Unit} (h : ISet w mb n D) (hb : Below w.heap.size w w') : ISet w' mb n D := by
  obtain ⟨es, clock, h1, h2⟩ := h
  exact ⟨es, clock, row_kept hb h1, h2⟩
end Go.Proofs.YtajjikbigacbaaaDoor
