/- Own work: texts copied into a row at a place. -/
import Derived.Test.YtabdgocfbmcobaaTextMem
import Derived.Laws.CopyOwn
import Derived.Deep.RegionHeld3
namespace Go.Proofs.Ytabdgocfbmcobaa
open Go.RowKit

theorem grown_setRow (w : World) (g : Nat) (c : Array Value) : w.grownBy (w.setRow g c) (some g) := by
  refine ⟨rfl, rfl, rfl, ?_, fun k hk hne => ?_⟩
  · simp [World.setRow]
  · have : g ≠ k := fun e => hne (by rw [e])
    simp [World.setRow, Array.getElem?_modify, this]
/-- a row of texts, whole -/
def RowT (w : World) (g : Nat) (X : List ByteArray) : Prop := w.heap[g]? = some (.cells (X.map Value.string).toArray 9 (0, 0))
def putL (X : List ByteArray) (p : Nat) (l : List ByteArray) : List ByteArray := X.take p ++ l ++ X.drop (p + l.length)
theorem putL_len {X l : List ByteArray} {p : Nat} (h : p + l.length ≤ X.length) : (putL X p l).length = X.length := by
  simp only [putL, List.length_append, List.length_take, List.length_drop]
  omega
theorem putL_take {X l : List ByteArray} {p : Nat} (h : p + l.length ≤ X.length) : (putL X p l).take (p + l.length) = X.take p ++ l := by
  unfold putL
  rw [List.take_append_of_le_length (by simp; omega), List.take_of_length_le (by simp; omega)]

theorem step_copy_texts {w : World} {ops : Array Oper} {o : Oper} {a : Act} {K : Act → World → Prop} {Q : Exit → Act → World → Prop} {E : Prop} (hgd : o.guard = none) (d s : Operand)
    (ho : o.op = .call { callee := .builtin .copy, args := #[d, s], argTypes := #[23, 23] })
    (g p N : Nat) (hd : a.eval d = subV (some ⟨g, 0, none⟩) N p N) (u : Value) (l : List ByteArray) (hs : a.eval s = u) (hu : Texts w u l)
    (X : List ByteArray) (hX : X.length = N) (hrow : RowT w g X) (hfit : p + l.length ≤ N)
    (h : ∀ w', RowT w' g (putL X p l) → w.grownBy w' (some g) → K (a.put o.dst (.int .i64 (l.length : Int))) w') :
    if Region.wanted o (yielded ops a.tmps) = true then Oper.wp Try.prog o a w K Q else E := by
  have hw : Region.wanted o (yielded ops a.tmps) = true := by simp [Region.wanted, hgd]
  rw [if_pos hw]
  have hsz : (Try.prog.info? 9).map (·.size) = some 1 := by kernel_rfl
  obtain ⟨ua, uc, ue⟩ := hu.lenForm
  by_cases h0 : l.length = 0
  · have hl := List.eq_nil_of_length_eq_zero h0
    subst hl
    have hrun := run_copy_none (P := Try.prog) w 23 23 o.type 9 (if N = p then some ⟨g, 0, none⟩ else (some (⟨g, 0, none⟩ : Addr)).map (·.add p)) ua (N - p) (N - p) 0 uc Try.underlying23 hsz (by simp)
    have hs2 : a.eval s = .slice ua 0 uc := by rw [hs, ue]; rfl
    have hd2 : a.eval d = .slice (if N = p then some ⟨g, 0, none⟩ else (some (⟨g, 0, none⟩ : Addr)).map (·.add p)) (N - p) (N - p) := hd
    unfold Oper.wp execOp
    simp only [ho, resolve, invoke, builtin, Sem.run_bind, Sem.run_pure, Result.andThen_ok, List.map_toArray, List.map_cons, List.map_nil, hs2, hd2, hrun]
    exact h w (by show RowT _ _ _; simpa [putL] using hrow) ⟨rfl, rfl, rfl, Nat.le_refl _, fun _ _ _ => rfl⟩
  · rcases hu with ⟨_, _, _, rfl⟩ | ⟨b, off, cap, hv, hpos, hcl, hcm, hcell⟩
    · exact absurd rfl h0
    · have hd2 : a.eval d = .slice (some ⟨g, p, none⟩) (N - p) (N - p) := by
        rw [hd, subV, if_neg (by omega)]
        simp [addr_add]
      have hs2 : a.eval s = .slice (some ⟨b, off, none⟩) l.length cap := by rw [hs, hv]
      have hrun := run_copy_row (P := Try.prog) w 23 23 o.type 9 g p (N - p) (N - p) ⟨b, off, none⟩ l.length cap (X.map Value.string).toArray 9 (l.map Value.string) Try.underlying23 hsz hrow
        (by rw [List.length_map]; exact (Nat.min_eq_left (by omega : l.length ≤ N - p)).symm) (fun j v hj => by
          rw [List.getElem?_map, Option.map_eq_some_iff] at hj
          obtain ⟨z, hz, rfl⟩ := hj
          obtain ⟨hj, hz2⟩ := List.getElem?_eq_some_iff.1 hz
          rw [addr_add, ← hz2]
          exact hcell j hj) (by simp; omega) (fun v hv => by
          obtain ⟨z, _, rfl⟩ := List.mem_map.1 hv
          rfl)
      unfold Oper.wp execOp
      simp only [ho, resolve, invoke, builtin, Sem.run_bind, Sem.run_pure, Result.andThen_ok, List.map_toArray, List.map_cons, List.map_nil, hs2, hd2, hrun]
      have hlen : (l.map Value.string).length = l.length := by simp
      rw [hlen]
      refine h _ ?_ (grown_setRow _ _ _)
      unfold RowT
      rw [setRow_heap w g _ _ _ _ hrow]
      congr 2
      simp [putL]
end Go.Proofs.Ytabdgocfbmcobaa
