import Derived.Test.YtphepdhppjnfpaaDoorInv
import Derived.SliceStrings
namespace Go.Proofs.YtphepdhppjnfpaaDoor
open Go.RowKit Num Go.ChangeShapes Go.WideShapes

theorem uptoAll_append {H : Type} (l r : List (DataW H)) : Rows.uptoBulkAll (l ++ r) = Rows.uptoBulkAll l + Rows.uptoBulkAll r := by
  induction l with
  | nil => simp [Rows.uptoBulkAll]
  | cons x l ih => rw [List.cons_append, Rows.uptoBulkAll, Rows.uptoBulkAll, ih, Nat.add_assoc]
theorem upto_strs {H : Type} (ss : List ByteArray) : Rows.uptoBulkAll (strs ss : List (DataW H)) = joinN ss := by
  induction ss with
  | nil => rfl
  | cons s ss ih =>
    have e : (strs (s :: ss) : List (DataW H)) = .lit (.string s.data.toList) :: strs ss := rfl
    rw [e, Rows.uptoBulkAll, ih, joinN, joinN, List.map_cons, joinL_cons, List.length_append, List.length_append, Rows.uptoBulk]
    rfl
theorem joinN_len (ss : List ByteArray) : ss.length ≤ joinN ss := by
  induction ss with
  | nil => exact Nat.zero_le _
  | cons s ss ih =>
    rw [joinN] at ih ⊢
    rw [List.map_cons, joinL_cons, List.length_append, List.length_append]
    simp
    omega

theorem addr_add (b o j : Nat) : (⟨b, o, none⟩ : Addr).add j = ⟨b, o + j, none⟩ := by by_cases h : j = 0 <;> simp [Addr.add, h]

/-- a slice of strings that came in -/
theorem open_texts {H : Type} {enc : TypeId × Value → H} {W : World} {r : Reach} {b0 : Nat} {v : Value} {d : DataW H} {p : List MemPlace}
    (k : Value.okWide Tryd.prog W r b0 31 v) (h : DataW.Trod enc Tryd.prog W 0 (fun _ => true) true 31 v d p) :
    ∃ ss : List ByteArray, Texts W v ss ∧ SliceForm v ∧ joinN ss ≤ Rows.uptoBulk d ∧ ∀ s ∈ ss, s.size ≤ maxLen := by
  obtain ⟨a0, len, cap, rfl⟩ := okWide_slice Tryd.underlying31 k
  obtain ⟨fuel, hf⟩ := h
  rcases open_strings Tryd.underlying31 Tryd.underlying9 (by kernel_rfl) hf with ⟨hcs, hx⟩ | ⟨a, len', cap', ss, hcs, _, hl, hm, hz, hx, hcell, hsz⟩
  · simp [Value.cells] at hcs
    obtain ⟨rfl, rfl, rfl⟩ := hcs
    exact ⟨[], .inl ⟨_, _, rfl, rfl⟩, .inl rfl, by simp [joinN, joinL], by simp⟩
  · simp [Value.cells] at hcs
    obtain ⟨rfl, rfl, rfl⟩ := hcs
    simp only [Prod.mk.injEq] at hx
    simp only [if_true] at hz
    refine ⟨ss.take len, ?_, .inr ⟨_, _, _, rfl⟩, ?_, fun s hs => hsz s (List.mem_of_mem_take hs)⟩
    · have htl : (ss.take len).length = len := by rw [List.length_take]; omega
      by_cases h0 : 0 < len
      · obtain ⟨b, off, spot⟩ := a
        have hspot : spot = none := by simpa [Addr.add] using World.cell?_spot (hcell 0 (by omega))
        subst hspot
        refine .inr ⟨b, off, cap, by rw [htl], by omega, by omega, hm, fun i hi => ?_⟩
        have := hcell i (by omega)
        rw [addr_add] at this
        rw [this, List.getElem_take, List.getD_eq_getElem?_getD, List.getElem?_eq_getElem (by omega)]
        rfl
      · obtain rfl : len = 0 := by omega
        exact .inl ⟨_, _, rfl, by simp⟩
    · rw [hx.1, Rows.uptoBulk, upto_strs]
      omega
end Go.Proofs.YtphepdhppjnfpaaDoor
