/- Plain law: how long a label's text is. -/
import Derived.Test.YtajjikbigacbaaaGreatDoorParseMath
namespace Go.Proofs.YtajjikbigacbaaaGreatDoor
open Go.RowKit Num

theorem textB_size {a : Nat} (ha : a < 18446744073709551616) : 1 ≤ (textB a).size ∧ (textB a).size ≤ 200 := by
  by_cases h0 : a = 0
  · subst h0
    exact ⟨Nat.le_refl _, show 1 ≤ 200 by omega⟩
  · have h1 := reads_size (text_reads h0 ha rfl)
    refine ⟨?_, h1⟩
    rw [textB, if_neg h0]
    have h2 : (listN a) ≠ [] := fun e => h0 (by have := bits_listN ha; rw [e, bitsA_nil] at this; exact this.symm)
    cases hl : listN a with
    | nil => exact absurd hl h2
    | cons c r =>
      have hc : c < 64 := (listN_rise a).2 c (by rw [hl]; simp)
      rw [List.map_cons]
      have h3 : ∀ (r : List ByteArray) (s : ByteArray), s.size ≤ (r.foldl (fun s t => s ++ ⟨#[43]⟩ ++ t) s).size := by
        intro r
        induction r with
        | nil => intro s; exact Nat.le_refl _
        | cons z r ih =>
          intro s
          refine Nat.le_trans ?_ (ih _)
          rw [ByteArray.size_append, ByteArray.size_append]
          omega
      exact Nat.le_trans (digB_len (by omega)).1 (h3 _ _)
end Go.Proofs.YtajjikbigacbaaaGreatDoor
