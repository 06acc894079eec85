import Derived.Test.YtabdgocfbmcobaaBase
import Derived.Lib.SmallJoins
import Derived.Deep.Draws
namespace Go.Proofs.Ytabdgocfbmcobaa
open Go.RowKit

/-- v is a slice that holds these texts -/
def Texts (w : World) (v : Value) (ss : List ByteArray) : Prop :=
  (∃ ao cap, v = .slice ao 0 cap ∧ ss = []) ∨
  ∃ b o cap, v = .slice (some ⟨b, o, none⟩) ss.length cap ∧ 0 < ss.length ∧ ss.length ≤ cap ∧ cap ≤ maxLen ∧ ∀ (i : Nat) (h : i < ss.length), w.cell? ⟨b, o + i, none⟩ = some (.string (ss[i]'h))

theorem Texts.form {w : World} {v : Value} {ss : List ByteArray} (h : Texts w v ss) : ∃ ao cap b o, v = .slice ao ss.length cap ∧ (0 < ss.length → ao = some ⟨b, o, none⟩) ∧ ss.length ≤ maxLen ∧ ∀ (i : Nat) (h : i < ss.length), w.cell? ⟨b, o + i, none⟩ = some (.string (ss[i]'h)) := by
  rcases h with ⟨ao, cap, h1, rfl⟩ | ⟨b, o, cap, h1, _, h3, h4, h5⟩
  · exact ⟨ao, cap, 0, 0, h1, fun h => absurd h (by simp), Nat.zero_le _, fun i h => absurd h (by simp)⟩
  · exact ⟨_, cap, b, o, h1, fun _ => rfl, Nat.le_trans h3 h4, h5⟩
theorem Texts.kept {w w' : World} {v : Value} {ss : List ByteArray} (h : Texts w v ss) (hb : Below w.heap.size w w') : Texts w' v ss := by
  rcases h with h | ⟨b, o, cap, h1, h2, h3, h4, h5⟩
  · exact .inl h
  · exact .inr ⟨b, o, cap, h1, h2, h3, h4, fun i hi => cell_kept hb (h5 i hi)⟩
theorem Texts.of_own {w : World} {base : Nat} {e : TypeId} {v : Value} {n : Nat} {ss : List ByteArray} (h : w.ownsRow base e 1 v n (ss.map Value.string)) : Texts w v ss := by
  have hn : ss.length = n := by have := h.1; simpa using this
  by_cases h0 : 0 < n
  · obtain ⟨g, cap, rfl⟩ := Joins.ownsRow_form h h0
    rcases h.2 with ⟨_, hz⟩ | ⟨g', cap', cur, hv, _, _, hnc, hcm, _, _⟩
    · omega
    · cases hv
      refine .inr ⟨g, 0, cap, by rw [hn], by omega, by omega, hcm, fun i hi => ?_⟩
      rw [Nat.zero_add, h.cellAt i (by omega)]
      rw [List.getElem?_map, List.getElem?_eq_getElem hi]
      rfl
  · have hz : ss = [] := List.eq_nil_of_length_eq_zero (by omega)
    rcases Joins.ownsRow_forms h with ⟨hv, _⟩ | ⟨g, cap, hv⟩
    · exact .inl ⟨_, _, hv, hz⟩
    · obtain rfl : n = 0 := by omega
      exact .inl ⟨_, _, hv, hz⟩

theorem bytes_eq {a b : ByteArray} : (a.toList == b.toList) = decide (a = b) := by
  rw [Lib.toList_data, Lib.toList_data, Bool.eq_iff_iff, beq_iff_eq, decide_eq_true_eq]
  constructor
  · intro h
    exact ByteArray.ext (Array.toList_inj.1 h)
  · intro h; rw [h]


end Go.Proofs.Ytabdgocfbmcobaa
