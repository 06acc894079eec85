/- Own work: ref's Parse and label's Parse give the same. -/
import Derived.Test.YtajjikbigacbaaaDoorRefParse
import Derived.Test.YtajjikbigacbaaaDoorParseMath
import Derived.Test.YtajjikbigacbaaaDoorParseA
namespace Go.Proofs.YtajjikbigacbaaaDoor

/-- what label.Parse's contract says, as a pair -/
def LabP (s : ByteArray) (r : Nat × Int) : Prop := (s = dashB ∧ r = (0, 0)) ∨ (s ≠ dashB ∧ ∃ cs, Reads s cs ∧ r = (bitsA cs, 0)) ∨ (s ≠ dashB ∧ (¬ ∃ cs, Reads s cs) ∧ r = (0, 4))

/-- both say the same of each text -/
theorem lab_same (s : ByteArray) : LabP s (refP s) := by
  by_cases hd : s = dashB
  · exact .inl ⟨hd, by rw [refP, if_pos hd]⟩
  · by_cases hr : ∃ cs, Reads s cs
    · obtain ⟨cs, h⟩ := hr
      refine .inr (.inl ⟨hd, cs, h, ?_⟩)
      have hsz := reads_size h
      rw [refP, if_neg hd, if_neg (by omega), reads_scan h]
      simp only [ofE_of h.1.2, ofA_of h.1.2, text_bits h, and_self, if_true]
    · refine .inr (.inr ⟨hd, hr, ?_⟩)
      rw [refP, if_neg hd]
      split
      · rfl
      · split
        · rfl
        · rename_i l _
          rw [if_neg]
          rintro ⟨h1, h2⟩
          refine hr ⟨_, text_reads (fun e => ?_) (ofA_lt l) h2⟩
          rw [e] at h2
          exact hd h2.symm
end Go.Proofs.YtajjikbigacbaaaDoor
/- Plain law: a dash alone is no list of numbers. -/
namespace Go.Proofs.YtajjikbigacbaaaDoor
open Go.RowKit Go.Shelf Go.Sort

theorem dig_dash : ∀ c : Fin 64, (digB c).data.toList ≠ [45] := by decide +kernel
theorem reads_dash {cs : List Nat} (h : Reads dashB cs) : False := by
  have e : parts 43 dashB.data.toList = [[45]] := parts_last 43 [45] (fun k h => by
    match k, h with
    | 0, h => simp at h
    | k + 1, h => simp at h)
  rw [h.2] at e
  have hr := h.1
  clear h
  match cs, e with
  | c :: r, e =>
    have hc : c < 64 := hr.2 c (by simp)
    rw [List.map_cons] at e
    exact dig_dash ⟨c, hc⟩ (List.cons.inj e).1
end Go.Proofs.YtajjikbigacbaaaDoor
