/- Own work: slices of labels. -/
import Derived.Test.YtgodmfjcccakbaaDoorHiB
import Derived.Test.YtgodmfjcccakbaaDoorOpenNums
import Derived.Maps.AppendAt
namespace Go.Proofs.YtgodmfjcccakbaaDoor
open Go.RowKit Go.Shelf Go.Sort

theorem Labs.at {w : World} {v : Value} {ls : List L64} (hl : Labs w v ls) : ∃ ao cap b o, v = .slice ao ls.length cap ∧ (0 < ls.length → ao = some ⟨b, o, none⟩) ∧ ls.length ≤ maxLen ∧
    ∀ i : Nat, i < ls.length → w.cell? ⟨b, o + i, none⟩ = some (.int .u64 ((atL ls i : Nat) : Int)) := by
  obtain ⟨ao, cap, b, o, h1, h2, h3, h4⟩ := Vec.form hl
  have hvl : (valsL ls).length = ls.length := by simp [valsL]
  rw [hvl] at h1 h2 h3
  refine ⟨ao, cap, b, o, h1, h2, h3, fun i hi => ?_⟩
  rw [h4 i (by rw [hvl]; exact hi)]
  rw [atL, List.getD_eq_getElem?_getD, List.getElem?_eq_getElem hi]
  simp [valsL, encL]
theorem Labs.slice {w : World} {v : Value} {l : List L64} (h : Labs w v l) : ∃ ao cap, v = .slice ao l.length cap := by
  obtain ⟨ao, cap, _, _, h1, _⟩ := h.at
  exact ⟨ao, cap, h1⟩
/-- a row's first part, as a slice -/
theorem own_frontL {w : World} {base g n cap : Nat} {e : TypeId} {l : List L64} {x : Value} (h : w.ownsRow base e 1 (.slice (some ⟨g, 0, none⟩) (n + 1) cap) (n + 1) (valsL l ++ [x])) : Labs w (.slice (some ⟨g, 0, none⟩) n cap) l ∧ w.cell? ⟨g, n, none⟩ = some x ∧ n + 1 ≤ cap ∧ cap ≤ maxLen := by
  have hvl : (valsL l).length = l.length := by simp [valsL]
  have hn : l.length = n := by have := h.1; simp at this; omega
  have hcap : n + 1 ≤ cap ∧ cap ≤ maxLen := by
    rcases h.2 with ⟨h1, _⟩ | ⟨g', cap', cur, hv, _, _, hnc, hcm, _⟩
    · cases h1
    · cases hv; exact ⟨hnc, hcm⟩
  refine ⟨?_, ?_, hcap.1, hcap.2⟩
  · by_cases h0 : 0 < n
    · refine .inr ⟨g, 0, cap, by rw [hvl, hn], by rw [hvl]; omega, by rw [hvl]; omega, hcap.2, fun i hi => ?_⟩
      rw [hvl] at hi
      rw [Nat.zero_add, h.cellAt i (by omega), List.getElem?_append_left (by rw [hvl]; exact hi), List.getElem?_eq_getElem (by rw [hvl]; exact hi)]
    · obtain rfl : n = 0 := by omega
      exact .inl ⟨_, _, rfl, by rw [List.eq_nil_of_length_eq_zero hn]; rfl⟩
  · rw [h.cellAt n (by omega), List.getElem?_append_right (by rw [hvl]; omega), hvl, hn, Nat.sub_self]
    rfl
theorem hs_same {hs ks : List L64} (h : hs.map Subtype.val = ks.map Subtype.val) : hs = ks := by
  induction hs generalizing ks with
  | nil => cases ks with
    | nil => rfl
    | cons k ks => simp at h
  | cons x hs ih => cases ks with
    | nil => simp at h
    | cons k ks =>
      simp only [List.map_cons, List.cons.injEq] at h
      rw [ih h.2, Subtype.ext h.1]
/-- labels out of numbers that are in the word's range -/
theorem to64 (l : List Int) (h : ∀ n ∈ l, (Lit.int .u64 n).wf = true) : ∃ ls : List L64, ints64 ls = l := by
  induction l with
  | nil => exact ⟨[], rfl⟩
  | cons n l ih =>
    obtain ⟨ls, hls⟩ := ih fun x hx => h x (by simp [hx])
    have hn := h n (by simp)
    have hn' : 0 ≤ n ∧ n ≤ 18446744073709551615 := by simpa [Lit.wf, IntKind.min, IntKind.max, IntKind.signed, IntKind.bits] using hn
    refine ⟨⟨n.toNat, by omega⟩ :: ls, ?_⟩
    rw [ints64, List.map_cons, ← ints64, hls]
    congr 1
    show ((n.toNat : Nat) : Int) = n
    omega

end Go.Proofs.YtgodmfjcccakbaaDoor
