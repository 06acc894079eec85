/- Own work: texts that came in, of any size. -/
import Derived.Test.YtabdgocfbmcobaaTexts
import Derived.SliceStrings
import Derived.SizedLaws
import Derived.ChangeSlices
namespace Go.Proofs.Ytabdgocfbmcobaa
open Go.RowKit Go.ChangeShapes Go.WideShapes Go.Joins

theorem weights_all2 {H : Type} {P : Program} (e : TypeId) (n : Nat) (d : DataW H) : ∀ (l : List (DataW H)), d ∈ l → n ∈ d.weights P e → n ∈ DataW.weightsAll P e l
  | [], h, _ => by cases h
  | x :: r, h, hn => by
    rw [DataW.weightsAll]
    rcases List.mem_cons.1 h with rfl | h
    · exact List.mem_append_left _ hn
    · exact List.mem_append_right _ (weights_all2 e n d r h hn)
/-- a slice of texts that came in -/
theorem open_wide {H : Type} {enc : TypeId × Value → H} {W : World} {r : Reach} {b0 : Nat} {v : Value} {d : DataW H} {p : List MemPlace}
    (k : Value.okWide Try.prog W r b0 23 v) (h : DataW.Trod enc Try.prog W 0 (fun _ => true) true 23 v d p) :
    ∃ ss : List ByteArray, Texts W v ss ∧ SliceForm v ∧ (∀ s ∈ ss, s.size ≤ maxLen) ∧ (ss = [] ∨ ∃ elems spare, d = .slice elems spare ∧ elems.length = ss.length) ∧
      (∀ (ts : List TypeId) (ds : List (DataW H)) (j : Nat), (DataW.weightsEach Try.prog ts ds).all (· ≤ reachBytes) = true → ts[j]? = some 23 → ds[j]? = some d → ∀ s ∈ ss, s.size ≤ reachBytes) := by
  obtain ⟨a0, len, cap, rfl⟩ := okWide_slice Try.underlying23 k
  obtain ⟨fuel, hf⟩ := h
  rcases open_strings Try.underlying23 Try.underlying9 (by kernel_rfl) hf with ⟨hcs, hx⟩ | ⟨a, len', cap', ss, hcs, _, hl, hm, hz, hx, hcell, hsz⟩
  · simp [Value.cells] at hcs
    obtain ⟨rfl, rfl, rfl⟩ := hcs
    exact ⟨[], .inl ⟨_, _, rfl, rfl⟩, .inl rfl, by simp, .inl rfl, fun _ _ _ _ _ _ s hs => by cases hs⟩
  · simp [Value.cells] at hcs
    obtain ⟨rfl, rfl, rfl⟩ := hcs
    simp only [Prod.mk.injEq] at hx
    simp only [if_true] at hz
    have htl : (ss.take len).length = len := by rw [List.length_take]; omega
    refine ⟨ss.take len, ?_, .inr ⟨_, _, _, rfl⟩, fun s hs => hsz s (List.mem_of_mem_take hs), .inr ⟨_, _, hx.1, by simp [strs]⟩, ?_⟩
    rotate_left
    · intro ts ds j hR hts hds s hs
      have hm : s.size ∈ d.weights Try.prog 23 := by
        rw [hx.1]
        simp only [DataW.weights, Try.underlying23]
        refine List.mem_cons_of_mem _ (List.mem_append_left _ ?_)
        refine weights_all2 _ _ (.lit (.string s.data.toList)) _ (List.mem_map.2 ⟨s, hs, rfl⟩) ?_
        simp [DataW.weights]
      have := List.all_eq_true.1 hR _ (DataW.weights_mem_each hts hds _ hm)
      simpa using this
    by_cases h0 : 0 < len
    · obtain ⟨b, off, spot⟩ := a
      have hspot : spot = none := by simpa [Addr.add] using World.cell?_spot (hcell 0 (by omega))
      subst hspot
      refine .inr ⟨b, off, cap, by rw [htl], by omega, by omega, hm, fun i hi => ?_⟩
      have := hcell i (by omega)
      rw [addr_add] at this
      rw [this, List.getElem_take, List.getD_eq_getElem?_getD, List.getElem?_eq_getElem (by omega)]
      rfl
    · obtain rfl : len = 0 := by omega
      exact .inl ⟨_, _, rfl, by simp⟩
end Go.Proofs.Ytabdgocfbmcobaa
