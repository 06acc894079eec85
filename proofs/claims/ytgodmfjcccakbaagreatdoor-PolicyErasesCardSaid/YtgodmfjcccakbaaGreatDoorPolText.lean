/- Plain laws: a policy's text, and back. -/
import Derived.Test.YtgodmfjcccakbaaGreatDoorPrintA
import Derived.Lib.IndexMore
namespace Go.Proofs.YtgodmfjcccakbaaGreatDoor
open Num

/-- what is no blank, no line end -/
theorem dig_plain {c : Nat} (hc : c < 64) : ∀ b ∈ (digB c).data.toList, b ≠ 32 ∧ b ≠ 10 := by
  have : ∀ c : Fin 64, ((digB c).data.toList.all fun b => b != 32 && b != 10) = true := by decide +kernel
  have h := this ⟨c, hc⟩
  rw [List.all_eq_true] at h
  intro b hb
  have := h b hb
  simpa using this
theorem joinP_mem : ∀ (ps : List (List UInt8)) (b : UInt8), b ∈ joinP ps → b = 43 ∨ ∃ p ∈ ps, b ∈ p
  | [], b, h => by simp [joinP] at h
  | [p], b, h => .inr ⟨p, by simp, by simpa [joinP] using h⟩
  | p :: q :: r, b, h => by
    rw [joinP_cons _ (by simp), List.mem_append, List.mem_cons] at h
    rcases h with h | h | h
    · exact .inr ⟨p, by simp, h⟩
    · exact .inl h
    · rcases joinP_mem (q :: r) b h with h | ⟨x, hx, hb⟩
      · exact .inl h
      · exact .inr ⟨x, by simp at hx ⊢; exact .inr hx, hb⟩
theorem text_plain (a : Nat) : ∀ b ∈ (textB a).data.toList, b ≠ 32 ∧ b ≠ 10 := by
  intro b hb
  rw [textB] at hb
  split at hb
  · simp at hb; subst hb; decide
  · rw [plusT_joinP] at hb
    rcases joinP_mem _ b hb with rfl | ⟨p, hp, hbp⟩
    · decide
    · rw [List.map_map] at hp
      obtain ⟨c, hc, rfl⟩ := List.mem_map.1 hp
      exact dig_plain ((listN_rise a).2 c hc) b hbp
theorem index_cases (l : List UInt8) (c : UInt8) : Lib.indexByte l c = -1 ∨ ∃ i : Nat, Lib.indexByte l c = i := by
  have := Lib.indexByte_ge l c
  by_cases h : Lib.indexByte l c = -1
  · exact .inl h
  · exact .inr ⟨(Lib.indexByte l c).toNat, by omega⟩
theorem dig_dash : ∀ c : Fin 64, (digB c).data.toList ≠ [45] := by decide +kernel
theorem reads_dash {cs : List Nat} (h : Reads (textB 0) cs) : False := by
  have e : parts 43 (textB 0).data.toList = [[45]] := parts_last 43 [45] (fun k h => by
    match k, h with
    | 0, h => simp at h
    | k + 1, h => simp at h)
  rw [h.2] at e
  have hr := h.1
  clear h
  match cs, e with
  | c :: r, e =>
    have hc : c < 64 := hr.2 c (by simp)
    rw [List.map_cons] at e
    exact dig_dash ⟨c, hc⟩ (List.cons.inj e).1
theorem text_inj {a b : Nat} (ha : a < 18446744073709551616) (hb : b < 18446744073709551616) (h : textB a = textB b) : a = b := by
  by_cases h0 : a = 0
  · by_cases h1 : b = 0
    · rw [h0, h1]
    · exfalso
      have h2 := text_reads h1 hb h.symm
      rw [h0] at h2
      exact reads_dash h2
  · by_cases h1 : b = 0
    · exfalso
      have h2 := text_reads h0 ha h
      rw [h1] at h2
      exact reads_dash h2
    · have h2 := text_reads h0 ha h
      have h3 := text_reads h1 hb rfl
      have : listN a = listN b := map_dig_inj h2.1.2 h3.1.2 (h2.2.symm.trans h3.2)
      rw [← bits_listN ha, ← bits_listN hb, this]
theorem name_plain {s : ByteArray} (h : isName s = true) : ∀ b ∈ s.data.toList, b ≠ 32 ∧ b ≠ 10 := by
  intro b hb
  simp only [isName, Bool.and_eq_true, List.all_eq_true] at h
  have h2 := h.2 b hb
  constructor
  · rintro rfl; revert h2; decide
  · rintro rfl; revert h2; decide
/-- a viewer's line: the name, a blank, the clearance's text -/
theorem lineB_list (v : Vw) : (lineB v).data.toList = v.nm.data.toList ++ 32 :: (textB v.lab).data.toList := by
  simp [lineB, ByteArray.data_append]
/-- the name has no blank -/
def noBlank (v : Vw) : Prop := ∀ b ∈ v.nm.data.toList, b ≠ 32
theorem cut_blank {a r : List UInt8} (h : ∀ b ∈ a, b ≠ 32) : Lib.cut (a ++ 32 :: r) [32] = (a, r, true) := by
  have hi : Lib.indexByte (a ++ 32 :: r) 32 = (a.length : Int) := by
    rcases index_cases (a ++ 32 :: r) 32 with h1 | ⟨i, h1⟩
    · exact absurd (by simp) (Lib.indexByte_none h1 a.length)
    · obtain ⟨h2, h3⟩ := Lib.indexByte_some h1
      rw [h1]
      have : i = a.length := by
        rcases Nat.lt_trichotomy i a.length with h4 | h4 | h4
        · rw [List.getElem?_append_left h4] at h2
          exact absurd rfl (h 32 (List.mem_of_getElem? h2))
        · exact h4
        · exact absurd (by simp) (h3 a.length h4)
      rw [this]
  simp [Lib.cut, Lib.index_one, hi]
theorem cut_none {a : List UInt8} (h : ∀ b ∈ a, b ≠ 32) : Lib.cut a [32] = (a, [], false) := by
  have hi : Lib.indexByte a 32 = -1 := by
    rcases index_cases a 32 with h1 | ⟨i, h1⟩
    · exact h1
    · exact absurd rfl (h 32 (List.mem_of_getElem? (Lib.indexByte_some h1).1))
  simp [Lib.cut, Lib.index_one, hi]
/-- the lines lead back to the viewers -/
theorem line_inj {u v : Vw} (hu : noBlank u) (hv : noBlank v) (hul : u.lab < 18446744073709551616) (hvl : v.lab < 18446744073709551616) (h : lineB u = lineB v) : u = v := by
  have h1 := congrArg (fun s : ByteArray => Lib.cut s.data.toList [32]) h
  simp only [lineB_list] at h1
  rw [cut_blank hu, cut_blank hv] at h1
  injection h1 with h2 h3
  injection h3 with h3 _
  exact vw_ext (asB_inj h2) (text_inj hul hvl (asB_inj h3))
theorem lines_inj : ∀ {us vs : List Vw}, (∀ u ∈ us, noBlank u ∧ u.lab < 18446744073709551616) → (∀ v ∈ vs, noBlank v ∧ v.lab < 18446744073709551616) → us.map lineB = vs.map lineB → us = vs
  | [], [], _, _, _ => rfl
  | [], _ :: _, _, _, h => by simp at h
  | _ :: _, [], _, _, h => by simp at h
  | u :: us, v :: vs, hu, hv, h => by
    rw [List.map_cons, List.map_cons, List.cons.injEq] at h
    have h1 := hu u (by simp)
    have h2 := hv v (by simp)
    rw [line_inj h1.1 h2.1 h1.2 h2.2 h.1, lines_inj (fun x hx => hu x (by simp [hx])) (fun x hx => hv x (by simp [hx])) h.2]
theorem pol_blank {vs : List Vw} (hok : polOk vs) (hf : Fits vs) : ∀ v ∈ vs, noBlank v ∧ v.lab < 18446744073709551616 :=
  fun v hv => ⟨fun b hb => (name_plain (hok.2.1 v hv) b hb).1, (hf v hv).1⟩
theorem line_plain {v : Vw} (h : isName v.nm = true) : ¬ (10 : UInt8) ∈ (lineB v).data.toList := by
  rw [lineB_list, List.mem_append, List.mem_cons]
  rintro (h1 | h1 | h1)
  · exact (name_plain h 10 h1).2 rfl
  · exact absurd h1 (by decide)
  · exact (text_plain v.lab 10 h1).2 rfl
/-- a policy's text is cut into its viewers' lines -/
theorem cut_print {vs : List Vw} (hok : polOk vs) : cutL (printT vs).data.toList = some ((vs.map lineB).map fun s => s.data.toList) := by
  have e : (printT vs).data.toList = joinL ((vs.map lineB).map fun s => s.data.toList) := by simp [printT, joinT, asB]
  rw [e]
  refine cut_join _ fun s hs => ?_
  rw [List.map_map] at hs
  obtain ⟨v, hv, rfl⟩ := List.mem_map.1 hs
  exact line_plain (hok.2.1 v hv)
theorem back_texts (ss : List ByteArray) : ((ss.map fun s => s.data.toList).map fun x => (⟨x.toArray⟩ : ByteArray)) = ss := by
  rw [List.map_map]
  exact List.map_id' ss
theorem cutT_print {vs : List Vw} (hok : polOk vs) : cutT (printT vs).data.toList = vs.map lineB ∧ cutE (printT vs).data.toList = 0 := by
  rw [cutT, cutE, cut_print hok]
  exact ⟨back_texts _, rfl⟩
end Go.Proofs.YtgodmfjcccakbaaGreatDoor
