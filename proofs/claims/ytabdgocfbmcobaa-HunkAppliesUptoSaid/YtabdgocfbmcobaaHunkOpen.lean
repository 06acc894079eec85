/- Own work: hunks that came in. -/
import Derived.Test.YtabdgocfbmcobaaHunkMem
import Derived.SliceStrings
import Derived.SizedLaws
import Derived.ChangeSlices
import Derived.Deep.Strs
namespace Go.Proofs.Ytabdgocfbmcobaa
open Go.RowKit Go.ChangeShapes Go.WideShapes Go.Joins

theorem weights_all3 {H : Type} {P : Program} (e : TypeId) (n : Nat) (d : DataW H) : ∀ (l : List (DataW H)), d ∈ l → n ∈ d.weights P e → n ∈ DataW.weightsAll P e l
  | [], h, _ => by cases h
  | x :: r, h, hn => by
    rw [DataW.weightsAll]
    rcases List.mem_cons.1 h with rfl | h
    · exact List.mem_append_left _ hn
    · exact List.mem_append_right _ (weights_all3 e n d r h hn)
theorem bulk_strs {H : Type} : ∀ (ss : List ByteArray), ss.length ≤ Rows.uptoBulkAll (strs ss : List (DataW H))
  | [] => Nat.zero_le _
  | s :: ss => by
    have e : (strs (s :: ss) : List (DataW H)) = .lit (.string s.data.toList) :: strs ss := rfl
    have ih := bulk_strs (H := H) ss
    rw [e, Rows.uptoBulkAll, Rows.uptoBulk, List.length_cons]
    omega
/-- a cell that holds texts that came in -/
theorem open_cell {H : Type} {enc : TypeId × Value → H} {W : World} {m : Nat} {c : Value} {z : DataW H × List MemPlace}
    (h : DataW.trod enc Try.prog W 0 (fun _ => true) true m 23 [c] = some z) :
    ∃ ss : List ByteArray, Texts W c ss ∧ SliceForm c ∧ (∀ s ∈ ss, s.size ≤ maxLen) ∧ ((∀ n ∈ z.1.weights Try.prog 23, n ≤ 140737488351232) → ss.length * 16 ≤ 140737488351232) ∧ ss.length ≤ Rows.uptoBulk z.1 := by
  rcases open_strings Try.underlying23 Try.underlying9 (by kernel_rfl) h with ⟨hcs, hx⟩ | ⟨a, len', cap', ss, hcs, _, hl, hm, hz, hx, hcell, hsz⟩
  · injection hcs with hcs _
    subst hcs
    exact ⟨[], .inl ⟨_, _, rfl, rfl⟩, .inl rfl, by simp, by simp, by simp⟩
  · injection hcs with hcs _
    subst hcs
    simp only [if_true] at hz
    have htl : (ss.take len').length = len' := by rw [List.length_take]; omega
    refine ⟨ss.take len', ?_, .inr ⟨_, _, _, rfl⟩, fun s hs => hsz s (List.mem_of_mem_take hs), ?_, ?_⟩
    · by_cases h0 : 0 < len'
      · obtain ⟨b, off, spot⟩ := a
        have hspot : spot = none := by simpa [Addr.add] using World.cell?_spot (hcell 0 (by omega))
        subst hspot
        refine .inr ⟨b, off, cap', by rw [htl], by omega, by omega, hm, fun i hi => ?_⟩
        have := hcell i (by omega)
        rw [addr_add] at this
        rw [this, List.getElem_take, List.getD_eq_getElem?_getD, List.getElem?_eq_getElem (by omega)]
        rfl
      · obtain rfl : len' = 0 := by omega
        exact .inl ⟨_, _, rfl, by simp⟩
    · intro hw
      have hb : Try.prog.bytesOf 9 = 16 := by kernel_rfl
      have h1 := hw ((strs (H := H) (ss.take len')).length * 16 + (strs (H := H) (ss.drop len')).length * 16) (by rw [hx]; simp only [DataW.weights, Try.underlying23, hb]; rw [Nat.add_mul]; exact List.mem_cons_self ..)
      have h2 : (strs (H := H) (ss.take len')).length = (ss.take len').length := by simp [strs]
      omega
    · rw [hx, Rows.uptoBulk]
      have := bulk_strs (H := H) (ss.take len')
      omega

def HunkV.bulk (m : HunkV) : Nat := m.old.length + m.new.length + 1
set_option maxRecDepth 100000 in
/-- a hunk that came in -/
theorem open_hunkV {H : Type} {enc : TypeId × Value → H} {W : World} {m : Nat} {cs : List Value} {y : DataW H × List MemPlace}
    (h : DataW.trod enc Try.prog W 0 (fun _ => true) true m 43 cs = some y) :
    ∃ k : HunkV, cs = k.cells ∧ Texts W k.ov k.old ∧ Texts W k.nv k.new ∧ ((∀ n ∈ y.1.weights Try.prog 43, n ≤ 140737488351232) → k.Fit) ∧ k.bulk ≤ Rows.uptoBulk y.1 := by
  obtain ⟨y0, y1, y2, n, hx, hl, t0, t1, t2⟩ := Go.Deep.trod_struct3 Try.underlying43 h
  have hC : Try.prog.cellsOf 43 = 3 := by kernel_rfl
  have k3 : Try.prog.cellsOf 3 = 1 := by kernel_rfl
  have k9 : Try.prog.cellsOf 23 = 1 := by kernel_rfl
  rw [hC] at hl
  match cs, hl with
  | [c0, c1, c2], _ =>
    simp only [k3, k9, List.drop_zero, List.drop_succ_cons, List.take_succ_cons, List.take_zero] at t0 t1 t2
    obtain ⟨l, e0, z0, w0⟩ := DataW.trod_int Try.underlying3 t0
    obtain ⟨so, to, fo, szo, wo, bo⟩ := open_cell t1
    obtain ⟨sn, tn, fn, szn, wn, bn⟩ := open_cell t2
    cases e0
    have hwf : -9223372036854775808 ≤ l ∧ l ≤ 9223372036854775807 := by
      have h := w0
      simp only [Lit.wf, IntKind.min, IntKind.max, IntKind.signed, IntKind.bits, Bool.and_eq_true, decide_eq_true_eq] at h
      simp at h
      omega
    have hws : ∀ n, (n ∈ y1.1.weights Try.prog 23 ∨ n ∈ y2.1.weights Try.prog 23) → n ∈ y.1.weights Try.prog 43 := by
      intro n hn
      rw [hx]
      simp only [DataW.weights, Try.underlying43, DataW.weightsEach, List.map_cons, List.map_nil, List.mem_append]
      rcases hn with hn | hn
      · exact .inr (.inl hn)
      · exact .inr (.inr (.inl hn))
    refine ⟨⟨l, c1, c2, so, sn⟩, rfl, to, tn, fun hw => ⟨fo, fn, szo, szn, wo fun n hn => hw n (hws n (.inl hn)), wn fun n hn => hw n (hws n (.inr hn)), hwf.1, hwf.2⟩, ?_⟩
    rw [hx]
    simp only [Rows.uptoBulk, Rows.uptoBulkAll, HunkV.bulk]
    omega

def bulks (l : List HunkV) : Nat := (l.map HunkV.bulk).sum
set_option maxRecDepth 100000 in
theorem open_hks {H : Type} {enc : TypeId × Value → H} {W : World} {r : Reach} {b0 : Nat} {v : Value} {d : DataW H} {p : List MemPlace}
    (k : Value.okWide Try.prog W r b0 22 v) (h : DataW.Trod enc Try.prog W 0 (fun _ => true) true 22 v d p) :
    ∃ ls : List HunkV, Hks W v ls ∧ SliceForm v ∧ bulks ls ≤ Rows.uptoBulk d ∧
      (∀ (ts : List TypeId) (ds : List (DataW H)) (j : Nat), (DataW.weightsEach Try.prog ts ds).all (· ≤ reachBytes) = true → ts[j]? = some 22 → ds[j]? = some d → (∀ m ∈ ls, m.Fit) ∧ ls.length * 56 ≤ 140737488351232) := by
  obtain ⟨a0, len, cap, rfl⟩ := okWide_slice Try.underlying22 k
  obtain ⟨fuel, hf⟩ := h
  have hC : Try.prog.cellsOf 43 = 3 := by kernel_rfl
  have hR : reachBytes = 140737488351232 := by kernel_rfl
  rcases DataW.trod_slice Try.underlying22 hf with ⟨hcs, hx⟩ | ⟨a, len', cap', elems, rest, n, _, hcs, hx, hb, hl, hm, hlen, hel, _, _⟩
  · simp [Value.cells] at hcs
    obtain ⟨rfl, rfl, rfl⟩ := hcs
    exact ⟨[], ⟨none, 0, 0, 0, rfl, fun h => absurd h (by simp), by simp, fun i h => absurd h (by simp)⟩, .inl rfl, by simp [bulks], fun _ _ _ _ _ _ => ⟨by simp, by simp⟩⟩
  · simp [Value.cells] at hcs
    obtain ⟨rfl, rfl, rfl⟩ := hcs
    simp only [Prod.mk.injEq] at hx
    rw [hC] at hel
    have each : ∀ i (hi : i < elems.length), ∃ k : HunkV, (∀ j, j < 3 → W.cell? ((a.add (i * 3)).add j) = k.cells[j]?) ∧ Texts W k.ov k.old ∧ Texts W k.nv k.new ∧
        ((∀ n ∈ (elems[i]'hi).1.weights Try.prog 43, n ≤ 140737488351232) → k.Fit) ∧ k.bulk ≤ Rows.uptoBulk (elems[i]'hi).1 := by
      intro i hi
      have h1 := hel i (by omega)
      rw [List.getElem?_eq_getElem hi, Option.bind_eq_some_iff] at h1
      obtain ⟨cs, hc, ht⟩ := h1
      obtain ⟨_, _, hat⟩ := World.cells?_some hc
      obtain ⟨k, rfl, h2⟩ := open_hunkV ht
      exact ⟨k, fun j hj => hat j hj, h2⟩
    have all : ∀ q, q ≤ elems.length → ∃ ls : List HunkV, ls.length = q ∧ bulks ls ≤ Rows.uptoBulkAll ((elems.map (·.1)).take q) ∧ ∀ (i : Nat) (h : i < ls.length) (h2 : i < elems.length), (∀ j, j < 3 → W.cell? ((a.add (i * 3)).add j) = (ls[i]'h).cells[j]?) ∧ Texts W (ls[i]'h).ov (ls[i]'h).old ∧ Texts W (ls[i]'h).nv (ls[i]'h).new ∧
        ((∀ n ∈ (elems[i]'h2).1.weights Try.prog 43, n ≤ 140737488351232) → (ls[i]'h).Fit) := by
      intro q
      induction q with
      | zero => intro _; exact ⟨[], rfl, by simp [bulks], fun i h => absurd h (by simp)⟩
      | succ q ih =>
        intro hq
        obtain ⟨ls, h1, h3, h2⟩ := ih (by omega)
        obtain ⟨k, hk, hk1, hk2, hk3, hk4⟩ := each q (by omega)
        refine ⟨ls ++ [k], by simp [h1], ?_, fun i hi hi2 => ?_⟩
        · have e : ∀ (x : DataW H) (l : List (DataW H)), Rows.uptoBulkAll (l ++ [x]) = Rows.uptoBulkAll l + Rows.uptoBulk x := by
            intro x l
            induction l with
            | nil => simp [Rows.uptoBulkAll]
            | cons y l ih => rw [List.cons_append, Rows.uptoBulkAll, Rows.uptoBulkAll, ih, Nat.add_assoc]
          rw [List.take_succ_eq_append_getElem (by rw [List.length_map]; omega), e, List.getElem_map]
          simp only [bulks, List.map_append, List.sum_append, List.map_cons, List.map_nil, List.sum_cons, List.sum_nil] at h3 ⊢
          omega
        · by_cases he : i < ls.length
          · simp only [List.getElem_append_left he]
            exact h2 i he hi2
          · have : i = ls.length := by simp at hi; omega
            subst this
            simp only [List.getElem_append_right (Nat.le_refl _), Nat.sub_self, List.getElem_cons_zero]
            subst h1
            exact ⟨hk, hk1, hk2, hk3⟩
    obtain ⟨ls, h1, h3, h2⟩ := all elems.length (Nat.le_refl _)
    rw [List.take_of_length_le (by simp)] at h3
    refine ⟨ls, ?_, .inr ⟨_, _, _, rfl⟩, ?_, ?_⟩
    · obtain ⟨b, off, spot⟩ := a
      by_cases h0 : 0 < len
      · have hspot : spot = none := by
          have h3 := (h2 0 (by omega) (by omega)).1 0 (by omega)
          have h4 := World.cell?_spot (h3.trans (show _ = some _ from rfl))
          simpa [Addr.add] using h4
        subst hspot
        refine ⟨_, cap, b, off, by rw [h1, hlen], fun _ => rfl, by omega, fun i hi => ?_⟩
        obtain ⟨g, g2, g3, _⟩ := h2 i hi (by omega)
        simp only [addr_add] at g
        exact ⟨g 0 (by omega), g 1 (by omega), g 2 (by omega), g2, g3⟩
      · exact ⟨_, cap, b, off, by rw [h1, hlen], fun h => absurd h (by omega), by omega, fun i h => absurd h (by omega)⟩
    · rw [hx.1, Rows.uptoBulk]
      omega
    · intro ts ds j hW hts hds
      have hall : ∀ n ∈ d.weights Try.prog 22, n ≤ 140737488351232 := by
        intro n hn
        have := List.all_eq_true.1 hW _ (DataW.weights_mem_each hts hds _ hn)
        rw [hR] at this
        simpa using this
      rw [hx.1] at hall
      simp only [DataW.weights, Try.underlying22] at hall
      refine ⟨fun m hm => ?_, ?_⟩
      · obtain ⟨i, hi, rfl⟩ := List.getElem_of_mem hm
        refine (h2 i hi (by omega)).2.2.2 fun n hn => hall n ?_
        refine List.mem_cons_of_mem _ (List.mem_append_left _ ?_)
        exact weights_all3 _ _ _ _ (List.mem_map.2 ⟨_, List.getElem_mem (by omega), rfl⟩) hn
      · have hb : Try.prog.bytesOf 43 = 56 := by kernel_rfl
        have h5 := hall _ (List.mem_cons_self ..)
        rw [hb] at h5
        simp only [List.length_map] at h5
        omega
/-- texts that came in, with their bulk -/
theorem open_textsB {H : Type} {enc : TypeId × Value → H} {W : World} {r : Reach} {b0 : Nat} {v : Value} {d : DataW H} {p : List MemPlace}
    (k : Value.okWide Try.prog W r b0 23 v) (h : DataW.Trod enc Try.prog W 0 (fun _ => true) true 23 v d p) :
    ∃ ss : List ByteArray, Texts W v ss ∧ SliceForm v ∧ (∀ s ∈ ss, s.size ≤ maxLen) ∧ ss.length ≤ Rows.uptoBulk d := by
  obtain ⟨a0, len, cap, rfl⟩ := okWide_slice Try.underlying23 k
  obtain ⟨fuel, hf⟩ := h
  have hf2 : DataW.trod enc Try.prog W 0 (fun _ => true) true fuel 23 [.slice a0 len cap] = some (d, p) := hf
  obtain ⟨ss, h1, h2, h3, _, h5⟩ := open_cell hf2
  exact ⟨ss, h1, h2, h3, h5⟩
end Go.Proofs.Ytabdgocfbmcobaa
