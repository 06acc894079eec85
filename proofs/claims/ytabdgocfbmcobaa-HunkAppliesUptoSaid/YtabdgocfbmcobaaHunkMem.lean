/- Own work: hunks in memory, whatever they hold. -/
import Derived.Test.YtabdgocfbmcobaaTextMem
import Derived.Test.YtabdgocfbmcobaaHunkMath
namespace Go.Proofs.Ytabdgocfbmcobaa
open Go.RowKit

/-- a hunk as it lies in memory -/
structure HunkV where
  at_ : Int
  ov : Value
  nv : Value
  old : List ByteArray
  new : List ByteArray
def HunkV.txt (h : HunkV) : HunkI := ⟨h.at_, h.old, h.new⟩
def HunkV.cells (h : HunkV) : List Value := [.int .i64 h.at_, h.ov, h.nv]
/-- what is known of any hunk -/
structure HunkV.Fit (m : HunkV) : Prop where
  fo : SliceForm m.ov
  fn : SliceForm m.nv
  so : ∀ s ∈ m.old, s.size ≤ maxLen
  sn : ∀ s ∈ m.new, s.size ≤ maxLen
  lo : m.old.length * 16 ≤ 140737488351232
  ln : m.new.length * 16 ≤ 140737488351232
  a0 : -9223372036854775808 ≤ m.at_
  a1 : m.at_ ≤ 9223372036854775807
/-- v is a slice that holds these hunks -/
def Hks (w : World) (v : Value) (l : List HunkV) : Prop :=
  ∃ ao cap b o, v = .slice ao l.length cap ∧ (0 < l.length → ao = some ⟨b, o, none⟩) ∧ l.length ≤ maxLen ∧ ∀ (i : Nat) (h : i < l.length),
    w.cell? ⟨b, o + i * 3, none⟩ = some (.int .i64 (l[i]'h).at_) ∧ w.cell? ⟨b, o + i * 3 + 1, none⟩ = some (l[i]'h).ov ∧ w.cell? ⟨b, o + i * 3 + 2, none⟩ = some (l[i]'h).nv ∧ Texts w (l[i]'h).ov (l[i]'h).old ∧ Texts w (l[i]'h).nv (l[i]'h).new
theorem Hks.kept {w w' : World} {v : Value} {l : List HunkV} (h : Hks w v l) (hb : Below w.heap.size w w') : Hks w' v l := by
  obtain ⟨ao, cap, b, o, h1, h2, h3, h4⟩ := h
  refine ⟨ao, cap, b, o, h1, h2, h3, fun i hi => ?_⟩
  obtain ⟨c0, c1, c2, t1, t2⟩ := h4 i hi
  exact ⟨cell_kept hb c0, cell_kept hb c1, cell_kept hb c2, t1.kept hb, t2.kept hb⟩
theorem Hks.lenForm {w : World} {v : Value} {l : List HunkV} (h : Hks w v l) : ∃ ao cap, v = .slice ao l.length cap := by
  obtain ⟨ao, cap, _, _, h1, _⟩ := h
  exact ⟨ao, cap, h1⟩
def flatK (l : List HunkV) : List Value := l.flatMap HunkV.cells
theorem flatK_append (l m : List HunkV) : flatK (l ++ m) = flatK l ++ flatK m := by simp [flatK]
theorem flatK_one (x : HunkV) : flatK [x] = x.cells := by simp [flatK]
theorem flatK_len : ∀ (l : List HunkV), (flatK l).length = l.length * 3
  | [] => rfl
  | x :: l => by
    have e : flatK (x :: l) = x.cells ++ flatK l := rfl
    rw [e, List.length_append, flatK_len l]
    simp [HunkV.cells]
    omega
theorem flatK_get : ∀ (l : List HunkV) (i : Nat) (h : i < l.length), (flatK l)[i * 3]? = some (.int .i64 (l[i]'h).at_) ∧ (flatK l)[i * 3 + 1]? = some (l[i]'h).ov ∧ (flatK l)[i * 3 + 2]? = some (l[i]'h).nv
  | [], _, h => absurd h (by simp)
  | x :: l, 0, _ => ⟨rfl, rfl, rfl⟩
  | x :: l, i + 1, h => by
    have ih := flatK_get l i (by simpa using h)
    have e : flatK (x :: l) = x.cells ++ flatK l := rfl
    have hl : x.cells.length = 3 := rfl
    rw [e]
    refine ⟨?_, ?_, ?_⟩
    · rw [List.getElem?_append_right (by omega), hl, show (i + 1) * 3 - 3 = i * 3 by omega]; exact ih.1
    · rw [List.getElem?_append_right (by omega), hl, show (i + 1) * 3 + 1 - 3 = i * 3 + 1 by omega]; exact ih.2.1
    · rw [List.getElem?_append_right (by omega), hl, show (i + 1) * 3 + 2 - 3 = i * 3 + 2 by omega]; exact ih.2.2
/-- a list of hunks that is the call's own, with all their texts -/
def OwnK (w : World) (B : Nat) (v : Value) (l : List HunkV) : Prop := w.ownsRow B 43 3 v l.length (flatK l) ∧ ∀ m ∈ l, OwnT w B m.ov m.old ∧ OwnT w B m.nv m.new
theorem OwnK.below {w w' : World} {B : Nat} {v : Value} {l : List HunkV} (h : OwnK w B v l) (hb : Below w.heap.size w w') : OwnK w' B v l :=
  ⟨own_kept h.1 hb, fun m hm => ⟨(h.2 m hm).1.below hb, (h.2 m hm).2.below hb⟩⟩
theorem OwnK.hks {w : World} {B : Nat} {v : Value} {l : List HunkV} (h : OwnK w B v l) : Hks w v l := by
  obtain ⟨h, ht⟩ := h
  rcases h.2 with ⟨hv, hz⟩ | ⟨g, cap, cur, hv, _, _, hnc, hcm, _, _⟩
  · exact ⟨none, 0, 0, 0, by rw [hv, hz], fun h => by omega, by omega, fun i hi => by omega⟩
  · subst hv
    refine ⟨_, cap, g, 0, rfl, fun _ => rfl, Nat.le_trans hnc hcm, fun i hi => ?_⟩
    obtain ⟨f0, f1, f2⟩ := flatK_get l i hi
    obtain ⟨t1, t2⟩ := ht _ (List.getElem_mem hi)
    simp only [Nat.zero_add]
    exact ⟨(h.cellAt _ (by omega)).trans f0, (h.cellAt _ (by omega)).trans f1, (h.cellAt _ (by omega)).trans f2, t1.texts, t2.texts⟩
theorem ownK_nil (w : World) (B : Nat) : OwnK w B (.slice none 0 0) [] := ⟨⟨rfl, .inl ⟨rfl, rfl⟩⟩, fun m hm => by cases hm⟩
theorem Try.info43 : (Try.prog.info? 43).map (fun i => (i.zero, i.size, i.bytes)) = some (some (.agg #[.int .i64 0, .slice none 0 0, .slice none 0 0]), 3, 56) := by kernel_rfl
theorem news_hunk (w : World) (m : HunkV) (t : TypeId) : ∀ (i : Nat) (y : Value), m.cells[i]? = some y → (w.alloc (.cells #[.int .i64 m.at_, m.ov, m.nv] t)).cell? ((⟨w.heap.size, 0, none⟩ : Addr).add i) = some y := by
  intro i y hy
  rw [addr_add, Nat.zero_add, cell_of_row _ _ _ _ _ _ (heap_alloc_new w _)]
  simpa [HunkV.cells] using hy
/-- a row of texts is no block of hunks -/
theorem OwnT.no_hunk {W : World} {B b : Nat} {v : Value} {l : List ByteArray} {c : Array Value} (h : OwnT W B v l) (hb : W.heap[b]? = some (.cells c 43 (0, 0))) : v.ownBlock ≠ some b := by
  intro e
  obtain ⟨cur, hc⟩ := own_row h e
  exact kinds_apart hc hb (by decide) rfl
/-- a row of texts stands while a row of hunks grows -/
theorem OwnT.besideK {w w' : World} {B B' n : Nat} {v u : Value} {l : List ByteArray} {xs : List Value} (h : OwnT w B v l) (hu : w.ownsRow B' 43 3 u n xs) (hg : w.grownBy w' u.ownBlock) : OwnT w' B v l := by
  refine own_grown h hg ?_
  intro g hg1 hg2
  obtain ⟨c1, h1⟩ := own_row h hg1
  obtain ⟨c2, h2⟩ := own_row hu hg2
  exact kinds_apart h1 h2 (by decide) rfl
end Go.Proofs.Ytabdgocfbmcobaa
