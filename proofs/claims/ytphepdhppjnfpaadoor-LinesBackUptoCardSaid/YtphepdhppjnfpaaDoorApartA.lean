import Derived.Test.YtphepdhppjnfpaaDoorWorks
import Derived.Test.YtphepdhppjnfpaaDoorApartMath
import Derived.Test.YtphepdhppjnfpaaDoorOpenTexts
namespace Go.Proofs.YtphepdhppjnfpaaDoor
open Go.RowKit Num

theorem Texts.form {w : World} {v : Value} {ss : List ByteArray} (h : Texts w v ss) :
    ∃ ao cap b o, v = .slice ao ss.length cap ∧ (0 < ss.length → ao = some ⟨b, o, none⟩) ∧ ∀ (i : Nat) (h : i < ss.length), w.cell? ⟨b, o + i, none⟩ = some (.string (ss[i]'h)) := by
  rcases h with ⟨ao, cap, h1, rfl⟩ | ⟨b, o, cap, h1, _, _, _, h5⟩
  · exact ⟨ao, cap, 0, 0, h1, fun h => absurd h (by simp), fun i h => absurd h (by simp)⟩
  · exact ⟨_, cap, b, o, h1, fun _ => rfl, h5⟩

def rawL (ss : List ByteArray) : List (List UInt8) := ss.map fun s => s.data.toList
theorem rawL_inj {a b : List ByteArray} (h : rawL a = rawL b) : a = b := by
  induction a generalizing b with
  | nil =>
    cases b with
    | nil => rfl
    | cons y b => cases h
  | cons x a ih =>
    cases b with
    | nil => cases h
    | cons y b =>
      simp only [rawL, List.map_cons, List.cons.injEq] at h
      rw [ByteArray.ext (Array.toList_inj.1 h.1), ih h.2]
/-- the counted texts of these, one behind the other -/
def catB (ss : List ByteArray) : ByteArray := asB (catL (rawL ss))
theorem catB_snoc (ss : List ByteArray) (s : ByteArray) : catB ss ++ showB s = catB (ss ++ [s]) := by
  apply ByteArray.ext
  apply Array.ext'
  rw [ByteArray.data_append, Array.toList_append]
  simp [catB, asB, rawL, catL_snoc, showB]
theorem showB_size (s : ByteArray) (h : s.size ≤ 4611686018427387904) : (showB s).size ≤ 21 + s.size := by
  have h1 := itoa_len s.size (by omega)
  rw [showB, size_mk, showL, List.length_append, List.length_cons]
  have h2 : s.data.toList.length = s.size := by simp
  rw [h2]
  omega
theorem catB_size : ∀ (ss : List ByteArray), (∀ s ∈ ss, s.size ≤ 4611686018427387904) → (catB ss).size ≤ 22 * joinN ss := by
  intro ss
  induction ss with
  | nil => intro _; simp [catB, asB, rawL, catL, joinN, joinL, ByteArray.size]
  | cons s ss ih =>
    intro h
    have h1 := ih (fun x hx => h x (by simp [hx]))
    have h2 := showB_size s (h s (by simp))
    rw [catB, asB, size_mk] at h1
    rw [showB, size_mk] at h2
    rw [catB, asB, size_mk, rawL, List.map_cons, catL_cons, List.length_append]
    have h3 : joinN (s :: ss) = s.size + 1 + joinN ss := by
      rw [joinN, List.map_cons, joinL_cons, List.length_append, List.length_append]
      simp [joinN]
    rw [h3]
    rw [rawL] at h1
    omega
theorem joinN_part (ss : List ByteArray) (k : Nat) : joinN (ss.take k) ≤ joinN ss := by
  have e : joinN ss = joinN (ss.take k) + joinN (ss.drop k) := by
    conv => lhs; rw [← List.take_append_drop k ss]
    rw [joinN, List.map_append, joinL_append, List.length_append]
    rfl
  omega
theorem catB_take_size (ss : List ByteArray) (k : Nat) (h : ∀ s ∈ ss, s.size ≤ 4611686018427387904) : (catB (ss.take k)).size ≤ 22 * joinN ss := by
  have h1 := catB_size (ss.take k) (fun x hx => h x (List.mem_of_mem_take hx))
  have h2 := joinN_part ss k
  omega
theorem catB_eq {a b : List ByteArray} (ha : ∀ s ∈ a, s.size ≤ 4611686018427387904) (hb : ∀ s ∈ b, s.size ≤ 4611686018427387904) : ((catB a).toList == (catB b).toList) = decide (a = b) := by
  rw [bytes_eq, Bool.eq_iff_iff, decide_eq_true_eq, decide_eq_true_eq]
  constructor
  · intro h
    have h1 : catL (rawL a) = catL (rawL b) := by
      have := congrArg (fun x : ByteArray => x.data.toList) h
      simpa [catB, asB] using this
    refine rawL_inj (catL_inj _ _ ?_ ?_ h1)
    · intro s hs
      obtain ⟨x, hx, rfl⟩ := List.mem_map.1 hs
      have := ha x hx
      have e : x.data.toList.length = x.size := by simp
      omega
    · intro s hs
      obtain ⟨x, hx, rfl⟩ := List.mem_map.1 hs
      have := hb x hx
      have e : x.data.toList.length = x.size := by simp
      omega
  · intro h; rw [h]
/-- the first of counted texts, and the others -/
theorem catB_first (s : ByteArray) (ss : List ByteArray) (h : s.size ≤ 4611686018427387904) :
    (⟨(shownT (catB (s :: ss)).data.toList).toArray⟩ : ByteArray) = s ∧ (⟨(shownR (catB (s :: ss)).data.toList).toArray⟩ : ByteArray) = catB ss ∧ shownE (catB (s :: ss)).data.toList = 0 := by
  have e : (catB (s :: ss)).data.toList = showL s.data.toList ++ catL (rawL ss) := by simp [catB, asB, rawL, catL_cons]
  have h1 := shown_show s.data.toList (catL (rawL ss)) (by simp; have : s.data.size = s.size := rfl; omega)
  rw [e, shownT, shownR, shownE, h1]
  exact ⟨rfl, rfl, rfl⟩
theorem catB_none : (⟨(shownT (catB []).data.toList).toArray⟩ : ByteArray) = ⟨#[]⟩ ∧ (⟨(shownR (catB []).data.toList).toArray⟩ : ByteArray) = ⟨#[]⟩ ∧ shownE (catB []).data.toList = 4 := ⟨rfl, rfl, rfl⟩
end Go.Proofs.YtphepdhppjnfpaaDoor
