import Derived.Test.YtabdgocfbmcobaaBase
import Derived.Test.YtabdgocfbmcobaaShelf
import Derived.Lib.IndexAny
namespace Go.Proofs.Ytabdgocfbmcobaa
open Go.RowKit




def isText (s : ByteArray) : Bool := decide (s.size ≤ 256) && s.data.toList.all (fun c => c != 10)

theorem isText_at (s : ByteArray) (k : Nat) (hk : k < s.size) (h : ((s[k]'hk).toNat : Int) = 10) : isText s = false := by
  cases hn : isText s with
  | false => rfl
  | true =>
    simp only [isText, Bool.and_eq_true, List.all_eq_true] at hn
    have h2 := hn.2 (s[k]'hk) (by rw [Array.mem_toList_iff]; exact Array.getElem_mem hk)
    have h3 : (s[k]'hk) = 10 := by apply UInt8.toNat.inj; simp; omega
    simp [h3] at h2
theorem isText_all (s : ByteArray) (h : ∀ (j : Nat) (hj : j < s.size), ((s[j]'hj).toNat : Int) ≠ 10) : isText s = decide (s.size ≤ 256) := by
  have : s.data.toList.all (fun c => c != 10) = true := by
    rw [List.all_eq_true]
    intro c hc
    obtain ⟨j, hj, rfl⟩ := List.getElem_of_mem hc
    have h3 := h j (by simpa using hj)
    simp only [bne_iff_ne, ne_eq]
    intro e
    apply h3
    show (((s.data.toList[j]'hj)).toNat : Int) = 10
    rw [e]
    rfl
  rw [isText, this, Bool.and_true]
theorem isName_parts (s : ByteArray) (h : ∀ (j : Nat) (hj : j < s.size), nameByte (s[j]'hj) = true) : isName s = (decide (1 ≤ s.size) && decide (s.size ≤ 32)) := by
  have : s.data.toList.all nameByte = true := by
    rw [List.all_eq_true]
    intro c hc
    obtain ⟨j, hj, rfl⟩ := List.getElem_of_mem hc
    exact h j (by simpa using hj)
  rw [isName, this, Bool.and_true]

theorem nameByte_iff (c : UInt8) : nameByte c = true ↔ (97 ≤ (c.toNat : Int) ∧ (c.toNat : Int) ≤ 122) ∨ (48 ≤ (c.toNat : Int) ∧ (c.toNat : Int) ≤ 57) ∨ (c.toNat : Int) = 45 ∨ (c.toNat : Int) = 95 := by
  simp only [nameByte, nameRune, digitRune, Bool.or_eq_true, Bool.and_eq_true, decide_eq_true_eq, beq_iff_eq]
  omega

theorem all_ne (l : List UInt8) (c : UInt8) : l.all (fun x => x != c) = !l.contains c := by
  induction l with
  | nil => rfl
  | cons x l ih =>
    rw [List.all_cons, ih, List.contains_cons, Bool.not_or, bne]
    have e : (x == c) = (c == x) := by rw [Bool.eq_iff_iff, beq_iff_eq, beq_iff_eq]; exact ⟨Eq.symm, Eq.symm⟩
    rw [e]
theorem isText_contains (s : ByteArray) : isText s = (decide (s.size ≤ 256) && !decide (0 ≤ Lib.indexByte s.data.toList 10)) := by
  rw [isText, ← Lib.contains_iff_indexByte, all_ne]

set_option maxHeartbeats 1000000 in
theorem text_any (s : ByteArray) (w : World) (hs : s.size ≤ maxLen) :
    Calls Try.prog 33 #[.string s] w fun e w' => e = .returned (.bool (isText s)) ∧ w = w' := by
  unfold maxLen at hs
  have H := Lib.hid (isText_contains s)
  go_enter Try.func33, Try.ntmps33
  go_wp2_with (go_at_call 40; refine (Try.strings_Contains_one _ _ _).mono ?_; rintro e w' ⟨rfl, rfl⟩)
  all_goals
    go_ret
    refine ⟨retBool ?_, rfl⟩
    rw [H.out, Bool.eq_iff_iff]
    simp
    try omega
end Go.Proofs.Ytabdgocfbmcobaa
