import Derived.Test.YtajjikbigacbaaaGreatDoorBase
import Derived.Test.YtajjikbigacbaaaGreatDoorShelf
import Derived.Lib.IndexAny
namespace Go.Proofs.YtajjikbigacbaaaGreatDoor
open Go.RowKit


set_option maxHeartbeats 400000 in
theorem inName_any (r : Int) (w : World) (h0 : 0 ≤ r) (h1 : r ≤ 2147483647) :
    Calls Tryz.prog 97 #[.int .i32 r] w fun e w' => e = .returned (.bool (nameRune r)) ∧ w = w' := by
  go_enter Tryz.func97, Tryz.ntmps97
  go_wp2_with (go_at_call 129; refine (isDigit_any _ _).mono ?_; rintro e w' ⟨rfl, rfl⟩)
  all_goals
    go_ret
    refine ⟨retBool ?_, rfl⟩
    rw [Bool.eq_iff_iff]
    simp [nameRune, *]
    try omega

set_option maxHeartbeats 1000000 in
theorem name_any (s : ByteArray) (w : World) (hs : s.size ≤ maxLen) :
    Calls Tryz.prog 43 #[.string s] w fun e w' => e = .returned (.bool (isName s)) ∧ Below w.heap.size w w' := by
  unfold maxLen at hs
  by_cases h1 : 1 ≤ s.size
  · by_cases h2 : s.size ≤ 32
    · go_enter Tryz.func43, Tryz.ntmps43
      go_wp2
      go_loopw [4] (fun r w' => ∃ k : Nat, k ≤ s.size ∧ w' = w.iter s k ∧ (∀ (j : Nat) (hj : j < s.size), j < k → nameByte (s[j]) = true)) (fun _ w' => s.size - w'.iterPos w.heap.size)
      case atStart => exact ⟨0, Nat.zero_le _, rfl, by intro j _ h; omega⟩
      case round =>
        obtain ⟨k, hk, rfl, hall⟩ := hrel
        have Hall := Lib.hid hall
        clear hall
        by_cases hlt : k < s.size
        · by_cases ha : (s[k]'hlt).toNat < 128
          · have hnx := fun ty => run_next_ascii (P := Tryz.prog) w s k ty hlt ha
            have hb : (s[k]'hlt).toNat < 256 := (s[k]'hlt).toNat_lt
            by_cases hn : nameByte (s[k]'hlt) = true
            · have Hn := Lib.hid hn
              have hn' : nameRune ((s[k]'hlt).toNat : Int) = true := hn
              clear hn
              go_wp2_with (go_at_call 97; refine (inName_any _ _ (by omega) (by omega)).mono ?_; rintro e w' ⟨rfl, rfl⟩)
              go_roundw
              case rel =>
                refine ⟨k + 1, by omega, rfl, fun j hj hjk => ?_⟩
                by_cases e : j = k
                · subst e
                  exact Hn.out
                · exact Hall.out j hj (by omega)
              case measure => simp; omega
            · have Hn := Lib.hid hn
              have hn' : nameRune ((s[k]'hlt).toNat : Int) = false := by simpa [nameByte] using hn
              clear hn
              go_wp2_with (go_at_call 97; refine (inName_any _ _ (by omega) (by omega)).mono ?_; rintro e w' ⟨rfl, rfl⟩)
              go_ret
              exact ⟨retBool (isName_at s k hlt Hn.out).symm, below_iter _ _ _⟩
          · have hnx := fun ty => run_next_any (P := Tryz.prog) w s k ty hlt
            have hh := (decode_high s k hlt (by omega)).1
            have hle := decode_le s k
            have hn' : nameRune ((Utf8.decode s k).1 : Int) = false := nameRune_high _ (by omega)
            have Hn : Hid (¬ nameByte (s[k]'hlt) = true) := by
              have := nameRune_high ((s[k]'hlt).toNat : Int) (by omega)
              show ¬ _
              rw [nameByte, this]
              simp
            go_wp2_with (go_at_call 97; refine (inName_any _ _ (by omega) (by omega)).mono ?_; rintro e w' ⟨rfl, rfl⟩)
            go_ret
            exact ⟨retBool (isName_at s k hlt Hn.out).symm, below_iter _ _ _⟩
        · have hnx := fun ty => run_next_end (P := Tryz.prog) w s k ty hlt
          go_wp2_with fail
          go_ret
          exact ⟨retBool (isName_all s h1 h2 fun j hj => Hall.out j hj (by omega)).symm, below_iter _ _ _⟩
    · go_enter Tryz.func43, Tryz.ntmps43
      go_wp2
      go_ret
      exact ⟨retBool (by simp [isName, h2]), Below.refl _ _⟩
  · go_enter Tryz.func43, Tryz.ntmps43
    go_wp2
    go_ret
    exact ⟨retBool (by simp [isName, h1]), Below.refl _ _⟩

def isText (s : ByteArray) : Bool := decide (s.size ≤ 256) && s.data.toList.all (fun c => c != 10)

theorem isText_at (s : ByteArray) (k : Nat) (hk : k < s.size) (h : ((s[k]'hk).toNat : Int) = 10) : isText s = false := by
  cases hn : isText s with
  | false => rfl
  | true =>
    simp only [isText, Bool.and_eq_true, List.all_eq_true] at hn
    have h2 := hn.2 (s[k]'hk) (by rw [Array.mem_toList_iff]; exact Array.getElem_mem hk)
    have h3 : (s[k]'hk) = 10 := by apply UInt8.toNat.inj; simp; omega
    simp [h3] at h2
theorem isText_all (s : ByteArray) (h : ∀ (j : Nat) (hj : j < s.size), ((s[j]'hj).toNat : Int) ≠ 10) : isText s = decide (s.size ≤ 256) := by
  have : s.data.toList.all (fun c => c != 10) = true := by
    rw [List.all_eq_true]
    intro c hc
    obtain ⟨j, hj, rfl⟩ := List.getElem_of_mem hc
    have h3 := h j (by simpa using hj)
    simp only [bne_iff_ne, ne_eq]
    intro e
    apply h3
    show (((s.data.toList[j]'hj)).toNat : Int) = 10
    rw [e]
    rfl
  rw [isText, this, Bool.and_true]
theorem isName_parts (s : ByteArray) (h : ∀ (j : Nat) (hj : j < s.size), nameByte (s[j]'hj) = true) : isName s = (decide (1 ≤ s.size) && decide (s.size ≤ 32)) := by
  have : s.data.toList.all nameByte = true := by
    rw [List.all_eq_true]
    intro c hc
    obtain ⟨j, hj, rfl⟩ := List.getElem_of_mem hc
    exact h j (by simpa using hj)
  rw [isName, this, Bool.and_true]

theorem nameByte_iff (c : UInt8) : nameByte c = true ↔ (97 ≤ (c.toNat : Int) ∧ (c.toNat : Int) ≤ 122) ∨ (48 ≤ (c.toNat : Int) ∧ (c.toNat : Int) ≤ 57) ∨ (c.toNat : Int) = 45 ∨ (c.toNat : Int) = 95 := by
  simp only [nameByte, nameRune, digitRune, Bool.or_eq_true, Bool.and_eq_true, decide_eq_true_eq, beq_iff_eq]
  omega

theorem all_ne (l : List UInt8) (c : UInt8) : l.all (fun x => x != c) = !l.contains c := by
  induction l with
  | nil => rfl
  | cons x l ih =>
    rw [List.all_cons, ih, List.contains_cons, Bool.not_or, bne]
    have e : (x == c) = (c == x) := by rw [Bool.eq_iff_iff, beq_iff_eq, beq_iff_eq]; exact ⟨Eq.symm, Eq.symm⟩
    rw [e]
theorem isText_contains (s : ByteArray) : isText s = (decide (s.size ≤ 256) && !decide (0 ≤ Lib.indexByte s.data.toList 10)) := by
  rw [isText, ← Lib.contains_iff_indexByte, all_ne]

set_option maxHeartbeats 1000000 in
theorem text_any (s : ByteArray) (w : World) (hs : s.size ≤ maxLen) :
    Calls Tryz.prog 76 #[.string s] w fun e w' => e = .returned (.bool (isText s)) ∧ w = w' := by
  unfold maxLen at hs
  have H := Lib.hid (isText_contains s)
  go_enter Tryz.func76, Tryz.ntmps76
  go_wp2_with (go_at_call 117; refine (Tryz.strings_Contains_one _ _ _).mono ?_; rintro e w' ⟨rfl, rfl⟩)
  all_goals
    go_ret
    refine ⟨retBool ?_, rfl⟩
    rw [H.out, Bool.eq_iff_iff]
    simp
    try omega
end Go.Proofs.YtajjikbigacbaaaGreatDoor
