import Derived.Test.YtajjikbigacbaaaGreatDoorNumE
import Derived.Test.YtajjikbigacbaaaGreatDoorNumMath
namespace Go.Proofs.YtajjikbigacbaaaGreatDoor
open Go.RowKit Num

def showB (s : ByteArray) : ByteArray := ⟨(showL s.data.toList).toArray⟩
theorem itoa_len (n : Nat) (h : n < 18446744073709551616) : (Lib.itoa n).length ≤ 20 := by
  rw [Lib.itoa, if_neg (by omega)]
  exact nDig 19 _ (by simpa using Nat.lt_of_lt_of_le h (by decide))
theorem showB_eq (s : ByteArray) : (⟨(Lib.itoa s.size).toArray⟩ : ByteArray) ++ ⟨#[58]⟩ ++ s = showB s := by
  apply ByteArray.ext
  apply Array.ext'
  simp [ByteArray.data_append, showB, showL]
theorem size_mk (l : List UInt8) : (⟨l.toArray⟩ : ByteArray).size = l.length := by
  show l.toArray.size = _
  simp


end Go.Proofs.YtajjikbigacbaaaGreatDoor
namespace Go.Proofs.YtajjikbigacbaaaGreatDoor
open Go.RowKit Num

def shownT (l : List UInt8) : List UInt8 := match shownL l with | some (t, _) => t | none => []
def shownR (l : List UInt8) : List UInt8 := match shownL l with | some (_, r) => r | none => []
def shownE (l : List UInt8) : Int := match shownL l with | some _ => 0 | none => 4
theorem sh_none {l : List UInt8} (h : shownL l = none) :
    Ending.returned (.tuple #[.string ⟨#[]⟩, .string ⟨#[]⟩, .int .i64 4]) = .returned (.tuple #[.string ⟨(shownT l).toArray⟩, .string ⟨(shownR l).toArray⟩, .int .i64 (shownE l)]) := by
  simp only [shownT, shownR, shownE, h]
theorem sh_some {l t r : List UInt8} {a b : ByteArray} (h : shownL l = some (t, r)) (ha : a.data.toList = t) (hb : b.data.toList = r) :
    Ending.returned (.tuple #[.string a, .string b, .int .i64 0]) = .returned (.tuple #[.string ⟨(shownT l).toArray⟩, .string ⟨(shownR l).toArray⟩, .int .i64 (shownE l)]) := by
  subst ha; subst hb
  simp only [shownT, shownR, shownE, h]
theorem take_some {l : List UInt8} (h : takeE l = 0) : takeL l = some (takeN l, takeR l) := by
  unfold takeE at h
  unfold takeN takeR
  cases hl : takeL l with
  | none => simp [hl] at h
  | some p => rfl
theorem take_none {l : List UInt8} (h : takeE l = 4) : takeL l = none := by
  unfold takeE at h
  cases hl : takeL l with
  | none => rfl
  | some p => simp [hl] at h
theorem take_range (l : List UInt8) : -9223372036854775808 ≤ takeN l ∧ takeN l ≤ 9223372036854775807 := by
  unfold takeN
  cases hl : takeL l with
  | none => exact ⟨by decide, by decide⟩
  | some p =>
    obtain ⟨n, r⟩ := p
    rw [takeL, Option.map_eq_some_iff] at hl
    obtain ⟨m, hm, he⟩ := hl
    cases he
    show -9223372036854775808 ≤ n ∧ n ≤ 9223372036854775807
    unfold valL at hm
    split at hm
    · cases hm
    · split at hm
      · cases hm
      · split at hm
        · split at hm
          · cases hm; omega
          · cases hm
        · split at hm
          · cases hm; omega
          · cases hm
theorem takeR_len (l : List UInt8) : (takeR l).length ≤ l.length := by
  unfold takeR
  cases hl : takeL l with
  | none => simp
  | some p =>
    obtain ⟨n, r⟩ := p
    rw [takeL, Option.map_eq_some_iff] at hl
    obtain ⟨m, hm, he⟩ := hl
    cases he
    show ((unsig l).drop (cnt (unsig l))).length ≤ l.length
    have := unsig_le l
    rw [List.length_drop]
    omega
/-- what strings.CutPrefix leaves of a text, at a prefix of one byte -/
theorem cutOne_yes (c : UInt8) (b b' : ByteArray) (r : List UInt8) (hb : b.data.toList = c :: r) (hb' : b' = ⟨r.toArray⟩) (w : World) :
    Calls Tryz.prog 181 #[.string b, .string ⟨#[c]⟩] w fun e w' => e = .returned (.tuple #[.string b', .bool true]) ∧ w = w' := by
  refine (Tryz.strings_CutPrefix b ⟨#[c]⟩ w).mono fun e w' ⟨he, hw⟩ => ⟨?_, hw.symm⟩
  have e1 : Lib.hasPrefix b.data.toList [c] = true := by simp [Lib.hasPrefix, hb, List.isPrefixOf]
  rw [he, show (⟨#[c]⟩ : ByteArray).data.toList = [c] from rfl, Lib.trimPrefix, e1, hb', hb]
  rfl
theorem cutOne_no (c : UInt8) (b : ByteArray) (hb : b.data.toList[0]? ≠ some c) (w : World) :
    Calls Tryz.prog 181 #[.string b, .string ⟨#[c]⟩] w fun e w' => e = .returned (.tuple #[.string b, .bool false]) ∧ w = w' := by
  refine (Tryz.strings_CutPrefix b ⟨#[c]⟩ w).mono fun e w' ⟨he, hw⟩ => ⟨?_, hw.symm⟩
  have e1 : Lib.hasPrefix b.data.toList [c] = false := by
    cases hl : b.data.toList with
    | nil => rfl
    | cons x l =>
      have h1 : (c == x) = false := by
        rw [beq_eq_false_iff_ne]
        rintro rfl
        exact hb (by rw [hl]; rfl)
      simp [Lib.hasPrefix, List.isPrefixOf, h1]
  rw [he, show (⟨#[c]⟩ : ByteArray).data.toList = [c] from rfl, Lib.trimPrefix, e1]
  rfl

end Go.Proofs.YtajjikbigacbaaaGreatDoor
namespace Go.Proofs.YtajjikbigacbaaaGreatDoor
open Go.RowKit Num

theorem extract_mid (u : ByteArray) (k : Nat) : (u.extract 1 (1 + k)).data.toList = (u.data.toList.drop 1).take k := by
  rw [Lib.extract_data]
  congr 1
  omega

end Go.Proofs.YtajjikbigacbaaaGreatDoor
