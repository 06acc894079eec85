import Derived.Test.YtajjikbigacbaaaDoorBase
import Derived.Test.YtajjikbigacbaaaDoorShelf
import Derived.Test.YtajjikbigacbaaaDoorNumMath
namespace Go.Proofs.YtajjikbigacbaaaDoor
open Go.RowKit Num

theorem digB_rune (c : UInt8) : isDigB c = digitRune c.toNat := by
  rw [Bool.eq_iff_iff]
  simp [isDigB, digitRune]
  omega
theorem digitRune_high (r : Int) (h : 128 ≤ r) : digitRune r = false := by
  simp [digitRune]
  omega

end Go.Proofs.YtajjikbigacbaaaDoor
namespace Go.Proofs.YtajjikbigacbaaaDoor
open Go.RowKit Num

def valN (l : List UInt8) (m : Bool) : Int := (valL l m).getD 0
def valOk (l : List UInt8) (m : Bool) : Bool := (valL l m).isSome
theorem retVal {a b : Int} {x y : Bool} (h : a = b) (h' : x = y) : Ending.returned (.tuple #[.int .i64 a, .bool x]) = .returned (.tuple #[.int .i64 b, .bool y]) := by rw [h, h']
theorem bytes_ne (s : ByteArray) (h : 0 < s.size) : s.toList.isEmpty = false ∧ (s.toList = []) = False := by
  have hl : s.toList.length = s.size := by rw [ByteArray.toList_eq]; simp
  constructor
  · rw [List.isEmpty_eq_false_iff]
    intro e
    rw [e] at hl
    simp at hl
    omega
  · rw [eq_iff_iff, iff_false]
    intro e
    rw [e] at hl
    simp at hl
    omega

theorem digB_bounds {c : UInt8} (h : isDigB c = true) : 48 ≤ c.toNat ∧ c.toNat ≤ 57 := by
  simpa [isDigB] using h
theorem tdiv_min (c : Nat) (h : 48 ≤ c ∧ c ≤ 57) : (-9223372036854775808 + ((c : Int) - 48)).tdiv 10 = -(((9223372036854775808 - (c - 48)) / 10 : Nat) : Int) := by
  have e : (-9223372036854775808 + ((c : Int) - 48)) = -(((9223372036854775808 - (c - 48) : Nat)) : Int) := by omega
  rw [e, Int.neg_tdiv, Int.tdiv_eq_ediv_of_nonneg (by omega)]
  rfl
theorem val_lead (s : ByteArray) (hp : 0 < s.size) (h : ((s[0]'hp).toNat : Int) = 48) {m : Bool} (hm : m = true ∨ 1 < s.size) : valL s.data.toList m = none := by
  have hl : s.data.toList.length = s.size := by simp
  have e0 : s.data.toList[0]? = some 48 := by
    rw [List.getElem?_eq_getElem (by omega)]
    congr 1
    show s[0]'hp = 48
    apply UInt8.toNat.inj
    simp
    omega
  rw [valL, if_neg (by intro e; rw [e] at hl; simp at hl; omega), if_pos ⟨e0, by rw [hl]; exact hm⟩]
theorem val_plain (s : ByteArray) (hp : 0 < s.size) {m : Bool} (h : ((s[0]'hp).toNat : Int) = 48 → m = false ∧ ¬ 1 < s.size) :
    valL s.data.toList m = if m = true then (if natVal s.data.toList ≤ 9223372036854775808 then some (-(natVal s.data.toList : Int)) else none)
      else (if natVal s.data.toList ≤ 9223372036854775807 then some (natVal s.data.toList : Int) else none) := by
  have hl : s.data.toList.length = s.size := by simp
  rw [valL, if_neg (by intro e; rw [e] at hl; simp at hl; omega), if_neg]
  rintro ⟨e0, hm⟩
  rw [List.getElem?_eq_getElem (by omega)] at e0
  have e1 : s[0]'hp = 48 := Option.some.inj e0
  obtain ⟨h1, h2⟩ := h (by rw [e1]; rfl)
  rw [hl, h1] at hm
  simp at hm
  omega

theorem val_big {l : List UInt8} (m : Bool) (h : valL l m = if m = true then (if natVal l ≤ 9223372036854775808 then some (-(natVal l : Int)) else none) else (if natVal l ≤ 9223372036854775807 then some (natVal l : Int) else none))
    (hb : 9223372036854775808 < natVal l) : valL l m = none := by
  rw [h]
  split
  · rw [if_neg (by omega)]
  · rw [if_neg (by omega)]



end Go.Proofs.YtajjikbigacbaaaDoor
namespace Go.Proofs.YtajjikbigacbaaaDoor
open Go.RowKit Num

def takeN (l : List UInt8) : Int := match takeL l with | some (n, _) => n | none => 0
def takeR (l : List UInt8) : List UInt8 := match takeL l with | some (_, r) => r | none => []
def takeE (l : List UInt8) : Int := match takeL l with | some _ => 0 | none => 4

theorem trimPrefix_45 (l : List UInt8) : Lib.trimPrefix l [45] = unsig l ∧ Lib.hasPrefix l [45] = minusB l := by
  cases l with
  | nil => exact ⟨rfl, rfl⟩
  | cons x l =>
    have e : Lib.hasPrefix (x :: l) [45] = minusB (x :: l) := by
      by_cases h : x = 45
      · subst h; rfl
      · have h' : ¬ (45 : UInt8) = x := fun e => h e.symm
        have e1 : (45 == x) = false := by simpa using h'
        have e2 : (x == 45) = false := by simpa using h
        simp [Lib.hasPrefix, minusB, List.isPrefixOf, e1, e2]
    refine ⟨?_, e⟩
    rw [Lib.trimPrefix, unsig, e]
    rfl

def unsigB (s : ByteArray) : ByteArray := ⟨(unsig s.data.toList).toArray⟩
theorem unsig_le (l : List UInt8) : (unsig l).length ≤ l.length := by
  unfold unsig
  split <;> simp
theorem unsigB_size (s : ByteArray) : (unsigB s).size ≤ s.size := by
  have := unsig_le s.data.toList
  show (unsig s.data.toList).toArray.size ≤ s.data.size
  rw [List.size_toArray]
  rwa [Array.length_toList] at this
theorem unsigB_toList (s : ByteArray) : (unsigB s).data.toList = unsig s.data.toList := rfl

theorem extract_digits (u : ByteArray) (k : Nat) (hk : cnt u.data.toList = k) : ∀ (j : Nat) (hj : j < (u.extract 0 k).size), isDigB ((u.extract 0 k)[j]'hj) = true := by
  intro j hj
  have e : (u.extract 0 k).data.toList = u.data.toList.take k := by
    rw [Lib.extract_data]
    simp
  have hl : (u.extract 0 k).data.toList.length = (u.extract 0 k).size := by simp
  have h1 : (u.extract 0 k).data.toList[j]'(by omega) = (u.extract 0 k)[j]'hj := rfl
  rw [← h1]
  have hj2 : j < k := by
    rw [e, List.length_take] at hl
    omega
  have h2 : (u.extract 0 k).data.toList[j]? = u.data.toList[j]? := by rw [e, List.getElem?_take, if_pos hj2]
  have hj3 : j < u.data.toList.length := by
    have := cnt_le u.data.toList
    omega
  rw [List.getElem?_eq_getElem (by omega), List.getElem?_eq_getElem hj3] at h2
  rw [Option.some.inj h2]
  exact cnt_digits _ _ hj3 (by omega)
theorem extract_take (u : ByteArray) (k : Nat) : (u.extract 0 k).data.toList = u.data.toList.take k := by
  rw [Lib.extract_data]
  simp
theorem extract_le (u : ByteArray) (k : Nat) : (u.extract 0 k).size ≤ u.size := by
  rw [ByteArray.size_extract]
  omega
theorem take_res (l : List UInt8) {m : Bool} {ul : List UInt8} {k : Nat} (hm : minusB l = m) (hu : unsig l = ul) (hk : cnt ul = k) :
    takeL l = (valL (ul.take k) m).map fun n => (n, ul.drop k) := by
  subst hm; subst hu; subst hk; rfl

theorem extract_drop (u : ByteArray) (k : Nat) : (u.extract k u.size).data.toList = u.data.toList.drop k := by
  rw [Lib.extract_data, List.take_of_length_le (by simp)]
theorem tk_none {l : List UInt8} (h : takeL l = none) :
    Ending.returned (.tuple #[.int .i64 0, .string ⟨#[]⟩, .int .i64 4]) = .returned (.tuple #[.int .i64 (takeN l), .string ⟨(takeR l).toArray⟩, .int .i64 (takeE l)]) := by
  simp only [takeN, takeR, takeE, h]
theorem tk_some {l : List UInt8} {n : Int} {b : ByteArray} (h : takeL l = some (n, b.data.toList)) :
    Ending.returned (.tuple #[.int .i64 n, .string b, .int .i64 0]) = .returned (.tuple #[.int .i64 (takeN l), .string ⟨(takeR l).toArray⟩, .int .i64 (takeE l)]) := by
  simp only [takeN, takeR, takeE, h]


def readN (l : List UInt8) : Int := match takeL l with | some (n, []) => n | _ => 0
def readE (l : List UInt8) : Int := match takeL l with | some (_, []) => 0 | _ => 4
theorem read_none {l : List UInt8} (h : takeE l = 4 ∨ takeR l ≠ []) : Ending.returned (.tuple #[.int .i64 0, .int .i64 4]) = .returned (.tuple #[.int .i64 (readN l), .int .i64 (readE l)]) := by
  unfold takeE takeR at h
  unfold readN readE
  cases hl : takeL l with
  | none => rfl
  | some p =>
    obtain ⟨n, r⟩ := p
    cases r with
    | nil => simp [hl] at h
    | cons x r => rfl
theorem read_some {l : List UInt8} (h : takeE l = 0) (h' : takeR l = []) : Ending.returned (.tuple #[.int .i64 (takeN l), .int .i64 0]) = .returned (.tuple #[.int .i64 (readN l), .int .i64 (readE l)]) := by
  unfold takeE at h
  unfold takeR at h'
  unfold readN readE takeN
  cases hl : takeL l with
  | none => simp [hl] at h
  | some p =>
    obtain ⟨n, r⟩ := p
    simp [hl] at h'
    subst h'
    rfl
theorem takeE_cases (l : List UInt8) : takeE l = 0 ∨ takeE l = 4 := by
  unfold takeE
  split
  · exact .inl rfl
  · exact .inr rfl

end Go.Proofs.YtajjikbigacbaaaDoor
