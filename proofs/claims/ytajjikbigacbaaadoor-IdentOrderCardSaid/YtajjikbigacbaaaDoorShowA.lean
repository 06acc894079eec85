import Derived.Test.YtajjikbigacbaaaDoorNumE
import Derived.Test.YtajjikbigacbaaaDoorNumMath
namespace Go.Proofs.YtajjikbigacbaaaDoor
open Go.RowKit Num

def showB (s : ByteArray) : ByteArray := ⟨(showL s.data.toList).toArray⟩
theorem itoa_len (n : Nat) (h : n < 18446744073709551616) : (Lib.itoa n).length ≤ 20 := by
  rw [Lib.itoa, if_neg (by omega)]
  exact nDig 19 _ (by simpa using Nat.lt_of_lt_of_le h (by decide))
theorem showB_eq (s : ByteArray) : (⟨(Lib.itoa s.size).toArray⟩ : ByteArray) ++ ⟨#[58]⟩ ++ s = showB s := by
  apply ByteArray.ext
  apply Array.ext'
  simp [ByteArray.data_append, showB, showL]
theorem size_mk (l : List UInt8) : (⟨l.toArray⟩ : ByteArray).size = l.length := by
  show l.toArray.size = _
  simp


end Go.Proofs.YtajjikbigacbaaaDoor
namespace Go.Proofs.YtajjikbigacbaaaDoor
open Go.RowKit Num

def shownT (l : List UInt8) : List UInt8 := match shownL l with | some (t, _) => t | none => []
def shownR (l : List UInt8) : List UInt8 := match shownL l with | some (_, r) => r | none => []
def shownE (l : List UInt8) : Int := match shownL l with | some _ => 0 | none => 4
theorem sh_none {l : List UInt8} (h : shownL l = none) :
    Ending.returned (.tuple #[.string ⟨#[]⟩, .string ⟨#[]⟩, .int .i64 4]) = .returned (.tuple #[.string ⟨(shownT l).toArray⟩, .string ⟨(shownR l).toArray⟩, .int .i64 (shownE l)]) := by
  simp only [shownT, shownR, shownE, h]
theorem sh_some {l t r : List UInt8} {a b : ByteArray} (h : shownL l = some (t, r)) (ha : a.data.toList = t) (hb : b.data.toList = r) :
    Ending.returned (.tuple #[.string a, .string b, .int .i64 0]) = .returned (.tuple #[.string ⟨(shownT l).toArray⟩, .string ⟨(shownR l).toArray⟩, .int .i64 (shownE l)]) := by
  subst ha; subst hb
  simp only [shownT, shownR, shownE, h]
theorem take_some {l : List UInt8} (h : takeE l = 0) : takeL l = some (takeN l, takeR l) := by
  unfold takeE at h
  unfold takeN takeR
  cases hl : takeL l with
  | none => simp [hl] at h
  | some p => rfl
theorem take_none {l : List UInt8} (h : takeE l = 4) : takeL l = none := by
  unfold takeE at h
  cases hl : takeL l with
  | none => rfl
  | some p => simp [hl] at h
theorem take_range (l : List UInt8) : -9223372036854775808 ≤ takeN l ∧ takeN l ≤ 9223372036854775807 := by
  unfold takeN
  cases hl : takeL l with
  | none => exact ⟨by decide, by decide⟩
  | some p =>
    obtain ⟨n, r⟩ := p
    rw [takeL, Option.map_eq_some_iff] at hl
    obtain ⟨m, hm, he⟩ := hl
    cases he
    show -9223372036854775808 ≤ n ∧ n ≤ 9223372036854775807
    unfold valL at hm
    split at hm
    · cases hm
    · split at hm
      · cases hm
      · split at hm
        · split at hm
          · cases hm; omega
          · cases hm
        · split at hm
          · cases hm; omega
          · cases hm
theorem takeR_len (l : List UInt8) : (takeR l).length ≤ l.length := by
  unfold takeR
  cases hl : takeL l with
  | none => simp
  | some p =>
    obtain ⟨n, r⟩ := p
    rw [takeL, Option.map_eq_some_iff] at hl
    obtain ⟨m, hm, he⟩ := hl
    cases he
    show ((unsig l).drop (cnt (unsig l))).length ≤ l.length
    have := unsig_le l
    rw [List.length_drop]
    omega

end Go.Proofs.YtajjikbigacbaaaDoor
namespace Go.Proofs.YtajjikbigacbaaaDoor
open Go.RowKit Num

theorem extract_mid (u : ByteArray) (k : Nat) : (u.extract 1 (1 + k)).data.toList = (u.data.toList.drop 1).take k := by
  rw [Lib.extract_data]
  congr 1
  omega

end Go.Proofs.YtajjikbigacbaaaDoor
