import Derived.Test.YtphepdhppjnfpaaDoorNumE
import Derived.Test.YtphepdhppjnfpaaDoorShowMath
namespace Go.Proofs.YtphepdhppjnfpaaDoor
open Go.RowKit Num

def showB (s : ByteArray) : ByteArray := ⟨(showL s.data.toList).toArray⟩
theorem itoa_len (n : Nat) (h : n < 18446744073709551616) : (Lib.itoa n).length ≤ 20 := by
  rw [Lib.itoa, if_neg (by omega)]
  exact nDig 19 _ (by simpa using Nat.lt_of_lt_of_le h (by decide))
theorem showB_eq (s : ByteArray) : (⟨(Lib.itoa s.size).toArray⟩ : ByteArray) ++ ⟨#[58]⟩ ++ s = showB s := by
  apply ByteArray.ext
  apply Array.ext'
  simp [ByteArray.data_append, showB, showL]
theorem size_mk (l : List UInt8) : (⟨l.toArray⟩ : ByteArray).size = l.length := by
  show l.toArray.size = _
  simp

set_option maxHeartbeats 1000000 in
theorem show_any (s : ByteArray) (w : World) (hs : s.size ≤ 4611686018427387904) (hT : Pow w) :
    Calls Tryd.prog 22 #[.string s] w fun e w' => e = .returned (.string (showB s)) ∧ Below w.heap.size w w' := by
  have hT' := Lib.hid hT
  have HE := Lib.hid (showB_eq s)
  have hl := itoa_len s.size (by omega)
  have hsz := size_mk (Lib.itoa s.size)
  obtain ⟨x, hx⟩ : ∃ x : ByteArray, (⟨(Lib.itoa s.size).toArray⟩ : ByteArray) = x := ⟨_, rfl⟩
  have Hx := Lib.hid hx
  rw [hx] at hsz
  have hxs : x.size ≤ 20 := by omega
  clear hT hx hl hsz
  go_enter Tryd.func22, Tryd.ntmps22
  go_wp2_with fail
  refine (number_any (s.size : Int) (by omega) (by omega) _ hT'.out).mono ?_
  rintro e w' ⟨rfl, hb⟩
  rw [Hx.out]
  go_wp2_with fail
  go_ret
  exact ⟨by rw [← HE.out, Hx.out]; rfl, hb⟩

set_option maxHeartbeats 1000000 in
theorem refShow_any (s : ByteArray) (w : World) (hs : s.size ≤ 4611686018427387904) :
    Calls Tryd.prog 23 #[.string s] w fun e w' => e = .returned (.string (showB s)) ∧ Below w.heap.size w w' := by
  have HE := Lib.hid (showB_eq s)
  have hl := itoa_len s.size (by omega)
  have hsz := size_mk (Lib.itoa s.size)
  obtain ⟨x, hx⟩ : ∃ x : ByteArray, (⟨(Lib.itoa s.size).toArray⟩ : ByteArray) = x := ⟨_, rfl⟩
  have Hx := Lib.hid hx
  rw [hx] at hsz
  have hxs : x.size ≤ 20 := by omega
  clear hx hl hsz
  go_enter Tryd.func23, Tryd.ntmps23
  go_wp2_with fail
  refine (refNumber_any (s.size : Int) (by omega) (by omega) _).mono ?_
  rintro e w' ⟨rfl, hb⟩
  rw [Hx.out]
  go_wp2_with fail
  go_ret
  exact ⟨by rw [← HE.out, Hx.out]; rfl, hb⟩
end Go.Proofs.YtphepdhppjnfpaaDoor
