/- Own work: the text of an identity: ident.Text, and that of the document. -/
import Derived.Test.YtajjikbigacbaaaDoorTxtSize
import Derived.Test.YtajjikbigacbaaaDoorTxtA
import Derived.Test.YtajjikbigacbaaaDoorTxtB
import Derived.Test.YtajjikbigacbaaaDoorNumE
import Derived.Test.YtajjikbigacbaaaDoorIdNew
namespace Go.Proofs.YtajjikbigacbaaaDoor
open Go.RowKit Num

theorem itoa_short {n : Int} (h : i64 n) : (Lib.itoa n).length ≤ 21 := by
  unfold i64 at h
  rw [Lib.itoa]
  split
  · rw [List.length_cons]
    have := nDig 19 n.natAbs (Nat.lt_of_lt_of_le (m := 18446744073709551616) (by omega) (by decide))
    omega
  · have := nDig 19 n.toNat (Nat.lt_of_lt_of_le (m := 18446744073709551616) (by omega) (by decide))
    omega
theorem size_list (l : List UInt8) : (⟨l.toArray⟩ : ByteArray).size = l.length := by
  show l.toArray.size = _
  simp
def idB (a : Nat) (n : Int) : ByteArray := textB a ++ ⟨#[35]⟩ ++ ⟨(Lib.itoa n).toArray⟩

set_option maxRecDepth 100000 in
set_option maxHeartbeats 8000000 in
theorem idText_any (a : Nat) (n r : Int) (t : ByteArray) (w : World) (ha : a < 18446744073709551616) (hn : i64 n) (hT : Deb w) (hP : Pow w) :
    Calls Tryd.prog 8 #[.agg #[.int .u64 (a : Int), .int .i64 n, .int .i64 r, .string t]] w fun e w' => e = .returned (.string (idB a n)) ∧ Below w.heap.size w w' := by
  obtain ⟨d0, d1, _, _⟩ := four_new w (a : Int) n r t 25
  have B0 := Lib.hid (show Below w.heap.size w (w.alloc (.cells #[.int .u64 (a : Int), .int .i64 n, .int .i64 r, .string t] 25)) from (Below.refl _ _).alloc (Nat.le_refl _) _)
  have HT := Lib.hid hT
  have HP := Lib.hid hP
  have hx := (textB_size ha).2
  have hy := itoa_short hn
  rw [← size_list] at hy
  have HB : Hid (idB a n = textB a ++ ⟨#[35]⟩ ++ ⟨(Lib.itoa n).toArray⟩) := rfl
  obtain ⟨x, hxe⟩ : ∃ x, textB a = x := ⟨_, rfl⟩
  obtain ⟨y, hye⟩ : ∃ y : ByteArray, (⟨(Lib.itoa n).toArray⟩ : ByteArray) = y := ⟨_, rfl⟩
  rw [hxe] at hx HB
  rw [hye] at hy HB
  have Hxe := Lib.hid hxe
  have Hye := Lib.hid hye
  unfold i64 at hn
  have Hn := Lib.hid hn
  have hs2 : (9223372036854775806 < x.size) = False := eq_false (by omega)
  have hs3 : (9223372036854775807 < x.size + 1 + y.size) = False := eq_false (by omega)
  have hs4 : (9223372036854775807 < x.size + 1) = False := eq_false (by omega)
  clear hT hP hxe hye hn
  go_enter Tryd.func8, Tryd.ntmps8
  go_wp2_with fail
  go_region_held3 (fun w' => w'.cell? ⟨w.heap.size, 0, none⟩ = some (.int .u64 (a : Int)) ∧ w'.cell? ⟨w.heap.size, 1, none⟩ = some (.int .i64 n) ∧ Below w.heap.size w w')
    (first
      | (go_split_ands; refine ⟨?_, ?_, ?_⟩ <;> first | assumption | exact B0.out.drew | exact cell_kept hc (by assumption) | exact Below.trans (by assumption) (hc.mono (Below.size (by assumption))) | (simp; assumption)))
    (first
      | (go_at_call 24; refine (labText_any a _ ha (HT.out.kept (by go_split_ands; assumption))).mono ?_; rintro e w1 ⟨rfl, hc⟩; rw [Hxe.out])
      | (go_at_call 25; refine (Tryd.strconv_Itoa n Hn.out.1 (by have := Hn.out.2; omega) _ (Pow.kept HP.out (by go_split_ands; assumption))).mono ?_; rintro e w1 ⟨rfl, hg⟩; have hc := below_grow hg; clear hg; rw [Hye.out]))
  go_wp2_with fail
  go_ret
  exact ⟨by rw [HB.out]; rfl, by go_split_ands; assumption⟩

set_option maxRecDepth 100000 in
set_option maxHeartbeats 8000000 in
theorem refIdText_any (a : Nat) (n r : Int) (t : ByteArray) (w : World) (ha : a < 18446744073709551616) (hn : i64 n) (hP : Pow w) :
    Calls Tryd.prog 9 #[.agg #[.int .u64 (a : Int), .int .i64 n, .int .i64 r, .string t]] w fun e w' => e = .returned (.string (idB a n)) ∧ Below w.heap.size w w' := by
  obtain ⟨d0, d1, _, _⟩ := four_new w (a : Int) n r t 25
  have B0 := Lib.hid (show Below w.heap.size w (w.alloc (.cells #[.int .u64 (a : Int), .int .i64 n, .int .i64 r, .string t] 25)) from (Below.refl _ _).alloc (Nat.le_refl _) _)
  have HP := Lib.hid hP
  have hx := (textB_size ha).2
  have hy := itoa_short hn
  rw [← size_list] at hy
  have HB : Hid (idB a n = textB a ++ ⟨#[35]⟩ ++ ⟨(Lib.itoa n).toArray⟩) := rfl
  obtain ⟨x, hxe⟩ : ∃ x, textB a = x := ⟨_, rfl⟩
  obtain ⟨y, hye⟩ : ∃ y : ByteArray, (⟨(Lib.itoa n).toArray⟩ : ByteArray) = y := ⟨_, rfl⟩
  rw [hxe] at hx HB
  rw [hye] at hy HB
  have Hxe := Lib.hid hxe
  have Hye := Lib.hid hye
  unfold i64 at hn
  have Hn := Lib.hid hn
  have hs2 : (9223372036854775806 < x.size) = False := eq_false (by omega)
  have hs3 : (9223372036854775807 < x.size + 1 + y.size) = False := eq_false (by omega)
  have hs4 : (9223372036854775807 < x.size + 1) = False := eq_false (by omega)
  clear hP hxe hye hn
  go_enter Tryd.func9, Tryd.ntmps9
  go_wp2_with fail
  go_region_held3 (fun w' => w'.cell? ⟨w.heap.size, 0, none⟩ = some (.int .u64 (a : Int)) ∧ w'.cell? ⟨w.heap.size, 1, none⟩ = some (.int .i64 n) ∧ Below w.heap.size w w')
    (first
      | (go_split_ands; refine ⟨?_, ?_, ?_⟩ <;> first | assumption | exact B0.out.drew | exact cell_kept hc (by assumption) | exact Below.trans (by assumption) (hc.mono (Below.size (by assumption))) | (simp; assumption)))
    (first
      | (go_at_call 26; refine (refLabText_any a _ ha).mono ?_; rintro e w1 ⟨rfl, hc⟩; rw [Hxe.out])
      | (go_at_call 25; refine (Tryd.strconv_Itoa n Hn.out.1 (by have := Hn.out.2; omega) _ (Pow.kept HP.out (by go_split_ands; assumption))).mono ?_; rintro e w1 ⟨rfl, hg⟩; have hc := below_grow hg; clear hg; rw [Hye.out]))
  go_wp2_with fail
  go_ret
  exact ⟨by rw [HB.out]; rfl, by go_split_ands; assumption⟩

end Go.Proofs.YtajjikbigacbaaaDoor
