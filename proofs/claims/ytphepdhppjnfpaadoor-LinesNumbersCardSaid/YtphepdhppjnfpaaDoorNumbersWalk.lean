import Derived.Test.YtphepdhppjnfpaaDoorNumE
import Derived.Deep.RegionHeld3
namespace Go.Proofs.YtphepdhppjnfpaaDoor
open Go.RowKit Num

theorem keepPow {w w' : World} (h : Pow w) (hb : Below w.heap.size w w') : Pow w' := by
  unfold Pow Lib.TabIs World.var? at *
  cases hg : Tryd.prog.globalNamed "internal/strconv.uint64pow10" with
  | none => simp [hg] at h
  | some g =>
    simp only [hg, Option.bind_some] at h ⊢
    have hlt : g < w.heap.size := by
      by_cases hc : g < w.heap.size
      · exact hc
      · rw [Array.getElem?_eq_none (by omega)] at h
        simp at h
    rw [hb.block g hlt]
    exact h

set_option maxRecDepth 100000 in
set_option maxHeartbeats 8000000 in
theorem numbers_walk (n : Int) (s : ByteArray) (w : World) (h0 : -9223372036854775808 ≤ n) (h1 : n ≤ 9223372036854775807) (hs : s.size ≤ maxLen) (hT : Pow w) :
    Calls Tryd.prog 4 #[.int .i64 n, .string s] w fun e w' => e = .returned (.bool true) ∧ Below w.heap.size w w' := by
  have HT := Lib.hid hT
  clear hT
  obtain ⟨a1, e1⟩ : ∃ x, readN s.data.toList = x := ⟨_, rfl⟩
  obtain ⟨a2, e2⟩ : ∃ x, readE s.data.toList = x := ⟨_, rfl⟩
  obtain ⟨a3, e3⟩ : ∃ x, takeN s.data.toList = x := ⟨_, rfl⟩
  obtain ⟨a4, e4⟩ : ∃ x : ByteArray, (⟨(takeR s.data.toList).toArray⟩ : ByteArray) = x := ⟨_, rfl⟩
  obtain ⟨a5, e5⟩ : ∃ x, takeE s.data.toList = x := ⟨_, rfl⟩
  obtain ⟨a6, e6⟩ : ∃ x : ByteArray, (⟨(Lib.itoa n).toArray⟩ : ByteArray) = x := ⟨_, rfl⟩
  have E1 := Lib.hid e1
  have E2 := Lib.hid e2
  have E3 := Lib.hid e3
  have E4 := Lib.hid e4
  have E5 := Lib.hid e5
  have E6 := Lib.hid e6
  clear e1 e2 e3 e4 e5 e6
  go_enter Tryd.func4, Tryd.ntmps4
  go_wp2_with fail
  refine (read_any _ _ hs).mono ?_
  rintro e w1 ⟨rfl, hb1⟩
  rw [E1.out, E2.out]
  go_wp2_with fail
  refine (refRead_any _ _ hs).mono ?_
  rintro e w2 ⟨rfl, hb2⟩
  rw [E1.out, E2.out]
  have hb12 := below_join hb1 hb2
  clear hb1 hb2
  go_wp2_with fail
  refine (take_any _ _ hs).mono ?_
  rintro e w3 ⟨rfl, hb3⟩
  rw [E3.out, E4.out, E5.out]
  have hb13 := below_join hb12 hb3
  clear hb12 hb3
  go_wp2_with fail
  refine (refTake_any _ _ hs).mono ?_
  rintro e w4 ⟨rfl, hb4⟩
  rw [E3.out, E4.out, E5.out]
  have hb := below_join hb13 hb4
  have hP := keepPow HT.out hb
  clear hb13 hb4
  go_wp2_with fail
  refine (number_any n h0 h1 _ hP).mono ?_
  rintro e w5 ⟨rfl, hb5⟩
  rw [E6.out]
  have hbb := below_join hb hb5
  clear hb hb5 hP
  go_wp2_with fail
  refine (refNumber_any n h0 h1 _).mono ?_
  rintro e w6 ⟨rfl, hb6⟩
  rw [E6.out]
  have hb := below_join hbb hb6
  clear hbb hb6
  go_wp2_with fail
  go_ret
  exact ⟨rfl, hb⟩
end Go.Proofs.YtphepdhppjnfpaaDoor
