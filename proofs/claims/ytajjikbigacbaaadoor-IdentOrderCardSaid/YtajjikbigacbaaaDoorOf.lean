import Derived.Test.YtajjikbigacbaaaDoorTz
import Derived.Test.YtajjikbigacbaaaDoorSetB
namespace Go.Proofs.YtajjikbigacbaaaDoor
open Go.RowKit

def OfPost (w : World) (l : List Int) (e : Ending) (w' : World) : Prop := e = .returned (.tuple #[.int .u64 (ofA l : Nat), .int .i64 (ofE l)]) ∧ Below w.heap.size w w'
theorem of_ret {a b : Nat} {c d : Int} (h : a = b) (h2 : c = d) : Ending.returned (.tuple #[.int .u64 (a : Int), .int .i64 c]) = .returned (.tuple #[.int .u64 (b : Int), .int .i64 d]) := by rw [h, h2]


set_option maxHeartbeats 8000000 in
set_option maxRecDepth 100000 in
theorem refOf_any (v : Value) (l : List Int) (w : World) (hv : Nums .i64 w v l) :
    Calls Tryd.prog 36 #[v] w (OfPost w l) := by
  obtain ⟨ao, cap, b, o, rfl, hao, hm, hc⟩ := hv.form
  have Hao := Lib.hid hao
  have Hc := Lib.hid hc
  obtain ⟨n, hn⟩ : ∃ n, l.length = n := ⟨_, rfl⟩
  have Hn := Lib.hid hn
  rw [hn] at hm ⊢
  unfold maxLen at hm
  clear hv hao hc hn
  go_enter Tryd.func36, Tryd.ntmps36
  go_wp2
  go_loopw [5] (fun i wr => ∃ k x : Nat, k ≤ n ∧ i = .int .i64 k ∧ x < 18446744073709551616 ∧ Hid (okL (l.take k) = true ∧ x = ofN (l.take k)) ∧ SetAt wr w.heap.size x ∧ Below w.heap.size w wr) (fun i _ => n - (intOf i).toNat)
  case atStart => exact ⟨0, 0, Nat.zero_le _, rfl, by omega, ⟨by simp [okL], by simp [ofN]⟩, SetAt.fresh w, (Below.refl _ _).alloc (Nat.le_refl _) _⟩
  case round =>
    obtain ⟨k, x, hk, rfl, hx, Hx, hs, hbw⟩ := hrel
    have Hs := Lib.hid hs
    have Hbw := Lib.hid hbw
    clear hs hbw
    by_cases hlt : k < n
    · have hka : k < l.length := by have := Hn.out; omega
      obtain rfl := Hao.out (by omega)
      have c1 := cell_kept Hbw.out (Hc.out k hka)
      have Hok := Lib.hid (okL_take l k hka Hx.out.1)
      have Hno := Lib.hid (okL_not l k hka)
      have Hof := Lib.hid (ofN_take l k hka)
      obtain ⟨c, hcx⟩ : ∃ c, l[k]'hka = c := ⟨_, rfl⟩
      rw [hcx] at c1
      have Hcx := Lib.hid hcx
      have hi0 : (0 : Int) ≤ (k : Int) := by omega
      have hi1 : (k : Int) < (n : Int) := by omega
      clear hcx
      by_cases hcc : okC c = true
      · obtain ⟨h0, h63⟩ := (okC_iff c).1 hcc
        obtain ⟨m, rfl⟩ : ∃ m : Nat, c = m := ⟨c.toNat, by omega⟩
        have hm64 : m < 64 := by omega
        have hm63 : (m : Int) ≤ 63 := by omega
        have Hcc := Lib.hid hcc
        have Hlt := Lib.hid (addC_lt hx hcc)
        have c2 := Hs.out.cell m hm64
        have f2 := Hs.out.frozen m
        have Hput := Lib.hid (Hs.out.put m true (addC x m) (by
          intro j hj
          rw [addC, Nat.testBit_or, Int.toNat_natCast, Nat.testBit_two_pow]
          by_cases e : j = m
          · simp [e]
          · have e2 : ¬ m = j := fun e' => e e'.symm
            simp [e, e2]))
        clear hcc h0 h63
        go_wp2_with fail
        go_roundw
        case rel =>
          refine ⟨k + 1, addC x m, by omega, by go_num, Hlt.out, ⟨Hok.out (by rw [Hcx.out]; exact Hcc.out), ?_⟩, Hput.out, Hbw.out.setCell (Nat.le_refl _) _⟩
          rw [Hof.out, Hcx.out, ← Hx.out.2]
        case measure => simp [intOf]; omega
      · have HF := Lib.hid (Hno.out (by rw [Hcx.out]; simpa using hcc))
        have hbad : c < 0 ∨ 63 < c := by
          have := (not_congr (okC_iff c)).1 hcc
          omega
        clear hcc
        rcases hbad with hbad | hbad
        · go_wp2_with fail
          go_ret2
          exact ⟨of_ret (by rw [ofA, HF.out]; rfl) (by rw [ofE, HF.out]; rfl), Hbw.out⟩
        · have hn0 : ¬ c < 0 := by omega
          go_wp2_with fail
          go_ret2
          exact ⟨of_ret (by rw [ofA, HF.out]; rfl) (by rw [ofE, HF.out]; rfl), Hbw.out⟩
    · obtain rfl : k = n := by omega
      have Hall : Hid (l.take k = l) := by show _ = _; exact List.take_of_length_le (by rw [Hn.out]; omega)
      go_wp2_with (refine wpList_load_row rfl 91 _ rfl w.heap.size rfl _ _ _ _ Hs.out Tryd.underlying91 rfl (by rw [setV_size]; exact sizeSet) ?_)
      refine (refWord_any x _ hx).mono ?_
      rintro e w4 ⟨rfl, hb4⟩
      have Hb4 := Lib.hid (below_join Hbw.out hb4)
      clear hb4
      go_wp2_with fail
      go_ret2
      have h := Hx.out
      rw [Hall.out] at h
      exact ⟨of_ret (by rw [ofA, h.1, h.2]; rfl) (by rw [ofE, h.1]; rfl), Hb4.out⟩
end Go.Proofs.YtajjikbigacbaaaDoor
