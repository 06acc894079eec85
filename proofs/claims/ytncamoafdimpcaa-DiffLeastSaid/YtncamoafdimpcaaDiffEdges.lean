/- Own work: diff.Edges. -/
import Derived.Test.YtncamoafdimpcaaDiffMem
import Derived.Deep.CutBlock
import Derived.Deep.CutRange
namespace Go.Proofs.Ytncamoafdimpcaa
open Go.RowKit

theorem bytes_beq {x y : ByteArray} (h : x = y) : (x.toList == y.toList) = true := by rw [h]; simp
theorem bytes_bne {x y : ByteArray} (h : ¬ x = y) : (x.toList == y.toList) = false := by rw [bytes_eq]; simpa using h
theorem get_same {a b : List ByteArray} {k : Nat} {x : ByteArray} (ha : k < a.length) (hb : k < b.length) (h1 : a[k]'ha = x) (h2 : b[k]'hb = x) : a[k]? = b[k]? := by
  rw [List.getElem?_eq_getElem ha, List.getElem?_eq_getElem hb, h1, h2]
theorem get_other {a b : List ByteArray} {k j : Nat} {x y : ByteArray} (ha : k < a.length) (hb : j < b.length) (h1 : a[k]'ha = x) (h2 : b[j]'hb = y) (h : ¬ x = y) : a[k]? ≠ b[j]? := by
  rw [List.getElem?_eq_getElem ha, List.getElem?_eq_getElem hb, h1, h2]
  intro e
  exact h (Option.some.inj e)

set_option maxRecDepth 100000 in
set_option maxHeartbeats 8000000 in
theorem edges_any (u v : Value) (a b : List ByteArray) (w : World) (hu : Texts w u a) (hv : Texts w v b) :
    Calls Try.prog 14 #[u, v] w fun e w' => e = .returned (.tuple #[.int .i64 (preL a b : Nat), .int .i64 (sufL a b (preL a b) : Nat)]) ∧ Below w.heap.size w w' := by
  obtain ⟨uo, uc, ub, uof, rfl, huo, hum, hcu⟩ := hu.form
  obtain ⟨vo, vc, vb, vof, rfl, hvo, hvm, hcv⟩ := hv.form
  have Huo := Lib.hid huo
  have Hvo := Lib.hid hvo
  have Hcu := Lib.hid hcu
  have Hcv := Lib.hid hcv
  clear hu hv huo hvo hcu hcv
  obtain ⟨n, hn⟩ : ∃ n, a.length = n := ⟨_, rfl⟩
  obtain ⟨m, hm⟩ : ∃ m, b.length = m := ⟨_, rfl⟩
  have Hn := Lib.hid hn
  have Hm := Lib.hid hm
  rw [hn] at hum ⊢
  rw [hm] at hvm ⊢
  clear hn hm
  unfold maxLen at hum hvm
  obtain ⟨c, hc⟩ : ∃ c, min n m = c := ⟨_, rfl⟩
  have hcn : c ≤ n := by omega
  have hcm : c ≤ m := by omega
  have Hc := Lib.hid hc
  clear hc
  obtain ⟨p, hp⟩ : ∃ p, preL a b = p := ⟨_, rfl⟩
  have HP := Lib.hid hp
  have hpc : p ≤ c := by have h := preL_spec a b; have := Hn.out; have := Hm.out; have := Hc.out; omega
  obtain ⟨s, hs⟩ : ∃ s, sufL a b p = s := ⟨_, rfl⟩
  have HS := Lib.hid hs
  have hsc : s ≤ c - p := by
    have h := sufL_spec a b p (by have := Hn.out; omega) (by have := Hm.out; omega)
    have := Hn.out; have := Hm.out; have := Hc.out; omega
  rw [hp, hs]
  clear hp hs
  go_enter Try.func14, Try.ntmps14
  go_upto_region 1 with fail
  go_cut [6] from 7 to 11 (fun y wx => y = .int .i64 (c : Int) ∧ wx = w)
  case first =>
    go_wp2_with fail
    all_goals
      go_meet
      refine ⟨congrArg (Value.int .i64) ?_, rfl⟩
      have := Hc.out
      omega
  case rest =>
    obtain ⟨rfl, hw⟩ := hcut
    obtain rfl : w = wc := hw.symm
    clear hw
    go_upto_block 0 with fail
    go_cut [4] from 12 to 27 (fun y wx => y = .int .i64 (p : Int) ∧ Below w.heap.size w wx)
    case first =>
      go_wp2_with fail
      go_loopw [4] (fun y wr => ∃ k : Nat, k ≤ p ∧ y = .int .i64 (k : Int) ∧ Below w.heap.size w wr) (fun y _ => p - (intOf y).toNat)
      case atStart => exact ⟨0, Nat.zero_le _, rfl, Below.refl _ _⟩
      case round =>
        obtain ⟨k, hk, rfl, hb⟩ := hrel
        have HB := Lib.hid hb
        clear hb
        by_cases hlt : k < c
        · have hka : k < a.length := by have := Hn.out; omega
          have hkb : k < b.length := by have := Hm.out; omega
          obtain rfl := Huo.out (by omega)
          obtain rfl := Hvo.out (by omega)
          have c1 := cell_kept HB.out (Hcu.out k hka)
          have c2 := cell_kept HB.out (Hcv.out k hkb)
          obtain ⟨x, hx⟩ : ∃ x, a[k]'hka = x := ⟨_, rfl⟩
          obtain ⟨y, hy⟩ : ∃ y, b[k]'hkb = y := ⟨_, rfl⟩
          have Hx := Lib.hid hx
          have Hy := Lib.hid hy
          rw [hx] at c1
          rw [hy] at c2
          have hi0 : (0 : Int) ≤ (k : Int) := by omega
          have hi1 : (k : Int) < (n : Int) := by omega
          have hi2 : (k : Int) < (m : Int) := by omega
          have hi3 : (k : Int) < (c : Int) := by omega
          clear hx hy
          by_cases he : k < p
          · have hxy : x = y := by
              have h := (preL_spec a b).2.2.1 k (by have := HP.out; omega)
              rw [List.getElem?_eq_getElem hka, List.getElem?_eq_getElem hkb, Hx.out, Hy.out] at h
              exact Option.some.inj h
            have hq := bytes_beq hxy
            clear hxy
            go_wp2_with fail
            go_quiet (fail)
            go_wp2_with fail
            go_roundw
            case rel => exact ⟨k + 1, by omega, by go_num, below_drewN HB.out _⟩
            case measure => simp [intOf]; omega
          · obtain rfl : k = p := by omega
            have hxy : ¬ x = y := by
              intro hxy
              have h := (preL_spec a b).2.2.2
              rw [HP.out] at h
              rcases h with h | h | h
              · omega
              · omega
              · exact h (get_same hka hkb Hx.out (Hy.out.trans hxy.symm))
            have hq := bytes_bne hxy
            clear hxy
            go_wp2_with fail
            go_quiet (fail)
            go_wp2_with fail
            go_meet
            exact ⟨rfl, below_drewN HB.out _⟩
        · obtain rfl : k = p := by omega
          have hd : decide ((k : Int) < (c : Int)) = false := by simp; omega
          go_wp2_with fail
          go_quiet (fail)
          go_wp2_with fail
          go_meet
          exact ⟨rfl, below_drewN HB.out _⟩
    case rest =>
      obtain ⟨rfl, hb1⟩ := hcut
      have B1 := Lib.hid hb1
      clear hb1
      go_wp2_with fail
      go_loopw [5] (fun y wr => ∃ k : Nat, k ≤ s ∧ y = .int .i64 (k : Int) ∧ Below w.heap.size w wr) (fun y _ => s - (intOf y).toNat)
      case atStart => exact ⟨0, Nat.zero_le _, rfl, B1.out⟩
      case round =>
        obtain ⟨k, hk, rfl, hb⟩ := hrel
        have HB := Lib.hid hb
        clear hb
        by_cases hlt : k < c - p
        · have hka : n - 1 - k < a.length := by have := Hn.out; omega
          have hkb : m - 1 - k < b.length := by have := Hm.out; omega
          obtain rfl := Huo.out (by omega)
          obtain rfl := Hvo.out (by omega)
          have c1 := cell_kept HB.out (Hcu.out (n - 1 - k) hka)
          have c2 := cell_kept HB.out (Hcv.out (m - 1 - k) hkb)
          obtain ⟨x, hx⟩ : ∃ x, a[n - 1 - k]'hka = x := ⟨_, rfl⟩
          obtain ⟨y, hy⟩ : ∃ y, b[m - 1 - k]'hkb = y := ⟨_, rfl⟩
          have Hx := Lib.hid hx
          have Hy := Lib.hid hy
          rw [hx] at c1
          rw [hy] at c2
          clear hx hy
          obtain ⟨n', hn'⟩ : ∃ n', n - 1 - k = n' := ⟨_, rfl⟩
          obtain ⟨m', hm'⟩ : ∃ m', m - 1 - k = m' := ⟨_, rfl⟩
          have e1 : (n : Int) - 1 - (k : Int) = (n' : Int) := by omega
          have e2 : (m : Int) - 1 - (k : Int) = (m' : Int) := by omega
          have Hn' := Lib.hid hn'
          have Hm' := Lib.hid hm'
          rw [hn'] at c1
          rw [hm'] at c2
          have hj1 : (0 : Int) ≤ (n' : Int) := by omega
          have hj2 : (n' : Int) < (n : Int) := by omega
          have hj3 : (0 : Int) ≤ (m' : Int) := by omega
          have hj4 : (m' : Int) < (m : Int) := by omega
          have hi3 : (k : Int) < (c : Int) - (p : Int) := by omega
          clear hn' hm'
          by_cases he : k < s
          · have hxy : x = y := by
              have h := (sufL_spec a b p (by have := Hn.out; omega) (by have := Hm.out; omega)).2.2 k (by have := HS.out; omega)
              rw [Hn.out, Hm.out, List.getElem?_eq_getElem hka, List.getElem?_eq_getElem hkb, Hx.out, Hy.out] at h
              exact Option.some.inj h
            have hq := bytes_beq hxy
            clear hxy
            go_wp2_with fail
            go_quiet (fail)
            go_wp2_with fail
            go_roundw
            case rel => exact ⟨k + 1, by omega, by go_num, below_drewN HB.out _⟩
            case measure => simp [intOf]; omega
          · obtain rfl : k = s := by omega
            have hxy : ¬ x = y := by
              intro hxy
              have h := sufL_end a b p (by have := Hn.out; omega) (by have := Hm.out; omega)
              rw [HS.out, Hn.out, Hm.out] at h
              rcases h with h | h | h
              · omega
              · omega
              · exact h (by rw [List.getElem?_eq_getElem hka, List.getElem?_eq_getElem hkb, Hx.out, Hy.out, hxy])
            have hq := bytes_bne hxy
            clear hxy
            go_wp2_with fail
            go_quiet (fail)
            go_wp2_with fail
            go_ret2
            exact ⟨rfl, below_drewN HB.out _⟩
        · obtain rfl : k = s := by omega
          have hd : decide ((k : Int) < (c : Int) - (p : Int)) = false := by simp; omega
          go_wp2_with fail
          go_quiet (fail)
          go_wp2_with fail
          go_ret2
          exact ⟨rfl, below_drewN HB.out _⟩
end Go.Proofs.Ytncamoafdimpcaa
