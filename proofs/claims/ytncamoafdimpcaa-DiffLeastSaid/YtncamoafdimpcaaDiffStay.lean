/- Own work: diff.stay. -/
import Derived.Test.YtncamoafdimpcaaDiffGreat
import Derived.Test.YtncamoafdimpcaaDiffRun
namespace Go.Proofs.Ytncamoafdimpcaa
open Go.RowKit

theorem walkL_left (a : List ByteArray) : walkL a [] 0 0 = [] := by cases a <;> rw [walkL]
theorem stayL_none {a b : List ByteArray} (h : a.length = 0 ∨ b.length = 0 ∨ maxWork < a.length * b.length) : stayL a b = [] := by
  rw [stayL]
  rcases h with h | h | h
  · rw [List.eq_nil_of_length_eq_zero h]
    split
    · rw [walkL]
    · rfl
  · rw [List.eq_nil_of_length_eq_zero h]
    split
    · exact walkL_left a
    · rfl
  · rw [if_neg (by omega)]
theorem stayL_some {a b : List ByteArray} (h : a.length * b.length ≤ maxWork) : stayL a b = walkAt a b 0 0 := by
  rw [stayL, if_pos h]
  rfl
theorem tdiv_nat (c m : Nat) : (c : Int).tdiv (m : Int) = ((c / m : Nat) : Int) := by
  rw [Int.tdiv_eq_ediv_of_nonneg (by omega)]
  rfl

set_option maxRecDepth 100000 in
set_option maxHeartbeats 8000000 in
theorem stay_any (u v : Value) (a b : List ByteArray) (w : World) (hu : Texts w u a) (hv : Texts w v b) :
    Calls Try.prog 26 #[u, v] w fun e w' => ∃ p, e = .returned p ∧ OwnP w' w.heap.size p (stayL a b) ∧ Below w.heap.size w w' := by
  have Hu := Lib.hid hu
  have Hv := Lib.hid hv
  obtain ⟨uo, uc, ub, uof, rfl, huo, hum, hcu⟩ := hu.form
  obtain ⟨vo, vc, vb, vof, rfl, hvo, hvm, hcv⟩ := hv.form
  have Huo := Lib.hid huo
  have Hvo := Lib.hid hvo
  have Hcu := Lib.hid hcu
  have Hcv := Lib.hid hcv
  clear hu hv huo hvo hcu hcv
  obtain ⟨n, hn⟩ : ∃ n, a.length = n := ⟨_, rfl⟩
  obtain ⟨m, hm⟩ : ∃ m, b.length = m := ⟨_, rfl⟩
  have Hn := Lib.hid hn
  have Hm := Lib.hid hm
  rw [hn] at hum Hu ⊢
  rw [hm] at hvm Hv ⊢
  clear hn hm
  unfold maxLen at hum hvm
  by_cases h0 : n = 0
  · have HE : Hid (stayL a b = []) := stayL_none (.inl (Hn.out.trans h0))
    subst h0
    go_enter Try.func26, Try.ntmps26
    go_wp2_with fail
    go_ret
    exact ⟨_, rfl, by rw [HE.out]; exact ownP_nil _ _, Below.refl _ _⟩
  by_cases h1 : m = 0
  · have HE : Hid (stayL a b = []) := stayL_none (.inr (.inl (Hm.out.trans h1)))
    have b1 : ((n : Int) == 0) = false := by simp; omega
    subst h1
    go_enter Try.func26, Try.ntmps26
    go_wp2_with fail
    go_ret
    exact ⟨_, rfl, by rw [HE.out]; exact ownP_nil _ _, Below.refl _ _⟩
  have b1 : ((n : Int) == 0) = false := by simp; omega
  have b2 : ((m : Int) == 0) = false := by simp; omega
  have b3 : ¬ ((m : Int) = 0) := by omega
  obtain ⟨D, hD⟩ : ∃ D, 1048576 / m = D := ⟨_, rfl⟩
  have e1 : (1048576 : Int).tdiv (m : Int) = (D : Int) := by rw [← hD]; exact tdiv_nat 1048576 m
  have hDb : D ≤ 1048576 := by rw [← hD]; exact Nat.div_le_self _ _
  by_cases h2 : D < n
  · have HE : Hid (stayL a b = []) := stayL_none (.inr (.inr (by
      rw [Hn.out, Hm.out, ← Nat.div_lt_iff_lt_mul (by omega)]
      exact hD ▸ h2)))
    have b4 : (D : Int) < (n : Int) := by omega
    clear hD
    go_enter Try.func26, Try.ntmps26
    go_wp2_with fail
    go_ret
    exact ⟨_, rfl, by rw [HE.out]; exact ownP_nil _ _, Below.refl _ _⟩
  · have hnm : n * m ≤ 1048576 := by
      have h3 : n ≤ 1048576 / m := by omega
      exact (Nat.le_div_iff_mul_le (by omega)).1 h3
    have HE : Hid (stayL a b = walkAt a b 0 0) := stayL_some (by rw [Hn.out, Hm.out]; exact hnm)
    have hnb : n ≤ 1048576 := by omega
    have hmb : m ≤ 1048576 := Nat.le_trans (Nat.le_mul_of_pos_left _ (by omega)) hnm
    have b4 : ¬ ((D : Int) < (n : Int)) := by omega
    have Hnm := Lib.hid hnm
    clear hD hnm
    go_enter Try.func26, Try.ntmps26
    go_wp2_with fail
    have hG := greatestOf_any uo vo uc vc a b w (by rw [Hn.out]; exact Hu.out) (by rw [Hm.out]; exact Hv.out) (by rw [Hn.out]; omega) (by rw [Hm.out]; omega) (by rw [Hn.out, Hm.out]; exact Hnm.out)
    rw [Hn.out, Hm.out] at hG
    refine hG.mono ?_
    rintro e w1 ⟨fv, rfl, ⟨A, Bb, T, g, rfl, hga⟩, hb1⟩
    have HGA := Lib.hid hga
    have B1 := Lib.hid hb1
    clear hG hga hb1
    go_wp2_with fail
    go_loopw [6, 7, 8] (fun pv iv jv wr => ∃ (i j : Nat) (l : List (Nat × Nat)), i ≤ n ∧ j ≤ m ∧ l.length ≤ i ∧ iv = .int .i64 (i : Int) ∧ jv = .int .i64 (j : Int) ∧ Hid (OwnP wr w1.heap.size pv l) ∧ Hid (l ++ walkAt a b i j = walkAt a b 0 0) ∧ Hid (Below w1.heap.size w1 wr)) (fun _ iv jv _ => (n - (intOf iv).toNat) + (m - (intOf jv).toNat))
    case atStart => exact ⟨0, 0, [], by omega, by omega, by simp, rfl, rfl, ownP_nil _ _, rfl, Below.refl _ _⟩
    case round =>
      obtain ⟨i, j, l, hi, hj, hl, rfl, rfl, HO, HW, HB⟩ := hrel
      by_cases hlt : i < n ∧ j < m
      · obtain ⟨hi1, hj1⟩ := hlt
        have hka : i < a.length := by have := Hn.out; omega
        have hkb : j < b.length := by have := Hm.out; omega
        have HS := Lib.hid (walkAt_step a b i j hka hkb)
        obtain rfl := Huo.out (by omega)
        obtain rfl := Hvo.out (by omega)
        have c1 := cell_kept HB.out (cell_kept B1.out (Hcu.out i hka))
        have c2 := cell_kept HB.out (cell_kept B1.out (Hcv.out j hkb))
        obtain ⟨x, hx⟩ : ∃ x, a[i]'hka = x := ⟨_, rfl⟩
        obtain ⟨y, hy⟩ : ∃ y, b[j]'hkb = y := ⟨_, rfl⟩
        rw [hx] at c1 HS
        rw [hy] at c2 HS
        have ki0 : (0 : Int) ≤ (i : Int) := by omega
        have ki1 : (i : Int) < (n : Int) := by omega
        have kj0 : (0 : Int) ≤ (j : Int) := by omega
        have kj1 : (j : Int) < (m : Int) := by omega
        clear hx hy
        by_cases hxy : x = y
        · have hq := bytes_beq hxy
          have HS2 : Hid (walkAt a b i j = (i, j) :: walkAt a b (i + 1) (j + 1)) := by show _ = _; rw [HS.out, if_pos hxy]
          clear hxy
          go_wp2_with fail
          go_quiet (fail)
          have HOq : Hid (OwnP (wr.drewN nq) w1.heap.size u6 l) := HO.out.below (below_drewN (Below.refl _ _) _)
          have hsz : w1.heap.size ≤ (wr.drewN nq).heap.size := HB.out.size
          go_wp2_with (at_builtin; refine wpList_append_pair rfl _ _ rfl w1.heap.size _ l (i, j) rfl HOq.out _ rfl (by omega) hsz ?_)
          intro v' w' ho' hb'
          have HO' := Lib.hid ho'
          have HB' := Lib.hid ((below_drewN HB.out _).trans hb')
          clear ho' hb'
          go_wp2_with fail
          go_roundw
          case rel =>
            refine ⟨i + 1, j + 1, _, by omega, by omega, ?_, by go_num, by go_num, HO', ?_, HB'⟩
            · rw [List.length_append, List.length_singleton]; omega
            · show _ = _
              rw [← HW.out, HS2.out, List.append_assoc]
              rfl
          case measure => simp [intOf]; omega
        · have hq := bytes_bne hxy
          have HS2 : Hid (walkAt a b i j = if mostAt a b i (j + 1) ≤ mostAt a b (i + 1) j then walkAt a b (i + 1) j else walkAt a b i (j + 1)) := by show _ = _; rw [HS.out, if_neg hxy]
          clear hxy
          have h10 := fun q => Lib.hid ((HGA.out.kept (below_drewN HB.out q)).say (by rw [Hn.out]; exact hnb) (by rw [Hm.out]; exact hmb) (by rw [Hn.out, Hm.out]; exact Hnm.out) (i + 1) j (by rw [Hn.out]; omega) (by rw [Hm.out]; omega) ((i : Int) + 1) (j : Int) (by omega) rfl)
          have h01 := fun q => Lib.hid ((HGA.out.kept (below_drewN HB.out q)).say (by rw [Hn.out]; exact hnb) (by rw [Hm.out]; exact hmb) (by rw [Hn.out, Hm.out]; exact Hnm.out) i (j + 1) (by rw [Hn.out]; omega) (by rw [Hm.out]; omega) (i : Int) ((j : Int) + 1) rfl (by omega))
          obtain ⟨m10, hm10⟩ : ∃ k, mostAt a b (i + 1) j = k := ⟨_, rfl⟩
          obtain ⟨m01, hm01⟩ : ∃ k, mostAt a b i (j + 1) = k := ⟨_, rfl⟩
          simp only [hm10] at h10 HS2
          simp only [hm01] at h01 HS2
          clear hm10 hm01
          by_cases hge : m01 ≤ m10
          · have HS3 : Hid (walkAt a b i j = walkAt a b (i + 1) j) := by show _ = _; rw [HS2.out, if_pos hge]
            have hgi : (m01 : Int) ≤ (m10 : Int) := by omega
            clear hge
            go_wp2_with fail
            go_quiet (fail)
            go_wp2_with fail
            refine (h10 _).out.mono ?_
            rintro e w2 ⟨rfl, rfl⟩
            go_wp2_with fail
            refine (h01 _).out.mono ?_
            rintro e w2 ⟨rfl, rfl⟩
            go_wp2_with fail
            go_roundw
            case rel => exact ⟨i + 1, j, l, by omega, by omega, by omega, by go_num, rfl, HO.out.below (below_drewN (Below.refl _ _) _), by show _ = _; rw [← HW.out, HS3.out], below_drewN HB.out _⟩
            case measure => simp [intOf]; omega
          · have HS3 : Hid (walkAt a b i j = walkAt a b i (j + 1)) := by show _ = _; rw [HS2.out, if_neg hge]
            have hgi : ¬ ((m01 : Int) ≤ (m10 : Int)) := by omega
            clear hge
            go_wp2_with fail
            go_quiet (fail)
            go_wp2_with fail
            refine (h10 _).out.mono ?_
            rintro e w2 ⟨rfl, rfl⟩
            go_wp2_with fail
            refine (h01 _).out.mono ?_
            rintro e w2 ⟨rfl, rfl⟩
            go_wp2_with fail
            go_roundw
            case rel => exact ⟨i, j + 1, l, by omega, by omega, by omega, rfl, by go_num, HO.out.below (below_drewN (Below.refl _ _) _), by show _ = _; rw [← HW.out, HS3.out], below_drewN HB.out _⟩
            case measure => simp [intOf]; omega
      · have HZ : Hid (l = stayL a b) := by
          show _ = _
          rw [HE.out, ← HW.out, walkAt_end a b i j (by rw [Hn.out, Hm.out]; omega), List.append_nil]
        have fin : Hid (OwnP wr w.heap.size u6 (stayL a b) ∧ Below w.heap.size w wr) := by
          refine ⟨?_, below_join B1.out HB.out⟩
          rw [← HZ.out]
          exact own_base HO.out B1.out.size
        by_cases hi1 : i < n
        · have hj1 : ¬ ((j : Int) < (m : Int)) := by omega
          have ki1 : (i : Int) < (n : Int) := by omega
          clear hlt
          go_wp2_with fail
          go_ret
          exact ⟨_, rfl, fin.out⟩
        · have ki1 : ¬ ((i : Int) < (n : Int)) := by omega
          clear hlt
          go_wp2_with fail
          go_ret
          exact ⟨_, rfl, fin.out⟩
end Go.Proofs.Ytncamoafdimpcaa
