/- Own work: scrimref06's answers: lists held against each other. -/
import Derived.Test.YtgchcgllpceghaaSeeA
import Derived.Lib.SmallJoins
import Derived.Deep.Draws
import Derived.Test.YtgchcgllpceghaaTexts
namespace Go.Proofs.Ytgchcgllpceghaa
open Go.RowKit

theorem bytes_iff {a b : ByteArray} : a.toList = b.toList ↔ a = b := by
  rw [Lib.toList_data, Lib.toList_data]
  exact ⟨fun h => ByteArray.ext (Array.toList_inj.1 h), fun h => by rw [h]⟩
theorem oneB_eq {x y : LineV} : oneB x y = true ↔ x = y := by
  cases x; cases y
  simp only [oneB, Bool.and_eq_true, beq_iff_eq, LineV.mk.injEq, bytes_iff]
  exact ⟨fun ⟨⟨⟨a, b⟩, c⟩, d⟩ => ⟨a, b, c, d⟩, fun ⟨a, b, c, d⟩ => ⟨⟨⟨a, b⟩, c⟩, d⟩⟩

instance : DecidableEq LineV := fun _ _ => decidable_of_iff _ oneB_eq

set_option maxRecDepth 100000 in
set_option maxHeartbeats 8000000 in
theorem lines06_any (u v : Value) (a b : List LineV) (w : World) (hu : Lns w u a) (hv : Lns w v b) :
    Calls Try.prog 18 #[u, v] w fun e w' => e = .returned (.bool (decide (a = b))) ∧ Below w.heap.size w w' := by
  obtain ⟨ao, ac, ab, aof, rfl, hao, hml, hac⟩ := hu.form
  unfold maxLen at hml
  obtain ⟨bo, bc, bb, bof, rfl, hbo, _, hbc⟩ := hv.form
  by_cases hl : a.length = b.length
  · obtain ⟨n, hn⟩ : ∃ n, a.length = n := ⟨_, rfl⟩
    have Hn := Lib.hid hn
    have Hn' := Lib.hid (hl.symm.trans hn)
    have Hac := Lib.hid hac
    have Hbc := Lib.hid hbc
    rw [hn] at hao hl hml ⊢
    rw [← hl] at hbo ⊢
    have Hao := Lib.hid hao
    have Hbo := Lib.hid hbo
    clear hac hbc hao hbo hu hv hn hl
    go_enter Try.func18, Try.ntmps18
    go_wp2_with fail
    go_loopw [5] (fun i wr => ∃ k : Nat, k ≤ n ∧ i = .int .i64 k ∧ Hid (a.take k = b.take k) ∧ Below w.heap.size w wr) (fun i _ => n - (intOf i).toNat)
    case atStart => exact ⟨0, Nat.zero_le _, rfl, rfl, Below.refl _ _⟩
    case round =>
      obtain ⟨k, hk, rfl, HT, hbw⟩ := hrel
      have Hbw := Lib.hid hbw
      clear hbw
      by_cases hlt : k < n
      · have hka : k < a.length := by rw [Hn.out]; exact hlt
        have hkb : k < b.length := by rw [Hn'.out]; exact hlt
        obtain rfl := Hao.out (by omega)
        obtain rfl := Hbo.out (by omega)
        obtain ⟨c0, c1, c2, c3⟩ := Hac.out k hka
        obtain ⟨d0, d1, d2, d3⟩ := Hbc.out k hkb
        have c0 := cell_kept Hbw.out c0
        have c1 := cell_kept Hbw.out c1
        have c2 := cell_kept Hbw.out c2
        have c3 := cell_kept Hbw.out c3
        have d0 := cell_kept Hbw.out d0
        have d1 := cell_kept Hbw.out d1
        have d2 := cell_kept Hbw.out d2
        have d3 := cell_kept Hbw.out d3
        have hi0 : (0 : Int) ≤ (k : Int) := by omega
        have hi1 : (k : Int) < (n : Int) := by omega
        have Hta := Lib.hid (List.take_succ_eq_append_getElem hka)
        have Htb := Lib.hid (List.take_succ_eq_append_getElem hkb)
        have Hne := Lib.hid (show ¬ a[k]'hka = b[k]'hkb → ¬ a = b from fun h e => h (by subst e; rfl))
        obtain ⟨x, hx⟩ : ∃ x, a[k]'hka = x := ⟨_, rfl⟩
        obtain ⟨y, hy⟩ : ∃ y, b[k]'hkb = y := ⟨_, rfl⟩
        rw [hx] at c0 c1 c2 c3 Hta Hne
        rw [hy] at d0 d1 d2 d3 Htb Hne
        clear hx hy
        obtain ⟨x1, x2, x3, x4⟩ := x
        obtain ⟨y1, y2, y3, y4⟩ := y
        by_cases e1 : x1 = y1
        rotate_left
        · have Hno := Lib.hid (Hne.out (fun e => e1 (by injection e)))
          go_wp2_with fail
          go_big_quiet (fail)
          go_wp2
          go_ret
          exact ⟨retBool (by simp [Hno.out]), below_drewN Hbw.out _⟩
        by_cases e2 : x2 = y2
        rotate_left
        · have Hno := Lib.hid (Hne.out (fun e => e2 (by injection e)))
          go_wp2_with fail
          go_big_quiet (fail)
          go_wp2
          go_ret
          exact ⟨retBool (by simp [Hno.out]), below_drewN Hbw.out _⟩
        by_cases e3 : x3 = y3
        rotate_left
        · have Hno := Lib.hid (Hne.out (fun e => e3 (by injection e)))
          go_wp2_with fail
          go_big_quiet (fail)
          go_wp2
          go_ret
          exact ⟨retBool (by simp [Hno.out]), below_drewN Hbw.out _⟩
        by_cases e4 : x4 = y4
        rotate_left
        · have e4' : ¬ x4.toList = y4.toList := fun e => e4 (bytes_iff.1 e)
          have Hno := Lib.hid (Hne.out (fun e => e4 (by injection e)))
          go_wp2_with fail
          go_big_quiet (fail)
          go_wp2
          go_ret
          exact ⟨retBool (by simp [Hno.out]), below_drewN Hbw.out _⟩
        subst e1 e2 e3 e4
        have Hk := Lib.hid (show k + 1 ≤ n from hlt)
        go_wp2_with fail
        go_big_quiet (fail)
        go_wp2
        go_roundw
        case rel =>
          refine ⟨k + 1, Hk.out, by go_num, ?_, below_drewN Hbw.out _⟩
          show _ = _
          rw [Hta.out, Htb.out, HT.out]
        case measure => have := Hk.out; simp [intOf]; omega
      · obtain rfl : k = n := by omega
        go_wp2_with fail
        go_ret
        have e : a = b := by
          have h := HT.out
          rwa [List.take_of_length_le (by rw [Hn.out]; exact Nat.le_refl _), List.take_of_length_le (by rw [Hn'.out]; exact Nat.le_refl _)] at h
        exact ⟨retBool (by simp [e]), Hbw.out⟩
  · have hne : a ≠ b := fun e => hl (by rw [e])
    obtain ⟨m, hm⟩ : ∃ m, a.length = m := ⟨_, rfl⟩
    obtain ⟨n, hn⟩ : ∃ n, b.length = n := ⟨_, rfl⟩
    rw [hm, hn] at hl
    have hmn : ((m : Int) != (n : Int)) = true := by rw [bne_iff_ne]; omega
    have Hne := Lib.hid hne
    rw [hm, hn]
    clear hu hv hao hac hbo hbc hm hn hne
    go_enter Try.func18, Try.ntmps18
    go_wp2_with fail
    go_ret
    exact ⟨retBool (by simp [Hne.out]), Below.refl _ _⟩
set_option maxRecDepth 100000 in
set_option maxHeartbeats 8000000 in
theorem linesEqual_any (u v : Value) (a b : List LineV) (w : World) (hu : Lns w u a) (hv : Lns w v b) :
    Calls Try.prog 51 #[u, v] w fun e w' => e = .returned (.bool (decide (a = b))) ∧ Below w.heap.size w w' := by
  obtain ⟨ao, ac, ab, aof, rfl, hao, hml, hac⟩ := hu.form
  unfold maxLen at hml
  obtain ⟨bo, bc, bb, bof, rfl, hbo, _, hbc⟩ := hv.form
  by_cases hl : a.length = b.length
  · obtain ⟨n, hn⟩ : ∃ n, a.length = n := ⟨_, rfl⟩
    have Hn := Lib.hid hn
    have Hn' := Lib.hid (hl.symm.trans hn)
    have Hac := Lib.hid hac
    have Hbc := Lib.hid hbc
    rw [hn] at hao hl hml ⊢
    rw [← hl] at hbo ⊢
    have Hao := Lib.hid hao
    have Hbo := Lib.hid hbo
    clear hac hbc hao hbo hu hv hn hl
    go_enter Try.func51, Try.ntmps51
    go_wp2_with fail
    go_loopw [13] (fun i wr => ∃ k : Nat, k ≤ n ∧ i = .int .i64 k ∧ Hid (a.take k = b.take k) ∧ Below w.heap.size w wr) (fun i _ => n - (intOf i).toNat)
    case atStart => exact ⟨0, Nat.zero_le _, rfl, rfl, Below.refl _ _⟩
    case round =>
      obtain ⟨k, hk, rfl, HT, hbw⟩ := hrel
      have Hbw := Lib.hid hbw
      clear hbw
      by_cases hlt : k < n
      · have hka : k < a.length := by rw [Hn.out]; exact hlt
        have hkb : k < b.length := by rw [Hn'.out]; exact hlt
        obtain rfl := Hao.out (by omega)
        obtain rfl := Hbo.out (by omega)
        obtain ⟨c0, c1, c2, c3⟩ := Hac.out k hka
        obtain ⟨d0, d1, d2, d3⟩ := Hbc.out k hkb
        have c0 := cell_kept Hbw.out c0
        have c1 := cell_kept Hbw.out c1
        have c2 := cell_kept Hbw.out c2
        have c3 := cell_kept Hbw.out c3
        have d0 := cell_kept Hbw.out d0
        have d1 := cell_kept Hbw.out d1
        have d2 := cell_kept Hbw.out d2
        have d3 := cell_kept Hbw.out d3
        have hi0 : (0 : Int) ≤ (k : Int) := by omega
        have hi1 : (k : Int) < (n : Int) := by omega
        have Hta := Lib.hid (List.take_succ_eq_append_getElem hka)
        have Htb := Lib.hid (List.take_succ_eq_append_getElem hkb)
        have Hne := Lib.hid (show ¬ a[k]'hka = b[k]'hkb → ¬ a = b from fun h e => h (by subst e; rfl))
        obtain ⟨x, hx⟩ : ∃ x, a[k]'hka = x := ⟨_, rfl⟩
        obtain ⟨y, hy⟩ : ∃ y, b[k]'hkb = y := ⟨_, rfl⟩
        rw [hx] at c0 c1 c2 c3 Hta Hne
        rw [hy] at d0 d1 d2 d3 Htb Hne
        clear hx hy
        obtain ⟨x1, x2, x3, x4⟩ := x
        obtain ⟨y1, y2, y3, y4⟩ := y
        by_cases e1 : x1 = y1
        rotate_left
        · have Hno := Lib.hid (Hne.out (fun e => e1 (by injection e)))
          go_wp2_with fail
          go_big_quiet (fail)
          go_wp2
          go_ret
          exact ⟨retBool (by simp [Hno.out]), below_drewN Hbw.out _⟩
        by_cases e2 : x2 = y2
        rotate_left
        · have Hno := Lib.hid (Hne.out (fun e => e2 (by injection e)))
          go_wp2_with fail
          go_big_quiet (fail)
          go_wp2
          go_ret
          exact ⟨retBool (by simp [Hno.out]), below_drewN Hbw.out _⟩
        by_cases e3 : x3 = y3
        rotate_left
        · have Hno := Lib.hid (Hne.out (fun e => e3 (by injection e)))
          go_wp2_with fail
          go_big_quiet (fail)
          go_wp2
          go_ret
          exact ⟨retBool (by simp [Hno.out]), below_drewN Hbw.out _⟩
        by_cases e4 : x4 = y4
        rotate_left
        · have e4' : ¬ x4.toList = y4.toList := fun e => e4 (bytes_iff.1 e)
          have Hno := Lib.hid (Hne.out (fun e => e4 (by injection e)))
          go_wp2_with fail
          go_big_quiet (fail)
          go_wp2
          go_ret
          exact ⟨retBool (by simp [Hno.out]), below_drewN Hbw.out _⟩
        subst e1 e2 e3 e4
        have Hk := Lib.hid (show k + 1 ≤ n from hlt)
        go_wp2_with fail
        go_big_quiet (fail)
        go_wp2
        go_roundw
        case rel =>
          refine ⟨k + 1, Hk.out, by go_num, ?_, below_drewN Hbw.out _⟩
          show _ = _
          rw [Hta.out, Htb.out, HT.out]
        case measure => have := Hk.out; simp [intOf]; omega
      · obtain rfl : k = n := by omega
        go_wp2_with fail
        go_ret
        have e : a = b := by
          have h := HT.out
          rwa [List.take_of_length_le (by rw [Hn.out]; exact Nat.le_refl _), List.take_of_length_le (by rw [Hn'.out]; exact Nat.le_refl _)] at h
        exact ⟨retBool (by simp [e]), Hbw.out⟩
  · have hne : a ≠ b := fun e => hl (by rw [e])
    obtain ⟨m, hm⟩ : ∃ m, a.length = m := ⟨_, rfl⟩
    obtain ⟨n, hn⟩ : ∃ n, b.length = n := ⟨_, rfl⟩
    rw [hm, hn] at hl
    have hmn : ((m : Int) != (n : Int)) = true := by rw [bne_iff_ne]; omega
    have Hne := Lib.hid hne
    rw [hm, hn]
    clear hu hv hao hac hbo hbc hm hn hne
    go_enter Try.func51, Try.ntmps51
    go_wp2_with fail
    go_ret
    exact ⟨retBool (by simp [Hne.out]), Below.refl _ _⟩
set_option maxRecDepth 100000 in
set_option maxHeartbeats 4000000 in
theorem strings06_any (u v : Value) (a b : List ByteArray) (w : World) (hu : Texts w u a) (hv : Texts w v b) :
    Calls Try.prog 20 #[u, v] w fun e w' => e = .returned (.bool (decide (a = b))) ∧ Below w.heap.size w w' := by
  by_cases hl : a.length = b.length
  · rcases hu with ⟨ao, cap, rfl, rfl⟩ | ⟨bu, ou, cu, rfl, hpu, huc, hum, hcu⟩
    · have hb0 : b = [] := List.eq_nil_of_length_eq_zero hl.symm
      subst hb0
      rcases hv with ⟨bo, cap', rfl, _⟩ | ⟨bv, ov, cv, rfl, hpv, _⟩
      · go_enter Try.func20, Try.ntmps20
        go_wp2
        go_loop [5] (fun i => i = .int .i64 0) (fun _ => 0)
        case atStart => rfl
        case round =>
          subst hrel
          go_wp2
          go_ret
          exact ⟨retBool (by simp), Below.refl _ _⟩
      · simp at hpv
    · rcases hv with ⟨bo, cap', rfl, rfl⟩ | ⟨bv, ov, cv, rfl, hpv, hvc, hvm, hcv⟩
      · simp only [List.length_nil] at hl; omega
      · obtain ⟨n, hn⟩ : ∃ n, a.length = n := ⟨_, rfl⟩
        have hn' : b.length = n := by omega
        have Hn := Lib.hid hn
        have Hn' := Lib.hid hn'
        have Hcu := Lib.hid hcu
        have Hcv := Lib.hid hcv
        rw [hn] at hpu huc ⊢
        rw [hn'] at hpv hvc ⊢
        clear hn hn' hcu hcv hl
        unfold maxLen at hum hvm
        go_enter Try.func20, Try.ntmps20
        go_wp2
        go_loopw [5] (fun i wr => ∃ k : Nat, k ≤ n ∧ i = .int .i64 k ∧ (∀ (j : Nat) (ha : j < a.length) (hb : j < b.length), j < k → a[j] = b[j]) ∧ ∃ q, wr = w.drewN q) (fun i _ => n - (intOf i).toNat)
        case atStart => exact ⟨0, Nat.zero_le _, rfl, by intro j _ _ h; omega, 0, rfl⟩
        case round =>
          obtain ⟨k, hk, rfl, hall, q, rfl⟩ := hrel
          have Hall := Lib.hid hall
          clear hall
          by_cases hlt : k < n
          · have hka : k < a.length := by have := Hn.out; omega
            have hkb : k < b.length := by have := Hn'.out; omega
            have c1 : w.cell? ⟨bu, ou + k, none⟩ = some (.string (a[k]'hka)) := Hcu.out k hka
            have c2 : w.cell? ⟨bv, ov + k, none⟩ = some (.string (b[k]'hkb)) := Hcv.out k hkb
            have heq := bytes_eq (a := a[k]'hka) (b := b[k]'hkb)
            have Heq := Lib.hid heq
            clear heq
            obtain ⟨x, hx⟩ : ∃ x, a[k]'hka = x := ⟨_, rfl⟩
            obtain ⟨y, hy⟩ : ∃ y, b[k]'hkb = y := ⟨_, rfl⟩
            have Hx := Lib.hid hx
            have Hy := Lib.hid hy
            rw [hx] at c1
            rw [hy] at c2
            have hi0 : (0 : Int) ≤ (k : Int) := by omega
            have hi1 : (k : Int) < (n : Int) := by omega
            clear hx hy
            go_wp2
            go_quiet (fail)
            go_wp2
            · have h1 : (!x.toList == y.toList) = true := by assumption
              have hne : ¬ a = b := list_ne_at k hka hkb (by rw [Hx.out, Hy.out]; rw [← Hx.out, ← Hy.out, Heq.out, Hx.out, Hy.out] at h1; simpa using h1)
              have HF := Lib.hid (show decide (a = b) = false by simpa using hne)
              clear hne
              go_ret
              exact ⟨retBool HF.out.symm, below_drewN (below_drewN (Below.refl _ _) _) _⟩
            · have h1 : (!x.toList == y.toList) = false := by assumption
              have he : x = y := by rw [← Hx.out, ← Hy.out, Heq.out, Hx.out, Hy.out] at h1; simpa using h1
              have He := Lib.hid he
              clear he
              go_roundw
              case rel =>
                refine ⟨k + 1, by omega, by go_num, fun j ha hb hjk => ?_, _, rfl⟩
                by_cases e : j = k
                · subst e
                  rw [Hx.out, Hy.out]; exact He.out
                · exact Hall.out j ha hb (by omega)
              case measure => simp [intOf]; omega
          · go_wp2
            go_ret
            exact ⟨retBool (by rw [decide_eq_true (list_eq_all (by rw [Hn.out, Hn'.out]) fun j ha hb => Hall.out j ha hb (by have := Hn.out; omega))]), below_drewN (Below.refl _ _) _⟩
  · have hne : ¬ a = b := fun e => hl (by rw [e])
    have HF := Lib.hid (show decide (a = b) = false by simpa using hne)
    obtain ⟨m, hm⟩ : ∃ m, a.length = m := ⟨_, rfl⟩
    obtain ⟨n, hn⟩ : ∃ n, b.length = n := ⟨_, rfl⟩
    have hmn : ((m : Int) != (n : Int)) = true := by rw [bne_iff_ne]; omega
    have hu' : ∃ ao cap, u = .slice ao m cap := by
      rcases hu with ⟨ao, cap, rfl, rfl⟩ | ⟨bu, ou, cu, rfl, _⟩
      · simp at hm; subst hm; exact ⟨_, _, rfl⟩
      · rw [hm]; exact ⟨_, _, rfl⟩
    have hv' : ∃ ao cap, v = .slice ao n cap := by
      rcases hv with ⟨ao, cap, rfl, rfl⟩ | ⟨bu, ou, cu, rfl, _⟩
      · simp at hn; subst hn; exact ⟨_, _, rfl⟩
      · rw [hn]; exact ⟨_, _, rfl⟩
    obtain ⟨_, _, rfl⟩ := hu'
    obtain ⟨_, _, rfl⟩ := hv'
    clear hu hv hm hn hl hne
    go_enter Try.func20, Try.ntmps20
    go_wp2
    go_ret
    exact ⟨retBool HF.out.symm, Below.refl _ _⟩
end Go.Proofs.Ytgchcgllpceghaa
