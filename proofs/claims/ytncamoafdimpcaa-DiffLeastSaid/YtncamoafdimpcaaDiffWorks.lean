/- Own work: what each statement of diff asks first; lists of texts compared. -/
import Derived.Test.YtncamoafdimpcaaDiffLines
import Derived.Test.YtncamoafdimpcaaDiffSize
namespace Go.Proofs.Ytncamoafdimpcaa
open Go.RowKit

theorem texts_lit (w : World) (l : List ByteArray) (t : TypeId) (h0 : 0 < l.length) (hm : l.length ≤ maxLen) : Texts (w.alloc (.cells (l.map Value.string).toArray t)) (.slice (some ⟨w.heap.size, 0, none⟩) l.length l.length) l := by
  refine .inr ⟨w.heap.size, 0, l.length, rfl, h0, Nat.le_refl _, hm, fun i hi => ?_⟩
  rw [Nat.zero_add, cell_of_row _ _ _ _ _ _ (heap_alloc_new w _)]
  simp [hi]
def txA : ByteArray := ⟨#[97]⟩
def txB : ByteArray := ⟨#[98]⟩
def txC : ByteArray := ⟨#[99]⟩
def txX : ByteArray := ⟨#[120]⟩
theorem ab_ne : txA ≠ txB := by decide
theorem bx_ne : txB ≠ txX := by decide
theorem works_pre : preL [txA, txB, txC] [txA, txX, txC] = 1 := by
  rw [preL, if_pos rfl, preL, if_neg bx_ne]
theorem works_suf : sufL [txA, txB, txC] [txA, txX, txC] 1 = 1 := by
  show preL [txC, txB] [txC, txX] = 1
  rw [preL, if_pos rfl, preL, if_neg bx_ne]
theorem works_common : commonL [txA, txB, txC] [txA, txX, txC] = [(0, 0), (2, 2)] := by
  rw [commonL, works_pre, works_suf]
  have e : stayL (midL [txA, txB, txC] 1 1) (midL [txA, txX, txC] 1 1) = [] := by
    show stayL [txB] [txX] = []
    rw [stayL]
    split
    · rw [walkL, if_neg bx_ne]
      split
      · rw [walkL]
      · rw [walkL]
    · rfl
  rw [commonAt, e]
  rfl
theorem works_lines : linesL [txA, txB, txC] [txA, txX, txC] = [⟨1, [txB], [txX]⟩] := by
  rw [linesL, works_common]
  rfl
theorem works_one : (commonL [txA] [txA]).length = 1 := by
  have h : preL [txA] [txA] = 1 := by rw [preL, if_pos rfl]; rfl
  have := commonL_ge [txA] [txA]
  have := (common_le [txA] [txA]).1
  rw [h] at *
  simp at this
  omega

set_option maxRecDepth 100000 in
set_option maxHeartbeats 8000000 in
theorem works_any (w : World) :
    Calls Try.prog 9 #[] w fun e w' => e = .returned (.bool true) ∧ Below w.heap.size w w' := by
  have lit3 : ∀ (w : World) (x y z : ByteArray), Hid (Texts (w.alloc (.cells #[.string x, .string y, .string z] 9)) (.slice (some ⟨w.heap.size, 0, none⟩) 3 3) [x, y, z]) := fun w x y z => texts_lit w [x, y, z] 9 (by simp) (by unfold maxLen; simp)
  have lit1 : ∀ (w : World) (x : ByteArray), Hid (Texts (w.alloc (.cells #[.string x] 9)) (.slice (some ⟨w.heap.size, 0, none⟩) 1 1) [x]) := fun w x => texts_lit w [x] 9 (by simp) (by unfold maxLen; simp)
  have al : ∀ (w : World) (o : Obj), Below w.heap.size w (w.alloc o) := fun w o => (Below.refl _ _).alloc (Nat.le_refl _) o
  have both3 : ∀ (w : World) (x y z x' y' z' : ByteArray), Hid (Texts ((w.alloc (.cells #[.string x, .string y, .string z] 9)).alloc (.cells #[.string x', .string y', .string z'] 9)) (.slice (some ⟨w.heap.size, 0, none⟩) 3 3) [x, y, z] ∧
      Texts ((w.alloc (.cells #[.string x, .string y, .string z] 9)).alloc (.cells #[.string x', .string y', .string z'] 9)) (.slice (some ⟨w.heap.size + 1, 0, none⟩) 3 3) [x', y', z']) := fun w x y z x' y' z' =>
    ⟨(lit3 w x y z).out.kept (al _ _), by have h := (lit3 (w.alloc (.cells #[.string x, .string y, .string z] 9)) x' y' z').out; rwa [World.size_alloc] at h⟩
  have both1 : ∀ (w : World) (x x' : ByteArray), Hid (Texts ((w.alloc (.cells #[.string x] 9)).alloc (.cells #[.string x'] 9)) (.slice (some ⟨w.heap.size, 0, none⟩) 1 1) [x] ∧
      Texts ((w.alloc (.cells #[.string x] 9)).alloc (.cells #[.string x'] 9)) (.slice (some ⟨w.heap.size + 1, 0, none⟩) 1 1) [x']) := fun w x x' =>
    ⟨(lit1 w x).out.kept (al _ _), by have h := (lit1 (w.alloc (.cells #[.string x] 9)) x').out; rwa [World.size_alloc] at h⟩
  have AL := Lib.hid al
  clear al lit3 lit1
  go_enter Try.func9, Try.ntmps9
  go_wp2_with fail
  refine (lines_any _ _ [txA, txB, txC] [txA, txX, txC] _ (both3 w _ _ _ _ _ _).out.1 (both3 w _ _ _ _ _ _).out.2 (.inr ⟨_, _, _, rfl⟩) (.inr ⟨_, _, _, rfl⟩) (by simp) (by simp)).mono ?_
  rintro e w1 ⟨p, hs, rfl, ho, hh, hb⟩
  rw [works_lines] at hh
  have B1 : Hid (Below w.heap.size w w1) := below_join ((AL.out w _).trans ((AL.out _ _).mono (by simp))) hb
  obtain ⟨m, rfl, hm⟩ := List.map_eq_singleton_iff.1 hh
  · obtain ⟨m1, m2, m3, m4, m5⟩ := m
    injection hm with e1 e4 e5
    dsimp only at e1 e4 e5
    subst e1 e4 e5
    have HN := Lib.hid ho.hunks.nums
    have HT := Lib.hid (ho.2 _ (List.mem_singleton.2 rfl))
    obtain ⟨ao, cap, b, o, rfl, hao, _, hc⟩ := ho.hunks
    obtain rfl := hao (by simp)
    obtain ⟨c0, c1, c2, t1, t2⟩ := hc 0 (by simp)
    simp only [List.getElem_cons_zero, Nat.zero_mul, Nat.add_zero] at c0 c1 c2 t1 t2
    obtain ⟨o1, p1, b1, of1, rfl, ho1, _, hc1⟩ := t1.form
    obtain rfl := ho1 (by simp)
    have d1 := hc1 0 (by simp)
    obtain ⟨o2, p2, b2, of2, rfl, ho2, _, hc2⟩ := t2.form
    obtain rfl := ho2 (by simp)
    have d2 := hc2 0 (by simp)
    simp only [List.getElem_cons_zero, Nat.add_zero] at d1 d2
    have HC := Lib.hid (show _ ∧ _ ∧ _ ∧ _ ∧ _ from ⟨c0, c1, c2, d1, d2⟩)
    clear ho hh hb hc c0 c1 c2 d1 d2 t1 t2 hc1 hc2 ho1 ho2 hao
    go_wp2_with fail
    refine (edges_any _ _ [txA, txB, txC] [txA, txX, txC] _ (both3 w1 _ _ _ _ _ _).out.1 (both3 w1 _ _ _ _ _ _).out.2).mono ?_
    rintro e w2 ⟨rfl, hb2⟩
    rw [works_pre, works_suf]
    have B2 : Hid (Below w1.heap.size w1 w2) := below_join ((AL.out w1 _).trans ((AL.out _ _).mono (by simp))) hb2
    clear hb2
    go_wp2_with fail
    refine (size_any _ _ _ (HN.out.kept B2.out)).mono ?_
    rintro e w3 ⟨he, hb3⟩
    have hs1 : sumI [1] = 1 := by simp [sumI, wrap64]
    have he : e = .returned (.tuple #[.int .i64 (sumI [1]), .int .i64 (sumI [1])]) := he
    rw [hs1] at he
    subst he
    have B3 : Hid (Below w1.heap.size w1 w3) := below_join B2.out hb3
    clear hb3
    obtain ⟨c0, c1, c2, d1, d2⟩ := HC.out
    have c0 := cell_kept B3.out c0
    have c1 := cell_kept B3.out c1
    have c2 := cell_kept B3.out c2
    have d1 : w3.cell? ⟨b1, of1, none⟩ = some (.string ⟨#[98]⟩) := cell_kept B3.out d1
    have d2 : w3.cell? ⟨b2, of2, none⟩ = some (.string ⟨#[120]⟩) := cell_kept B3.out d2
    go_wp2_with fail
    refine (common_any _ _ [txA] [txA] _ (both1 w3 _ _).out.1 (both1 w3 _ _).out.2 (by simp) (by simp)).mono ?_
    rintro e w4 ⟨v4, rfl, ho4, hb4⟩
    have B4 : Hid (Below w3.heap.size w3 w4) := below_join ((AL.out w3 _).trans ((AL.out _ _).mono (by simp))) hb4
    obtain ⟨o4, p4, _, rfl, _⟩ := ho4.form
    rw [works_one]
    clear ho4 hb4
    go_wp2_with fail
    go_ret
    exact ⟨by simp, below_join B1.out (below_join B3.out B4.out)⟩
set_option maxRecDepth 100000 in
set_option maxHeartbeats 4000000 in
theorem same07_any (u v : Value) (a b : List ByteArray) (w : World) (hu : Texts w u a) (hv : Texts w v b) :
    Calls Try.prog 23 #[u, v] w fun e w' => e = .returned (.bool (decide (a = b))) ∧ Below w.heap.size w w' := by
  by_cases hl : a.length = b.length
  · rcases hu with ⟨ao, cap, rfl, rfl⟩ | ⟨bu, ou, cu, rfl, hpu, huc, hum, hcu⟩
    · have hb0 : b = [] := List.eq_nil_of_length_eq_zero hl.symm
      subst hb0
      rcases hv with ⟨bo, cap', rfl, _⟩ | ⟨bv, ov, cv, rfl, hpv, _⟩
      · go_enter Try.func23, Try.ntmps23
        go_wp2
        go_loop [5] (fun i => i = .int .i64 0) (fun _ => 0)
        case atStart => rfl
        case round =>
          subst hrel
          go_wp2
          go_ret
          exact ⟨retBool (by simp), Below.refl _ _⟩
      · simp at hpv
    · rcases hv with ⟨bo, cap', rfl, rfl⟩ | ⟨bv, ov, cv, rfl, hpv, hvc, hvm, hcv⟩
      · simp only [List.length_nil] at hl; omega
      · obtain ⟨n, hn⟩ : ∃ n, a.length = n := ⟨_, rfl⟩
        have hn' : b.length = n := by omega
        have Hn := Lib.hid hn
        have Hn' := Lib.hid hn'
        have Hcu := Lib.hid hcu
        have Hcv := Lib.hid hcv
        rw [hn] at hpu huc ⊢
        rw [hn'] at hpv hvc ⊢
        clear hn hn' hcu hcv hl
        unfold maxLen at hum hvm
        go_enter Try.func23, Try.ntmps23
        go_wp2
        go_loopw [5] (fun i wr => ∃ k : Nat, k ≤ n ∧ i = .int .i64 k ∧ (∀ (j : Nat) (ha : j < a.length) (hb : j < b.length), j < k → a[j] = b[j]) ∧ ∃ q, wr = w.drewN q) (fun i _ => n - (intOf i).toNat)
        case atStart => exact ⟨0, Nat.zero_le _, rfl, by intro j _ _ h; omega, 0, rfl⟩
        case round =>
          obtain ⟨k, hk, rfl, hall, q, rfl⟩ := hrel
          have Hall := Lib.hid hall
          clear hall
          by_cases hlt : k < n
          · have hka : k < a.length := by have := Hn.out; omega
            have hkb : k < b.length := by have := Hn'.out; omega
            have c1 : w.cell? ⟨bu, ou + k, none⟩ = some (.string (a[k]'hka)) := Hcu.out k hka
            have c2 : w.cell? ⟨bv, ov + k, none⟩ = some (.string (b[k]'hkb)) := Hcv.out k hkb
            have heq := bytes_eq (a := a[k]'hka) (b := b[k]'hkb)
            have Heq := Lib.hid heq
            clear heq
            obtain ⟨x, hx⟩ : ∃ x, a[k]'hka = x := ⟨_, rfl⟩
            obtain ⟨y, hy⟩ : ∃ y, b[k]'hkb = y := ⟨_, rfl⟩
            have Hx := Lib.hid hx
            have Hy := Lib.hid hy
            rw [hx] at c1
            rw [hy] at c2
            have hi0 : (0 : Int) ≤ (k : Int) := by omega
            have hi1 : (k : Int) < (n : Int) := by omega
            clear hx hy
            go_wp2
            go_quiet (fail)
            go_wp2
            · have h1 : (!x.toList == y.toList) = true := by assumption
              have hne : ¬ a = b := list_ne_at k hka hkb (by rw [Hx.out, Hy.out]; rw [← Hx.out, ← Hy.out, Heq.out, Hx.out, Hy.out] at h1; simpa using h1)
              have HF := Lib.hid (show decide (a = b) = false by simpa using hne)
              clear hne
              go_ret
              exact ⟨retBool HF.out.symm, below_drewN (below_drewN (Below.refl _ _) _) _⟩
            · have h1 : (!x.toList == y.toList) = false := by assumption
              have he : x = y := by rw [← Hx.out, ← Hy.out, Heq.out, Hx.out, Hy.out] at h1; simpa using h1
              have He := Lib.hid he
              clear he
              go_roundw
              case rel =>
                refine ⟨k + 1, by omega, by go_num, fun j ha hb hjk => ?_, _, rfl⟩
                by_cases e : j = k
                · subst e
                  rw [Hx.out, Hy.out]; exact He.out
                · exact Hall.out j ha hb (by omega)
              case measure => simp [intOf]; omega
          · go_wp2
            go_ret
            exact ⟨retBool (by rw [decide_eq_true (list_eq_all (by rw [Hn.out, Hn'.out]) fun j ha hb => Hall.out j ha hb (by have := Hn.out; omega))]), below_drewN (Below.refl _ _) _⟩
  · have hne : ¬ a = b := fun e => hl (by rw [e])
    have HF := Lib.hid (show decide (a = b) = false by simpa using hne)
    obtain ⟨m, hm⟩ : ∃ m, a.length = m := ⟨_, rfl⟩
    obtain ⟨n, hn⟩ : ∃ n, b.length = n := ⟨_, rfl⟩
    have hmn : ((m : Int) != (n : Int)) = true := by rw [bne_iff_ne]; omega
    have hu' : ∃ ao cap, u = .slice ao m cap := by
      rcases hu with ⟨ao, cap, rfl, rfl⟩ | ⟨bu, ou, cu, rfl, _⟩
      · simp at hm; subst hm; exact ⟨_, _, rfl⟩
      · rw [hm]; exact ⟨_, _, rfl⟩
    have hv' : ∃ ao cap, v = .slice ao n cap := by
      rcases hv with ⟨ao, cap, rfl, rfl⟩ | ⟨bu, ou, cu, rfl, _⟩
      · simp at hn; subst hn; exact ⟨_, _, rfl⟩
      · rw [hn]; exact ⟨_, _, rfl⟩
    obtain ⟨_, _, rfl⟩ := hu'
    obtain ⟨_, _, rfl⟩ := hv'
    clear hu hv hm hn hl hne
    go_enter Try.func23, Try.ntmps23
    go_wp2
    go_ret
    exact ⟨retBool HF.out.symm, Below.refl _ _⟩

set_option maxRecDepth 100000 in
set_option maxHeartbeats 4000000 in
theorem sameRef07_any (u v : Value) (a b : List ByteArray) (w : World) (hu : Texts w u a) (hv : Texts w v b) :
    Calls Try.prog 28 #[u, v] w fun e w' => e = .returned (.bool (decide (a = b))) ∧ Below w.heap.size w w' := by
  by_cases hl : a.length = b.length
  · rcases hu with ⟨ao, cap, rfl, rfl⟩ | ⟨bu, ou, cu, rfl, hpu, huc, hum, hcu⟩
    · have hb0 : b = [] := List.eq_nil_of_length_eq_zero hl.symm
      subst hb0
      rcases hv with ⟨bo, cap', rfl, _⟩ | ⟨bv, ov, cv, rfl, hpv, _⟩
      · go_enter Try.func28, Try.ntmps28
        go_wp2
        go_loop [5] (fun i => i = .int .i64 0) (fun _ => 0)
        case atStart => rfl
        case round =>
          subst hrel
          go_wp2
          go_ret
          exact ⟨retBool (by simp), Below.refl _ _⟩
      · simp at hpv
    · rcases hv with ⟨bo, cap', rfl, rfl⟩ | ⟨bv, ov, cv, rfl, hpv, hvc, hvm, hcv⟩
      · simp only [List.length_nil] at hl; omega
      · obtain ⟨n, hn⟩ : ∃ n, a.length = n := ⟨_, rfl⟩
        have hn' : b.length = n := by omega
        have Hn := Lib.hid hn
        have Hn' := Lib.hid hn'
        have Hcu := Lib.hid hcu
        have Hcv := Lib.hid hcv
        rw [hn] at hpu huc ⊢
        rw [hn'] at hpv hvc ⊢
        clear hn hn' hcu hcv hl
        unfold maxLen at hum hvm
        go_enter Try.func28, Try.ntmps28
        go_wp2
        go_loopw [5] (fun i wr => ∃ k : Nat, k ≤ n ∧ i = .int .i64 k ∧ (∀ (j : Nat) (ha : j < a.length) (hb : j < b.length), j < k → a[j] = b[j]) ∧ ∃ q, wr = w.drewN q) (fun i _ => n - (intOf i).toNat)
        case atStart => exact ⟨0, Nat.zero_le _, rfl, by intro j _ _ h; omega, 0, rfl⟩
        case round =>
          obtain ⟨k, hk, rfl, hall, q, rfl⟩ := hrel
          have Hall := Lib.hid hall
          clear hall
          by_cases hlt : k < n
          · have hka : k < a.length := by have := Hn.out; omega
            have hkb : k < b.length := by have := Hn'.out; omega
            have c1 : w.cell? ⟨bu, ou + k, none⟩ = some (.string (a[k]'hka)) := Hcu.out k hka
            have c2 : w.cell? ⟨bv, ov + k, none⟩ = some (.string (b[k]'hkb)) := Hcv.out k hkb
            have heq := bytes_eq (a := a[k]'hka) (b := b[k]'hkb)
            have Heq := Lib.hid heq
            clear heq
            obtain ⟨x, hx⟩ : ∃ x, a[k]'hka = x := ⟨_, rfl⟩
            obtain ⟨y, hy⟩ : ∃ y, b[k]'hkb = y := ⟨_, rfl⟩
            have Hx := Lib.hid hx
            have Hy := Lib.hid hy
            rw [hx] at c1
            rw [hy] at c2
            have hi0 : (0 : Int) ≤ (k : Int) := by omega
            have hi1 : (k : Int) < (n : Int) := by omega
            clear hx hy
            go_wp2
            go_quiet (fail)
            go_wp2
            · have h1 : (!x.toList == y.toList) = true := by assumption
              have hne : ¬ a = b := list_ne_at k hka hkb (by rw [Hx.out, Hy.out]; rw [← Hx.out, ← Hy.out, Heq.out, Hx.out, Hy.out] at h1; simpa using h1)
              have HF := Lib.hid (show decide (a = b) = false by simpa using hne)
              clear hne
              go_ret
              exact ⟨retBool HF.out.symm, below_drewN (below_drewN (Below.refl _ _) _) _⟩
            · have h1 : (!x.toList == y.toList) = false := by assumption
              have he : x = y := by rw [← Hx.out, ← Hy.out, Heq.out, Hx.out, Hy.out] at h1; simpa using h1
              have He := Lib.hid he
              clear he
              go_roundw
              case rel =>
                refine ⟨k + 1, by omega, by go_num, fun j ha hb hjk => ?_, _, rfl⟩
                by_cases e : j = k
                · subst e
                  rw [Hx.out, Hy.out]; exact He.out
                · exact Hall.out j ha hb (by omega)
              case measure => simp [intOf]; omega
          · go_wp2
            go_ret
            exact ⟨retBool (by rw [decide_eq_true (list_eq_all (by rw [Hn.out, Hn'.out]) fun j ha hb => Hall.out j ha hb (by have := Hn.out; omega))]), below_drewN (Below.refl _ _) _⟩
  · have hne : ¬ a = b := fun e => hl (by rw [e])
    have HF := Lib.hid (show decide (a = b) = false by simpa using hne)
    obtain ⟨m, hm⟩ : ∃ m, a.length = m := ⟨_, rfl⟩
    obtain ⟨n, hn⟩ : ∃ n, b.length = n := ⟨_, rfl⟩
    have hmn : ((m : Int) != (n : Int)) = true := by rw [bne_iff_ne]; omega
    have hu' : ∃ ao cap, u = .slice ao m cap := by
      rcases hu with ⟨ao, cap, rfl, rfl⟩ | ⟨bu, ou, cu, rfl, _⟩
      · simp at hm; subst hm; exact ⟨_, _, rfl⟩
      · rw [hm]; exact ⟨_, _, rfl⟩
    have hv' : ∃ ao cap, v = .slice ao n cap := by
      rcases hv with ⟨ao, cap, rfl, rfl⟩ | ⟨bu, ou, cu, rfl, _⟩
      · simp at hn; subst hn; exact ⟨_, _, rfl⟩
      · rw [hn]; exact ⟨_, _, rfl⟩
    obtain ⟨_, _, rfl⟩ := hu'
    obtain ⟨_, _, rfl⟩ := hv'
    clear hu hv hm hn hl hne
    go_enter Try.func28, Try.ntmps28
    go_wp2
    go_ret
    exact ⟨retBool HF.out.symm, Below.refl _ _⟩

end Go.Proofs.Ytncamoafdimpcaa
