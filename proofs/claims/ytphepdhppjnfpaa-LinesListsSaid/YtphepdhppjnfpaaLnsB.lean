import Derived.Test.YtphepdhppjnfpaaLnsA
namespace Go.Proofs.Ytphepdhppjnfpaa
open Go.RowKit

theorem Lns.form {w : World} {v : Value} {ls : List LineV} (h : Lns w v ls) :
    ∃ ao cap b o, v = .slice ao ls.length cap ∧ (0 < ls.length → ao = some ⟨b, o, none⟩) ∧ ls.length ≤ maxLen ∧ ∀ (i : Nat) (h : i < ls.length), w.cell? ⟨b, o + i * 4, none⟩ = some (.int .u64 (ls[i]'h).lab) ∧ w.cell? ⟨b, o + i * 4 + 1, none⟩ = some (.int .i64 (ls[i]'h).num) ∧
      w.cell? ⟨b, o + i * 4 + 2, none⟩ = some (.int .i64 (ls[i]'h).rev) ∧ w.cell? ⟨b, o + i * 4 + 3, none⟩ = some (.string (ls[i]'h).text) := by
  rcases h with ⟨ao, cap, h1, rfl⟩ | ⟨b, o, cap, h1, _, h3, h4, h5⟩
  · exact ⟨ao, cap, 0, 0, h1, fun h => absurd h (by simp), Nat.zero_le _, fun i h => absurd h (by simp)⟩
  · exact ⟨_, cap, b, o, h1, fun _ => rfl, Nat.le_trans h3 h4, h5⟩

theorem same1_parts (x1 x2 x3 : Int) (x4 : ByteArray) (y1 y2 y3 : Int) (y4 : ByteArray) (w : World) :
    Calls Try.prog 19 #[.agg #[.int .u64 x1, .int .i64 x2, .int .i64 x3, .string x4], .agg #[.int .u64 y1, .int .i64 y2, .int .i64 y3, .string y4]] w fun e w' => e = .returned (.bool (oneB ⟨x1, x2, x3, x4⟩ ⟨y1, y2, y3, y4⟩)) ∧ Below w.heap.size w w' :=
  same1_any ⟨x1, x2, x3, x4⟩ ⟨y1, y2, y3, y4⟩ w

set_option maxRecDepth 100000 in
set_option maxHeartbeats 8000000 in
theorem equalFunc_any (u v : Value) (a b : List LineV) (w : World) (hu : Lns w u a) (hv : Lns w v b) :
    Calls Try.prog 18 #[u, v, Value.func (Fn.func 19) #[] #[]] w fun e w' => e = .returned (.bool (sameL a b)) ∧ Below w.heap.size w w' := by
  obtain ⟨ao, acap, ab, aof, rfl, hao, hma, hac⟩ := hu.form
  obtain ⟨bo, bcap, bb, bof, rfl, hbo, hmb, hbc⟩ := hv.form
  unfold maxLen at hma hmb
  have Hao := Lib.hid hao
  have Hbo := Lib.hid hbo
  have Hac := Lib.hid hac
  have Hbc := Lib.hid hbc
  clear hu hv hao hbo hac hbc
  by_cases hl : a.length = b.length
  · obtain ⟨n, hn⟩ : ∃ n, a.length = n := ⟨_, rfl⟩
    have hn' : b.length = n := by omega
    have Hn := Lib.hid hn
    have Hn' := Lib.hid hn'
    rw [hn] at hma ⊢
    rw [hn'] at hmb ⊢
    clear hn hn' hl
    go_enter Try.func18, Try.ntmps18
    go_wp2_with fail
    go_loopw [17] (fun i wr => ∃ k : Nat, k ≤ n ∧ i = .int .i64 k ∧ Hid (∀ (j : Nat) (ha : j < a.length) (hb : j < b.length), j < k → oneB a[j] b[j] = true) ∧ Below w.heap.size w wr) (fun i _ => n - (intOf i).toNat)
    case atStart => exact ⟨0, Nat.zero_le _, rfl, by intro j _ _ h; omega, Below.refl _ _⟩
    case round =>
      obtain ⟨k, hk, rfl, Hall, hbw⟩ := hrel
      by_cases hlt : k < n
      · have hka : k < a.length := by have := Hn.out; omega
        have hkb : k < b.length := by have := Hn'.out; omega
        obtain rfl := Hao.out (by omega)
        obtain rfl := Hbo.out (by omega)
        obtain ⟨c0, c1, c2, c3⟩ := Hac.out k hka
        obtain ⟨d0, d1, d2, d3⟩ := Hbc.out k hkb
        have c0 := cell_kept hbw c0
        have c1 := cell_kept hbw c1
        have c2 := cell_kept hbw c2
        have c3 := cell_kept hbw c3
        have d0 := cell_kept hbw d0
        have d1 := cell_kept hbw d1
        have d2 := cell_kept hbw d2
        have d3 := cell_kept hbw d3
        have hi0 : (0 : Int) ≤ (k : Int) := by omega
        have hi1 : (k : Int) < (n : Int) := by omega
        have la := World.block_lt_of_cell? wr _ c0
        have lb := World.block_lt_of_cell? wr _ d0
        obtain ⟨x, hx⟩ : ∃ x, a[k]'hka = x := ⟨_, rfl⟩
        obtain ⟨y, hy⟩ : ∃ y, b[k]'hkb = y := ⟨_, rfl⟩
        have Hx := Lib.hid hx
        have Hy := Lib.hid hy
        rw [hx] at c0 c1 c2 c3
        rw [hy] at d0 d1 d2 d3
        have hbs := hbw.size
        have Hbw := Lib.hid hbw
        clear hx hy hbw
        obtain ⟨x1, x2, x3, x4⟩ := x
        obtain ⟨y1, y2, y3, y4⟩ := y
        cases ho : oneB ⟨x1, x2, x3, x4⟩ ⟨y1, y2, y3, y4⟩ with
        | false =>
          have HF := Lib.hid (sameL_at k hka hkb (by rw [Hx.out, Hy.out]; exact ho))
          go_wp2_with fail
          refine (same1_parts x1 x2 x3 x4 y1 y2 y3 y4 _).mono ?_
          rintro e w2 ⟨rfl, hb⟩
          rw [ho]
          have hbb := (((Hbw.out.alloc hbs (.cells #[.int .u64 x1, .int .i64 x2, .int .i64 x3, .string x4] 25)).alloc (by simp; omega) (.cells #[.int .u64 y1, .int .i64 y2, .int .i64 y3, .string y4] 25))).trans (hb.mono (by simp; omega))
          clear hb ho
          go_wp2_with fail
          go_ret
          exact ⟨retBool HF.out.symm, hbb⟩
        | true =>
          have hnx : Hid (oneB (a[k]'hka) (b[k]'hkb) = true) := by show _ = _; rw [Hx.out, Hy.out]; exact ho
          go_wp2_with fail
          refine (same1_parts x1 x2 x3 x4 y1 y2 y3 y4 _).mono ?_
          rintro e w2 ⟨rfl, hb⟩
          rw [ho]
          have hbb := (((Hbw.out.alloc hbs (.cells #[.int .u64 x1, .int .i64 x2, .int .i64 x3, .string x4] 25)).alloc (by simp; omega) (.cells #[.int .u64 y1, .int .i64 y2, .int .i64 y3, .string y4] 25))).trans (hb.mono (by simp; omega))
          clear hb ho
          go_wp2_with fail
          go_roundw
          case rel =>
            refine ⟨k + 1, by omega, by go_num, fun j ha hb hjk => ?_, hbb⟩
            by_cases e : j = k
            · subst e
              exact hnx.out
            · exact Hall.out j ha hb (by omega)
          case measure => simp [intOf]; omega
      · go_wp2_with fail
        go_ret
        exact ⟨retBool (sameL_all (by rw [Hn.out, Hn'.out]) fun j ha hb => Hall.out j ha hb (by have := Hn.out; omega)).symm, hbw⟩
  · have HF := Lib.hid (sameL_len hl)
    have hmn : ((a.length : Int) != (b.length : Int)) = true := by rw [bne_iff_ne]; omega
    go_enter Try.func18, Try.ntmps18
    go_wp2_with fail
    go_ret
    exact ⟨retBool HF.out.symm, Below.refl _ _⟩

theorem Try.info9 : (Try.prog.info? 9).map (fun i => (i.zero, i.size, i.bytes)) = some (some (.string ⟨#[]⟩), 1, 16) := by kernel_rfl
def emptyTexts (n : Nat) : Array Value := madeCells (Value.string ⟨#[]⟩).cells n
theorem emptyTexts_size (n : Nat) : (emptyTexts n).size = n * 1 := by simp [emptyTexts, madeCells]
theorem below_cell {w w' : World} (hb : Below w.heap.size w w') {b o : Nat} {v : Value} (h : w.cell? ⟨b, o, none⟩ = some v) : w'.cell? ⟨b, o, none⟩ = some v := cell_kept hb h

set_option maxHeartbeats 1000000 in
theorem same_any (u v : Value) (a b : List LineV) (w : World) (hu : Lns w u a) (hv : Lns w v b) :
    Calls Try.prog 14 #[u, v] w fun e w' => e = .returned (.bool (sameL a b)) ∧ Below w.heap.size w w' := by
  have Hu := Lib.hid hu
  have Hv := Lib.hid hv
  clear hu hv
  go_enter Try.func14, Try.ntmps14
  go_wp2_with fail
  refine (equalFunc_any u v a b _ Hu.out Hv.out).mono ?_
  rintro e w2 ⟨rfl, hb⟩
  go_wp2_with fail
  go_ret
  exact ⟨rfl, hb⟩

set_option maxRecDepth 100000 in
set_option maxHeartbeats 8000000 in
theorem texts_any (u : Value) (a : List LineV) (w : World) (hu : Lns w u a) (hlen : a.length ≤ 4398046511104) :
    Calls Try.prog 11 #[u] w fun e w' => ∃ v, e = .returned v ∧ v = .slice (some ⟨w.heap.size, 0, none⟩) a.length a.length ∧ w'.ownsRow w.heap.size 9 1 v a.length ((a.map LineV.text).map Value.string) ∧ Below w.heap.size w w' := by
  obtain ⟨ao, acap, ab, aof, rfl, hao, hma, hac⟩ := hu.form
  have Hao := Lib.hid hao
  have Hac := Lib.hid hac
  clear hu hao hac hma
  obtain ⟨n, hn⟩ : ∃ n, a.length = n := ⟨_, rfl⟩
  have Hn := Lib.hid hn
  rw [hn] at hlen ⊢
  clear hn
  obtain ⟨i0, hi, hz0, hz1, hz2⟩ := info_parts Try.info9
  have hmk : ∀ w : World, (Instr.makeSlice 31 (.int .i64 (n : Int)) (.int .i64 (n : Int))).run Try.prog w = .ok (.slice (some ⟨w.heap.size, 0, none⟩) n n) (w.alloc (.cells (emptyTexts n) 9)) := fun w => by
    have := run_make (P := Try.prog) w 31 9 i0 (.string ⟨#[]⟩) Try.underlying31 hi hz0 .i64 .i64 (n : Int) (n : Int) (by omega) (Int.le_refl _) (by rw [hz2]; omega) (by omega)
    rw [hz1] at this
    simp only [Int.toNat_natCast, Nat.mul_one] at this
    exact this
  have hown0 := World.ownsRow_lit (e := 9) (size := 1) w (emptyTexts n) n (Nat.le_refl w.heap.size) (by unfold maxLen; omega) (emptyTexts_size n)
  have Hown := Lib.hid hown0
  clear hown0 hi hz0 hz1 hz2
  go_enter Try.func11, Try.ntmps11
  go_wp2_with fail
  go_loopw [11] (fun i wr => ∃ (k : Nat) (xs : List Value), k ≤ n ∧ i = .int .i64 k ∧ Hid (∀ (j : Nat) (h : j < a.length), j < k → xs[j]? = some (.string (a[j]'h).text)) ∧
      wr.ownsRow w.heap.size 9 1 (.slice (some ⟨w.heap.size, 0, none⟩) n n) n xs ∧ Below w.heap.size w wr) (fun i _ => n - (intOf i).toNat)
  case atStart => exact ⟨0, _, Nat.zero_le _, rfl, by intro j _ h; omega, Hown.out, (Below.refl _ _).alloc (Nat.le_refl _) _⟩
  case round =>
    obtain ⟨k, xs, hk, rfl, Hxs, hown, hbw⟩ := hrel
    have hxl : xs.length = n := by have := hown.1; omega
    by_cases hlt : k < n
    · have hka : k < a.length := by rw [Hn.out]; exact hlt
      obtain rfl := Hao.out (by omega)
      obtain ⟨c0, c1, c2, c3⟩ := Hac.out k hka
      have c0 := below_cell hbw c0
      have c1 := below_cell hbw c1
      have c2 := below_cell hbw c2
      have c3 := below_cell hbw c3
      have hi0 : (0 : Int) ≤ (k : Int) := by omega
      have hi1 : (k : Int) < (n : Int) := by omega
      have la := World.block_lt_of_cell? wr _ c0
      obtain ⟨x, hx⟩ : ∃ x, a[k]'hka = x := ⟨_, rfl⟩
      have Hx := Lib.hid hx
      rw [hx] at c0 c1 c2 c3
      obtain ⟨x1, x2, x3, x4⟩ := x
      have hbs := hbw.size
      have hlo := (hown.lt w.heap.size rfl).2
      have hown2 := hown.alloc (.cells #[.int .u64 x1, .int .i64 x2, .int .i64 x3, .string x4] 25)
      have d1 := hown2.cellAt k (by omega)
      rw [List.getElem?_eq_getElem (by omega)] at d1
      have f1 := hown2.frozenAt k
      have Hst := Lib.hid ((hown.stored k (.string x4)).1.alloc (.cells #[.int .u64 x1, .int .i64 x2, .int .i64 x3, .string x4] 25))
      have Hbw2 := Lib.hid ((hbw.setCell (p := ⟨w.heap.size, k, none⟩) (Nat.le_refl _) (.string x4)).alloc (Nat.le_trans hbs (by simp [World.setCell])) (.cells #[.int .u64 x1, .int .i64 x2, .int .i64 x3, .string x4] 25))
      have Hx2 : Hid (∀ (j : Nat) (h : j < a.length), j < k + 1 → (xs.set k (.string x4))[j]? = some (.string (a[j]'h).text)) := by
        intro j h hj
        by_cases e : j = k
        · subst e
          rw [List.getElem?_set_self (by omega), Hx.out]
        · rw [List.getElem?_set_ne (fun h => e h.symm)]
          exact Hxs.out j h (by omega)
      clear hx hown hown2 hbw
      go_wp2_with fail
      go_roundw
      case rel => exact ⟨k + 1, _, by omega, by go_num, Hx2, Hst.out, Hbw2.out⟩
      case measure => simp [intOf]; omega
    · have he : xs = (a.map LineV.text).map Value.string := by
        apply List.ext_getElem?
        intro j
        by_cases hj : j < n
        · have hja : j < a.length := by rw [Hn.out]; exact hj
          rw [Hxs.out j hja (by omega), List.getElem?_map, List.getElem?_map, List.getElem?_eq_getElem hja]
          rfl
        · rw [List.getElem?_eq_none (by omega), List.getElem?_eq_none (by rw [List.length_map, List.length_map, Hn.out]; omega)]
      have He := Lib.hid he
      have Hown3 := Lib.hid hown
      have Hbw3 := Lib.hid hbw
      clear he hown hbw
      go_wp2_with fail
      go_ret
      exact ⟨_, rfl, rfl, by rw [← He.out]; exact Hown3.out, Hbw3.out⟩
end Go.Proofs.Ytphepdhppjnfpaa
