import Derived.Test.YtphepdhppjnfpaaLnsC
namespace Go.Proofs.Ytphepdhppjnfpaa
open Go.RowKit

theorem own_kept {w w1 : World} {base : Nat} {e : TypeId} {size n : Nat} {v : Value} {xs : List Value} (h : w.ownsRow base e size v n xs) (hb : Below w.heap.size w w1) : w1.ownsRow base e size v n xs := by
  obtain ⟨h1, h2⟩ := h
  refine ⟨h1, ?_⟩
  rcases h2 with h2 | ⟨g, cap, cur, a, b, c, d⟩
  · exact .inl h2
  · have hg : g < w.heap.size := by
      by_cases hc : g < w.heap.size
      · exact hc
      · rw [Array.getElem?_eq_none (by omega)] at c; cases c
    exact .inr ⟨g, cap, cur, a, b, by rw [hb.block g hg]; exact c, d⟩
theorem flatL_set : ∀ (ls : List LineV) (i : Nat) (h : i < ls.length) (r : Int), (flatL ls).set (i * 4 + 2) (.int .i64 r) = flatL (ls.set i ⟨(ls[i]'h).lab, (ls[i]'h).num, r, (ls[i]'h).text⟩)
  | [], _, h, _ => absurd h (by simp)
  | l :: ls, 0, _, _ => rfl
  | l :: ls, i + 1, h, r => by
    have ih := flatL_set ls i (by simpa using h) r
    have e : ∀ (x : LineV) (q : List LineV), flatL (x :: q) = x.cells ++ flatL q := fun _ _ => rfl
    have hl : l.cells.length = 4 := rfl
    rw [List.set_cons_succ, e, e, List.set_append_right _ _ (by omega), hl, show (i + 1) * 4 + 2 - 4 = i * 4 + 2 by omega, ih]
    rfl

set_option maxRecDepth 100000 in
set_option maxHeartbeats 32000000 in
theorem lists_walk (u v : Value) (i' : Int) (a b : List LineV) (w : World) (hu : Lns w u a) (hf : SliceForm u) (hv : Lns w v b) (hla : a.length * 40 ≤ 140737488355328) (h0 : -9223372036854775808 ≤ i') (h1 : i' ≤ 9223372036854775807) :
    Calls Try.prog 4 #[u, v, .int .i64 i'] w fun e w' => e = .returned (.bool true) ∧ Below w.heap.size w w' := by
  obtain ⟨n, hn⟩ : ∃ n, a.length = n := ⟨_, rfl⟩
  have Hn := Lib.hid hn
  have Hu := Lib.hid hu
  have Hv := Lib.hid hv
  have Hf := Lib.hid hf
  rw [hn] at hla
  clear hn hu hv hf
  have Hmx := Lib.hid (show maxLen = 9223372036854775807 from rfl)
  have Ho := Lib.hid (World.ownsRow_made (e := 25) (size := 4) w #[] 0 (Nat.le_refl w.heap.size) (Nat.zero_le _) rfl)
  have Hu1 := Lib.hid (Hu.out.kept ((Below.refl w.heap.size w).alloc (Nat.le_refl _) (.cells #[] 25)))
  go_enter Try.func4, Try.ntmps4
  go_wp2_with (at_builtin; refine wpList_append_lines rfl _ _ rfl w.heap.size _ 0 [] rfl Ho.out u a rfl Hu1.out Hf.out ?hn ?hb ?_)
  case hn => rw [Hn.out]; omega
  case hb => simp
  intro y w1 hown hgrow
  have Hown := Lib.hid (show w1.ownsRow w.heap.size 25 4 y n (flatL a) by rw [← Hn.out]; simpa using hown)
  have Hb1 := Lib.hid (((Below.refl w.heap.size w).alloc (Nat.le_refl _) (.cells #[] 25)).grown hgrow (by simp) (fun q hq => by cases hq; exact Nat.le_refl _))
  have Hyf := Lib.hid (SliceForm.of_own hown)
  clear hown hgrow
  go_wp2_with fail
  go_loopw [8] (fun r wr => ∃ (k : Nat) (ls : List LineV), k ≤ 2 ∧ r = .int .i64 k ∧ Hid (ls.length = n) ∧ wr.ownsRow w.heap.size 25 4 y n (flatL ls) ∧ Below w.heap.size w wr) (fun r _ => 2 - (intOf r).toNat)
  case atStart => exact ⟨0, a, by decide, rfl, Hn.out, Hown.out, Hb1.out⟩
  case round =>
    obtain ⟨k, ls, hk, rfl, Hln, hown, hbw⟩ := hrel
    have Hw := Lib.hid hown
    have Hbw := Lib.hid hbw
    clear hown hbw
    by_cases hlt : k < 2
    · have Hl := Lib.hid (Lns.of_own (show wr.ownsRow w.heap.size 25 4 y ls.length (flatL ls) by rw [Hln.out]; exact Hw.out))
      have Ho2 := Lib.hid (World.ownsRow_made (e := 25) (size := 4) wr #[] 0 (Nat.le_refl wr.heap.size) (Nat.zero_le _) rfl)
      have Hl1 := Lib.hid (Hl.out.kept ((Below.refl wr.heap.size wr).alloc (Nat.le_refl _) (.cells #[] 25)))
      go_wp2_with (at_builtin; refine wpList_append_lines rfl _ _ rfl wr.heap.size _ 0 [] rfl Ho2.out y ls rfl Hl1.out Hyf.out ?hn ?hb ?_)
      case hn => rw [Hln.out]; omega
      case hb => simp
      intro z w2 hown hgrow
      have Hz := Lib.hid (show w2.ownsRow wr.heap.size 25 4 z n (flatL ls) by rw [← Hln.out]; simpa using hown)
      have Hb2 := Lib.hid (((Below.refl wr.heap.size wr).alloc (Nat.le_refl _) (.cells #[] 25)).grown hgrow (by simp) (fun q hq => by cases hq; exact Nat.le_refl _))
      have Hy2 := Lib.hid (own_kept Hw.out Hb2.out)
      have Lz := Lib.hid (Lns.of_own (show w2.ownsRow wr.heap.size 25 4 z ls.length (flatL ls) by rw [Hln.out]; exact Hz.out))
      have Ly := Lib.hid (Hl.out.kept Hb2.out)
      have Lv := Lib.hid (Hv.out.kept (w' := w2) ⟨by rw [Hb2.out.os, Hbw.out.os], by rw [Hb2.out.tape, Hbw.out.tape], by rw [Hb2.out.output, Hbw.out.output], Nat.le_trans Hbw.out.size Hb2.out.size, fun q hq => (Hb2.out.block q (Nat.lt_of_lt_of_le hq Hbw.out.size)).trans (Hbw.out.block q hq)⟩)
      clear hown hgrow
      go_wp2_with fail
      refine (texts_any y ls _ Ly.out (by rw [Hln.out]; omega)).mono ?_
      rintro e w3 ⟨tv, rfl, htv, ht, hb⟩
      rw [Hln.out] at ht htv
      subst htv
      have Ht := Lib.hid ht
      have HT := Lib.hid (Texts.of_own ht)
      have B3 := Lib.hid hb
      have Lz3 := Lib.hid (Lz.out.kept hb)
      have Ly3 := Lib.hid (Ly.out.kept hb)
      have Lv3 := Lib.hid (Lv.out.kept hb)
      clear ht hb
      go_wp2_with fail
      refine (refTexts_any z ls _ Lz3.out (by rw [Hln.out]; omega)).mono ?_
      rintro e w4 ⟨tz, rfl, htz, hb⟩
      have HTz := Lib.hid (Texts.of_own htz)
      have HT4 := Lib.hid (HT.out.kept hb)
      have B4 := Lib.hid (below_join B3.out hb)
      have Lz4 := Lib.hid (Lz3.out.kept hb)
      have Ly4 := Lib.hid (Ly3.out.kept hb)
      have Lv4 := Lib.hid (Lv3.out.kept hb)
      have Ht4 := Lib.hid (own_kept Ht.out hb)
      clear htz hb
      go_wp2_with fail
      refine (sameTexts_any _ tz _ _ _ HT4.out HTz.out).mono ?_
      rintro e w5 ⟨rfl, hb⟩
      rw [decide_eq_true rfl]
      have B5 := Lib.hid (below_join B4.out hb)
      have Lz5 := Lib.hid (Lz4.out.kept hb)
      have Ly5 := Lib.hid (Ly4.out.kept hb)
      have Lv5 := Lib.hid (Lv4.out.kept hb)
      have Ht5 := Lib.hid (own_kept Ht4.out hb)
      clear hb
      go_wp2_with fail
      refine (same_any y v ls b _ Ly5.out Lv5.out).mono ?_
      rintro e w6 ⟨rfl, hb⟩
      have B6 := Lib.hid (below_join B5.out hb)
      have Lz6 := Lib.hid (Lz5.out.kept hb)
      have Ly6 := Lib.hid (Ly5.out.kept hb)
      have Lv6 := Lib.hid (Lv5.out.kept hb)
      have Ht6 := Lib.hid (own_kept Ht5.out hb)
      obtain ⟨sb, hsb⟩ : ∃ x, sameL ls b = x := ⟨_, rfl⟩
      have Hsb := Lib.hid hsb
      rw [hsb]
      clear hb hsb
      go_wp2_with fail
      refine (refSame_any z v ls b _ Lz6.out Lv6.out).mono ?_
      rintro e w7 ⟨rfl, hb⟩
      rw [Hsb.out]
      have B7 := Lib.hid (below_join B6.out hb)
      have Lz7 := Lib.hid (Lz6.out.kept hb)
      have Ly7 := Lib.hid (Ly6.out.kept hb)
      have Ht7 := Lib.hid (own_kept Ht6.out hb)
      clear hb
      go_wp2_with fail
      refine (same_any y z ls ls _ Ly7.out Lz7.out).mono ?_
      rintro e w8 ⟨rfl, hb⟩
      rw [sameL_refl]
      have B8 := Lib.hid (below_join B7.out hb)
      have Lz8 := Lib.hid (Lz7.out.kept hb)
      have Ly8 := Lib.hid (Ly7.out.kept hb)
      have Ht8 := Lib.hid (own_kept Ht7.out hb)
      clear hb
      go_wp2_with fail
      refine (refSame_any y z ls ls _ Ly8.out Lz8.out).mono ?_
      rintro e w9 ⟨rfl, hb⟩
      rw [sameL_refl]
      have B9 := Lib.hid (below_join B8.out hb)
      have Ht9 := Lib.hid (own_kept Ht8.out hb)
      clear hb
      go_wp2_with fail
      go_loopw [11] (fun i wq => ∃ (j : Nat) (xs : List Value), j ≤ n ∧ i = .int .i64 j ∧ wq.ownsRow w2.heap.size 9 1 (.slice (some ⟨w2.heap.size, 0, none⟩) n n) n xs ∧ Below w2.heap.size w2 wq) (fun i _ => n - (intOf i).toNat)
      case atStart => exact ⟨0, _, Nat.zero_le _, rfl, Ht9.out, B9.out⟩
      case round =>
        rename_i wq _ _ _
        obtain ⟨j, xs, hj, rfl, hxc, hbq⟩ := hrel
        by_cases hjt : j < n
        · have hxl : xs.length = n := by have := hxc.1; omega
          have c1 := hxc.cellAt j (by omega)
          rw [List.getElem?_eq_getElem (by omega)] at c1
          have f1 := hxc.frozenAt j
          have Hst := Lib.hid (hxc.stored j (.string ⟨#[63]⟩)).1
          have Hbq2 := Lib.hid (hbq.setCell (p := ⟨w2.heap.size, j, none⟩) (Nat.le_refl _) (.string ⟨#[63]⟩))
          clear hxc hbq
          go_wp2_with fail
          go_roundw
          case rel => exact ⟨j + 1, _, by omega, by go_num, Hst.out, Hbq2.out⟩
          case measure => simp [intOf]; omega
        · have Ly9 := Lib.hid (Ly.out.kept hbq)
          have Lz9 := Lib.hid (Lz.out.kept hbq)
          have Hy9 := Lib.hid (own_kept Hy2.out hbq)
          have Hbq := Lib.hid hbq
          clear hxc hbq
          go_wp2_with fail
          refine (refSame_any y z ls ls _ Ly9.out Lz9.out).mono ?_
          rintro e w10 ⟨rfl, hb⟩
          rw [sameL_refl]
          have Hy10 := Lib.hid (own_kept Hy9.out hb)
          have B10 := Lib.hid (below_join Hbq.out hb)
          have Bw : Hid (Below w.heap.size w w10) := ⟨by rw [B10.out.os, Hb2.out.os, Hbw.out.os], by rw [B10.out.tape, Hb2.out.tape, Hbw.out.tape], by rw [B10.out.output, Hb2.out.output, Hbw.out.output], Nat.le_trans (Nat.le_trans Hbw.out.size Hb2.out.size) B10.out.size,
            fun q hq => (B10.out.block q (Nat.lt_of_lt_of_le hq (Nat.le_trans Hbw.out.size Hb2.out.size))).trans ((Hb2.out.block q (Nat.lt_of_lt_of_le hq Hbw.out.size)).trans (Hbw.out.block q hq))⟩
          clear hb
          have hn63 : n ≤ 9223372036854775807 := by omega
          by_cases hat : 0 ≤ i' ∧ i' < n
          · obtain ⟨hat0, hat1⟩ := hat
            obtain ⟨m, rfl⟩ : ∃ m : Nat, i' = m := ⟨i'.toNat, by omega⟩
            have hmn : m < n := by omega
            obtain ⟨g, cap, rfl⟩ := Joins.ownsRow_form Hy10.out (by omega)
            have hml : m < ls.length := by rw [Hln.out]; exact hmn
            obtain ⟨f0, f1, f2, f3⟩ := flatL_get ls m hml
            have c2 := (Hy10.out.cellAt (m * 4 + 2) (by omega)).trans f2
            have fr := Hy10.out.frozenAt (m * 4 + 2)
            obtain ⟨rv, hrv⟩ : ∃ r, (ls[m]'hml).rev = r := ⟨_, rfl⟩
            rw [hrv] at c2
            have hgb := (Hy10.out.lt g rfl).1
            have Hset := Lib.hid fun r => flatL_set ls m hml r
            have Hst := Lib.hid fun r : Int => (Hy10.out.stored (m * 4 + 2) (.int .i64 r)).1
            have Hbs := Lib.hid fun r : Int => Bw.out.setCell (p := ⟨g, m * 4 + 2, none⟩) hgb (.int .i64 r)
            clear f0 f1 f2 f3 hrv hgb
            go_wp2_with fail
            go_roundw
            case rel => exact ⟨k + 1, ls.set m ⟨(ls[m]'hml).lab, (ls[m]'hml).num, bits .xor .i64 rv 1, (ls[m]'hml).text⟩, by omega, by go_num, (by show (List.set _ _ _).length = n; rw [List.length_set]; exact Hln.out), by rw [← Hset.out]; exact Hst.out _, Hbs.out _⟩
            case measure => simp [intOf]; omega
          · by_cases hneg : i' < 0
            · go_wp2_with fail
              go_roundw
              case rel => exact ⟨k + 1, ls, by omega, by go_num, Hln, Hy10.out, Bw.out⟩
              case measure => simp [intOf]; omega
            · have hge : (n : Int) ≤ i' := by omega
              have hnn : 0 ≤ i' := by omega
              rcases Joins.ownsRow_forms Hy10.out with ⟨hv0, hn0⟩ | ⟨g, cap, hv0⟩
              · subst hv0
                go_wp2_with fail
                go_roundw
                case rel => exact ⟨k + 1, ls, by omega, by go_num, Hln, Hy10.out, Bw.out⟩
                case measure => simp [intOf]; omega
              · subst hv0
                go_wp2_with fail
                go_roundw
                case rel => exact ⟨k + 1, ls, by omega, by go_num, Hln, Hy10.out, Bw.out⟩
                case measure => simp [intOf]; omega
    · go_wp2_with fail
      go_ret
      exact ⟨rfl, Hbw.out⟩
end Go.Proofs.Ytphepdhppjnfpaa
