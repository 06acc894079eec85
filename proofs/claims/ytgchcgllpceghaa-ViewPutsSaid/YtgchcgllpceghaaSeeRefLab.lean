/- Own work: scrimref06's Labels. -/
import Derived.Test.YtgchcgllpceghaaSeeOf
import Derived.Test.YtgchcgllpceghaaRiseM
namespace Go.Proofs.Ytgchcgllpceghaa
open Go.RowKit Go.Maps Go.Shelf Go.Sort Go.Lib

set_option maxRecDepth 100000 in
set_option maxHeartbeats 16000000 in
theorem ref06Labels_any (u : Value) (vs : List LineV) (w : World) (hu : Lns w u vs) (hlen : vs.length * 40 ≤ 140737488355328) (hlab : ∀ v ∈ vs, v.fine) :
    Calls Try.prog 30 #[u] w fun e w' => ∃ v out, e = .returned v ∧ Nums .u64 w' v out ∧ Rises (vs.map LineV.lab) out ∧ Below w.heap.size w w' := by
  obtain ⟨i0, hi, hz0, hz1, hz2⟩ := info_parts Try.seenInfo24
  obtain ⟨ao, cap, b, o, rfl, hao, hml, hc⟩ := hu.form
  obtain ⟨n, hn⟩ : ∃ n, vs.length = n := ⟨_, rfl⟩
  obtain ⟨zs, hzs⟩ : ∃ zs : List Int, (vs.map LineV.lab) = zs := ⟨_, rfl⟩
  have hzl : zs.length = n := by rw [← hzs, List.length_map, hn]
  have Hzl := Lib.hid hzl
  have Hzs := Lib.hid (show ∀ (k : Nat) (hk : k < vs.length) (hz : k < zs.length), zs[k]'hz = (vs[k]'hk).lab by subst hzs; intro k hk hz; simp)
  rw [hzs]
  have Hn := Lib.hid hn
  rw [hn] at hao hlen ⊢
  have Hao := Lib.hid hao
  have Hc := Lib.hid hc
  have Hlab := Lib.hid hlab
  clear hu hao hc hn hml hzs hzl hlab
  go_enter Try.func30, Try.ntmps30
  go_wp2_with fail
  go_loopg [3] (zs.filter (bey [])).length (fun K ov wr => ∃ (c : Nat) (out : List Int), Hid (out.length = c) ∧ wr.ownsRow w.heap.size 24 1 ov c (out.map (Value.int .u64)) ∧ Hid (Firsts zs out) ∧ Hid ((zs.filter (bey out)).length ≤ K) ∧ c + K ≤ n ∧ Below w.heap.size w wr)
  case atStart => exact ⟨0, [], rfl, World.ownsRow_nil _ _ _ _, firsts_nil zs, Nat.le_refl _, by have := List.length_filter_le (bey []) zs; have := Hzl.out; omega, Below.refl _ _⟩
  case round =>
    obtain ⟨c, out, HC, hown, HF, HK, hcK, hbw⟩ := hrel
    obtain ⟨vo, vc, rfl⟩ := own_sl hown
    have Hown := Lib.hid hown
    have Hbw := Lib.hid hbw
    clear hown hbw
    obtain ⟨wo, rfl⟩ : ∃ wo : World, wo = wr := ⟨_, rfl⟩
    go_wp2_with fail
    go_loopw [4, 5, 6] (fun fv lv i wr => ∃ (k : Nat) (f : Bool) (z : Nat), k ≤ n ∧ i = .int .i64 k ∧ fv = .bool f ∧ lv = .int .u64 (z : Int) ∧ Hid (Least zs out k f z) ∧ wr = wo) (fun _ _ i _ => n - (intOf i).toNat)
    case atStart => exact ⟨0, false, 0, Nat.zero_le _, rfl, rfl, rfl, by show Least _ _ _ _ _; unfold Least; simp, rfl⟩
    case round =>
      obtain ⟨k, f, z, hk, rfl, rfl, rfl, HL, rfl⟩ := hrel
      by_cases hlt : k < n
      · have hkl : k < vs.length := by rw [Hn.out]; exact hlt
        have hkz : k < zs.length := by rw [Hzl.out]; exact hlt
        obtain rfl := Hao.out (by omega)
        obtain ⟨c1, _, _, _⟩ := Hc.out k hkl
        have c1 := cell_kept Hbw.out c1
        have hx64 := Hlab.out _ (List.getElem_mem hkl)
        have HS := Lib.hid (least_step hkz HL.out)
        rw [Hzs.out k hkl hkz] at HS
        obtain ⟨x, hx⟩ : ∃ x : Nat, (vs[k]'hkl).lab = (x : Int) := ⟨(vs[k]'hkl).lab.toNat, by have := hx64.1; omega⟩
        clear hx64
        rw [hx] at c1 HS
        have hi0 : (0 : Int) ≤ (k : Int) := by omega
        have hi1 : (k : Int) < (n : Int) := by omega
        clear hx
        by_cases hc0 : c = 0
        · have hnil : out = [] := List.eq_nil_of_length_eq_zero (by rw [HC.out]; exact hc0)
          have hb : bey out (x : Int) = true := by rw [hnil]; rfl
          rw [hb] at HS
          simp only [Bool.or_true, true_and] at HS
          subst hc0
          clear hb
          cases f with
          | false =>
            simp only [true_or, if_true] at HS
            go_wp2_with fail
            go_roundw
            case rel => exact ⟨k + 1, true, x, by omega, by go_num, rfl, rfl, HS.out, by simp⟩
            case measure => simp [intOf]; omega
          | true =>
            simp only [Bool.true_eq_false, false_or] at HS
            by_cases hxz : (x : Int) < (z : Int)
            · rw [if_pos hxz] at HS
              go_wp2_with fail
              go_roundw
              case rel => exact ⟨k + 1, true, x, by omega, by go_num, rfl, rfl, HS.out, by simp⟩
              case measure => simp [intOf]; omega
            · rw [if_neg hxz] at HS
              go_wp2_with fail
              go_roundw
              case rel => exact ⟨k + 1, true, z, by omega, by go_num, rfl, rfl, HS.out, by simp⟩
              case measure => simp [intOf]; omega
        · obtain ⟨m, hm⟩ : ∃ m, c - 1 = m := ⟨_, rfl⟩
          have hol : m < out.length := by rw [HC.out]; omega
          obtain ⟨g, cap2, hov⟩ := Joins.ownsRow_form Hown.out (by omega)
          injection hov with e1 _ e3
          subst e1 e3
          have d0 := Hown.out.cellAt m (by omega)
          rw [List.getElem?_map, List.getElem?_eq_getElem hol] at d0
          have hlast := bey_last (x := (x : Int)) HF.out.up (m := m) (l := out[m]'hol) (by rw [HC.out]; omega) (List.getElem?_eq_getElem hol)
          obtain ⟨L, hL⟩ : ∃ L, out[m]'hol = L := ⟨_, rfl⟩
          rw [hL] at d0 hlast
          simp only [Option.map_some] at d0
          rw [hlast] at HS
          have hw1 : IntKind.i64.wrap ((c : Int) - 1) = (m : Int) := by rw [IntKind.wrap_i64]; omega
          have hm0 : (0 : Int) ≤ (m : Int) := by omega
          have hm1 : (m : Int) < (c : Int) := by omega
          have hcz : ¬ (c : Int) = 0 := by omega
          clear hlast hL
          by_cases hLx : L < (x : Int)
          · rw [decide_eq_true hLx] at HS
            simp only [Bool.or_true, true_and] at HS
            cases f with
            | false =>
              simp only [true_or, if_true] at HS
              go_wp2_with fail
              go_roundw
              case rel => exact ⟨k + 1, true, x, by omega, by go_num, rfl, rfl, HS.out, by simp⟩
              case measure => simp [intOf]; omega
            | true =>
              simp only [Bool.true_eq_false, false_or] at HS
              by_cases hxz : (x : Int) < (z : Int)
              · rw [if_pos hxz] at HS
                go_wp2_with fail
                go_roundw
                case rel => exact ⟨k + 1, true, x, by omega, by go_num, rfl, rfl, HS.out, by simp⟩
                case measure => simp [intOf]; omega
              · rw [if_neg hxz] at HS
                go_wp2_with fail
                go_roundw
                case rel => exact ⟨k + 1, true, z, by omega, by go_num, rfl, rfl, HS.out, by simp⟩
                case measure => simp [intOf]; omega
          · rw [decide_eq_false hLx] at HS
            simp only [Bool.or_false, Bool.false_eq_true, false_and, if_false] at HS
            go_wp2_with fail
            go_roundw
            case rel => exact ⟨k + 1, f, z, by omega, by go_num, rfl, rfl, HS.out, by simp⟩
            case measure => simp [intOf]; omega
      · obtain rfl : n = k := by omega
        have hL := HL.out
        rw [← Hzl.out] at hL
        cases f with
        | false =>
          have HR := Lib.hid (firsts_end HF.out hL)
          have HX := Lib.hid (nums_own Hown.out HC.out)
          clear hL
          go_wp2_with fail
          go_ret
          exact ⟨_, out, rfl, HX.out, HR.out, Hbw.out⟩
        | true =>
          obtain ⟨h1, h2⟩ := firsts_more HF.out hL
          have HF2 := Lib.hid h1
          have hK := HK.out
          clear hL h1
          go_wp2_with (at_builtin; refine wpList_append_own _ rfl _ _ 45 rfl w.heap.size 24 i0 (.int .u64 0) 1 8 Try.underlying45 hi hz0 hz1 hz2 rfl (by decide) _ _ _ rfl (Hown.out.alloc _) ⟨wr.heap.size, 0, none⟩ 1 1 [.int .u64 (z : Int)] rfl rfl (own_news _ _ _ _ (heap_alloc_new wr (.cells #[.int .u64 (z : Int)] 24))) (by simp [Value.oneCell']) ?c3 ?c4 ?c5 ?_)
          case c3 => unfold maxLen; omega
          case c4 => omega
          case c5 => exact Nat.le_trans Hbw.out.size (by simp)
          intro v' w2 hown1 hgrow _
          have Hb1 := Lib.hid ((Hbw.out.alloc Hbw.out.size _).grown hgrow (Nat.le_trans Hbw.out.size (by simp)) (fun q hq => (Hown.out.lt q hq).1))
          have Hown1 := Lib.hid hown1
          clear hown1 hgrow
          go_wp2_with fail
          go_roundg (zs.filter (bey (out ++ [(z : Int)]))).length
          case measure => omega
          case rel => exact ⟨c + 1, out ++ [(z : Int)], by show _ = _; rw [List.length_append, HC.out]; rfl, by rw [List.map_append]; exact Hown1.out, HF2.out, Nat.le_refl _, by omega, Hb1.out⟩
end Go.Proofs.Ytgchcgllpceghaa
