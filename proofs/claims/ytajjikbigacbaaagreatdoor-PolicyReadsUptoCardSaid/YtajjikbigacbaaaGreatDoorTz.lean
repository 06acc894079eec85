import Derived.Test.YtajjikbigacbaaaGreatDoorLabA
import Derived.Test.YtajjikbigacbaaaGreatDoorLabBase
import Derived.Lib.LaidTab
namespace Go.Proofs.YtajjikbigacbaaaGreatDoor
open Go.RowKit

/-- the numbers of de Bruijn's table -/
def debTab : List Int := Lib.deBruijn64tab.map fun n : Nat => (n : Int)
def Deb (w : World) : Prop := Lib.TabIs Tryz.prog w "math/bits.deBruijn64tab" .u8 debTab
theorem Deb.kept {w w' : World} (h : Deb w) (hb : Below w.heap.size w w') : Deb w' := by
  unfold Deb Lib.TabIs World.var? at *
  cases hg : Tryz.prog.globalNamed "math/bits.deBruijn64tab" with
  | none => simp [hg] at h
  | some g =>
    simp only [hg, Option.bind_some] at h ⊢
    have hlt : g < w.heap.size := by
      by_cases hc : g < w.heap.size
      · exact hc
      · rw [Array.getElem?_eq_none (by omega)] at h
        simp at h
    rw [hb.block g hlt]
    exact h
theorem Deb.cell {w : World} (h : Deb w) (i : Nat) (hi : i < 64) : w.cell? ⟨0, i, none⟩ = some (.int .u8 ((Lib.deBruijn64tab.getD i 0 : Nat) : Int)) := by
  have := Lib.TabIs.cell (g := 0) h (by kernel_rfl) i (by rw [debTab, List.length_map]; exact hi)
  rw [this, debTab, List.getD_eq_getElem?_getD, List.getD_eq_getElem?_getD, List.getElem?_map, List.getElem?_eq_getElem (show i < Lib.deBruijn64tab.length from hi)]
  rfl

theorem wrap_u64_of (n : Int) : IntKind.u64.wrap n = n % 18446744073709551616 := by simp [IntKind.wrap, IntKind.bits, IntKind.signed]
theorem tz_key (x a : Nat) (hx : x < 18446744073709551616) (hx0 : x ≠ 0) (hlow : x &&& (18446744073709551616 - x) = a) :
    IntKind.u64.wrap (bits BinOp.and IntKind.u64 (x : Int) (IntKind.u64.wrap (-(x : Int))) * 285870213051353865) / 288230376151711744 = ((a * 285870213051353865 % 18446744073709551616 / 288230376151711744 : Nat) : Int) := by
  have e1 : IntKind.u64.wrap (-(x : Int)) = ((18446744073709551616 - x : Nat) : Int) := by rw [wrap_u64_of]; omega
  rw [e1, bits_and_u64_nat x _ hx (by omega), hlow, wrap_u64_of]
  omega

set_option maxHeartbeats 2000000 in
theorem tz_core (x k idx : Nat) (w : World) (hx0 : ((x : Int) == 0) = false)
    (key : IntKind.u64.wrap (bits BinOp.and IntKind.u64 (x : Int) (IntKind.u64.wrap (-(x : Int))) * 285870213051353865) / 288230376151711744 = (idx : Int))
    (hi : idx < 64) (hk : k < 64) (hcell : w.cell? ⟨0, idx, none⟩ = some (.int .u8 k)) :
    Calls Tryz.prog 151 #[.int .u64 x] w fun e w' => e = .returned (.int .i64 k) ∧ w = w' := by
  go_enter Tryz.func151, Tryz.ntmps151
  go_wp2_with (simp only [key])
  go_ret
  exact ⟨rfl, rfl⟩

theorem tz_any (x : Nat) (w : World) (hx : x < 18446744073709551616) (hx0 : x ≠ 0) (hT : Deb w) :
    Calls Tryz.prog 151 #[.int .u64 x] w fun e w' => e = .returned (.int .i64 (Lib.ctz 64 x)) ∧ w = w' := by
  obtain ⟨hlow, hk⟩ := Lib.lowest_bit 64 x hx0 hx
  obtain ⟨hi, htab⟩ := Lib.deBruijn64_at _ hk
  have hc := hT.cell _ hi
  rw [htab] at hc
  exact tz_core x _ _ w (by rw [beq_eq_false_iff_ne]; omega) (tz_key x _ hx hx0 hlow) hi hk hc

theorem Tryz.info3 : (Tryz.prog.info? 3).map (fun i => (i.zero, i.size, i.bytes)) = some (some (.int .i64 0), 1, 8) := by kernel_rfl
/-- one cell behind an address -/
theorem one_cell (w : World) (v : Value) (t : TypeId) : ∀ (i : Nat) (u : Value), [v][i]? = some u → (w.alloc (.cells #[v] t)).cell? ((⟨w.heap.size, 0, none⟩ : Addr).add i) = some u := by
  intro i u hu
  match i, hu with
  | 0, hu =>
    simp at hu
    subst hu
    rw [show (⟨w.heap.size, 0, none⟩ : Addr).add 0 = ⟨w.heap.size, 0, none⟩ by simp [Addr.add], cell_of_row _ _ _ _ _ _ (heap_alloc_new w _)]
    rfl
  | i + 1, hu => simp at hu
theorem one_list (v : Value) (h : v.oneCell' = true) : ∀ x ∈ [v], x.oneCell' = true := by
  intro x hx
  rw [List.mem_singleton] at hx
  rw [hx]; exact h
/-- compartments as numbers -/
def intsOf (l : List Nat) : List Int := l.map fun n : Nat => (n : Int)
theorem intsOf_len (l : List Nat) : (intsOf l).length = l.length := by simp [intsOf]
theorem intsOf_snoc (l : List Nat) (n : Nat) : intsOf (l ++ [n]) = intsOf l ++ [(n : Int)] := by simp [intsOf]
theorem less_low {x t : Nat} (h0 : x ≠ 0) (hx : x < 18446744073709551616) (ht : ∀ j, (x &&& (x - 1)).testBit j = (x.testBit j && decide (j ≠ t))) : lessN x (2 ^ t) = x &&& (x - 1) := by
  apply word_ext (lessN_lt x _ hx) (by have := and_pred_lt h0; omega)
  intro j _
  rw [ht j, lessN_bit, Nat.testBit_two_pow]
  by_cases e : t = j
  · simp [e]
  · have e2 : ¬ j = t := fun e' => e e'.symm
    simp [e, e2]
theorem shl_one (c : Nat) (h : c < 64) : IntKind.u64.wrap ((2 : Int) ^ c) = ((2 ^ c : Nat) : Int) := by
  have h2 : 2 ^ c < 2 ^ 64 := Nat.pow_lt_pow_right (by decide) h
  have e : ((2 : Int) ^ c) = ((2 ^ c : Nat) : Int) := by simp
  rw [wrap_u64_of, e]
  generalize 2 ^ c = q at *
  omega

set_option maxHeartbeats 8000000 in
set_option maxRecDepth 100000 in
theorem list_any (a : Nat) (w : World) (ha : a < 18446744073709551616) (hT : Deb w) :
    Calls Tryz.prog 119 #[.int .u64 a] w fun e w' => ∃ v, e = .returned v ∧ w'.ownsRow w.heap.size 3 1 v (countN a) ((intsOf (listN a)).map (Value.int .i64)) ∧ Below w.heap.size w w' := by
  obtain ⟨i0, hi, hz0, hz1, hz2⟩ := info_parts Tryz.info3
  have HT := Lib.hid hT
  go_enter Tryz.func119, Tryz.ntmps119
  go_wp2
  go_loopw [0, 3] (fun v c wr => ∃ x m : Nat, x ≤ a ∧ m ≤ 64 ∧ Hid (∀ j, x.testBit j = (a.testBit j && decide (m ≤ j))) ∧ v = .int .u64 x ∧ wr.ownsRow w.heap.size 3 1 c (listTo a m).length ((intsOf (listTo a m)).map (Value.int .i64)) ∧ Below w.heap.size w wr) (fun v _ _ => (intOf v).toNat)
  case atStart => exact ⟨a, 0, Nat.le_refl _, by omega, fun j => by simp, rfl, by simp only [listTo, List.range_zero, List.filter_nil, intsOf, List.map_nil, List.length_nil]; exact World.ownsRow_nil _ _ _ _, Below.refl _ _⟩
  case round =>
    obtain ⟨x, m, hx, hm, Hbit, rfl, hown, hbw⟩ := hrel
    have Hown := Lib.hid hown
    have Hbw := Lib.hid hbw
    clear hown hbw
    by_cases h0 : x = 0
    · subst h0
      have Hc : Hid (listTo a m = listN a) := by
        show _ = _
        rw [listN, listTo_skip a m 64 hm]
        intro j h1 _
        have := Hbit.out j
        simpa [h1] using this.symm
      go_wp2
      go_ret
      refine ⟨_, rfl, ?_, Hbw.out⟩
      rw [countN, ← Hc.out]
      exact Hown.out
    · have hx2 : x < 18446744073709551616 := by omega
      obtain ⟨t, ht1, ht2, ht3, ht4, ht5⟩ := lowest h0 hx2
      have hne : ((x : Int) != 0) = true := by rw [bne_iff_ne]; omega
      have H0 := Lib.hid h0
      have Hnx := Lib.hid (less_low h0 hx2 ht5)
      have Hlt := Lib.hid (and_pred_lt h0)
      have Hsh := Lib.hid (shl_one t ht2)
      have Hp2 := Lib.hid (Nat.pow_lt_pow_right (by decide) ht2 : 2 ^ t < 2 ^ 64)
      have Hb5 := Lib.hid ht5
      have Ht1 := Lib.hid ht1
      have Ht3 := Lib.hid ht3
      have Ht4 := Lib.hid ht4
      clear h0 ht1 ht3 ht4 ht5
      go_wp2_with fail
      refine (tz_any x _ hx2 H0.out (HT.out.kept Hbw.out)).mono ?_
      rintro e w' ⟨rfl, rfl⟩
      rw [Ht1.out]
      have Hml := Lib.hid (listTo_len a m)
      have hml := Hml.out
      obtain ⟨n, hn⟩ : ∃ n, (listTo a m).length = n := ⟨_, rfl⟩
      have Hn := Lib.hid hn
      have h2 := Hown.out
      rw [hn] at h2 hml
      have Hown2 := Lib.hid h2
      clear hn h2
      go_wp2_with (at_builtin; refine wpList_append_own _ rfl _ _ 163 rfl w.heap.size 3 i0 (.int .i64 0) 1 8 Tryz.underlying163 hi hz0 hz1 hz2 rfl (by decide) _ _ _ rfl (Hown2.out.alloc _) ⟨wr.heap.size, 0, none⟩ 1 1 [.int .i64 t] rfl rfl (one_cell _ _ _) (one_list _ rfl) ?c3 ?c4 ?c5 ?_)
      case c3 => unfold maxLen; omega
      case c4 => omega
      case c5 => exact Nat.le_trans Hbw.out.size (by simp)
      intro v' w1 hown1 hgrow _
      have Hb1 := Lib.hid ((Hbw.out.alloc Hbw.out.size _).grown hgrow (Nat.le_trans Hbw.out.size (by simp)) (fun q hq => (Hown.out.lt q hq).1))
      have Hown1 := Lib.hid hown1
      clear hown1 hgrow
      go_wp2_with fail
      have Hx : Hid (bits BinOp.andNot IntKind.u64 (x : Int) (IntKind.u64.wrap (2 ^ t)) = ((x &&& (x - 1) : Nat) : Int)) := by
        show _ = _
        rw [Hsh.out, bits_andNot_u64_nat x (2 ^ t) hx2 Hp2.out, Hnx.out]
      have Hmt : Hid (m ≤ t) := by
        show _ ≤ _
        have := Hbit.out t
        rw [Ht3.out] at this
        have h2 := this.symm
        rw [Bool.and_eq_true, decide_eq_true_eq] at h2
        exact h2.2
      have Hat : Hid (a.testBit t = true) := by
        have := Hbit.out t
        rw [Ht3.out] at this
        have h2 := this.symm
        rw [Bool.and_eq_true] at h2
        exact h2.1
      have Hlist : Hid (listTo a (t + 1) = listTo a m ++ [t]) := by
        show _ = _
        rw [listTo_yes Hat.out, listTo_skip a m t Hmt.out]
        intro j h1 h2
        have := Hbit.out j
        rw [Ht4.out j h2] at this
        simpa [h1] using this.symm
      go_roundw
      case rel =>
        refine ⟨x &&& (x - 1), t + 1, by have := Hlt.out; omega, by omega, ?_, by rw [Hx.out], ?_, Hb1.out⟩
        · intro j
          rw [Hb5.out j, Hbit.out j]
          have h3 := Ht4.out j
          have h4 := Hbit.out j
          have h5 := Hmt.out
          by_cases e1 : j < t
          · have := h3 e1
            rw [h4] at this
            rw [this]
            simp [show ¬ t + 1 ≤ j by omega]
          · by_cases e2 : j = t
            · subst e2; simp
            · simp [e2, show m ≤ j by omega, show t + 1 ≤ j by omega]
        · rw [Hlist.out, intsOf_snoc, List.map_append, List.length_append, Hn.out]
          exact Hown1.out
      case measure =>
        rw [Hx.out]
        have := Hlt.out
        simp only [intOf]
        omega
end Go.Proofs.YtajjikbigacbaaaGreatDoor
