import Derived.RangeFuncBox
import Derived.RangeFuncLeaves
import Derived.Shelf.Abstract
import Derived.WalkKit
import Derived.OwnWalkIn
import Derived.TacticsInMore
import Derived.LoopNIn
import Derived.LoopIn
import Derived.Maps.AppendAt
import Derived.Test.YtlmdcflnifmjjaaBetween
import Derived.Test.YtlmdcflnifmjjaaBtwMath
import Derived.Test.YtlmdcflnifmjjaaHiA
namespace Go.Proofs.Ytlmdcflnifmjjaa
open Go.RowKit Go.Shelf

attribute [local go_sem] Oper.semAt_some

theorem btw_len (a b : Nat) (h : lessN a b = 0) : (btw a b).length = 2 ^ countN (lessN b a) := by rw [btw, if_pos h]; simp
theorem btw_at {a b : Nat} (h : lessN a b = 0) {i : Nat} (hi : i < 2 ^ countN (lessN b a)) : (btw a b)[i]? = some (a + spread 64 (lessN b a) i) := by
  rw [btw, if_pos h, List.getElem?_map, List.getElem?_range hi]; rfl

/-- the closure is not nil -/
theorem seq_nil (W : World) (u v x : Value) : (binOp .eql 36 (.func (.func 22) #[] #[u, v, x]) .nilFunc).run Try.prog W = .ok (.bool false) W := by kernel_rfl

set_option maxRecDepth 100000 in
set_option maxHeartbeats 2000000 in
theorem btw_in (n : Nat) (hn : 1 ≤ n) (l g n₀ : Nat) (a b : Nat) (ha : a < 18446744073709551616) (hb : b < 18446744073709551616) (hg : g + 2 < n₀) (J Jx : List L64 → World → Prop)
    (hY : ∀ pre x W, J pre W → pre.length < (btw a b).length → YieldAt Fence.wide (n - 1) Try.prog l #[.int .u64 ((x : L64).1 : Int)] W fun e W' =>
      (e = .returned (.bool true) ∧ J (pre ++ [x]) W' ∧ Below n₀ W W') ∨ (e = .returned (.bool false) ∧ Jx (pre ++ [x]) W'))
    (W : World) (h1 : W.cell? ⟨g, 0, none⟩ = some (.int .u64 a)) (h2 : W.cell? ⟨g + 1, 0, none⟩ = some (.int .u64 b)) (h3 : W.cell? ⟨g + 2, 0, none⟩ = some (.int .u64 (lessN b a : Nat))) (h0 : J [] W) :
    CallsIn Fence.wide n Try.prog 22 #[.func (.yield l) #[] #[], .pointer (some ⟨g, 0, none⟩), .pointer (some ⟨g + 1, 0, none⟩), .pointer (some ⟨g + 2, 0, none⟩)] W fun e W' => (∃ v, e = .returned v) ∧
      ((∃ ys : List L64, ys.map Subtype.val = btw a b ∧ J ys W') ∨ (∃ pre : List L64, pre.map Subtype.val <+: btw a b ∧ Jx pre W')) := by
  refine callsIn_of_wp Try.func22 rfl trivial ?_ rfl
  simp only [Try.ntmps22, List.size_toArray, List.length_cons, List.length_nil, Nat.reduceAdd, Nat.reduceSub, Array.replicate_succ, Array.replicate_zero, List.push_toArray, List.append_toArray, List.nil_append, List.cons_append]
  by_cases hab : lessN a b = 0
  · have hbl : belowN a b = true := by simp [belowN, hab]
    gi_wp2_with (refine ⟨trivial, ?_⟩; gi_at_call 15; refine (callsIn_wide.2 (below_any a b _ ha hb)).mono ?_; rintro e w' ⟨rfl, rfl⟩; rw [hbl])
    have hF := lessN_lt b a hb
    have hFb : ∀ k, (lessN b a).testBit k = true → a.testBit k = false := by
      intro k hk
      rw [lessN_bit, Bool.and_eq_true] at hk
      simpa using hk.2
    have Hlen := Lib.hid (btw_len a b hab)
    have Hat : Hid (∀ i, i < 2 ^ countN (lessN b a) → (btw a b)[i]? = some (a + spread 64 (lessN b a) i)) := fun i hi => btw_at hab hi
    have Hones := Lib.hid (ones_count (lessN b a))
    have Hor : Hid (∀ i, a ||| spread 64 (lessN b a) i = a + spread 64 (lessN b a) i) := fun i => or_add ha (Nat.lt_of_le_of_lt (spread_le _ _ _) hF) fun k hk => hFb k (spread_sub _ _ _ k hk)
    have Hle : Hid (∀ i, spread 64 (lessN b a) i ≤ lessN b a) := fun i => spread_le _ _ _
    have Hend := Lib.hid (@spread_end (lessN b a) · hF)
    have Hnext := Lib.hid (spread_next 64 (lessN b a) · hF)
    have Hlt := Lib.hid (spread_lt 64 (lessN b a))
    have Hz := Lib.hid (spread_zero 64 (lessN b a))
    have hC : 0 < 2 ^ countN (lessN b a) := Nat.pow_pos (by decide)
    rw [Hones.out] at Hend Hlt
    obtain ⟨f, hfe⟩ : ∃ f, lessN b a = f := ⟨_, rfl⟩
    rw [hfe] at hF h3 Hlen Hat Hor Hle Hend Hnext Hlt Hz hC
    obtain ⟨C, hCe⟩ : ∃ C, 2 ^ countN f = C := ⟨_, rfl⟩
    rw [hCe] at Hlen Hat Hend Hlt hC
    have HH1 := Lib.hid h1
    have HH2 := Lib.hid h2
    have HH3 := Lib.hid h3
    clear hFb Hones hfe hCe hab h1 h2 h3
    gi_loopw [5] (fun t wr => ∃ (i : Nat) (pre : List L64), i < C ∧ t = .int .u64 ((spread 64 f i : Nat) : Int) ∧ Hid (pre.map Subtype.val = (btw a b).take i) ∧ J pre wr ∧ Below n₀ W wr) (fun t _ => 18446744073709551616 - (intOf t).toNat)
    case atStart => exact ⟨0, [], hC, by rw [Hz.out]; rfl, rfl, h0, Below.refl _ _⟩
    case round =>
      obtain ⟨i, pre, hi, rfl, Hpre, hJ, hbw⟩ := hrel
      have hplen : pre.length < (btw a b).length := by
        have h := congrArg List.length Hpre.out
        rw [List.length_map, List.length_take, Hlen.out] at h
        rw [Hlen.out]; omega
      have Hat2 := Lib.hid (Hat.out i hi)
      have Hor2 := Lib.hid (Hor.out i)
      have Hnx := Lib.hid (Hnext.out i)
      have Hen := Lib.hid (Hend.out i hi)
      have hsl := Hle.out i
      have hasl : a ||| spread 64 f i < 18446744073709551616 := Nat.or_lt_two_pow (n := 64) ha (Nat.lt_of_le_of_lt hsl hF)
      have Hlt2 : Hid (i + 1 < C → spread 64 f i < spread 64 f (i + 1)) := fun h => Hlt.out i (i + 1) (by omega) h
      obtain ⟨s, hs⟩ : ∃ s, spread 64 f i = s := ⟨_, rfl⟩
      rw [hs] at hsl hasl Hor2 Hnx Hen Hlt2 Hat2 ⊢
      have hs2 : s < 18446744073709551616 := by omega
      obtain ⟨x, hx⟩ : ∃ x, a ||| s = x := ⟨_, rfl⟩
      rw [hx] at hasl Hor2
      have Hx := Lib.hid hx
      have Htk : Hid ((pre ++ [(⟨x, hasl⟩ : L64)]).map Subtype.val = (btw a b).take (i + 1)) := by
        show _ = _
        rw [List.map_append, Hpre.out]
        have h := Hat2.out
        rw [← Hor2.out] at h
        obtain ⟨hl, he⟩ := List.getElem?_eq_some_iff.1 h
        rw [List.take_succ_eq_append_getElem hl, he]
        rfl
      have c1 := (hbw.cell (p := ⟨g, 0, none⟩) (by show g < n₀; omega)).trans HH1.out
      obtain ⟨fn, tmps, assign, body, hy, hR⟩ := hY pre ⟨x, hasl⟩ wr hJ hplen
      have HR := Lib.hid hR
      have Hbw := Lib.hid hbw
      clear hs hx hR hbw hplen hJ
      gi_wp2_with (refine ⟨trivial, ?_⟩; gi_at_call 23; refine (callsIn_wide.2 (join_any a s _ ha hs2)).mono ?_; rintro e w' ⟨rfl, rfl⟩; rw [Hx.out])
      refine HR.out.mono ?_
      rintro e W3 (⟨rfl, hJ3, hk3⟩ | ⟨rfl, hJx3⟩)
      · have B3 := Lib.hid (Hbw.out.trans hk3)
        have c3 := (B3.out.cell (p := ⟨g + 2, 0, none⟩) (by show g + 2 < n₀; omega)).trans HH3.out
        have HJ3 := Lib.hid hJ3
        clear hJ3 hk3 c1 hy
        by_cases he : s = f
        · have hne : (((s : Nat) : Int) != ((f : Nat) : Int)) = false := by simp [he]
          have Hi := Lib.hid (Hen.out.1 he)
          clear he
          gi_wp2
          go_end0
          refine ⟨⟨_, rfl⟩, .inl ⟨pre ++ [⟨x, hasl⟩], ?_, HJ3.out⟩⟩
          rw [Htk.out, List.take_of_length_le (by rw [Hlen.out, Hi.out]; exact Nat.le_refl _)]
        · have hne : (((s : Nat) : Int) != ((f : Nat) : Int)) = true := by rw [bne_iff_ne]; omega
          have Hi : Hid (i + 1 < C) := by
            show _ < _
            have := (not_congr Hen.out).1 he
            omega
          have e1 : IntKind.u64.wrap (((s : Nat) : Int) - ((f : Nat) : Int)) = (((s + (2 ^ 64 - f)) % 2 ^ 64 : Nat) : Int) := by
            simp only [IntKind.wrap, IntKind.bits, IntKind.signed]
            simp
            omega
          have E1 := Lib.hid e1
          have E2 := Lib.hid (bits_and_u64_nat ((s + (2 ^ 64 - f)) % 2 ^ 64) f (Nat.mod_lt _ (by decide)) hF)
          clear he e1
          gi_wp2
          go_roundw
          case rel =>
            refine ⟨i + 1, pre ++ [⟨x, hasl⟩], Hi.out, ?_, Htk, HJ3.out, B3.out⟩
            rw [E1.out, E2.out, Hnx.out]
          case measure =>
            rw [E1.out, E2.out, Hnx.out]
            have h1 := Hlt2.out Hi.out
            have h2 := Hle.out (i + 1)
            simp only [intOf]
            omega
      · gi_wp2
        go_end0
        exact ⟨⟨_, rfl⟩, .inr ⟨pre ++ [⟨x, hasl⟩], by rw [Htk.out]; exact List.take_prefix _ _, hJx3⟩⟩
  · have hbl : belowN a b = false := by simp [belowN, hab]
    have hnil : btw a b = [] := by rw [btw, if_neg hab]
    gi_wp2_with (refine ⟨trivial, ?_⟩; gi_at_call 15; refine (callsIn_wide.2 (below_any a b _ ha hb)).mono ?_; rintro e w' ⟨rfl, rfl⟩; rw [hbl])
    refine bodyPost_ret (results_none rfl _ _ _) rfl ?_
    exact ⟨⟨_, rfl⟩, .inl ⟨[], by rw [hnil]; rfl, h0⟩⟩

/-- Between's closure goes over just what lies between, rising -/
theorem btw_stops (n : Nat) (hn : 1 ≤ n) (g n₀ : Nat) (a b : Nat) (ha : a < 18446744073709551616) (hb : b < 18446744073709551616) (hg : g + 2 < n₀) (w : World) (hn₀ : n₀ ≤ w.heap.size)
    (h1 : w.cell? ⟨g, 0, none⟩ = some (.int .u64 a)) (h2 : w.cell? ⟨g + 1, 0, none⟩ = some (.int .u64 b)) (h3 : w.cell? ⟨g + 2, 0, none⟩ = some (.int .u64 (lessN b a : Nat))) :
    SeqStopsK Fence.wide n Try.prog 22 #[.pointer (some ⟨g, 0, none⟩), .pointer (some ⟨g + 1, 0, none⟩), .pointer (some ⟨g + 2, 0, none⟩)] (fun x : L64 => #[Value.int .u64 (x.1 : Int)]) (Below n₀)
      (fun ys => ys.map Subtype.val = btw a b) (fun pre => pre.map Subtype.val <+: btw a b) (btw a b).length w := fun l J Jx W hW _ _ hY h0 =>
  btw_in n hn l g n₀ a b ha hb hg J Jx hY W ((hW.cell (p := ⟨g, 0, none⟩) (by show g < _; omega)).trans h1) ((hW.cell (p := ⟨g + 1, 0, none⟩) (by show g + 1 < _; omega)).trans h2) ((hW.cell (p := ⟨g + 2, 0, none⟩) (by show g + 2 < _; omega)).trans h3) h0
end Go.Proofs.Ytlmdcflnifmjjaa
