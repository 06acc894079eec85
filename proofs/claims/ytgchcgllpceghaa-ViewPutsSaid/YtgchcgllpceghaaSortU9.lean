/- Own work: slices.Sort at labels, part 9: the random numbers, off the shelf. -/
import Derived.Test.YtgchcgllpceghaaSortU8
import Derived.Shelf.Sort.Plain
import Derived.Sort.Walk7
namespace Go.Proofs.Ytgchcgllpceghaa
open Go.RowKit Go.Shelf Go.Sort

def xor330_ren : Go.Shelf.Ren := ⟨fun | 330 => 73 | n => n, fun | 0 => 0 | 46 => 54 | 53 => 23 | 218 => 88 | 228 => 95 | n => n, fun | n => n⟩
theorem xor330 : Go.Proofs.Lays.n330 Try.prog xor330_ren := {
  mixed := by kernel_rfl
  f330 := Try.func73.trans (congrArg some (by kernel_rfl))
  t0 := Try.underlying0
  a0 := Try.isAgg0
  z0 := Try.sizeOf0
  v0 := Try.zeroValue0
  t46 := Try.underlying54
  a46 := Try.isAgg54
  z46 := Try.sizeOf54
  v46 := Try.zeroValue54
  t53 := Try.underlying23
  a53 := Try.isAgg23
  z53 := Try.sizeOf23
  v53 := Try.zeroValue23
  t218 := Try.underlying88
  a218 := Try.isAgg88
  z218 := Try.sizeOf88
  v218 := Try.zeroValue88
  t228 := Try.underlying95
  a228 := Try.isAgg95
  z228 := Try.sizeOf95
  v228 := Try.zeroValue95
}
def xor329_ren : Go.Shelf.Ren := ⟨fun | 329 => 72 | 125 => 59 | 128 => 69 | 129 => 70 | n => n, fun | 46 => 54 | 3 => 3 | 51 => 86 | 53 => 23 | 4 => 4 | 5 => 5 | 9 => 9 | n => n, fun | n => n⟩
theorem xor329 : Go.Proofs.Lays.n329 Try.prog xor329_ren := {
  mixed := by kernel_rfl
  f125 := Try.func59.trans (congrArg some (by kernel_rfl))
  f128 := Try.func69.trans (congrArg some (by kernel_rfl))
  f129 := Try.func70.trans (congrArg some (by kernel_rfl))
  f329 := Try.func72.trans (congrArg some (by kernel_rfl))
  t3 := Try.underlying3
  a3 := Try.isAgg3
  z3 := Try.sizeOf3
  v3 := Try.zeroValue3
  t4 := Try.underlying4
  a4 := Try.isAgg4
  z4 := Try.sizeOf4
  v4 := Try.zeroValue4
  t5 := Try.underlying5
  a5 := Try.isAgg5
  z5 := Try.sizeOf5
  v5 := Try.zeroValue5
  t9 := Try.underlying9
  a9 := Try.isAgg9
  z9 := Try.sizeOf9
  v9 := Try.zeroValue9
  t46 := Try.underlying54
  a46 := Try.isAgg54
  z46 := Try.sizeOf54
  v46 := Try.zeroValue54
  t51 := Try.underlying86
  a51 := Try.isAgg86
  z51 := Try.sizeOf86
  v51 := Try.zeroValue86
  t53 := Try.underlying23
  a53 := Try.isAgg23
  z53 := Try.sizeOf23
  v53 := Try.zeroValue23
}
theorem nextU_any (b o x : Nat) (hx : x < 18446744073709551616) (w : World) (hc : w.cell? ⟨b, o, none⟩ = some (.int .u64 x)) (hf : w.frozen? ⟨b, o, none⟩ = false) :
    Calls Try.prog 73 #[.pointer (some ⟨b, o, none⟩)] w fun e w' => e = .returned (.int .u64 (xorNextN x : Nat)) ∧ w' = (w.setCell ⟨b, o, none⟩ (.int .u64 (xorNextN x : Nat))).drewN 3 :=
  calls_of_every_depth fun D => AnyS.xorshift_NextIn xor330 D b o x hx w hc hf
theorem powU_any (n : Nat) (hn : n < 4611686018427387904) (w : World) :
    Calls Try.prog 72 #[.int .i64 n] w fun e w' => e = .returned (.int .u64 ((1 <<< bitsLen n : Nat) : Int)) ∧ w' = w :=
  calls_of_every_depth fun D => AnyS.nextPowerOfTwoIn xor329 D n hn w

set_option maxHeartbeats 32000000 in
set_option maxRecDepth 1000000 in
theorem breakU_any (g o cap a b : Nat) (d : Array Int) (w : World) (hH : Holds (Value.int .u64) w g o d) (hg : g < w.heap.size) (hab : a ≤ b) (hb : b ≤ d.size) (hn : d.size < 4611686018427387904) :
    Calls Try.prog 62 #[.slice (some ⟨g, o, none⟩) d.size cap, .int .i64 a, .int .i64 b] w fun e w' => e = .returned (.tuple #[]) ∧ ∃ q os, w' = grow (RowU w g o q (breakPatterns d a b)) os := by
  have Hc := Lib.hid (fun (m : Nat) (c : Array Int) (hs : c.size = d.size) => rowU_cell hH (m := m) hs)
  have Hf := Lib.hid (fun (m : Nat) (c : Array Int) => rowU_open hH (m := m) (c := c))
  have H0 := Lib.hid (putRow_self _ _ _ _ _ hH)
  clear hH
  obtain ⟨L, hL⟩ : ∃ L, b - a = L := ⟨_, rfl⟩
  have hLz : (b : Int) - (a : Int) = (L : Int) := by omega
  by_cases h8 : 8 ≤ L
  · obtain ⟨S, hS⟩ : ∃ S, breakPatterns d a b = S := ⟨_, rfl⟩
    rw [hS]
    rw [show b = a + L by omega, breakPatterns_eq d a L h8] at hS
    obtain ⟨M, hM⟩ : ∃ M : Nat, 1 <<< bitsLen L = M := ⟨_, rfl⟩
    have hM1 : 1 ≤ M := by rw [← hM, Nat.one_shiftLeft]; exact Nat.two_pow_pos _
    have hM2 : M ≤ 2 * L := by rw [← hM, Nat.one_shiftLeft]; exact two_pow_bitsLen_le (by omega)
    have HM := Lib.hid (fun w => powU_any L (by omega) w)
    rw [hM] at hS HM
    obtain ⟨I, hI⟩ : ∃ I, a + L / 4 * 2 - 1 = I := ⟨_, rfl⟩
    rw [hI] at hS
    have hI1 : a < I := by omega
    have hI2 : I + 3 ≤ a + L := by omega
    have hI3 : (a : Int) + (L : Int) / 4 * 2 = (I : Int) + 1 := by omega
    have HS := Lib.hid hS
    have HW0 := Lib.hid (show w.alloc (.cells #[.int .u64 (L : Int)] 88) = grow (RowU w g o 0 d) #[Obj.cells #[.int .u64 ((UInt64.ofNat L).toNat : Int)] 88] by
      rw [show RowU w g o 0 d = w from H0.out, alloc_eq_grow, show (UInt64.ofNat L).toNat = L by simp; omega])
    clear hS hM hI hL
    have hwl : IntKind.u64.wrap (L : Int) = (L : Int) := by simp only [IntKind.wrap, IntKind.bits, IntKind.signed]; simp; omega
    go_enter Try.func62, Try.ntmps62
    go_wp2_with (first | (go_at_call 72; refine (HM.out _).mono ?_; rintro e w' ⟨rfl, rfl⟩))
    go_loopw [9] (fun v wr => ∃ (t q : Nat) (r : UInt64) (c : Array Int), v = .int .i64 ((I : Int) + (t : Int)) ∧ t ≤ 3 ∧ c.size = d.size ∧ Hid (wr = grow (RowU w g o q c) #[Obj.cells #[.int .u64 (r.toNat : Int)] 88]) ∧ Hid (bpRest a L M I (3 - t) t (r, c) = S)) (fun v _ => I + 3 - (intOf v).toNat)
    case atStart => exact ⟨0, 0, UInt64.ofNat L, d, by simp, by omega, rfl, HW0.out, HS.out⟩
    case round =>
      obtain ⟨t, q, r, c, rfl, ht, hsc, HW, HB⟩ := hrel
      have hsz : (RowU w g o q c).heap.size = w.heap.size := by simp
      obtain ⟨x, hx⟩ : ∃ x : Nat, r.toNat = x := ⟨_, rfl⟩
      have hx64 : x < 18446744073709551616 := by rw [← hx]; exact r.toNat_lt
      have hcB : wr.cell? ⟨w.heap.size, 0, none⟩ = some (.int .u64 x) := by rw [HW.out, hx, ← hsz]; exact grow_one_cell _ _ _
      have hfB : wr.frozen? ⟨w.heap.size, 0, none⟩ = false := by rw [HW.out, ← hsz]; exact grow_one_frozen _ _ _
      have Hnx := Lib.hid (nextU_any w.heap.size 0 x hx64 wr hcB hfB)
      obtain ⟨y, hy⟩ : ∃ y : Nat, xorNextN x = y := ⟨_, rfl⟩
      have hy64 : y < 18446744073709551616 := by rw [← hy]; exact xorNextN_lt x hx64
      rw [hy] at Hnx
      obtain ⟨O, hOd⟩ : ∃ O : Nat, y &&& (M - 1) = O := ⟨_, rfl⟩
      have lO : O ≤ M - 1 := by rw [← hOd]; exact Nat.and_le_right
      have eAnd : bits .and .u64 (y : Int) ((M : Int) - 1) = (O : Int) := by
        rw [show ((M : Int) - 1) = ((M - 1 : Nat) : Int) by omega, bits_and_u64_nat _ _ hy64 (by omega), hOd]
      have HX := Lib.hid (show y = (xorNext r).toNat ∧ O = (xorNext r).toNat &&& (M - 1) from by
        have e : y = (xorNext r).toNat := by rw [← hy, ← hx, xorNext_toNat]
        exact ⟨e, by rw [← hOd, e]⟩)
      obtain ⟨G, hG⟩ : ∃ G : Nat → Int, ∀ t, G t = c[t]! := ⟨fun t => c[t]!, fun _ => rfl⟩
      have hcw : ∀ t, t < d.size → wr.cell? ⟨g, o + t, none⟩ = some (.int .u64 (G t)) := fun t ht => by
        rw [HW.out, cell?_grow _ _ _ (by rw [hsz]; exact hg), hG]; exact Hc.out _ _ hsc t ht
      have hfw : ∀ t, t < d.size → wr.frozen? ⟨g, o + t, none⟩ = false := fun t ht => by
        rw [HW.out, frozen?_grow _ _ _ (by rw [hsz]; exact hg)]; exact Hf.out _ _ t ht
      have HG := Lib.hid hG
      clear hG hx hy hOd
      go_wp2_with (first | (go_at_call 73; refine Hnx.out.mono ?_; rintro e w' ⟨rfl, rfl⟩))
      · have hO1 : L ≤ O := by omega
        have hO : L ≤ O := by omega
        by_cases hE : I + t = a + (O - L)
        all_goals
          go_region
          all_goals go_wp2
          go_roundw
          case rel =>
            refine ⟨t + 1, q + 4, xorNext r, swp c (I + t) (a + (O - L)), by first | go_num | (congr 1 <;> omega), by omega, by rw [size_swp]; exact hsc, ?_, ?_⟩
            · show _ = _
              (try rw [hE])
              rw [HW.out, HX.out.1]
              simp only [HG.out]
              exact step_world (Value.int .u64) w q 4 g o c _ _ hg (by omega) (by omega) _ _ _
            · show _ = _
              rw [← HB.out, bp_step a L M I t r c ((O - L)) (by omega) (by rw [← HX.out.2, if_pos (by omega)])]
          case measure => simp [intOf]; omega

      · have hO1 : ¬ L ≤ O := by omega
        have hO : ¬ L ≤ O := by omega
        by_cases hE : I + t = a + O
        all_goals
          go_region
          all_goals go_wp2
          go_roundw
          case rel =>
            refine ⟨t + 1, q + 4, xorNext r, swp c (I + t) (a + O), by first | go_num | (congr 1 <;> omega), by omega, by rw [size_swp]; exact hsc, ?_, ?_⟩
            · show _ = _
              (try rw [hE])
              rw [HW.out, HX.out.1]
              simp only [HG.out]
              exact step_world (Value.int .u64) w q 4 g o c _ _ hg (by omega) (by omega) _ _ _
            · show _ = _
              rw [← HB.out, bp_step a L M I t r c (O) (by omega) (by rw [← HX.out.2, if_neg (by omega)])]
          case measure => simp [intOf]; omega

      · obtain rfl : t = 3 := by omega
        go_end0
        exact ⟨rfl, q, _, by rw [← HB.out, HW.out]; rfl⟩
  · go_enter Try.func62, Try.ntmps62
    go_wp2
    go_end0
    refine ⟨rfl, 0, #[], ?_⟩
    have e : breakPatterns d a b = d := by
      unfold breakPatterns
      simp only []
      rw [if_neg (by omega)]
    rw [e]
    exact H0.out.symm
end Go.Proofs.Ytgchcgllpceghaa
