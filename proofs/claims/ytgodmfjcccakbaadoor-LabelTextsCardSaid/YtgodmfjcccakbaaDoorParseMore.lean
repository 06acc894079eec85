/- Own work: what a text that can be read spells, and back. -/
import Derived.Test.YtgodmfjcccakbaaDoorScanMath
namespace Go.Proofs.YtgodmfjcccakbaaDoor

theorem plusT_joinP : ∀ (xs : List ByteArray), (plusT xs).data.toList = joinP (xs.map fun x => x.data.toList)
  | [] => rfl
  | [x] => rfl
  | x :: y :: r => by
    rw [List.map_cons, joinP_cons _ (by simp), ← plusT_joinP (y :: r)]
    have h : ∀ (r : List ByteArray) (a b : ByteArray), (r.foldl (fun s t => s ++ ⟨#[43]⟩ ++ t) (a ++ b)).data.toList = a.data.toList ++ (r.foldl (fun s t => s ++ ⟨#[43]⟩ ++ t) b).data.toList := by
      intro r
      induction r with
      | nil => intro a b; simp [ByteArray.data_append]
      | cons z r ih =>
        intro a b
        rw [List.foldl_cons, List.foldl_cons, ByteArray.append_assoc, ByteArray.append_assoc, ih, ByteArray.append_assoc]
    rw [plusT, List.foldl_cons, h r (x ++ ⟨#[43]⟩) y]
    simp [ByteArray.data_append, plusT]

theorem okL_of {cs : List Nat} (h : ∀ c ∈ cs, c < 64) : okL (cs.map fun (c : Nat) => (c : Int)) = true := by
  rw [okL, List.all_eq_true]
  intro x hx
  obtain ⟨c, hc, rfl⟩ := List.mem_map.1 hx
  rw [okC_iff]
  have := h c hc
  omega
theorem ofE_of {cs : List Nat} (h : ∀ c ∈ cs, c < 64) : ofE (cs.map fun (c : Nat) => (c : Int)) = 0 := by rw [ofE, if_pos (okL_of h)]
theorem ofA_of {cs : List Nat} (h : ∀ c ∈ cs, c < 64) : ofA (cs.map fun (c : Nat) => (c : Int)) = bitsA cs := by rw [ofA, if_pos (okL_of h)]; rfl
theorem reads_text {s : ByteArray} {cs : List Nat} (h : Reads s cs) : plusT (cs.map digB) = s := by
  refine asB_inj ?_
  rw [plusT_joinP, List.map_map]
  have := joinP_parts s.data.toList
  rw [h.2] at this
  exact this
theorem parts_joinP : ∀ (ps : List (List UInt8)), ps ≠ [] → (∀ p ∈ ps, ∀ k : Nat, p[k]? ≠ some 43) → parts 43 (joinP ps) = ps
  | [], h, _ => absurd rfl h
  | [p], _, h => parts_last 43 p (h p (by simp))
  | p :: q :: r, _, h => by
    rw [joinP_cons _ (by simp), parts_run 43 p _ (h p (by simp)), parts_joinP (q :: r) (by simp) (fun x hx => h x (by simp [hx]))]
theorem bitsA_bit : ∀ (n : Nat) (cs : List Nat), cs.length = n → ∀ i, (bitsA cs).testBit i = decide (i ∈ cs) := by
  intro n
  induction n with
  | zero =>
    intro cs h i
    obtain rfl := List.eq_nil_of_length_eq_zero h
    simp [bitsA_nil]
  | succ n ih =>
    intro cs h i
    rcases List.eq_nil_or_concat cs with rfl | ⟨ds, d, rfl⟩
    · simp at h
    · rw [List.concat_eq_append] at h ⊢
      rw [bitsA_snoc, Nat.testBit_or, ih ds (by simpa using h), Nat.testBit_two_pow]
      simp [eq_comm]
theorem rise_same : ∀ (xs ys : List Nat), xs.Pairwise (· < ·) → ys.Pairwise (· < ·) → (∀ i, i ∈ xs ↔ i ∈ ys) → xs = ys
  | [], [], _, _, _ => rfl
  | [], y :: ys, _, _, h => by have := (h y).2 (by simp); simp at this
  | x :: xs, [], _, _, h => by have := (h x).1 (by simp); simp at this
  | x :: xs, y :: ys, hx, hy, h => by
    rw [List.pairwise_cons] at hx hy
    have e : x = y := by
      have h1 := (h x).1 (by simp)
      have h2 := (h y).2 (by simp)
      rw [List.mem_cons] at h1 h2
      rcases h1 with h1 | h1
      · exact h1
      · rcases h2 with h2 | h2
        · exact h2.symm
        · have a := hy.1 x h1
          have b := hx.1 y h2
          omega
    subst e
    rw [rise_same xs ys hx.2 hy.2 fun i => ?_]
    constructor
    · intro hi
      have h1 := (h i).1 (by simp [hi])
      have h2 := hx.1 i hi
      rw [List.mem_cons] at h1
      rcases h1 with h1 | h1
      · omega
      · exact h1
    · intro hi
      have h1 := (h i).2 (by simp [hi])
      have h2 := hy.1 i hi
      rw [List.mem_cons] at h1
      rcases h1 with h1 | h1
      · omega
      · exact h1
theorem listN_rise (a : Nat) : Rise (listN a) := ⟨List.Pairwise.filter _ List.pairwise_lt_range, fun _ hc => (listTo_mem.1 hc).1⟩
theorem listN_bits {cs : List Nat} (h : Rise cs) : listN (bitsA cs) = cs := by
  refine rise_same _ _ (listN_rise _).1 h.1 fun i => ?_
  rw [show (i ∈ listN (bitsA cs)) = (i ∈ listTo (bitsA cs) 64) from rfl, listTo_mem, bitsA_bit _ cs rfl, decide_eq_true_eq]
  exact ⟨fun h => h.2, fun hi => ⟨h.2 i hi, hi⟩⟩
theorem bits_listN {a : Nat} (ha : a < 18446744073709551616) : bitsA (listN a) = a := by
  refine Nat.eq_of_testBit_eq fun i => ?_
  rw [bitsA_bit _ _ rfl]
  by_cases hi : i < 64
  · rw [Bool.eq_iff_iff, decide_eq_true_eq]
    exact ⟨fun h => (listTo_mem.1 h).2, fun h => listTo_mem.2 ⟨hi, h⟩⟩
  · rw [Nat.testBit_lt_two_pow (Nat.lt_of_lt_of_le ha (Nat.pow_le_pow_right (n := 2) (by omega) (by omega : 64 ≤ i)))]
    exact decide_eq_false fun h => hi (listTo_mem.1 h).1
theorem bitsA_ne {cs : List Nat} (h : cs ≠ []) : bitsA cs ≠ 0 := by
  intro e
  rcases List.eq_nil_or_concat cs with rfl | ⟨ds, d, rfl⟩
  · exact h rfl
  · have := bitsA_bit _ (ds.concat d) rfl d
    rw [e] at this
    simp at this
theorem text_bits {s : ByteArray} {cs : List Nat} (h : Reads s cs) : textB (bitsA cs) = s := by
  rw [textB, if_neg (bitsA_ne (reads_ne h)), listN_bits h.1, reads_text h]
theorem dig_no43 {c : Nat} (hc : c < 64) (k : Nat) : (digB c).data.toList[k]? ≠ some 43 := by
  by_cases h : c < 10
  · rw [digB, dec_small h]
    intro e
    match k, e with
    | 0, e => exact ofNat_ne43 (48 + c) (by omega) (by omega) (Option.some.inj e)
    | k + 1, e => simp at e
  · rw [digB, dec_two (by omega) (by omega)]
    intro e
    match k, e with
    | 0, e => exact ofNat_ne43 (48 + c / 10) (by omega) (by omega) (Option.some.inj e)
    | 1, e => exact ofNat_ne43 (48 + c % 10) (by omega) (by omega) (Option.some.inj e)
    | k + 2, e => simp at e
theorem text_reads {s : ByteArray} {a : Nat} (h0 : a ≠ 0) (ha : a < 18446744073709551616) (h : textB a = s) : Reads s (listN a) := by
  refine ⟨listN_rise a, ?_⟩
  subst h
  rw [textB, if_neg h0, plusT_joinP, List.map_map]
  refine parts_joinP _ ?_ ?_
  · intro e
    have e2 : listN a = [] := by simpa using e
    have := bits_listN ha
    rw [e2, bitsA_nil] at this
    exact h0 this.symm
  · intro p hp k
    obtain ⟨c, hc, rfl⟩ := List.mem_map.1 hp
    exact dig_no43 ((listN_rise a).2 c hc) k
theorem reads_size {s : ByteArray} {cs : List Nat} (h : Reads s cs) : s.size ≤ 200 := by
  have h1 := plusT_len (cs.map digB) (fun x hx => by
    obtain ⟨c, hc, rfl⟩ := List.mem_map.1 hx
    exact (digB_len (by have := h.1.2 c hc; omega)).2)
  rw [reads_text h, List.length_map] at h1
  have h2 : cs.length ≤ 64 := by rw [← listN_bits h.1]; exact countN_le _
  omega
end Go.Proofs.YtgodmfjcccakbaaDoor
