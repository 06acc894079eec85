import Derived.Test.YtajjikbigacbaaaGreatDoorNumD
import Derived.Lib.LaidTab
import Derived.Lib.ItoaNum
namespace Go.Proofs.YtajjikbigacbaaaGreatDoor
open Go.RowKit Num

theorem below_grow {w w' : World} (h : ∃ k os, w' = Sort.grow (w.drewN k) os) : Below w.heap.size w w' := by
  obtain ⟨k, os, rfl⟩ := h
  refine ⟨rfl, rfl, rfl, ?_, fun i hi => ?_⟩
  · show w.heap.size ≤ (w.heap ++ os).size
    simp
  · show (w.heap ++ os)[i]? = w.heap[i]?
    rw [Array.getElem?_append_left hi]

theorem run_oneByte (w : World) (u : Nat) : (convert 66 9 (.slice (some ⟨w.heap.size, 0, none⟩) 1 1)).run Tryz.prog (w.alloc (.cells #[.int .u8 (48 + (u : Int) % 10)] 5)) =
    .ok (.string ⟨#[UInt8.ofNat (48 + u % 10)]⟩) (w.alloc (.cells #[.int .u8 (48 + (u : Int) % 10)] 5)) := by
  rw [run_convert_bytes_string _ 66 9 5 _ _ _ Tryz.underlying66 Tryz.underlying5 Tryz.underlying9]
  rw [run_bytesToString _ _ 1 1 [48 + (u : Int) % 10]]
  · have e : (48 + (u : Int) % 10).toNat = 48 + u % 10 := by omega
    simp only [List.foldl_cons, List.foldl_nil, e]
    rfl
  · simp [go_sem]

def Pow (w : World) : Prop := Lib.TabIs Tryz.prog w "internal/strconv.uint64pow10" .u64 Lib.pow10Tab
theorem Pow.kept {w w' : World} (h : Pow w) (hb : Below w.heap.size w w') : Pow w' := by
  unfold Pow Lib.TabIs World.var? at *
  cases hg : Tryz.prog.globalNamed "internal/strconv.uint64pow10" with
  | none => simp [hg] at h
  | some g =>
    simp only [hg, Option.bind_some] at h ⊢
    have hlt : g < w.heap.size := by
      by_cases hc : g < w.heap.size
      · exact hc
      · rw [Array.getElem?_eq_none (by omega)] at h
        simp at h
    rw [hb.block g hlt]
    exact h
theorem number_any (n : Int) (h0 : -9223372036854775808 ≤ n) (h1 : n ≤ 9223372036854775807) (w : World) (hT : Pow w) :
    Calls Tryz.prog 82 #[.int .i64 n] w fun e w' => e = .returned (.string ⟨(Lib.itoa n).toArray⟩) ∧ Below w.heap.size w w' := by
  have HT := Lib.hid hT
  clear hT
  go_enter Tryz.func82, Tryz.ntmps82
  go_wp2_with fail
  refine (Tryz.strconv_Itoa n h0 h1 _ HT.out).mono ?_
  rintro e w' ⟨rfl, hg⟩
  have hb := below_grow hg
  clear hg
  go_wp2_with fail
  go_ret
  exact ⟨rfl, hb⟩

theorem one_append (c : UInt8) (r : ByteArray) : ((⟨#[c]⟩ : ByteArray) ++ r).data.toList = c :: r.data.toList := by
  simp [ByteArray.data_append]
theorem one_append_eq (c : UInt8) (r : ByteArray) : (⟨#[c]⟩ : ByteArray) ++ r = ⟨(c :: r.data.toList).toArray⟩ := by
  apply ByteArray.ext
  apply Array.ext'
  rw [one_append]
/-- the digits of a, as far as they stand: u is still to be written, ahead of r -/
def Digs (a u : Nat) (r : ByteArray) : Prop := (0 < u → Lib.decDigits a = Lib.decDigits u ++ r.data.toList) ∧ (u = 0 → r.data.toList = Lib.decDigits a) ∧ u * 10 ^ r.size ≤ a
theorem digs_start {a : Nat} (h : 0 < a) : Digs a a ⟨#[]⟩ := ⟨fun _ => by simp, fun e => by omega, by simp [ByteArray.size]⟩
theorem digs_end {a : Nat} {r : ByteArray} (h : Digs a 0 r) : r.data.toList = Lib.decDigits a := h.2.1 rfl
theorem digs_next {a u : Nat} {r r' : ByteArray} (h : Digs a u r) (hu : 0 < u) (hr : r'.data.toList = UInt8.ofNat (48 + u % 10) :: r.data.toList) : Digs a (u / 10) r' := by
  have h1 := h.1 hu
  refine ⟨fun hq => ?_, fun hq => ?_, ?_⟩
  · rw [h1, decDigits_ten (by omega), hr]
    simp
  · rw [hr, h1, Lib.decDigits, dif_pos (by omega)]
    have : u % 10 = u := Nat.mod_eq_of_lt (by omega)
    rw [this]
    rfl
  · have hl : r'.size = r.size + 1 := by
      have e1 : r'.data.toList.length = r'.size := by simp
      have e2 : r.data.toList.length = r.size := by simp
      rw [hr] at e1
      simp at e1
      omega
    rw [hl, Nat.pow_succ, ← Nat.mul_assoc, Nat.mul_right_comm]
    refine Nat.le_trans (Nat.mul_le_mul_right _ ?_) h.2.2
    omega
theorem digits_size {a u : Nat} {r : ByteArray} (h : Digs a u r) (hu : 0 < u) (ha : a < 18446744073709551616) : r.size ≤ 19 := by
  have h2 := h.2.2
  by_cases hs : r.size ≤ 19
  · exact hs
  · have h3 : 10 ^ 20 ≤ 10 ^ r.size := Nat.pow_le_pow_right (by omega) (by omega)
    have h4 : 1 * 10 ^ r.size ≤ u * 10 ^ r.size := Nat.mul_le_mul_right _ hu
    have h5 : (10 : Nat) ^ 20 = 100000000000000000000 := by decide
    omega

theorem nDig (k a : Nat) : a < 10 ^ (k + 1) → (Lib.decDigits a).length ≤ k + 1 := by
  induction k generalizing a with
  | zero => intro h; rw [Lib.decDigits, dif_pos (by omega)]; simp
  | succ k ih =>
    intro h
    rw [Lib.decDigits]
    split
    · simp
    · have := ih (a / 10) (by rw [Nat.pow_succ] at h; omega)
      simp
      omega
theorem digs_last {a : Nat} {r : ByteArray} (h : Digs a 0 r) (ha : a < 18446744073709551616) : r.size ≤ 20 := by
  have h1 := digs_end h
  have h2 := nDig 19 a (Nat.lt_of_lt_of_le ha (by decide))
  rw [← h1] at h2
  simpa using h2

set_option maxRecDepth 100000 in
set_option maxHeartbeats 4000000 in
theorem refNumber_any (n : Int) (h0 : -9223372036854775808 ≤ n) (h1 : n ≤ 9223372036854775807) (w : World) :
    Calls Tryz.prog 126 #[.int .i64 n] w fun e w' => e = .returned (.string ⟨(Lib.itoa n).toArray⟩) ∧ Below w.heap.size w w' := by
  by_cases hz : n = 0
  · subst hz
    go_enter Tryz.func126, Tryz.ntmps126
    go_wp2
    go_ret
    exact ⟨by show Ending.returned (Value.string ⟨#[48]⟩) = _; rw [show Lib.itoa 0 = [48] by (rw [Lib.itoa, if_neg (by decide), Lib.decDigits]; rfl)], Below.refl _ _⟩
  · have e0 : (n == 0) = false := by simp [hz]
    by_cases hneg : n < 0
    · go_enter Tryz.func126, Tryz.ntmps126
      go_wp2
      go_loopw [3, 4] (fun s m wr => ∃ (u : Nat) (r : ByteArray), s = .string r ∧ m = .int .u64 (u : Int) ∧ u < 18446744073709551616 ∧ Digs n.natAbs u r ∧ Below w.heap.size w wr) (fun _ m _ => (intOf m).toNat)
      case atStart => exact ⟨n.natAbs, ⟨#[]⟩, rfl, (by show Value.int _ _ = _; congr 1; omega), by omega, digs_start (by omega), Below.refl _ _⟩
      case round =>
        obtain ⟨u, r, rfl, rfl, hu, hdg, hb⟩ := hrel
        by_cases hu0 : 0 < u
        · have hw8 : IntKind.u8.wrap (48 + (u : Int) % 10) = 48 + (u : Int) % 10 := by simp [IntKind.wrap, IntKind.bits, IntKind.signed]; omega
          have hcv := run_oneByte wr u
          have hsz := digits_size hdg hu0 (by omega)
          go_wp2
          go_roundw
          case rel => exact ⟨u / 10, _, rfl, by go_num, by omega, digs_next hdg hu0 (by rw [one_append, UInt8.ofNat_add]; rfl), (hb.alloc hb.size _)⟩
          case measure => simp [intOf]; omega
        · obtain rfl : u = 0 := by omega
          have hr := digs_end hdg
          have HI := Lib.hid (show Lib.itoa n = 45 :: r.data.toList by rw [hr, Lib.itoa, if_pos hneg])
          have hrl : r.size ≤ 20 := digs_last hdg (by omega)
          go_wp2
          go_ret
          exact ⟨retStr (by rw [HI.out]; exact one_append_eq _ _), hb⟩
    · go_enter Tryz.func126, Tryz.ntmps126
      go_wp2
      go_loopw [3, 4] (fun s m wr => ∃ (u : Nat) (r : ByteArray), s = .string r ∧ m = .int .u64 (u : Int) ∧ u < 18446744073709551616 ∧ Digs n.natAbs u r ∧ Below w.heap.size w wr) (fun _ m _ => (intOf m).toNat)
      case atStart => exact ⟨n.natAbs, ⟨#[]⟩, rfl, (by show Value.int _ _ = _; congr 1; omega), by omega, digs_start (by omega), Below.refl _ _⟩
      case round =>
        obtain ⟨u, r, rfl, rfl, hu, hdg, hb⟩ := hrel
        by_cases hu0 : 0 < u
        · have hw8 : IntKind.u8.wrap (48 + (u : Int) % 10) = 48 + (u : Int) % 10 := by simp [IntKind.wrap, IntKind.bits, IntKind.signed]; omega
          have hcv := run_oneByte wr u
          have hsz := digits_size hdg hu0 (by omega)
          go_wp2
          go_roundw
          case rel => exact ⟨u / 10, _, rfl, by go_num, by omega, digs_next hdg hu0 (by rw [one_append, UInt8.ofNat_add]; rfl), (hb.alloc hb.size _)⟩
          case measure => simp [intOf]; omega
        · obtain rfl : u = 0 := by omega
          have hr := digs_end hdg
          have HI := Lib.hid (show Lib.itoa n = r.data.toList by rw [hr, Lib.itoa, if_neg (by omega), show n.natAbs = n.toNat by omega])
          go_wp2
          go_ret
          exact ⟨retStr (by rw [HI.out]), hb⟩

set_option maxHeartbeats 1000000 in
theorem refRead_any (s : ByteArray) (w : World) (hs : s.size ≤ maxLen) :
    Calls Tryz.prog 96 #[.string s] w fun e w' => e = .returned (.tuple #[.int .i64 (readN s.data.toList), .int .i64 (readE s.data.toList)]) ∧ Below w.heap.size w w' := by
  rcases takeE_cases s.data.toList with he | he
  · have He := Lib.hid he
    clear he
    cases hr : takeR s.data.toList with
    | nil =>
      have Hr := Lib.hid hr
      clear hr
      go_enter Tryz.func96, Tryz.ntmps96
      go_wp2_with fail
      refine (refTake_any _ _ hs).mono ?_
      rintro e w' ⟨rfl, hb⟩
      rw [He.out, Hr.out]
      go_wp2_with fail
      go_ret2
      exact ⟨read_some He.out Hr.out, hb⟩
    | cons x r =>
      have Hr := Lib.hid hr
      clear hr
      go_enter Tryz.func96, Tryz.ntmps96
      go_wp2_with fail
      refine (refTake_any _ _ hs).mono ?_
      rintro e w' ⟨rfl, hb⟩
      rw [He.out, Hr.out]
      have hne : (⟨(x :: r).toArray⟩ : ByteArray).toList.isEmpty = false := by rw [Lib.toList_data]; rfl
      go_wp2_with fail
      go_ret2
      exact ⟨read_none (.inr (by rw [Hr.out]; exact List.cons_ne_nil _ _)), hb⟩
  · have He := Lib.hid he
    clear he
    go_enter Tryz.func96, Tryz.ntmps96
    go_wp2_with fail
    refine (refTake_any _ _ hs).mono ?_
    rintro e w' ⟨rfl, hb⟩
    rw [He.out]
    go_wp2_with fail
    go_ret2
    exact ⟨read_none (.inl He.out), hb⟩
end Go.Proofs.YtajjikbigacbaaaGreatDoor
