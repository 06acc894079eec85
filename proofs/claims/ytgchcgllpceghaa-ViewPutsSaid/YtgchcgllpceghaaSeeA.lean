/- Own work: view's Seen and Own, the closures that ask of a line, and the iterators as they are made. -/
import Derived.Test.YtgchcgllpceghaaLabA
import Derived.Test.YtgchcgllpceghaaLnv
namespace Go.Proofs.Ytgchcgllpceghaa
open Go.RowKit

/-- the label is one -/
def LineV.fine (x : LineV) : Prop := 0 ≤ x.lab ∧ x.lab < 18446744073709551616
def LineV.seen (c : Nat) (x : LineV) : Bool := belowN x.lab.toNat c

theorem cell_row (w : World) (b : Nat) (i : Nat) (row : Array Value) (t : TypeId) (v : Value) (h : w.heap[b]? = some (.cells row t (0, 0))) (hv : row[i]? = some v) : w.cell? ⟨b, i, none⟩ = some v := by
  simp [World.cell?, h, hv]

set_option maxHeartbeats 1000000 in
theorem seen_any (c : Nat) (x1 x2 x3 : Int) (x4 : ByteArray) (w : World) (hc : c < 18446744073709551616) (h0 : 0 ≤ x1) (h1 : x1 < 18446744073709551616) :
    Calls Try.prog 22 #[.int .u64 c, .agg #[.int .u64 x1, .int .i64 x2, .int .i64 x3, .string x4]] w fun e w' => e = .returned (.bool (belowN x1.toNat c)) ∧ Below w.heap.size w w' := by
  obtain ⟨a, rfl⟩ : ∃ a : Nat, x1 = a := ⟨x1.toNat, by omega⟩
  have ha : a < 18446744073709551616 := by omega
  have Ht : Hid ((a : Int).toNat = a) := Int.toNat_natCast a
  go_enter Try.func22, Try.ntmps22
  go_wp2_with fail
  refine (below_any a c _ ha hc).mono ?_
  rintro e w' ⟨rfl, rfl⟩
  go_wp2_with fail
  go_ret
  rw [Ht.out]
  exact ⟨rfl, (Below.refl _ _).alloc (Nat.le_refl _) _⟩

set_option maxHeartbeats 1000000 in
theorem seen1_any (c : Nat) (A : Nat) (x1 x2 x3 : Int) (x4 : ByteArray) (w : World) (hc : c < 18446744073709551616) (h0 : 0 ≤ x1) (h1 : x1 < 18446744073709551616) (hA : w.cell? ⟨A, 0, none⟩ = some (.int .u64 c)) :
    Calls Try.prog 54 #[.agg #[.int .u64 x1, .int .i64 x2, .int .i64 x3, .string x4], .pointer (some ⟨A, 0, none⟩)] w fun e w' => e = .returned (.bool (belowN x1.toNat c)) ∧ Below w.heap.size w w' := by
  have hb0 := (Below.refl w.heap.size w).alloc (Nat.le_refl _) (.cells #[.int .u64 x1, .int .i64 x2, .int .i64 x3, .string x4] 26)
  have B0 := Lib.hid hb0
  have hA1 := cell_kept hb0 hA
  clear hb0 hA
  go_enter Try.func54, Try.ntmps54
  go_wp2_with fail
  refine (seen_any c x1 x2 x3 x4 _ hc h0 h1).mono ?_
  rintro e w' ⟨rfl, hb⟩
  have B1 := Lib.hid (below_join B0.out hb)
  clear hb
  go_wp2_with fail
  go_ret
  exact ⟨rfl, B1.out⟩

set_option maxHeartbeats 1000000 in
theorem hid1_any (c : Nat) (A : Nat) (x1 x2 x3 : Int) (x4 : ByteArray) (w : World) (hc : c < 18446744073709551616) (h0 : 0 ≤ x1) (h1 : x1 < 18446744073709551616) (hA : w.cell? ⟨A, 0, none⟩ = some (.int .u64 c)) :
    Calls Try.prog 39 #[.agg #[.int .u64 x1, .int .i64 x2, .int .i64 x3, .string x4], .pointer (some ⟨A, 0, none⟩)] w fun e w' => e = .returned (.bool (!belowN x1.toNat c)) ∧ Below w.heap.size w w' := by
  have hb0 := (Below.refl w.heap.size w).alloc (Nat.le_refl _) (.cells #[.int .u64 x1, .int .i64 x2, .int .i64 x3, .string x4] 26)
  have B0 := Lib.hid hb0
  have hA1 := cell_kept hb0 hA
  clear hb0 hA
  go_enter Try.func39, Try.ntmps39
  go_wp2_with fail
  refine (seen_any c x1 x2 x3 x4 _ hc h0 h1).mono ?_
  rintro e w' ⟨rfl, hb⟩
  have B1 := Lib.hid (below_join B0.out hb)
  clear hb
  go_wp2_with fail
  go_ret
  exact ⟨rfl, B1.out⟩

set_option maxHeartbeats 1000000 in
theorem itself_any (i : Int) (x1 x2 x3 : Int) (x4 : ByteArray) (w : World) :
    Calls Try.prog 37 #[.int .i64 i, .agg #[.int .u64 x1, .int .i64 x2, .int .i64 x3, .string x4]] w fun e w' => e = .returned (.agg #[.int .u64 x1, .int .i64 x2, .int .i64 x3, .string x4]) ∧ Below w.heap.size w w' := by
  go_enter Try.func37, Try.ntmps37
  go_wp2
  refine bodyPost_ret (v := .agg #[.int .u64 x1, .int .i64 x2, .int .i64 x3, .string x4]) (results_cell_row (by rfl) _ _ (w.heap.size + 1) 26 _ (0, 0) _ rfl ?_ Try.underlying26 rfl (by kernel_rfl)) rfl ⟨rfl, ((Below.refl _ _).alloc (Nat.le_refl _) _).alloc (by simp) _⟩
  have := heap_alloc_new (w.alloc (.cells #[.int .u64 x1, .int .i64 x2, .int .i64 x3, .string x4] 26)) (.cells #[.int .u64 x1, .int .i64 x2, .int .i64 x3, .string x4] 26)
  rw [World.size_alloc] at this
  exact this

set_option maxHeartbeats 1000000 in
theorem places1_any (i : Int) (x1 x2 x3 : Int) (x4 : ByteArray) (w : World) :
    Calls Try.prog 41 #[.int .i64 i, .agg #[.int .u64 x1, .int .i64 x2, .int .i64 x3, .string x4]] w fun e w' => e = .returned (.int .i64 i) ∧ Below w.heap.size w w' := by
  go_enter Try.func41, Try.ntmps41
  go_wp2
  go_ret
  exact ⟨rfl, (Below.refl _ _).alloc (Nat.le_refl _) _⟩
set_option maxHeartbeats 1000000 in
theorem texts1_any (i : Int) (x1 x2 x3 : Int) (x4 : ByteArray) (w : World) :
    Calls Try.prog 44 #[.int .i64 i, .agg #[.int .u64 x1, .int .i64 x2, .int .i64 x3, .string x4]] w fun e w' => e = .returned (.string x4) ∧ Below w.heap.size w w' := by
  go_enter Try.func44, Try.ntmps44
  go_wp2
  go_ret
  exact ⟨rfl, (Below.refl _ _).alloc (Nat.le_refl _) _⟩
set_option maxHeartbeats 1000000 in
theorem labels1_any (i : Int) (x1 x2 x3 : Int) (x4 : ByteArray) (w : World) :
    Calls Try.prog 48 #[.int .i64 i, .agg #[.int .u64 x1, .int .i64 x2, .int .i64 x3, .string x4]] w fun e w' => e = .returned (.int .u64 x1) ∧ Below w.heap.size w w' := by
  go_enter Try.func48, Try.ntmps48
  go_wp2
  go_ret
  exact ⟨rfl, (Below.refl _ _).alloc (Nat.le_refl _) _⟩

set_option maxHeartbeats 1000000 in
/-- where: the iterator, with its two boxes -/
theorem where_any (ao : Option Addr) (n cap : Nat) (F : Nat) (p : Value) (w : World) :
    Calls Try.prog 38 #[.slice ao n cap, .func (.func F) #[] #[p]] w fun e w' =>
      e = .returned (.func (.func 55) #[] #[.pointer (some ⟨w.heap.size, 0, none⟩), .pointer (some ⟨w.heap.size + 1, 0, none⟩)]) ∧ Below w.heap.size w w' ∧
      w'.heap[w.heap.size]? = some (.cells #[.slice ao n cap] 22 (0, 0)) ∧ w'.heap[w.heap.size + 1]? = some (.cells #[.func (.func F) #[] #[p]] 59 (0, 0)) := by
  obtain ⟨_, hb, h1, h2⟩ := two_cells w (.slice ao n cap) (.func (.func F) #[] #[p]) 22 59
  have HB := Lib.hid hb
  have H1 := Lib.hid h1
  have H2 := Lib.hid h2
  clear hb h1 h2
  go_enter Try.func38, Try.ntmps38
  go_wp2
  go_ret
  exact ⟨rfl, HB.out, H1.out, H2.out⟩
set_option maxHeartbeats 1000000 in
theorem all_any (ao : Option Addr) (n cap : Nat) (w : World) :
    Calls Try.prog 43 #[.slice ao n cap] w fun e w' =>
      e = .returned (.func (.func 56) #[] #[.pointer (some ⟨w.heap.size, 0, none⟩)]) ∧ Below w.heap.size w w' ∧
      w'.heap[w.heap.size]? = some (.cells #[.slice ao n cap] 22 (0, 0)) := by
  have hb := (Below.refl w.heap.size w).alloc (Nat.le_refl _) (.cells #[.slice ao n cap] 22)
  have h1 := heap_alloc_new w (.cells #[.slice ao n cap] 22)
  have HB := Lib.hid hb
  have H1 := Lib.hid h1
  clear hb h1
  go_enter Try.func43, Try.ntmps43
  go_wp2
  go_ret
  exact ⟨rfl, HB.out, H1.out⟩
set_option maxHeartbeats 1000000 in
/-- seen: the iterator, with its three boxes -/
theorem seenSeq_any (c : Nat) (ao : Option Addr) (n cap : Nat) (w : World) :
    Calls Try.prog 36 #[.slice ao n cap, .int .u64 c] w fun e w' => ∃ g h,
      e = .returned (.func (.func 55) #[] #[.pointer (some ⟨g, 0, none⟩), .pointer (some ⟨g + 1, 0, none⟩)]) ∧ Below w.heap.size w w' ∧
      w'.heap[g]? = some (.cells #[.slice ao n cap] 22 (0, 0)) ∧ w'.heap[g + 1]? = some (.cells #[.func (.func 54) #[] #[.pointer (some ⟨h, 0, none⟩)]] 59 (0, 0)) ∧
      w'.heap[h]? = some (.cells #[.int .u64 c] 24 (0, 0)) := by
  have hb := (Below.refl w.heap.size w).alloc (Nat.le_refl _) (.cells #[.int .u64 c] 24)
  have h1 := heap_alloc_new w (.cells #[.int .u64 c] 24)
  have HB := Lib.hid hb
  have H1 := Lib.hid h1
  clear hb h1
  go_enter Try.func36, Try.ntmps36
  go_wp2_with fail
  refine (where_any ao n cap _ _ _).mono ?_
  rintro e w' ⟨rfl, hb, h2, h3⟩
  have HB2 := Lib.hid (below_join HB.out hb)
  have H12 := Lib.hid (row_kept hb H1.out)
  simp only [World.size_alloc] at h2 h3
  have H2 := Lib.hid h2
  have H3 := Lib.hid h3
  clear hb h2 h3
  go_wp2_with fail
  go_ret
  exact ⟨w.heap.size + 1, w.heap.size, rfl, HB2.out, H2.out, H3.out, H12.out⟩
end Go.Proofs.Ytgchcgllpceghaa
