import Derived.Test.YtlmdcflnifmjjaaLabA
namespace Go.Proofs.Ytlmdcflnifmjjaa
open Go.RowKit

/-- what Between leaves: an error, or the closure over its two ends and what is free between them -/
def BetweenPost (w : World) (a b : Nat) (e : Ending) (w' : World) : Prop :=
  Below w.heap.size w w' ∧ ((16 < countN (lessN b a) ∧ e = .returned (.tuple #[.nilFunc, .int .i64 1])) ∨
    (countN (lessN b a) ≤ 16 ∧ ∃ g : Nat, w.heap.size ≤ g ∧ e = .returned (.tuple #[.func (.func 22) #[] #[.pointer (some ⟨g, 0, none⟩), .pointer (some ⟨g + 1, 0, none⟩), .pointer (some ⟨g + 2, 0, none⟩)], .int .i64 0]) ∧
      w'.heap[g]? = some (.cells #[.int .u64 a] 25 (0, 0)) ∧ w'.heap[g + 1]? = some (.cells #[.int .u64 b] 25 (0, 0)) ∧ w'.heap[g + 2]? = some (.cells #[.int .u64 (lessN b a : Nat)] 25 (0, 0))))

set_option maxHeartbeats 2000000 in
set_option maxRecDepth 100000 in
theorem between_any (a b : Nat) (w : World) (ha : a < 18446744073709551616) (hb : b < 18446744073709551616) :
    Calls Try.prog 11 #[.int .u64 a, .int .u64 b] w (BetweenPost w a b) := by
  have hl := lessN_lt b a hb
  have hle := countN_le (lessN b a)
  by_cases h16 : 16 < countN (lessN b a)
  · have H16 := Lib.hid h16
    obtain ⟨l, hl1⟩ : ∃ l, lessN b a = l := ⟨_, rfl⟩
    have Hl := Lib.hid hl1
    rw [hl1] at hl hle h16
    clear hl1
    go_enter Try.func11, Try.ntmps11
    go_wp2_with fail
    refine (less_any b a _ hb ha).mono ?_
    rintro e w' ⟨rfl, rfl⟩
    rw [Hl.out]
    go_wp2_with fail
    refine (count_any l _ hl).mono ?_
    rintro e w' ⟨rfl, rfl⟩
    go_wp2_with fail
    go_ret2
    exact ⟨(((Below.refl _ _).alloc (Nat.le_refl _) _).alloc (by simp) _).alloc (by simp; omega) _, .inl ⟨H16.out, rfl⟩⟩
  · have H16 := Lib.hid (Nat.le_of_not_lt h16)
    obtain ⟨l, hl1⟩ : ∃ l, lessN b a = l := ⟨_, rfl⟩
    have Hl := Lib.hid hl1
    rw [hl1] at hl hle h16
    have h17 : (countN l : Int) ≤ 16 := by omega
    clear hl1 h16
    go_enter Try.func11, Try.ntmps11
    go_wp2_with fail
    refine (less_any b a _ hb ha).mono ?_
    rintro e w' ⟨rfl, rfl⟩
    rw [Hl.out]
    go_wp2_with fail
    refine (count_any l _ hl).mono ?_
    rintro e w' ⟨rfl, rfl⟩
    go_wp2_with fail
    go_ret2
    refine ⟨(((Below.refl _ _).alloc (Nat.le_refl _) _).alloc (by simp) _).alloc (by simp; omega) _, .inr ⟨H16.out, w.heap.size, Nat.le_refl _, rfl, ?_, ?_, ?_⟩⟩
    · rw [heap_alloc_old _ _ (by simp; omega), heap_alloc_old _ _ (by simp)]; exact heap_alloc_new w _
    · rw [heap_alloc_old _ _ (by simp)]; exact heap_alloc2_new w _ _
    · rw [Hl.out]
      have := heap_alloc_new ((w.alloc (.cells #[.int .u64 (a : Int)] 25)).alloc (.cells #[.int .u64 (b : Int)] 25)) (.cells #[.int .u64 (l : Int)] 25)
      rw [World.size_alloc, World.size_alloc] at this
      exact this
/-- three new blocks of one cell each -/
theorem three_cells (w : World) (u v x : Value) (t1 t2 t3 : TypeId) : (((w.alloc (.cells #[u] t1)).alloc (.cells #[v] t2)).alloc (.cells #[x] t3)).heap.size = w.heap.size + 3 ∧
    Below w.heap.size w (((w.alloc (.cells #[u] t1)).alloc (.cells #[v] t2)).alloc (.cells #[x] t3)) ∧
    (((w.alloc (.cells #[u] t1)).alloc (.cells #[v] t2)).alloc (.cells #[x] t3)).heap[w.heap.size]? = some (.cells #[u] t1 (0, 0)) ∧
    (((w.alloc (.cells #[u] t1)).alloc (.cells #[v] t2)).alloc (.cells #[x] t3)).heap[w.heap.size + 1]? = some (.cells #[v] t2 (0, 0)) ∧
    (((w.alloc (.cells #[u] t1)).alloc (.cells #[v] t2)).alloc (.cells #[x] t3)).heap[w.heap.size + 2]? = some (.cells #[x] t3 (0, 0)) := by
  refine ⟨by simp, (((Below.refl _ _).alloc (Nat.le_refl _) _).alloc (by simp) _).alloc (by simp; omega) _, ?_, ?_, ?_⟩
  · rw [heap_alloc_old _ _ (by simp; omega), heap_alloc_old _ _ (by simp)]; exact heap_alloc_new w _
  · rw [heap_alloc_old _ _ (by simp)]; exact heap_alloc2_new w _ _
  · have := heap_alloc_new ((w.alloc (.cells #[u] t1)).alloc (.cells #[v] t2)) (.cells #[x] t3)
    rw [World.size_alloc, World.size_alloc] at this
    exact this
/-- two new blocks of one cell each -/
theorem two_cells (w : World) (u v : Value) (t1 t2 : TypeId) : ((w.alloc (.cells #[u] t1)).alloc (.cells #[v] t2)).heap.size = w.heap.size + 2 ∧
    Below w.heap.size w ((w.alloc (.cells #[u] t1)).alloc (.cells #[v] t2)) ∧
    ((w.alloc (.cells #[u] t1)).alloc (.cells #[v] t2)).heap[w.heap.size]? = some (.cells #[u] t1 (0, 0)) ∧
    ((w.alloc (.cells #[u] t1)).alloc (.cells #[v] t2)).heap[w.heap.size + 1]? = some (.cells #[v] t2 (0, 0)) := by
  refine ⟨by simp, ((Below.refl _ _).alloc (Nat.le_refl _) _).alloc (by simp) _, ?_, ?_⟩
  · rw [heap_alloc_old _ _ (by simp)]; exact heap_alloc_new w _
  · exact heap_alloc2_new w _ _
end Go.Proofs.Ytlmdcflnifmjjaa
