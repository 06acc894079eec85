/- Own work: slices.Clone at lines, view's Alike and Put. -/
import Derived.Test.YtgchcgllpceghaaSeeRefs
import Derived.Test.YtgchcgllpceghaaSeePutMath
import Derived.Test.YtgchcgllpceghaaSeeMath
import Derived.Test.YtgchcgllpceghaaSeeAwake
import Derived.Test.YtgchcgllpceghaaGrown
namespace Go.Proofs.Ytgchcgllpceghaa
open Go.RowKit

set_option maxHeartbeats 1000000 in
theorem cloneL_any (u : Value) (l : List LineV) (w : World) (hu : Lns w u l) (hf : SliceForm u) (hlen : l.length * 40 ≤ 140737488355328) :
    Calls Try.prog 46 #[u] w fun e w' => ∃ v', e = .returned v' ∧ OwnL w' w.heap.size v' l ∧ Below w.heap.size w w' := by
  have q22 : ∀ (w : World) (a : Option Addr) (n c n' c' : Nat), (binOp .eql 22 (.slice a n c) (.slice none n' c')).run Try.prog w = .ok (.bool a.isNone) w := fun w a n c n' c' => Lib.run_eql_slice_nil w _ _ a n c n' c' Try.underlying22
  rcases hf with rfl | ⟨ad, m, cap, rfl⟩
  · have hl : l = [] := by
      rcases hu with ⟨_, _, _, h2⟩ | ⟨_, _, _, h1, _⟩
      · exact h2
      · cases h1
    subst hl
    go_enter Try.func46, Try.ntmps46
    go_wp2
    go_ret
    exact ⟨_, rfl, ⟨rfl, .inl ⟨rfl, rfl⟩⟩, Below.refl _ _⟩
  · have Hv := Lib.hid hu
    have hal : Below w.heap.size w (w.alloc (.cells #[] 26)) := (Below.refl _ _).alloc (Nat.le_refl _) _
    clear hu
    go_enter Try.func46, Try.ntmps46
    go_wp2_with (at_builtin; first
      | (refine wpList_append_lines rfl _ _ rfl w.heap.size _ 0 [] rfl (own_empty4 (heap_alloc_new w _) (Nat.le_refl _)) _ l rfl (Hv.out.kept hal) (.inr ⟨_, _, _, rfl⟩) (by omega) (by simp) ?_
         intro v1 w1 hown1 hg1
         have B1 := Lib.hid (hal.grown hg1 (by simp) (fun q hq => by cases hq; exact Nat.le_refl _))
         have Hown1 := Lib.hid hown1
         clear hown1 hg1))
    go_ret
    exact ⟨_, rfl, by have h := Hown1.out; rw [Nat.zero_add, List.nil_append] at h; exact h, B1.out⟩

set_option maxHeartbeats 2000000 in
theorem alike_any (u v : Value) (l m : List LineV) (c : Nat) (w : World) (hu : Lns w u l) (hv : Lns w v m) (hf : ∀ x ∈ l, x.fine) (hg : ∀ x ∈ m, x.fine) (hc : c < 18446744073709551616) (hl : l.length * 40 ≤ 140737488355328) (hm : m.length * 40 ≤ 140737488355328) :
    Calls Try.prog 31 #[u, v, .int .u64 c] w fun e w' => e = .returned (.bool (decide (l.filter (LineV.seen c) = m.filter (LineV.seen c)))) ∧ Below w.heap.size w w' := by
  have Hv := Lib.hid hv
  have Hu := Lib.hid hu
  have Hf := Lib.hid hf
  have Hg := Lib.hid hg
  have Hl := Lib.hid hl
  have Hm := Lib.hid hm
  clear hu hv hf hg hl hm
  go_enter Try.func31, Try.ntmps31
  go_wp2_with fail
  refine (of_any u l c _ Hu.out Hf.out hc Hl.out).mono ?_
  rintro e w1 ⟨a, rfl, ha, hb1⟩
  have Hv1 := Lib.hid (Hv.out.kept hb1)
  have B1 := Lib.hid hb1
  have HA := Lib.hid ha.lns
  clear hb1 ha
  go_wp2_with fail
  refine (of_any v m c _ Hv1.out Hg.out hc Hm.out).mono ?_
  rintro e w2 ⟨b, rfl, hb, hb2⟩
  have HA2 := Lib.hid (HA.out.kept hb2)
  have B2 := Lib.hid (below_join B1.out hb2)
  have HBB := Lib.hid hb.lns
  clear hb2 hb
  go_wp2_with fail
  refine (linesEqual_any _ _ _ _ _ HA2.out HBB.out).mono ?_
  rintro e w3 ⟨rfl, hb3⟩
  have B3 := Lib.hid (below_join B2.out hb3)
  clear hb3
  go_wp2_with fail
  go_ret
  exact ⟨rfl, B3.out⟩
end Go.Proofs.Ytgchcgllpceghaa
