/- Own work: view's answers, and scrimref06's. -/
import Derived.Test.YtgchcgllpceghaaSeeTold
import Derived.Test.YtgchcgllpceghaaSeeRef
import Derived.Test.YtgchcgllpceghaaSetC
import Derived.Test.YtgchcgllpceghaaRowsV
import Derived.Test.YtgchcgllpceghaaNumbers
namespace Go.Proofs.Ytgchcgllpceghaa
open Go.RowKit

theorem whereE : ∀ (args : Array Value) (w : World), (callFunc 55 args).run Try.prog w = .ok (.enter 55 args) w := enters_of Try.func55 (by kernel_rfl) rfl
theorem allE : ∀ (args : Array Value) (w : World), (callFunc 56 args).run Try.prog w = .ok (.enter 56 args) w := enters_of Try.func56 (by kernel_rfl) rfl
theorem pickL_count (p : LineV → Bool) (i : Nat) (l : List LineV) : (pickL p i l).length = (l.filter p).length := by rw [← pickL_lines p i l, List.length_map]
/-- a list of lines that is the call's own -/
def OwnL (w : World) (B : Nat) (v : Value) (l : List LineV) : Prop := w.ownsRow B 26 4 v l.length (flatL l)
/-- the places of the lines of which something is so -/
def placesL (p : LineV → Bool) (l : List LineV) : List Int := (pickL p 0 l).map fun q => (q.1 : Int)
theorem placesL_len (p : LineV → Bool) (l : List LineV) : (placesL p l).length = (l.filter p).length := by rw [placesL, List.length_map, pickL_count]

set_option maxHeartbeats 1000000 in
theorem of_any (u : Value) (l : List LineV) (c : Nat) (w : World) (hu : Lns w u l) (hf : ∀ x ∈ l, x.fine) (hc : c < 18446744073709551616) (hlen : l.length * 40 ≤ 140737488355328) :
    Calls Try.prog 11 #[u, .int .u64 c] w fun e w' => ∃ v, e = .returned v ∧ OwnL w' w.heap.size v (l.filter (LineV.seen c)) ∧ Below w.heap.size w w' := by
  have Hu := Lib.hid hu
  obtain ⟨ao, cap, _, _, rfl, _⟩ := hu.form
  have Hf := Lib.hid hf
  have Hlen := Lib.hid hlen
  obtain ⟨N, hN⟩ : ∃ N, l.length = N := ⟨_, rfl⟩
  have HN := Lib.hid hN
  rw [hN] at Hu ⊢
  clear hu hf hlen hN
  go_enter Try.func11, Try.ntmps11
  go_wp2_with fail
  refine (seenSeq_any c ao N cap _).mono ?_
  rintro e w1 ⟨g, h, rfl, hb1, q1, q2, q3⟩
  have B1 := Lib.hid hb1
  have Q1 := Lib.hid q1
  have Q2 := Lib.hid q2
  have Q3 := Lib.hid q3
  clear hb1 q1 q2 q3
  go_wp2_with fail
  refine (toldLine_any _ _ _ _ whereE (whereSeen_stops 4 (by decide) g h c hc _ l w1 (Hu.out.kept B1.out) Hf.out Q1.out Q2.out Q3.out) (by have := pickL_len (LineV.seen c) 0 l; have := Hlen.out; omega)).mono ?_
  rintro e w2 ⟨v, rfl, hv, hb2⟩
  rw [pickL_lines, pickL_count] at hv
  have Hv := Lib.hid hv
  have B2 := Lib.hid (below_join B1.out hb2)
  clear hv hb2
  go_wp2_with fail
  go_ret
  exact ⟨_, rfl, own_base Hv.out B1.out.size, B2.out⟩

set_option maxHeartbeats 1000000 in
theorem places_any (u : Value) (l : List LineV) (c : Nat) (w : World) (hu : Lns w u l) (hf : ∀ x ∈ l, x.fine) (hc : c < 18446744073709551616) (hlen : l.length * 40 ≤ 140737488355328) :
    Calls Try.prog 13 #[u, .int .u64 c] w fun e w' => ∃ v, e = .returned v ∧ w'.ownsRow w.heap.size 3 1 v (l.filter (LineV.seen c)).length ((placesL (LineV.seen c) l).map (Value.int .i64)) ∧ Below w.heap.size w w' := by
  have Hu := Lib.hid hu
  obtain ⟨ao, cap, _, _, rfl, _⟩ := hu.form
  have Hf := Lib.hid hf
  have Hlen := Lib.hid hlen
  obtain ⟨N, hN⟩ : ∃ N, l.length = N := ⟨_, rfl⟩
  have HN := Lib.hid hN
  rw [hN] at Hu ⊢
  clear hu hf hlen hN
  go_enter Try.func13, Try.ntmps13
  go_wp2_with fail
  refine (seenSeq_any c ao N cap _).mono ?_
  rintro e w1 ⟨g, h, rfl, hb1, q1, q2, q3⟩
  have B1 := Lib.hid hb1
  have Q1 := Lib.hid q1
  have Q2 := Lib.hid q2
  have Q3 := Lib.hid q3
  clear hb1 q1 q2 q3
  go_wp2_with fail
  refine (toldInt_any _ _ _ _ whereE (whereSeen_stops 4 (by decide) g h c hc _ l w1 (Hu.out.kept B1.out) Hf.out Q1.out Q2.out Q3.out) (by have := pickL_len (LineV.seen c) 0 l; have := Hlen.out; omega)).mono ?_
  rintro e w2 ⟨v, rfl, hv, hb2⟩
  rw [pickL_count] at hv
  have Hv := Lib.hid hv
  have B2 := Lib.hid (below_join B1.out hb2)
  clear hv hb2
  go_wp2_with fail
  go_ret
  exact ⟨_, rfl, own_base Hv.out B1.out.size, B2.out⟩

set_option maxHeartbeats 1000000 in
theorem hidden_any (u : Value) (l : List LineV) (c : Nat) (w : World) (hu : Lns w u l) (hf : ∀ x ∈ l, x.fine) (hc : c < 18446744073709551616) (hlen : l.length * 40 ≤ 140737488355328) :
    Calls Try.prog 12 #[u, .int .u64 c] w fun e w' => ∃ v, e = .returned v ∧ OwnL w' w.heap.size v (l.filter (fun x => !x.seen c)) ∧ Below w.heap.size w w' := by
  have Hu := Lib.hid hu
  obtain ⟨ao, cap, _, _, rfl, _⟩ := hu.form
  have Hf := Lib.hid hf
  have Hlen := Lib.hid hlen
  obtain ⟨N, hN⟩ : ∃ N, l.length = N := ⟨_, rfl⟩
  have HN := Lib.hid hN
  rw [hN] at Hu ⊢
  have H0 := Lib.hid (heap_alloc_new w (.cells #[.int .u64 (c : Int)] 24))
  have B0 := Lib.hid ((Below.refl w.heap.size w).alloc (Nat.le_refl _) (.cells #[.int .u64 (c : Int)] 24))
  clear hu hf hlen hN
  go_enter Try.func12, Try.ntmps12
  go_wp2_with fail
  refine (where_any ao N cap _ _ _).mono ?_
  rintro e w1 ⟨rfl, hb1, q1, q2⟩
  simp only [World.size_alloc] at q1 q2
  have Q3 := Lib.hid (row_kept hb1 H0.out)
  have B1 := Lib.hid (below_join B0.out hb1)
  have Q1 := Lib.hid q1
  have Q2 := Lib.hid q2
  clear hb1 q1 q2
  go_wp2_with fail
  refine (toldLine_any _ _ _ _ whereE (whereHid_stops 4 (by decide) _ _ c hc _ l w1 (Hu.out.kept B1.out) Hf.out Q1.out Q2.out Q3.out) (by have := pickL_len (fun x => !x.seen c) 0 l; have := Hlen.out; omega)).mono ?_
  rintro e w2 ⟨v, rfl, hv, hb2⟩
  rw [pickL_lines, pickL_count] at hv
  have Hv := Lib.hid hv
  have B2 := Lib.hid (below_join B1.out hb2)
  clear hv hb2
  go_wp2_with fail
  go_ret
  exact ⟨_, rfl, own_base Hv.out B1.out.size, B2.out⟩

theorem pickL_all (i : Nat) : ∀ (l : List LineV), (pickL (fun _ => true) i l).map Prod.snd = l := fun l => by rw [pickL_lines]; simp
theorem pickL_texts (l : List LineV) : ((pickL (fun _ => true) 0 l).map fun q => q.2.text) = l.map LineV.text := by
  have h := congrArg (List.map LineV.text) (pickL_all 0 l)
  rw [List.map_map] at h
  exact h
theorem pickL_labs (l : List LineV) : ((pickL (fun _ => true) 0 l).map fun q => q.2.lab) = l.map LineV.lab := by
  have h := congrArg (List.map LineV.lab) (pickL_all 0 l)
  rw [List.map_map] at h
  exact h
theorem pickL_full (l : List LineV) : (pickL (fun _ => true) 0 l).length = l.length := by rw [pickL_count]; simp

set_option maxHeartbeats 1000000 in
theorem texts_any (u : Value) (l : List LineV) (w : World) (hu : Lns w u l) (hf : ∀ x ∈ l, x.fine) (hlen : l.length * 40 ≤ 140737488355328) :
    Calls Try.prog 14 #[u] w fun e w' => ∃ v, e = .returned v ∧ w'.ownsRow w.heap.size 9 1 v l.length ((l.map LineV.text).map Value.string) ∧ Below w.heap.size w w' := by
  have Hu := Lib.hid hu
  obtain ⟨ao, cap, _, _, rfl, _⟩ := hu.form
  have Hf := Lib.hid hf
  have Hlen := Lib.hid hlen
  obtain ⟨N, hN⟩ : ∃ N, l.length = N := ⟨_, rfl⟩
  have HN := Lib.hid hN
  rw [hN] at Hu ⊢
  clear hu hf hlen hN
  go_enter Try.func14, Try.ntmps14
  go_wp2_with fail
  refine (all_any ao N cap _).mono ?_
  rintro e w1 ⟨rfl, hb1, q1⟩
  have B1 := Lib.hid hb1
  have Q1 := Lib.hid q1
  clear hb1 q1
  go_wp2_with fail
  refine (toldStr_any _ _ _ _ allE (allLines_stops 4 (by decide) _ _ l w1 (Hu.out.kept B1.out) Hf.out Q1.out) (by rw [pickL_full]; have := Hlen.out; omega)).mono ?_
  rintro e w2 ⟨v, rfl, hv, hb2⟩
  rw [pickL_texts, pickL_full, HN.out] at hv
  have Hv := Lib.hid hv
  have B2 := Lib.hid (below_join B1.out hb2)
  clear hv hb2
  go_wp2_with fail
  go_ret
  exact ⟨_, rfl, own_base Hv.out B1.out.size, B2.out⟩
end Go.Proofs.Ytgchcgllpceghaa
