/- Own work: a policy's methods. -/
import Derived.Test.YtajjikbigacbaaaGreatDoorAsks
import Derived.Test.YtajjikbigacbaaaGreatDoorNewA
import Derived.Test.YtajjikbigacbaaaGreatDoorTxtB
import Derived.Test.YtajjikbigacbaaaGreatDoorJoinA
namespace Go.Proofs.YtajjikbigacbaaaGreatDoor
open Go.RowKit Go.Maps Go.Shelf

theorem enters_at {g : Nat} {fn : Func} {c : Code} (hf : Tryz.prog.funcs[g]? = some fn) (hname : (fn.name == "runtime.NumGoroutine") = false) (hb : fn.body = some c) : ∀ args w, (callFunc g args).run Tryz.prog w = .ok (.enter g args) w := enters_of hf hname hb
theorem asks_all {g : Nat} {enc : Vw → Value} {is : Vw → Bool} {vs : List Vw} {w : World} (hf : Fits vs)
    (h : ∀ W v, v.lab < 18446744073709551616 → v.nm.size ≤ maxLen → Calls Tryz.prog g #[.agg #[.string v.nm, .int .u64 (v.lab : Int)]] W fun e W' => e = .returned (.tuple #[enc v, .bool (is v)]) ∧ Below W.heap.size W W') : Asks g #[] enc is vs w :=
  fun W v _ hv => by
    have := h W v (hf v hv).1 (hf v hv).2
    simpa using this
theorem asks_one {g A : Nat} {c : Value} {enc : Vw → Value} {is : Vw → Bool} {vs : List Vw} {w : World} (hf : Fits vs) (hc : w.cell? ⟨A, 0, none⟩ = some c)
    (h : ∀ W v, v.lab < 18446744073709551616 → v.nm.size ≤ maxLen → W.cell? ⟨A, 0, none⟩ = some c → Calls Tryz.prog g #[.agg #[.string v.nm, .int .u64 (v.lab : Int)], .pointer (some ⟨A, 0, none⟩)] W fun e W' => e = .returned (.tuple #[enc v, .bool (is v)]) ∧ Below W.heap.size W W') :
    Asks g #[.pointer (some ⟨A, 0, none⟩)] enc is vs w :=
  fun W v hb hv => by
    have := h W v (hf v hv).1 (hf v hv).2 (cell_kept hb hc)
    simpa using this

set_option maxHeartbeats 4000000 in
set_option maxRecDepth 100000 in
theorem viewers_any (p : Value) (vs : List Vw) (w : World) (hp : Pol w p vs) :
    Calls Tryz.prog 16 #[p] w fun e w' => ∃ u, e = .returned u ∧ w'.ownsRow w.heap.size 33 2 u vs.length (flatV vs) ∧ Below w.heap.size w w' := by
  have HP := Lib.hid hp
  have Ha := Lib.hid (asks_all (g := 61) (enc := fun v => .agg #[.string v.nm, .int .u64 (v.lab : Int)]) (is := fun _ => true) (w := w) hp.facts.2.2 fun W v _ _ => viewers1_any v.nm v.lab W)
  clear hp
  go_enter Tryz.func16, Tryz.ntmps16
  go_wp2_with fail
  refine (toldV_any _ _ (enters_at Tryz.func61 (by kernel_rfl) rfl) _ p vs _ HP.out Ha.out).mono ?_
  rintro e w1 ⟨u, rfl, hown, hb⟩
  have hfl : (vs.filter fun _ => true) = vs := List.filter_eq_self.2 fun _ _ => rfl
  rw [hfl] at hown
  have Hown := Lib.hid hown
  clear hown
  go_wp2_with fail
  go_ret
  exact ⟨_, rfl, Hown.out, hb⟩

set_option maxHeartbeats 4000000 in
set_option maxRecDepth 100000 in
theorem belowM_any (p : Value) (vs : List Vw) (c : Nat) (w : World) (hp : Pol w p vs) (hc : c < 18446744073709551616) :
    Calls Tryz.prog 18 #[p, .int .u64 (c : Int)] w fun e w' => ∃ u, e = .returned u ∧ Texts w' u ((eraseV vs c).map Vw.nm) ∧ Below w.heap.size w w' := by
  have hal : Below w.heap.size w (w.alloc (.cells #[.int .u64 (c : Int)] 24)) := (Below.refl _ _).alloc (Nat.le_refl _) _
  have HP := Lib.hid (hp.kept hal)
  have Hal := Lib.hid hal
  have Ha := Lib.hid (asks_one (g := 67) (enc := fun v => .string v.nm) (is := fun v => belowN v.lab c) hp.facts.2.2 (cell_of_row _ _ 0 _ _ _ (heap_alloc_new w (.cells #[.int .u64 (c : Int)] 24))) fun W v h1 _ h3 => below1_any v.nm v.lab c _ W h1 hc h3)
  clear hp hal
  go_enter Tryz.func18, Tryz.ntmps18
  go_wp2_with fail
  refine (toldS_any _ _ (enters_at Tryz.func67 (by kernel_rfl) rfl) (fun v => v.nm) _ p vs _ HP.out Ha.out).mono ?_
  rintro e w1 ⟨u, rfl, hown, hb⟩
  have Hown := Lib.hid (show Texts w1 u ((eraseV vs c).map Vw.nm) from Texts.of_own (by rw [List.map_map]; exact hown))
  clear hown
  go_wp2_with fail
  go_ret
  exact ⟨_, rfl, Hown.out, below_join Hal.out hb⟩

set_option maxHeartbeats 4000000 in
set_option maxRecDepth 100000 in
theorem aboveM_any (p : Value) (vs : List Vw) (c : Nat) (w : World) (hp : Pol w p vs) (hc : c < 18446744073709551616) :
    Calls Tryz.prog 56 #[p, .int .u64 (c : Int)] w fun e w' => ∃ u, e = .returned u ∧ Texts w' u ((aboveV vs c).map Vw.nm) ∧ Below w.heap.size w w' := by
  have hal : Below w.heap.size w (w.alloc (.cells #[.int .u64 (c : Int)] 24)) := (Below.refl _ _).alloc (Nat.le_refl _) _
  have HP := Lib.hid (hp.kept hal)
  have Hal := Lib.hid hal
  have Ha := Lib.hid (asks_one (g := 102) (enc := fun v => .string v.nm) (is := fun v => belowN c v.lab) hp.facts.2.2 (cell_of_row _ _ 0 _ _ _ (heap_alloc_new w (.cells #[.int .u64 (c : Int)] 24))) fun W v h1 _ h3 => above1_any v.nm v.lab c _ W h1 hc h3)
  clear hp hal
  go_enter Tryz.func56, Tryz.ntmps56
  go_wp2_with fail
  refine (toldS_any _ _ (enters_at Tryz.func102 (by kernel_rfl) rfl) (fun v => v.nm) _ p vs _ HP.out Ha.out).mono ?_
  rintro e w1 ⟨u, rfl, hown, hb⟩
  have Hown := Lib.hid (show Texts w1 u ((aboveV vs c).map Vw.nm) from Texts.of_own (by rw [List.map_map]; exact hown))
  clear hown
  go_wp2_with fail
  go_ret
  exact ⟨_, rfl, Hown.out, below_join Hal.out hb⟩

set_option maxHeartbeats 4000000 in
set_option maxRecDepth 100000 in
theorem eraseM_any (p : Value) (vs : List Vw) (c : Nat) (w : World) (hp : Pol w p vs) (hc : c < 18446744073709551616) :
    Calls Tryz.prog 13 #[p, .int .u64 (c : Int)] w fun e w' => ∃ q, e = .returned q ∧ Pol w' q (eraseV vs c) ∧ Below w.heap.size w w' := by
  have hal : Below w.heap.size w (w.alloc (.cells #[.int .u64 (c : Int)] 24)) := (Below.refl _ _).alloc (Nat.le_refl _) _
  have HP := Lib.hid (hp.kept hal)
  have Hal := Lib.hid hal
  obtain ⟨hr, hok, hf⟩ := hp.facts
  have hsub : (eraseV vs c).Sublist vs := List.filter_sublist
  have Hr := Lib.hid (rising_sub hsub hr)
  have Hok := Lib.hid (polOk_sub hsub hok)
  have Hf := Lib.hid (hf.sub fun v hv => hsub.subset hv)
  have Ha := Lib.hid (asks_one (g := 48) (enc := fun v => .agg #[.string v.nm, .int .u64 (v.lab : Int)]) (is := fun v => belowN v.lab c) hf (cell_of_row _ _ 0 _ _ _ (heap_alloc_new w (.cells #[.int .u64 (c : Int)] 24))) fun W v h1 _ h3 => erase1_any v.nm v.lab c _ W h1 hc h3)
  obtain ⟨b, hpb⟩ : ∃ b, p = .pointer (some ⟨b, 0, none⟩) := by
    obtain ⟨b, _, _, _, _, h1, _⟩ := hp
    exact ⟨b, h1⟩
  subst hpb
  clear hp hal hsub hr hok hf
  go_enter Tryz.func13, Tryz.ntmps13
  go_wp2_with fail
  refine (toldV_any _ _ (enters_at Tryz.func48 (by kernel_rfl) rfl) _ _ vs _ HP.out Ha.out).mono ?_
  rintro e w1 ⟨u, rfl, hown, hb⟩
  have Hv := Lib.hid (show Vws w1 u (eraseV vs c) from Vws.of_own hown)
  have B1 := Lib.hid (below_join Hal.out hb)
  clear hown hb
  go_wp2_with fail
  refine (new_any u (eraseV vs c) _ Hv.out Hf.out).mono ?_
  rintro e w2 ⟨hb, ⟨hno, _⟩ | ⟨_, q, rfl, hq⟩⟩
  · exact absurd Hok.out hno
  · rw [sortV_same Hr.out] at hq
    have Hq := Lib.hid hq
    clear hq
    go_wp2_with fail
    go_ret
    exact ⟨_, rfl, Hq.out, below_join B1.out hb⟩
end Go.Proofs.YtajjikbigacbaaaGreatDoor
