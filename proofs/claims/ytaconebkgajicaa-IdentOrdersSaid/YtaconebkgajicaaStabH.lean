/- Own work: slices.SortStableFunc at lines; ident.Sorted. -/
import Derived.Test.YtaconebkgajicaaStabG
namespace Go.Proofs.Ytaconebkgajicaa
open Go.RowKit Go.Sort Go.Shelf

set_option maxHeartbeats 4000000 in
theorem ins_nil (w : World) : Calls Try.prog 29 #[.slice none 0 0, .int .i64 0, .int .i64 0, fvT] w fun e w' => e = .returned (.tuple #[]) ∧ w' = w := by
  go_enter Try.func29, Try.ntmps29
  go_wp2_with fail
  go_loop [8] (fun i => i = .int .i64 1) (fun _ => 0)
  case atStart => rfl
  case round =>
    subst hrel
    go_wp2_with fail
    go_end0
    exact ⟨rfl, rfl⟩
set_option maxHeartbeats 4000000 in
theorem stable_nil (w : World) : Calls Try.prog 28 #[.slice none 0 0, .int .i64 0, fvT] w fun e w' => e = .returned (.tuple #[]) ∧ w' = w := by
  go_enter Try.func28, Try.ntmps28
  go_wp2_with fail
  go_loop [7, 8] (fun u v => u = .int .i64 0 ∧ v = .int .i64 20) (fun _ _ => 0)
  case atStart => exact ⟨rfl, rfl⟩
  case round =>
    obtain ⟨rfl, rfl⟩ := hrel
    go_wp2_with fail
    refine (ins_nil _).mono ?_
    rintro e w1 ⟨rfl, rfl⟩
    go_wp2_with fail
    go_loop [6] (fun u => u = .int .i64 20) (fun _ => 0)
    case atStart => rfl
    case round =>
      subst hrel
      go_wp2_with fail
      go_end0
      exact ⟨rfl, rfl⟩
set_option maxHeartbeats 4000000 in
theorem sort_nil (w : World) : Calls Try.prog 25 #[.slice none 0 0, fvT] w fun e w' => e = .returned (.tuple #[]) ∧ w' = w := by
  go_enter Try.func25, Try.ntmps25
  go_wp2_with fail
  refine (stable_nil _).mono ?_
  rintro e w1 ⟨rfl, rfl⟩
  go_wp2_with fail
  go_end0
  exact ⟨rfl, rfl⟩
set_option maxHeartbeats 4000000 in
theorem sort_own (B g n cap : Nat) (l : List LineV) (e : TypeId) (w : World) (h : w.ownsRow B e 4 (.slice (some ⟨g, 0, none⟩) n cap) n (flatL l)) (hsz : n < 1152921504606846976) :
    Calls Try.prog 25 #[.slice (some ⟨g, 0, none⟩) n cap, fvT] w fun x w' => x = .returned (.tuple #[]) ∧ ∃ out, w'.ownsRow B e 4 (.slice (some ⟨g, 0, none⟩) n cap) n (flatL out) ∧ Stable l out ∧ w.grownBy w' (some g) := by
  obtain ⟨hH, hblk⟩ := own_holds h
  have hn : l.length = n := by have := h.1; rw [flatL_len] at this; omega
  have hs := stable_any g 0 cap (tagged l) w hH hblk (by rw [tagged_size, hn]; exact hsz) (tagged_tag l)
  rw [tagged_size, hn] at hs
  have Hs := Lib.hid hs
  have H := Lib.hid h
  have HN := Lib.hid hn
  clear h hH hs hn
  go_enter Try.func25, Try.ntmps25
  go_wp2_with fail
  refine Hs.out.mono ?_
  rintro x w1 ⟨rfl, d, hk, hp, hso⟩
  have G1 := Lib.hid (swk_grown hk)
  have O1 := Lib.hid (own_sorted H.out hk (hp.1.trans ((tagged_size l).trans HN.out)))
  rw [← HN.out] at hp hso
  have S1 := Lib.hid (stable_of hp hso)
  clear hk hp hso
  go_wp2_with fail
  go_end0
  exact ⟨rfl, _, O1.out, S1.out, G1.out⟩
theorem stable_empty : Stable [] [] := ⟨[], .refl _, .nil, rfl⟩
set_option maxHeartbeats 4000000 in
theorem sorted_any (v : Value) (l : List LineV) (w : World) (hv : Lns w v l) (hf : SliceForm v) (hlen : l.length * 40 ≤ 140737488355328) :
    Calls Try.prog 16 #[v] w fun e w' => ∃ v' out, e = .returned v' ∧ w'.ownsRow w.heap.size 27 4 v' l.length (flatL out) ∧ Stable l out ∧ Below w.heap.size w w' := by
  have Hc := Lib.hid (clone_any v l w hv hf hlen)
  go_enter Try.func16, Try.ntmps16
  go_wp2_with fail
  refine Hc.out.mono ?_
  rintro e w1 ⟨v1, rfl, ho, hb⟩
  have B1 := Lib.hid hb
  rcases Joins.ownsRow_forms ho with ⟨rfl, h0⟩ | ⟨g, cap, rfl⟩
  · have hl : l = [] := List.eq_nil_of_length_eq_zero h0
    subst hl
    have HO := Lib.hid ho
    clear ho hb
    go_wp2_with fail
    refine (sort_nil _).mono ?_
    rintro e w2 ⟨rfl, rfl⟩
    go_wp2_with fail
    go_ret
    exact ⟨_, _, rfl, HO.out, stable_empty, B1.out⟩
  · have hs := sort_own _ _ _ _ _ _ _ ho (by omega)
    have Hs := Lib.hid hs
    have hg := (ho.lt g rfl).1
    clear hs ho hb
    go_wp2_with fail
    refine Hs.out.mono ?_
    rintro e w2 ⟨rfl, out, ho2, hs2, hg2⟩
    have O2 := Lib.hid ho2
    have S2 := Lib.hid hs2
    have B2 := Lib.hid (B1.out.grown hg2 B1.out.size (fun q hq => by cases hq; exact hg))
    clear ho2 hs2 hg2
    go_wp2_with fail
    go_ret
    exact ⟨_, out, rfl, O2.out, S2.out, B2.out⟩
end Go.Proofs.Ytaconebkgajicaa
