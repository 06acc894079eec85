/- Own work: scrimref03's Erase, Above, Print. -/
import Derived.Test.YtajjikbigacbaaaGreatDoorRef3A
import Derived.Test.YtajjikbigacbaaaGreatDoorPrintA
import Derived.Test.YtajjikbigacbaaaGreatDoorPolMath
import Derived.Test.YtajjikbigacbaaaGreatDoorLinesB
import Derived.Test.YtajjikbigacbaaaGreatDoorAsks
import Derived.Test.YtajjikbigacbaaaGreatDoorRise
import Derived.BigQuiet
namespace Go.Proofs.YtajjikbigacbaaaGreatDoor
open Go.RowKit Go.Maps

theorem vcells_plain (x : Vw) : ∀ y ∈ x.cells, y.oneCell' = true := by rw [← flatV_one]; exact flatV_plain [x]
theorem takeF_le {is : Vw → Bool} {vs : List Vw} {k n : Nat} (h : k ≤ n) : (takeF is vs k).length ≤ n := Nat.le_trans (takeF_len is vs k) h

set_option maxRecDepth 100000 in
set_option maxHeartbeats 8000000 in
theorem ref3Erase_any (u : Value) (vs : List Vw) (c : Nat) (w : World) (hu : Vws w u vs) (hlen : vs.length ≤ 4294967296) (hc64 : c < 18446744073709551616) (hlab : ∀ v ∈ vs, v.lab < 18446744073709551616) :
    Calls Tryz.prog 15 #[u, .int .u64 (c : Int)] w fun e w' => ∃ v, e = .returned v ∧ Vws w' v (eraseV vs c) ∧ Below w.heap.size w w' := by
  obtain ⟨i0, hi, hz0, hz1, hz2⟩ := info_parts Tryz.info33
  obtain ⟨ao, cap, b, o, rfl, hao, hml, hc⟩ := hu.form
  obtain ⟨n, hn⟩ : ∃ n, vs.length = n := ⟨_, rfl⟩
  have Hn := Lib.hid hn
  rw [hn] at hao hlen ⊢
  have Hao := Lib.hid hao
  have Hc := Lib.hid hc
  have Hlab := Lib.hid hlab
  clear hu hao hc hn hml hlab
  go_enter Tryz.func15, Tryz.ntmps15
  go_wp2_with fail
  go_loopw [5, 6] (fun s i wr => ∃ k m : Nat, k ≤ n ∧ i = .int .i64 k ∧ m ≤ k ∧ Hid ((takeF (fun v => belowN v.lab c) vs k).length = m) ∧ wr.ownsRow w.heap.size 33 2 s m (flatV (takeF (fun v => belowN v.lab c) vs k)) ∧ Below w.heap.size w wr) (fun _ i _ => n - (intOf i).toNat)
  case atStart => exact ⟨0, 0, Nat.zero_le _, rfl, Nat.le_refl _, rfl, World.ownsRow_nil _ _ _ _, Below.refl _ _⟩
  case round =>
    obtain ⟨k, m, hk, rfl, hmk, HM, hown, hbw⟩ := hrel
    have Hown := Lib.hid hown
    have Hbw := Lib.hid hbw
    clear hown hbw
    by_cases hlt : k < n
    · have hkl : k < vs.length := by rw [Hn.out]; exact hlt
      obtain rfl := Hao.out (by omega)
      obtain ⟨c0, c1⟩ := Hc.out k hkl
      have c0 := cell_kept Hbw.out c0
      have c1 := cell_kept Hbw.out c1
      have Hx := Lib.hid (Hlab.out _ (List.getElem_mem hkl))
      have HY := Lib.hid (takeF_yes (is := fun v => belowN v.lab c) hkl)
      have HN := Lib.hid (takeF_no (is := fun v => belowN v.lab c) hkl)
      obtain ⟨x, hx⟩ : ∃ x, vs[k]'hkl = x := ⟨_, rfl⟩
      rw [hx] at c0 c1 Hx HY HN
      obtain ⟨x1, x2⟩ := x
      dsimp only at c0 c1 Hx HY HN
      have hi0 : (0 : Int) ≤ (k : Int) := by omega
      have hi1 : (k : Int) < (n : Int) := by omega
      clear hx
      go_wp2_with fail
      refine (ref3Below_any x2 c _ Hx.out hc64).mono ?_
      rintro e w' ⟨rfl, rfl⟩
      cases hbl : belowN x2 c with
      | true =>
        have HZ := Lib.hid (HY.out hbl)
        clear HY HN hbl
        go_wp2_with (at_builtin; refine wpList_append_own _ rfl _ _ 22 rfl w.heap.size 33 i0 _ 2 24 Tryz.underlying22 hi hz0 hz1 hz2 rfl (by decide) _ _ _ rfl (Hown.out.alloc _) ⟨wr.heap.size, 0, none⟩ 1 1 (Vw.mk x1 x2).cells rfl rfl (two_cellV wr ⟨x1, x2⟩ _) (vcells_plain ⟨x1, x2⟩) ?c3 ?c4 ?c5 ?_)
        case c3 => unfold maxLen; omega
        case c4 => omega
        case c5 => exact Nat.le_trans Hbw.out.size (by simp)
        intro v' w2 hown1 hgrow _
        have Hb1 := Lib.hid ((Hbw.out.alloc Hbw.out.size _).grown hgrow (Nat.le_trans Hbw.out.size (by simp)) (fun q hq => (Hown.out.lt q hq).1))
        have Hown1 := Lib.hid hown1
        clear hown1 hgrow
        go_wp2_with fail
        go_roundw
        case rel => exact ⟨k + 1, m + 1, by omega, by go_num, by omega, by show _ = _; rw [HZ.out, List.length_append, HM.out]; rfl, by rw [HZ.out, flatV_append, flatV_one]; exact Hown1.out, Hb1.out⟩
        case measure => simp [intOf]; omega
      | false =>
        have HZ := Lib.hid (HN.out hbl)
        clear HY HN hbl
        go_wp2_with fail
        go_roundw
        case rel => exact ⟨k + 1, m, by omega, by go_num, by omega, by show _ = _; rw [HZ.out]; exact HM.out, by rw [HZ.out]; exact Hown.out, Hbw.out⟩
        case measure => simp [intOf]; omega
    · obtain rfl : n = k := by omega
      have hown := Hown.out
      have hm := HM.out
      rw [show takeF (fun v => belowN v.lab c) vs n = eraseV vs c by rw [← Hn.out]; exact takeF_all _ _] at hown hm
      rw [← hm] at hown
      have HX := Lib.hid (Vws.of_own hown)
      clear hown hm
      go_wp2_with fail
      go_ret
      exact ⟨_, rfl, HX.out, Hbw.out⟩

set_option maxRecDepth 100000 in
set_option maxHeartbeats 8000000 in
theorem ref3Above_any (u : Value) (vs : List Vw) (c : Nat) (w : World) (hu : Vws w u vs) (hlen : vs.length ≤ 4294967296) (hc64 : c < 18446744073709551616) (hlab : ∀ v ∈ vs, v.lab < 18446744073709551616) :
    Calls Tryz.prog 57 #[u, .int .u64 (c : Int)] w fun e w' => ∃ v, e = .returned v ∧ Texts w' v ((aboveV vs c).map Vw.nm) ∧ Below w.heap.size w w' := by
  obtain ⟨i0, hi, hz0, hz1, hz2⟩ := info_parts Tryz.info9
  obtain ⟨ao, cap, b, o, rfl, hao, hml, hc⟩ := hu.form
  obtain ⟨n, hn⟩ : ∃ n, vs.length = n := ⟨_, rfl⟩
  have Hn := Lib.hid hn
  rw [hn] at hao hlen ⊢
  have Hao := Lib.hid hao
  have Hc := Lib.hid hc
  have Hlab := Lib.hid hlab
  clear hu hao hc hn hml hlab
  go_enter Tryz.func57, Tryz.ntmps57
  go_wp2_with fail
  go_loopw [5, 6] (fun s i wr => ∃ k m : Nat, k ≤ n ∧ i = .int .i64 k ∧ m ≤ k ∧ wr.ownsRow w.heap.size 9 1 s m (((takeF (fun v => belowN c v.lab) vs k).map Vw.nm).map Value.string) ∧ Below w.heap.size w wr) (fun _ i _ => n - (intOf i).toNat)
  case atStart => exact ⟨0, 0, Nat.zero_le _, rfl, Nat.le_refl _, World.ownsRow_nil _ _ _ _, Below.refl _ _⟩
  case round =>
    obtain ⟨k, m, hk, rfl, hmk, hown, hbw⟩ := hrel
    have Hown := Lib.hid hown
    have Hbw := Lib.hid hbw
    clear hown hbw
    by_cases hlt : k < n
    · have hkl : k < vs.length := by rw [Hn.out]; exact hlt
      obtain rfl := Hao.out (by omega)
      obtain ⟨c0, c1⟩ := Hc.out k hkl
      have c0 := cell_kept Hbw.out c0
      have c1 := cell_kept Hbw.out c1
      have Hx := Lib.hid (Hlab.out _ (List.getElem_mem hkl))
      have HY := Lib.hid (takeF_yes (is := fun v => belowN c v.lab) hkl)
      have HN := Lib.hid (takeF_no (is := fun v => belowN c v.lab) hkl)
      obtain ⟨x, hx⟩ : ∃ x, vs[k]'hkl = x := ⟨_, rfl⟩
      rw [hx] at c0 c1 Hx HY HN
      obtain ⟨x1, x2⟩ := x
      dsimp only at c0 c1 Hx HY HN
      have hi0 : (0 : Int) ≤ (k : Int) := by omega
      have hi1 : (k : Int) < (n : Int) := by omega
      clear hx
      go_wp2_with fail
      refine (ref3Below_any c x2 _ hc64 Hx.out).mono ?_
      rintro e w' ⟨rfl, rfl⟩
      cases hbl : belowN c x2 with
      | true =>
        have HZ := Lib.hid (HY.out hbl)
        clear HY HN hbl
        go_wp2_with (at_builtin; refine wpList_append_own _ rfl _ _ 40 rfl w.heap.size 9 i0 (.string ⟨#[]⟩) 1 16 Tryz.underlying40 hi hz0 hz1 hz2 rfl (by decide) _ _ _ rfl (Hown.out.alloc _) ⟨wr.heap.size, 0, none⟩ 1 1 [.string x1] rfl rfl (one_cell _ _ _) (one_list _ rfl) ?c3 ?c4 ?c5 ?_)
        case c3 => unfold maxLen; omega
        case c4 => omega
        case c5 => exact Nat.le_trans Hbw.out.size (by simp)
        intro v' w2 hown1 hgrow _
        have Hb1 := Lib.hid ((Hbw.out.alloc Hbw.out.size _).grown hgrow (Nat.le_trans Hbw.out.size (by simp)) (fun q hq => (Hown.out.lt q hq).1))
        have Hown1 := Lib.hid hown1
        clear hown1 hgrow
        go_wp2_with fail
        go_roundw
        case rel => exact ⟨k + 1, m + 1, by omega, by go_num, by omega, by rw [HZ.out]; simpa using Hown1.out, Hb1.out⟩
        case measure => simp [intOf]; omega
      | false =>
        have HZ := Lib.hid (HN.out hbl)
        clear HY HN hbl
        go_wp2_with fail
        go_roundw
        case rel => exact ⟨k + 1, m, by omega, by go_num, by omega, by rw [HZ.out]; exact Hown.out, Hbw.out⟩
        case measure => simp [intOf]; omega
    · obtain rfl : n = k := by omega
      have hown := Hown.out
      rw [show takeF (fun v => belowN c v.lab) vs n = aboveV vs c by rw [← Hn.out]; exact takeF_all _ _] at hown
      have HX := Lib.hid (Texts.of_own hown)
      clear hown
      go_wp2_with fail
      go_ret
      exact ⟨_, rfl, HX.out, Hbw.out⟩
theorem print_snoc {vs : List Vw} {k : Nat} (h : k < vs.length) : printT (vs.take (k + 1)) = printT (vs.take k) ++ (vs[k]'h).nm ++ ⟨#[32]⟩ ++ textB (vs[k]'h).lab ++ ⟨#[10]⟩ := by
  rw [List.take_succ_eq_append_getElem h, printT, printT, List.map_append]
  apply ByteArray.ext
  apply Array.ext'
  simp [joinT, lineB, asB, Num.joinL, ByteArray.data_append, List.flatMap_append]

set_option maxRecDepth 100000 in
set_option maxHeartbeats 8000000 in
theorem ref3Print_any (u : Value) (vs : List Vw) (w : World) (hu : Vws w u vs) (hok : polOk vs) (hf : Fits vs) :
    Calls Tryz.prog 59 #[u] w fun e w' => e = .returned (.string (printT vs)) ∧ Below w.heap.size w w' := by
  obtain ⟨ao, cap, b, o, rfl, hao, hml, hc⟩ := hu.form
  obtain ⟨n, hn⟩ : ∃ n, vs.length = n := ⟨_, rfl⟩
  have hn64 : n ≤ 64 := by rw [← hn]; exact hok.1
  have Hn := Lib.hid hn
  rw [hn] at hao ⊢
  have Hao := Lib.hid hao
  have Hc := Lib.hid hc
  have Hlab := Lib.hid hf
  have Hnm := Lib.hid (fun v hv => isName_size (hok.2.1 v hv))
  clear hu hao hc hn hml hok hf
  go_enter Tryz.func59, Tryz.ntmps59
  go_wp2_with fail
  go_loopw [3, 4] (fun s i wr => ∃ k : Nat, k ≤ n ∧ i = .int .i64 k ∧ s = .string (printT (vs.take k)) ∧ (printT (vs.take k)).size ≤ k * 300 ∧ Below w.heap.size w wr) (fun _ i _ => n - (intOf i).toNat)
  case atStart => exact ⟨0, Nat.zero_le _, rfl, rfl, Nat.le_refl _, Below.refl _ _⟩
  case round =>
    obtain ⟨k, hk, rfl, rfl, hsz, hbw⟩ := hrel
    have Hbw := Lib.hid hbw
    clear hbw
    by_cases hlt : k < n
    · have hkl : k < vs.length := by rw [Hn.out]; exact hlt
      obtain rfl := Hao.out (by omega)
      obtain ⟨c0, c1⟩ := Hc.out k hkl
      have c0 := cell_kept Hbw.out c0
      have c1 := cell_kept Hbw.out c1
      have Hx := Lib.hid (Hlab.out _ (List.getElem_mem hkl)).1
      have hx32 := Hnm.out _ (List.getElem_mem hkl)
      have HS := Lib.hid (print_snoc hkl)
      obtain ⟨x, hx⟩ : ∃ x, vs[k]'hkl = x := ⟨_, rfl⟩
      rw [hx] at c0 c1 Hx hx32 HS
      obtain ⟨x1, x2⟩ := x
      dsimp only at c0 c1 Hx hx32 HS
      have hi0 : (0 : Int) ≤ (k : Int) := by omega
      have hi1 : (k : Int) < (n : Int) := by omega
      have hts := (textB_size Hx.out).2
      obtain ⟨t, ht⟩ : ∃ t, textB x2 = t := ⟨_, rfl⟩
      obtain ⟨s, hs⟩ : ∃ s, printT (vs.take k) = s := ⟨_, rfl⟩
      have Ht := Lib.hid ht
      rw [ht] at hts HS
      rw [hs] at hsz HS ⊢
      have hs1 : (9223372036854775807 < s.size + x1.size) = False := eq_false (by omega)
      have hs2 : (9223372036854775807 < s.size + x1.size + 1) = False := eq_false (by omega)
      have hs3 : (9223372036854775807 < s.size + x1.size + 1 + t.size) = False := eq_false (by omega)
      have hs4 : (9223372036854775807 < s.size + x1.size + 1 + t.size + 1) = False := eq_false (by omega)
      have hs5 : (9223372036854775806 < s.size + x1.size) = False := eq_false (by omega)
      have hs6 : (9223372036854775806 < s.size + x1.size + 1 + t.size) = False := eq_false (by omega)
      clear hx ht hs
      go_wp2_with fail
      go_region_held3 (fun w' => w'.cell? ⟨b, o + k * 2, none⟩ = some (.string x1) ∧ w'.cell? ⟨b, o + k * 2 + 1, none⟩ = some (.int .u64 (x2 : Int)) ∧ Below w.heap.size w w')
        (first
          | (go_split_ands; refine ⟨?_, ?_, ?_⟩ <;> first | assumption | exact Hbw.out.drew | exact Hbw.out | exact cell_kept hc (by assumption) | exact Below.trans (by assumption) (hc.mono (Below.size (by assumption))) | (simp; assumption)))
        (first
          | (go_at_call 104; refine (ref3Text_any x2 _ Hx.out).mono ?_; rintro e w1 ⟨rfl, hc⟩; rw [Ht.out]))
      go_wp2_with fail
      go_roundw
      case rel => exact ⟨k + 1, by omega, by go_num, by rw [HS.out], by rw [HS.out]; simp only [ByteArray.size_append]; have e1 : (⟨#[32]⟩ : ByteArray).size = 1 := rfl; have e2 : (⟨#[10]⟩ : ByteArray).size = 1 := rfl; omega, by go_split_ands; assumption⟩
      case measure => simp [intOf]; omega
    · obtain rfl : n = k := by omega
      have HT : Hid (vs.take n = vs) := List.take_of_length_le (by rw [Hn.out]; exact Nat.le_refl _)
      rw [HT.out]
      go_wp2_with fail
      go_ret
      exact ⟨rfl, Hbw.out⟩
end Go.Proofs.YtajjikbigacbaaaGreatDoor
/- Own work: scrimref03's New. -/
namespace Go.Proofs.YtajjikbigacbaaaGreatDoor
open Go.RowKit Go.Maps

theorem ins_at (x : Vw) : ∀ (ss : List Vw) (t : Nat), t ≤ ss.length → (∀ y ∈ ss.take t, y.key < x.key) → (∀ h : t < ss.length, ¬ (ss[t]'h).key < x.key) → insV x ss = ss.take t ++ x :: ss.drop t
  | [], t, ht, _, _ => by
    have : t = 0 := by simpa using ht
    subst this; rfl
  | y :: r, 0, _, _, h => by
    have := h (by simp)
    simp at this
    rw [insV, if_neg (by simpa using this)]
    rfl
  | y :: r, t + 1, ht, h1, h2 => by
    have hy := h1 y (by simp)
    rw [insV, if_pos hy, ins_at x r t (by simpa using ht) (fun z hz => h1 z (by simp [hz])) (fun h => by have := h2 (by simpa using h); simpa using this)]
    rfl
theorem uniq_at {ss : List Vw} {x : Vw} {t : Nat} (hr : Rising ss) (h1 : ∀ y ∈ ss.take t, y.key < x.key) (h2 : ∀ h : t < ss.length, x.key < (ss[t]'h).key) : ∀ y ∈ ss, y.key ≠ x.key := by
  intro y hy e
  obtain ⟨j, hj, rfl⟩ := List.getElem_of_mem hy
  by_cases hjt : j < t
  · have hm : ss[j] ∈ ss.take t := by
      rw [List.mem_take_iff_getElem]
      exact ⟨j, by omega, rfl⟩
    have := h1 _ hm
    rw [e] at this
    exact lt_irr _ this
  · have h3 := h2 (by omega)
    by_cases ejt : j = t
    · subst ejt; rw [e] at h3; exact lt_irr _ h3
    · have := List.pairwise_iff_getElem.1 hr t j (by omega) hj (by omega)
      have h4 := lt_tr h3 this
      rw [e] at h4
      exact lt_irr _ h4
theorem vws_front {w : World} {ao : Option Addr} {n cap t : Nat} {ls : List Vw} (h : Vws w (.slice ao n cap) ls) (ht : t ≤ ls.length) : Vws w (.slice ao t cap) (ls.take t) := by
  rcases h with ⟨a, c, hv, rfl⟩ | ⟨b, o, c, hv, hp, hc, hm, hcell⟩
  · have : t = 0 := by simpa using ht
    subst this
    cases hv
    exact .inl ⟨_, _, rfl, rfl⟩
  · cases hv
    by_cases h0 : t = 0
    · subst h0; exact .inl ⟨_, _, rfl, rfl⟩
    · have hl : (ls.take t).length = t := by rw [List.length_take]; omega
      refine .inr ⟨b, o, _, by rw [hl], by omega, by omega, hm, fun i hi => ?_⟩
      have := hcell i (by omega)
      rw [List.getElem_take]
      exact this
theorem vws_back {w : World} {b o n cap t : Nat} {ls : List Vw} (h : Vws w (.slice (some ⟨b, o, none⟩) n cap) ls) (ht : t < ls.length) : Vws w (.slice (some ⟨b, o + t * 2, none⟩) (n - t) (cap - t)) (ls.drop t) := by
  rcases h with ⟨a, c, hv, rfl⟩ | ⟨b', o', c, hv, hp, hc, hm, hcell⟩
  · simp at ht
  · cases hv
    have hl : (ls.drop t).length = ls.length - t := List.length_drop
    refine .inr ⟨b, o + t * 2, _, by rw [hl], by omega, by omega, by omega, fun i hi => ?_⟩
    obtain ⟨h1, h2⟩ := hcell (t + i) (by omega)
    rw [List.getElem_drop]
    rw [show o + t * 2 + i * 2 = o + (t + i) * 2 by omega]
    exact ⟨h1, h2⟩
theorem sf_own {w : World} {B n s : Nat} {e : TypeId} {v : Value} {xs : List Value} (h : w.ownsRow B e s v n xs) : SliceForm v := by
  rcases Joins.ownsRow_forms h with ⟨h1, _⟩ | ⟨g, cap, h1⟩
  · exact .inl h1
  · exact .inr ⟨_, _, _, h1⟩
theorem own_capV {w : World} {B g n cap s : Nat} {e : TypeId} {xs : List Value} (h : w.ownsRow B e s (.slice (some ⟨g, 0, none⟩) n cap) n xs) : n ≤ cap ∧ cap ≤ maxLen := by
  rcases h.2 with ⟨e, _⟩ | ⟨g', cap', cur, hv, _, _, hnc, hcm, _, _⟩
  · cases e
  · cases hv; exact ⟨hnc, hcm⟩
theorem vws_back0 {w : World} {b n cap t : Nat} {ls : List Vw} (h : Vws w (.slice (some ⟨b, 0, none⟩) n cap) ls) (ht : t < ls.length) : Vws w (.slice (some ⟨b, t * 2, none⟩) (n - t) (cap - t)) (ls.drop t) := by simpa using vws_back h ht
theorem vws_end {w : World} {ao : Option Addr} {cap : Nat} {ls : List Vw} {t : Nat} (ht : ls.length ≤ t) : Vws w (.slice ao 0 cap) (ls.drop t) := .inl ⟨_, _, rfl, List.drop_eq_nil_of_le ht⟩

set_option maxRecDepth 100000 in
set_option maxHeartbeats 16000000 in
theorem ref3New_any (u : Value) (l : List Vw) (w : World) (hu : Vws w u l) (hf : Fits l) :
    Calls Tryz.prog 11 #[u] w fun e w' => Below w.heap.size w w' ∧ ((¬ polOk l ∧ e = .returned (.tuple #[.slice none 0 0, .int .i64 30])) ∨ (polOk l ∧ ∃ v, e = .returned (.tuple #[v, .int .i64 0]) ∧ w'.ownsRow w.heap.size 33 2 v l.length (flatV (sortV l)))) := by
  obtain ⟨i0, hi, hz0, hz1, hz2⟩ := info_parts Tryz.info33
  obtain ⟨ao, cap, b, o, rfl, hao, hml, hc⟩ := hu.form
  obtain ⟨n, hn⟩ : ∃ n, l.length = n := ⟨_, rfl⟩
  have Hn := Lib.hid hn
  unfold maxLen at hml
  rw [hn] at hao hml ⊢
  have Hao := Lib.hid hao
  have Hc := Lib.hid hc
  have Hf := Lib.hid hf
  clear hu hao hc hn hf
  by_cases h64 : 64 < n
  · have Hno : Hid (¬ polOk l) := fun h => by have := h.1; rw [Hn.out] at this; omega
    have h64z : (64 : Int) < (n : Int) := by omega
    go_enter Tryz.func11, Tryz.ntmps11
    go_wp2_with fail
    go_ret2
    exact ⟨Below.refl _ _, .inl ⟨Hno.out, rfl⟩⟩
  have h64z : ¬ (64 : Int) < (n : Int) := by omega
  go_enter Tryz.func11, Tryz.ntmps11
  go_wp2_with fail
  go_loopw [4, 5] (fun ov i wr => ∃ k : Nat, k ≤ n ∧ i = .int .i64 k ∧ wr.ownsRow w.heap.size 33 2 ov k (flatV (sortV (l.take k))) ∧ Hid (polOk (l.take k)) ∧ Below w.heap.size w wr) (fun _ i _ => n - (intOf i).toNat)
  case atStart => exact ⟨0, Nat.zero_le _, rfl, World.ownsRow_nil _ _ _ _, ⟨by simp, (fun v hv => by simp at hv), by simp [Once]⟩, Below.refl _ _⟩
  case round =>
    obtain ⟨k, hk, rfl, hown, HO, hbw⟩ := hrel
    obtain ⟨vo, vc, rfl⟩ := own_sl hown
    have Hown := Lib.hid hown
    have Hbw := Lib.hid hbw
    clear hown hbw
    by_cases hlt : k < n
    · have hkl : k < l.length := by rw [Hn.out]; exact hlt
      obtain rfl := Hao.out (by omega)
      obtain ⟨c0, c1⟩ := Hc.out k hkl
      have c0 := cell_kept Hbw.out c0
      have c1 := cell_kept Hbw.out c1
      have Hx := Lib.hid (Hf.out _ (List.getElem_mem hkl))
      have HT := Lib.hid (List.take_succ_eq_append_getElem hkl)
      obtain ⟨x, hx⟩ : ∃ x, l[k]'hkl = x := ⟨_, rfl⟩
      rw [hx] at c0 c1 Hx HT
      obtain ⟨x1, x2⟩ := x
      dsimp only at c0 c1 Hx
      have hi0 : (0 : Int) ≤ (k : Int) := by omega
      have hi1 : (k : Int) < (n : Int) := by omega
      clear hx
      go_wp2_with fail
      refine (refName_any x1 _ Hx.out.2).mono ?_
      rintro e w' ⟨rfl, rfl⟩
      have Hsl : Hid ((sortV (l.take k)).length = k) := by show _ = _; rw [sortV_len, List.length_take, Hn.out]; omega
      have HV : Hid (Vws wr (.slice vo k vc) (sortV (l.take k))) := by
        show Vws _ _ _
        have h := Hown.out
        have e : k = (sortV (l.take k)).length := Hsl.out.symm
        generalize hss : sortV (l.take k) = ss at h e ⊢
        subst e
        exact Vws.of_own h
      cases hnm : isName x1 with
      | false =>
        have Hno : Hid (¬ polOk l) := fun h => by
          have h2 := (polOk_take_of h (k + 1)).2.1 ⟨x1, x2⟩ (by rw [HT.out]; simp)
          rw [hnm] at h2; cases h2
        clear hnm
        go_wp2_with fail
        go_ret2
        exact ⟨Hbw.out, .inl ⟨Hno.out, rfl⟩⟩
      | true =>
        have Hnm := Lib.hid hnm
        clear hnm
        go_wp2_with fail
        go_loopw [6] (fun j wr2 => ∃ t : Nat, t ≤ k ∧ j = .int .i64 t ∧ Hid (∀ y ∈ (sortV (l.take k)).take t, y.key < x1.data.toList) ∧ ∃ q, wr2 = wr.drewN q) (fun j _ => k - (intOf j).toNat)
        case atStart => exact ⟨0, Nat.zero_le _, rfl, (fun y hy => by simp at hy), 0, rfl⟩
        case round =>
          obtain ⟨t, ht, rfl, HT2, q0, rfl⟩ := hrel
          by_cases htk : t < k
          · have hx0 : (t : Int) < (k : Int) := by omega
            have hx1 : (0 : Int) ≤ (t : Int) := by omega
            obtain ⟨g, cp, hov⟩ := Joins.ownsRow_form Hown.out (by omega)
            injection hov with e1 _ e3
            subst e1 e3
            have hcp := (own_capV Hown.out).1
            have hcz : ¬ t = vc := by omega
            have hcz2 : (t : Int) < (vc : Int) := by omega
            have hsl : t < (sortV (l.take k)).length := by rw [Hsl.out]; exact htk
            have d0 := (Hown.out.cellAt (t * 2) (by omega)).trans (flatV_get _ t hsl).1
            obtain ⟨y, hy⟩ : ∃ y, (sortV (l.take k))[t]'hsl = y := ⟨_, rfl⟩
            rw [hy] at d0
            obtain ⟨y1, y2⟩ := y
            dsimp only at d0
            have hyk := Lib.hid (show ((sortV (l.take k))[t]'hsl).key = y1.data.toList by rw [hy]; rfl)
            clear hy
            by_cases hle : y1.data.toList < x1.data.toList
            · have hb : Op.bytesLess y1.toList x1.toList = true := by rw [Lib.toList_data, Lib.toList_data, bytesLess_eq]; exact decide_eq_true hle
              have HT3 : Hid (∀ y ∈ (sortV (l.take k)).take (t + 1), y.key < x1.data.toList) := fun y hy => by
                rw [List.take_succ_eq_append_getElem hsl] at hy
                rcases List.mem_append.1 hy with hy | hy
                · exact HT2.out y hy
                · rw [List.mem_singleton] at hy; rw [hy, hyk.out]; exact hle
              clear hle
              go_wp2_with fail
              go_big_quiet (fail)
              go_wp2
              go_roundw
              case rel => exact ⟨t + 1, by omega, by go_num, HT3, _, by first | rfl | rw [World.drewN_drewN]⟩
              case measure => simp [intOf]; omega
            · have hb : Op.bytesLess y1.toList x1.toList = false := by rw [Lib.toList_data, Lib.toList_data, bytesLess_eq]; exact decide_eq_false hle
              have Hle := Lib.hid hle
              clear hle
              go_wp2_with fail
              go_big_quiet (fail)
              go_wp2_with fail
              by_cases heq : y1 = x1
              · have hbe : (y1.toList == x1.toList) = true := by rw [bytes_eq]; simp [heq]
                have Hno : Hid (¬ polOk l) := fun h => by
                  have h2 := polOk_take_of h (k + 1)
                  rw [HT.out] at h2
                  refine ((polOk_snoc HO.out (by rw [List.length_take]; have := Hn.out; omega)).1 h2).2 _ ((sortV_perm _).mem_iff.1 (List.getElem_mem hsl)) ?_
                  rw [hyk.out, heq]; rfl
                clear heq
                go_big_quiet (fail)
                go_wp2_with fail
                go_ret2
                exact ⟨by first | exact below_drewN (below_drewN (below_drewN Hbw.out _) _) _ | exact below_drewN (below_drewN Hbw.out _) _ | exact below_drewN Hbw.out _, .inl ⟨Hno.out, rfl⟩⟩
              · have hbe : (y1.toList == x1.toList) = false := by rw [bytes_eq]; simp [heq]
                have HE := Lib.hid heq
                clear heq
                go_big_quiet (fail)
                go_wp2_with (at_builtin; first
                  | (refine wpList_append_vws rfl _ _ rfl wr.heap.size (.slice none 0 0) 0 [] rfl (World.ownsRow_nil _ _ _ _) _ ((sortV (l.take k)).take t) rfl (Vws.kept (vws_front HV.out (by rw [Hsl.out]; omega)) (by first | exact below_drewN (Below.refl _ _) _ | exact below_drewN (below_drewN (Below.refl _ _) _) _ | exact below_drewN (below_drewN (below_drewN (Below.refl _ _) _) _) _ | exact Below.refl _ _)) (.inr ⟨_, _, _, rfl⟩) (by first | (rw [List.length_take, Hsl.out]; omega) | simp) (Nat.le_refl _) ?_
                     intro v1 w1 hown1 hg1
                     have Bq := Lib.hid (show Below wr.heap.size wr w1 from Below.grown (by first | exact below_drewN (Below.refl _ _) _ | exact below_drewN (below_drewN (Below.refl _ _) _) _ | exact below_drewN (below_drewN (below_drewN (Below.refl _ _) _) _) _ | exact Below.refl _ _) hg1 (Nat.le_refl _) (fun q hq => by cases hq))
                     have c0 := cell_kept Bq.out c0
                     have c1 := cell_kept Bq.out c1
                     rw [show ((sortV (l.take k)).take t).length = t by first | (rw [List.length_take, Hsl.out]; omega) | simp] at hown1
                     have Hown1 := Lib.hid hown1
                     clear hown1 hg1)
                  | (refine wpList_append_own _ rfl _ _ 22 rfl wr.heap.size 33 i0 _ 2 24 Tryz.underlying22 hi hz0 hz1 hz2 rfl (by decide) _ _ _ rfl (Hown1.out.alloc _) ⟨w1.heap.size, 0, none⟩ 1 1 (Vw.mk x1 x2).cells rfl rfl (two_cellV w1 ⟨x1, x2⟩ _) (vcells_plain ⟨x1, x2⟩) (by unfold maxLen; omega) (by omega) (by have := Bq.out.size; simp; omega) ?_
                     intro v2 w2 hown2 hg2 _
                     have Br := Lib.hid ((Bq.out.alloc Bq.out.size _).grown hg2 (by have := Bq.out.size; simp; omega) (fun q hq => (Hown1.out.lt q hq).1))
                     have Hown2 := Lib.hid hown2
                     clear hown2 hg2)
                  | (refine wpList_append_vws rfl _ _ rfl wr.heap.size _ (0 + t + 1) _ rfl Hown2.out _ ((sortV (l.take k)).drop t) rfl (Vws.kept (vws_back0 HV.out (by rw [Hsl.out]; exact htk)) Br.out) (.inr ⟨_, _, _, rfl⟩) (by first | (rw [List.length_drop, Hsl.out]; omega) | (rw [List.length_drop, Hsl.out])) Br.out.size ?_
                     intro v3 w3 hown3 hg3
                     have Bs := Lib.hid (Br.out.grown hg3 Br.out.size (fun q hq => (Hown2.out.lt q hq).1))
                     have Hown3 := Lib.hid hown3
                     clear hown3 hg3))
                go_roundw
                case rel =>
                  have hin := ins_at ⟨x1, x2⟩ (sortV (l.take k)) t (by rw [Hsl.out]; omega) HT2.out (fun h hk => Hle.out (by rw [← hyk.out]; exact hk))
                  have hun := uniq_at (x := ⟨x1, x2⟩) (sortV_rising HO.out.2.2) HT2.out (fun h => by rw [hyk.out]; exact lt_or Hle.out (fun e => HE.out (ByteArray.ext (Array.toList_inj.1 e))))
                  refine ⟨k + 1, by omega, by go_num, ?_, ?_, ?_⟩
                  · have h3 := Hown3.out
                    have e1 : 0 + t + 1 + ((sortV (l.take k)).drop t).length = k + 1 := by first | (rw [List.length_drop, Hsl.out]; omega) | (rw [List.length_drop, Hsl.out])
                    rw [e1] at h3
                    have e2 : [] ++ flatV ((sortV (l.take k)).take t) ++ (Vw.mk x1 x2).cells ++ flatV ((sortV (l.take k)).drop t) = flatV (sortV (l.take (k + 1))) := by
                      rw [HT.out, sortV_snoc, hin, flatV_append, List.nil_append, List.append_assoc]
                      rfl
                    rw [← e2]
                    exact own_base h3 Hbw.out.size
                  · show polOk _
                    rw [HT.out]
                    refine (polOk_snoc HO.out (by rw [List.length_take]; have := Hn.out; omega)).2 ⟨Hnm.out, fun y hy => hun y ((sortV_perm _).mem_iff.2 hy)⟩
                  · exact below_join Hbw.out Bs.out
                case measure => simp [intOf]; omega
          · have hkt : t = k := by omega
            have hnlt : ¬ (t : Int) < (k : Int) := by omega
            rcases Joins.ownsRow_forms Hown.out with ⟨hv, hk0⟩ | ⟨g, cp, hv⟩
            · injection hv with e1 _ e3
              subst e1 e3 hk0
              subst hkt
              simp only [Nat.zero_mul, Nat.add_zero] at c0 c1
              go_wp2_with fail
              go_quiet (fail)
              go_wp2_with fail
              go_quiet (fail)
              go_wp2_with (at_builtin; first
                | (refine wpList_append_vws rfl _ _ rfl wr.heap.size (.slice none 0 0) 0 [] rfl (World.ownsRow_nil _ _ _ _) _ ((sortV (l.take 0)).take 0) rfl (Vws.kept (vws_front HV.out (by rw [Hsl.out]; omega)) (by first | exact below_drewN (Below.refl _ _) _ | exact below_drewN (below_drewN (Below.refl _ _) _) _ | exact below_drewN (below_drewN (below_drewN (Below.refl _ _) _) _) _ | exact Below.refl _ _)) (.inl rfl) (by first | (rw [List.length_take, Hsl.out]; omega) | simp) (Nat.le_refl _) ?_
                   intro v1 w1 hown1 hg1
                   have Bq := Lib.hid (show Below wr.heap.size wr w1 from Below.grown (by first | exact below_drewN (Below.refl _ _) _ | exact below_drewN (below_drewN (Below.refl _ _) _) _ | exact below_drewN (below_drewN (below_drewN (Below.refl _ _) _) _) _ | exact Below.refl _ _) hg1 (Nat.le_refl _) (fun q hq => by cases hq))
                   have c0 := cell_kept Bq.out c0
                   have c1 := cell_kept Bq.out c1
                   rw [show ((sortV (l.take 0)).take 0).length = 0 by first | (rw [List.length_take, Hsl.out]; omega) | simp] at hown1
                   have Hown1 := Lib.hid hown1
                   clear hown1 hg1)
                | (refine wpList_append_own _ rfl _ _ 22 rfl wr.heap.size 33 i0 _ 2 24 Tryz.underlying22 hi hz0 hz1 hz2 rfl (by decide) _ _ _ rfl (Hown1.out.alloc _) ⟨w1.heap.size, 0, none⟩ 1 1 (Vw.mk x1 x2).cells rfl rfl (two_cellV w1 ⟨x1, x2⟩ _) (vcells_plain ⟨x1, x2⟩) (by unfold maxLen; omega) (by omega) (by have := Bq.out.size; simp; omega) ?_
                   intro v2 w2 hown2 hg2 _
                   have Br := Lib.hid ((Bq.out.alloc Bq.out.size _).grown hg2 (by have := Bq.out.size; simp; omega) (fun q hq => (Hown1.out.lt q hq).1))
                   have Hown2 := Lib.hid hown2
                   clear hown2 hg2)
                | (refine wpList_append_vws rfl _ _ rfl wr.heap.size _ (0 + 0 + 1) _ rfl Hown2.out _ ((sortV (l.take 0)).drop 0) rfl (Vws.kept (vws_end (by rw [Hsl.out]; exact Nat.le_refl _)) Br.out) (.inl rfl) (by first | (rw [List.length_drop, Hsl.out]; omega) | (rw [List.length_drop, Hsl.out])) Br.out.size ?_
                   intro v3 w3 hown3 hg3
                   have Bs := Lib.hid (Br.out.grown hg3 Br.out.size (fun q hq => (Hown2.out.lt q hq).1))
                   have Hown3 := Lib.hid hown3
                   clear hown3 hg3))
              go_roundw
              case rel =>
                have hin := ins_at ⟨x1, x2⟩ (sortV (l.take 0)) 0 (by rw [Hsl.out]; omega) HT2.out (fun h => by rw [Hsl.out] at h; exact absurd h (by omega))
                have hun := uniq_at (x := ⟨x1, x2⟩) (sortV_rising HO.out.2.2) HT2.out (fun h => by rw [Hsl.out] at h; exact absurd h (by omega))
                refine ⟨0 + 1, by omega, by go_num, ?_, ?_, ?_⟩
                · have h3 := Hown3.out
                  have e1 : 0 + 0 + 1 + ((sortV (l.take 0)).drop 0).length = 0 + 1 := by first | (rw [List.length_drop, Hsl.out]; omega) | (rw [List.length_drop, Hsl.out])
                  rw [e1] at h3
                  have e2 : [] ++ flatV ((sortV (l.take 0)).take 0) ++ (Vw.mk x1 x2).cells ++ flatV ((sortV (l.take 0)).drop 0) = flatV (sortV (l.take (0 + 1))) := by
                    rw [HT.out, sortV_snoc, hin, flatV_append, List.nil_append, List.append_assoc]
                    rfl
                  rw [← e2]
                  exact own_base h3 Hbw.out.size
                · show polOk _
                  rw [HT.out]
                  refine (polOk_snoc HO.out (by rw [List.length_take]; have := Hn.out; omega)).2 ⟨Hnm.out, fun y hy => hun y ((sortV_perm _).mem_iff.2 hy)⟩
                · exact below_join Hbw.out Bs.out
              case measure => simp [intOf]; omega
            · injection hv with e1 _ e3
              subst e1 e3
              subst hkt
              have hcp := (own_capV Hown.out).1
              by_cases hkc : t = vc
              · subst hkc
                go_wp2_with fail
                go_quiet (fail)
                go_wp2_with fail
                go_quiet (fail)
                go_wp2_with (at_builtin; first
                  | (refine wpList_append_vws rfl _ _ rfl wr.heap.size (.slice none 0 0) 0 [] rfl (World.ownsRow_nil _ _ _ _) _ ((sortV (l.take t)).take t) rfl (Vws.kept (vws_front HV.out (by rw [Hsl.out]; omega)) (by first | exact below_drewN (Below.refl _ _) _ | exact below_drewN (below_drewN (Below.refl _ _) _) _ | exact below_drewN (below_drewN (below_drewN (Below.refl _ _) _) _) _ | exact Below.refl _ _)) (.inr ⟨_, _, _, rfl⟩) (by first | (rw [List.length_take, Hsl.out]; omega) | simp) (Nat.le_refl _) ?_
                     intro v1 w1 hown1 hg1
                     have Bq := Lib.hid (show Below wr.heap.size wr w1 from Below.grown (by first | exact below_drewN (Below.refl _ _) _ | exact below_drewN (below_drewN (Below.refl _ _) _) _ | exact below_drewN (below_drewN (below_drewN (Below.refl _ _) _) _) _ | exact Below.refl _ _) hg1 (Nat.le_refl _) (fun q hq => by cases hq))
                     have c0 := cell_kept Bq.out c0
                     have c1 := cell_kept Bq.out c1
                     rw [show ((sortV (l.take t)).take t).length = t by first | (rw [List.length_take, Hsl.out]; omega) | simp] at hown1
                     have Hown1 := Lib.hid hown1
                     clear hown1 hg1)
                  | (refine wpList_append_own _ rfl _ _ 22 rfl wr.heap.size 33 i0 _ 2 24 Tryz.underlying22 hi hz0 hz1 hz2 rfl (by decide) _ _ _ rfl (Hown1.out.alloc _) ⟨w1.heap.size, 0, none⟩ 1 1 (Vw.mk x1 x2).cells rfl rfl (two_cellV w1 ⟨x1, x2⟩ _) (vcells_plain ⟨x1, x2⟩) (by unfold maxLen; omega) (by omega) (by have := Bq.out.size; simp; omega) ?_
                     intro v2 w2 hown2 hg2 _
                     have Br := Lib.hid ((Bq.out.alloc Bq.out.size _).grown hg2 (by have := Bq.out.size; simp; omega) (fun q hq => (Hown1.out.lt q hq).1))
                     have Hown2 := Lib.hid hown2
                     clear hown2 hg2)
                  | (refine wpList_append_vws rfl _ _ rfl wr.heap.size _ (0 + t + 1) _ rfl Hown2.out _ ((sortV (l.take t)).drop t) rfl (Vws.kept (vws_end (by rw [Hsl.out]; exact Nat.le_refl _)) Br.out) (.inr ⟨_, _, _, rfl⟩) (by first | (rw [List.length_drop, Hsl.out]; omega) | (rw [List.length_drop, Hsl.out])) Br.out.size ?_
                     intro v3 w3 hown3 hg3
                     have Bs := Lib.hid (Br.out.grown hg3 Br.out.size (fun q hq => (Hown2.out.lt q hq).1))
                     have Hown3 := Lib.hid hown3
                     clear hown3 hg3))
                go_roundw
                case rel =>
                  have hin := ins_at ⟨x1, x2⟩ (sortV (l.take t)) t (by rw [Hsl.out]; omega) HT2.out (fun h => by rw [Hsl.out] at h; exact absurd h (by omega))
                  have hun := uniq_at (x := ⟨x1, x2⟩) (sortV_rising HO.out.2.2) HT2.out (fun h => by rw [Hsl.out] at h; exact absurd h (by omega))
                  refine ⟨t + 1, by omega, by go_num, ?_, ?_, ?_⟩
                  · have h3 := Hown3.out
                    have e1 : 0 + t + 1 + ((sortV (l.take t)).drop t).length = t + 1 := by first | (rw [List.length_drop, Hsl.out]; omega) | (rw [List.length_drop, Hsl.out])
                    rw [e1] at h3
                    have e2 : [] ++ flatV ((sortV (l.take t)).take t) ++ (Vw.mk x1 x2).cells ++ flatV ((sortV (l.take t)).drop t) = flatV (sortV (l.take (t + 1))) := by
                      rw [HT.out, sortV_snoc, hin, flatV_append, List.nil_append, List.append_assoc]
                      rfl
                    rw [← e2]
                    exact own_base h3 Hbw.out.size
                  · show polOk _
                    rw [HT.out]
                    refine (polOk_snoc HO.out (by rw [List.length_take]; have := Hn.out; omega)).2 ⟨Hnm.out, fun y hy => hun y ((sortV_perm _).mem_iff.2 hy)⟩
                  · exact below_join Hbw.out Bs.out
                case measure => simp [intOf]; omega
              · have hcz2 : (t : Int) < (vc : Int) := by omega
                have hcz3 : (t : Int) ≤ (vc : Int) := by omega
                go_wp2_with fail
                go_quiet (fail)
                go_wp2_with fail
                go_quiet (fail)
                go_wp2_with (at_builtin; first
                  | (refine wpList_append_vws rfl _ _ rfl wr.heap.size (.slice none 0 0) 0 [] rfl (World.ownsRow_nil _ _ _ _) _ ((sortV (l.take t)).take t) rfl (Vws.kept (vws_front HV.out (by rw [Hsl.out]; omega)) (by first | exact below_drewN (Below.refl _ _) _ | exact below_drewN (below_drewN (Below.refl _ _) _) _ | exact below_drewN (below_drewN (below_drewN (Below.refl _ _) _) _) _ | exact Below.refl _ _)) (.inr ⟨_, _, _, rfl⟩) (by first | (rw [List.length_take, Hsl.out]; omega) | simp) (Nat.le_refl _) ?_
                     intro v1 w1 hown1 hg1
                     have Bq := Lib.hid (show Below wr.heap.size wr w1 from Below.grown (by first | exact below_drewN (Below.refl _ _) _ | exact below_drewN (below_drewN (Below.refl _ _) _) _ | exact below_drewN (below_drewN (below_drewN (Below.refl _ _) _) _) _ | exact Below.refl _ _) hg1 (Nat.le_refl _) (fun q hq => by cases hq))
                     have c0 := cell_kept Bq.out c0
                     have c1 := cell_kept Bq.out c1
                     rw [show ((sortV (l.take t)).take t).length = t by first | (rw [List.length_take, Hsl.out]; omega) | simp] at hown1
                     have Hown1 := Lib.hid hown1
                     clear hown1 hg1)
                  | (refine wpList_append_own _ rfl _ _ 22 rfl wr.heap.size 33 i0 _ 2 24 Tryz.underlying22 hi hz0 hz1 hz2 rfl (by decide) _ _ _ rfl (Hown1.out.alloc _) ⟨w1.heap.size, 0, none⟩ 1 1 (Vw.mk x1 x2).cells rfl rfl (two_cellV w1 ⟨x1, x2⟩ _) (vcells_plain ⟨x1, x2⟩) (by unfold maxLen; omega) (by omega) (by have := Bq.out.size; simp; omega) ?_
                     intro v2 w2 hown2 hg2 _
                     have Br := Lib.hid ((Bq.out.alloc Bq.out.size _).grown hg2 (by have := Bq.out.size; simp; omega) (fun q hq => (Hown1.out.lt q hq).1))
                     have Hown2 := Lib.hid hown2
                     clear hown2 hg2)
                  | (refine wpList_append_vws rfl _ _ rfl wr.heap.size _ (0 + t + 1) _ rfl Hown2.out _ ((sortV (l.take t)).drop t) rfl (Vws.kept (vws_end (by rw [Hsl.out]; exact Nat.le_refl _)) Br.out) (.inr ⟨_, _, _, rfl⟩) (by first | (rw [List.length_drop, Hsl.out]; omega) | (rw [List.length_drop, Hsl.out])) Br.out.size ?_
                     intro v3 w3 hown3 hg3
                     have Bs := Lib.hid (Br.out.grown hg3 Br.out.size (fun q hq => (Hown2.out.lt q hq).1))
                     have Hown3 := Lib.hid hown3
                     clear hown3 hg3))
                go_roundw
                case rel =>
                  have hin := ins_at ⟨x1, x2⟩ (sortV (l.take t)) t (by rw [Hsl.out]; omega) HT2.out (fun h => by rw [Hsl.out] at h; exact absurd h (by omega))
                  have hun := uniq_at (x := ⟨x1, x2⟩) (sortV_rising HO.out.2.2) HT2.out (fun h => by rw [Hsl.out] at h; exact absurd h (by omega))
                  refine ⟨t + 1, by omega, by go_num, ?_, ?_, ?_⟩
                  · have h3 := Hown3.out
                    have e1 : 0 + t + 1 + ((sortV (l.take t)).drop t).length = t + 1 := by first | (rw [List.length_drop, Hsl.out]; omega) | (rw [List.length_drop, Hsl.out])
                    rw [e1] at h3
                    have e2 : [] ++ flatV ((sortV (l.take t)).take t) ++ (Vw.mk x1 x2).cells ++ flatV ((sortV (l.take t)).drop t) = flatV (sortV (l.take (t + 1))) := by
                      rw [HT.out, sortV_snoc, hin, flatV_append, List.nil_append, List.append_assoc]
                      rfl
                    rw [← e2]
                    exact own_base h3 Hbw.out.size
                  · show polOk _
                    rw [HT.out]
                    refine (polOk_snoc HO.out (by rw [List.length_take]; have := Hn.out; omega)).2 ⟨Hnm.out, fun y hy => hun y ((sortV_perm _).mem_iff.2 hy)⟩
                  · exact below_join Hbw.out Bs.out
                case measure => simp [intOf]; omega
    · obtain rfl : n = k := by omega
      have HA : Hid (l.take n = l) := List.take_of_length_le (by rw [Hn.out]; exact Nat.le_refl _)
      have HO2 := Lib.hid (show polOk l by rw [← HA.out]; exact HO.out)
      have HV2 : Hid (wr.ownsRow w.heap.size 33 2 (.slice vo n vc) n (flatV (sortV l))) := by
        have h := Hown.out
        rw [HA.out] at h
        exact h
      go_wp2_with fail
      go_ret2
      exact ⟨Hbw.out, .inr ⟨HO2.out, _, rfl, HV2.out⟩⟩
end Go.Proofs.YtajjikbigacbaaaGreatDoor
