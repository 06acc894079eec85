/- Own work: policy.told at viewers, labels, texts: whatever is asked. -/
import Derived.Test.YtajjikbigacbaaaGreatDoorVws
import Derived.Test.YtajjikbigacbaaaGreatDoorLabBase
import Derived.Shelf.Abstract
namespace Go.Proofs.YtajjikbigacbaaaGreatDoor
open Go.RowKit Go.Maps Go.Shelf

/-- what a closure says of a viewer -/
def Asks (g : Nat) (lb : Array Value) (enc : Vw → Value) (is : Vw → Bool) (vs : List Vw) (w : World) : Prop :=
  ∀ W v, Below w.heap.size w W → v ∈ vs → Calls Tryz.prog g (#[.agg #[.string v.nm, .int .u64 (v.lab : Int)]] ++ lb) W fun e W' => e = .returned (.tuple #[enc v, .bool (is v)]) ∧ Below W.heap.size W W'
def takeF (is : Vw → Bool) (vs : List Vw) (k : Nat) : List Vw := (vs.take k).filter is
theorem takeF_yes {is : Vw → Bool} {vs : List Vw} {k : Nat} (h : k < vs.length) (hi : is (vs[k]'h) = true) : takeF is vs (k + 1) = takeF is vs k ++ [vs[k]'h] := by
  rw [takeF, List.take_succ_eq_append_getElem h, List.filter_append, takeF]
  simp [hi]
theorem takeF_no {is : Vw → Bool} {vs : List Vw} {k : Nat} (h : k < vs.length) (hi : is (vs[k]'h) = false) : takeF is vs (k + 1) = takeF is vs k := by
  rw [takeF, List.take_succ_eq_append_getElem h, List.filter_append, takeF]
  simp [hi]
theorem takeF_len (is : Vw → Bool) (vs : List Vw) (k : Nat) : (takeF is vs k).length ≤ k :=
  Nat.le_trans (List.length_filter_le _ _) (List.length_take_le _ _)
theorem takeF_all (is : Vw → Bool) (vs : List Vw) : takeF is vs vs.length = vs.filter is := by rw [takeF, List.take_length]

theorem two_cellV2 (w : World) (b : Nat) (x : Vw) (t : TypeId) (hb : b = w.heap.size) : ∀ (i : Nat) (u : Value), x.cells[i]? = some u → (w.alloc (.cells #[.string x.nm, .int .u64 (x.lab : Int)] t)).cell? ((⟨b, 0, none⟩ : Addr).add i) = some u := by
  subst hb
  exact two_cellV w x t

set_option maxHeartbeats 8000000 in
set_option maxRecDepth 100000 in
theorem toldV_any (g : Nat) (lb : Array Value) (eg : ∀ args w, (callFunc g args).run Tryz.prog w = .ok (.enter g args) w) (is : Vw → Bool) (p : Value) (vs : List Vw) (w : World) (hp : Pol w p vs)
    (hask : Asks g lb (fun v => .agg #[.string v.nm, .int .u64 (v.lab : Int)]) is vs w) :
    Calls Tryz.prog 47 #[p, .func (.func g) #[] lb] w fun e w' => ∃ u, e = .returned u ∧ w'.ownsRow w.heap.size 33 2 u (vs.filter is).length (flatV (vs.filter is)) ∧ Below w.heap.size w w' := by
  obtain ⟨i0, hi, hz0, hz1, hz2⟩ := info_parts Tryz.info33
  obtain ⟨b, nv, mb, nn, D, rfl, hb, hnv, hm, ht, hr, hok, hfit⟩ := hp
  obtain ⟨n, hn⟩ : ∃ n, vs.length = n := ⟨_, rfl⟩
  have hn64 : n ≤ 64 := by rw [← hn]; exact hok.1
  have Hn := Lib.hid hn
  have Ht := Lib.hid ht
  have Hm := Lib.hid hm
  have Hask := Lib.hid hask
  have Hfit := Lib.hid hfit
  obtain ⟨ao, cap, bn, on, rfl, hao, hml, hc⟩ := hnv.form
  rw [List.length_map, hn] at hao hml
  have Hao := Lib.hid hao
  have Hc := Lib.hid hc
  have hl : (vs.map Vw.nm).length = n := by rw [List.length_map, hn]
  rw [hl] at hb
  have Hb := Lib.hid hb
  have c0 := cell_of_row _ _ 0 _ _ _ hb
  have Hl := Lib.hid hl
  clear hn hb ht hm hr hok hfit hask hao hc hl hnv
  go_enter Tryz.func47, Tryz.ntmps47
  go_wp2_with fail
  clear c0
  go_loopw [5, 17] (fun u i wr => ∃ k : Nat, k ≤ n ∧ i = .int .i64 k ∧ wr.ownsRow w.heap.size 33 2 u (takeF is vs k).length (flatV (takeF is vs k)) ∧ Below w.heap.size w wr) (fun _ i _ => n - (intOf i).toNat)
  case atStart => exact ⟨0, Nat.zero_le _, rfl, World.ownsRow_nil _ _ _ _, Below.refl _ _⟩
  case round =>
    obtain ⟨k, hk, rfl, hown, hbw⟩ := hrel
    have Hown := Lib.hid hown
    have Hbw := Lib.hid hbw
    clear hown hbw
    by_cases hlt : k < n
    · have hkv : k < vs.length := by rw [Hn.out]; exact hlt
      obtain rfl := Hao.out (by omega)
      have ck := cell_kept Hbw.out (Hc.out k (by rw [Hl.out]; exact hlt))
      rw [List.getElem_map] at ck
      have c1 := cell_kept Hbw.out (cell_of_row _ _ 1 _ _ _ Hb.out)
      have hmk := map_kept Hm.out Hbw.out
      obtain ⟨v, hv⟩ : ∃ v, vs[k]'hkv = v := ⟨_, rfl⟩
      rw [hv] at ck
      have Hv := Lib.hid hv
      have hvm : v ∈ vs := by rw [← hv]; exact List.getElem_mem hkv
      have hat := Ht.out.2 v hvm
      have hvs := Hfit.out v hvm
      have hask := fun W (hbW : Below w.heap.size w W) => Hask.out W v hbW hvm
      have hz : (zeroValue 24).run Tryz.prog wr = .ok (.int .u64 0) wr := Tryz.zeroValue24 wr
      have hi0 : (0 : Int) ≤ (k : Int) := by omega
      have hi1 : (k : Int) < (n : Int) := by omega
      clear hv
      go_wp2_with (at_lookup; refine wpList_lookup_own_int _ rfl _ _ 85 rfl 9 24 .u64 keyed Tryz.underlying85 Tryz.underlying24 hz mb nn D rfl hmk _ _ rfl (key_of hvs.2) ?_; intro c hc' _; obtain rfl := lit_at (hat.symm.trans hc'))
      refine (hask _ Hbw.out).mono ?_
      rintro e w2 ⟨rfl, hb2⟩
      have B2 := Lib.hid (Hbw.out.trans (hb2.mono Hbw.out.size))
      have Ho2 := Lib.hid (own_kept Hown.out hb2)
      clear hb2 hask hmk ck c1 hat
      cases his : is v with
      | true =>
        have Htk := Lib.hid (takeF_yes hkv ((congrArg is Hv.out).trans his))
        rw [Hv.out] at Htk
        have htl := takeF_len is vs k
        obtain ⟨m, hm'⟩ : ∃ m, (takeF is vs k).length = m := ⟨_, rfl⟩
        have Hm' := Lib.hid hm'
        have ho2 := Ho2.out
        rw [hm'] at htl ho2
        have Ho3 := Lib.hid ho2
        clear hm' ho2 his
        go_wp2_with (at_builtin; refine wpList_append_own _ rfl _ _ 22 rfl w.heap.size 33 i0 _ 2 24 Tryz.underlying22 hi hz0 hz1 hz2 rfl (by decide) _ _ _ rfl ((Ho3.out.alloc _).alloc _) ⟨w2.heap.size + 1, 0, none⟩ 1 1 v.cells rfl rfl ?d2 ?d3 ?d4 ?d5 ?d6 ?_)
        case d2 => exact two_cellV2 _ _ v _ (by simp)
        case d3 => intro y hy; exact flatV_plain [v] y (by rw [flatV_one]; exact hy)
        case d4 => unfold maxLen; omega
        case d5 => omega
        case d6 => simp; have := B2.out.size; omega
        intro v3 w3 hown3 hgrow3 _
        have B3 := Lib.hid (((B2.out.alloc B2.out.size _).alloc (by simp; have := B2.out.size; omega) _).grown hgrow3 (by simp; have := B2.out.size; omega) (fun q hq => (Ho3.out.lt q hq).1))
        have Ho4 := Lib.hid (show w3.ownsRow w.heap.size 33 2 v3 (takeF is vs (k + 1)).length (flatV (takeF is vs (k + 1))) by
          rw [Htk.out, List.length_append, Hm'.out, flatV_append, flatV_one]; exact hown3)
        clear hown3 hgrow3
        go_wp2_with fail
        go_roundw
        case rel => exact ⟨k + 1, by omega, by go_num, Ho4.out, B3.out⟩
        case measure => simp [intOf]; omega
      | false =>
        have Htk := Lib.hid (takeF_no hkv ((congrArg is Hv.out).trans his))
        clear his
        go_wp2_with fail
        go_roundw
        case rel => exact ⟨k + 1, by omega, by go_num, by rw [Htk.out]; exact Ho2.out.alloc _, B2.out.alloc B2.out.size _⟩
        case measure => simp [intOf]; omega
    · obtain rfl : k = n := by omega
      have Hfin : Hid (takeF is vs k = vs.filter is) := by
        show _ = _
        rw [← Hn.out, takeF_all]
      go_wp2_with fail
      go_ret
      exact ⟨_, rfl, by rw [← Hfin.out]; exact Hown.out, Hbw.out⟩
end Go.Proofs.YtajjikbigacbaaaGreatDoor
/- Own work: policy.told at texts and at labels. -/
namespace Go.Proofs.YtajjikbigacbaaaGreatDoor
open Go.RowKit Go.Maps Go.Shelf

theorem one_cellP (w : World) (v : Value) (t : TypeId) : ∀ (i : Nat) (u : Value), [v][i]? = some u → (w.alloc (.cells #[v] t)).cell? ((⟨w.heap.size, 0, none⟩ : Addr).add i) = some u := by
  intro i u hu
  rw [addr_add, Nat.zero_add, cell_of_row _ _ _ _ _ _ (heap_alloc_new w _)]
  simpa using hu
theorem Tryz.info24 : (Tryz.prog.info? 24).map (fun i => (i.zero, i.size, i.bytes)) = some (some (.int .u64 0), 1, 8) := by kernel_rfl

set_option maxHeartbeats 8000000 in
set_option maxRecDepth 100000 in
theorem toldS_any (g : Nat) (lb : Array Value) (eg : ∀ args w, (callFunc g args).run Tryz.prog w = .ok (.enter g args) w) (f : Vw → ByteArray) (is : Vw → Bool) (p : Value) (vs : List Vw) (w : World) (hp : Pol w p vs)
    (hask : Asks g lb (fun v => .string (f v)) is vs w) :
    Calls Tryz.prog 66 #[p, .func (.func g) #[] lb] w fun e w' => ∃ u, e = .returned u ∧ w'.ownsRow w.heap.size 9 1 u (vs.filter is).length (((vs.filter is).map fun v => Value.string (f v))) ∧ Below w.heap.size w w' := by
  obtain ⟨i0, hi, hz0, hz1, hz2⟩ := info_parts Tryz.info9
  obtain ⟨b, nv, mb, nn, D, rfl, hb, hnv, hm, ht, hr, hok, hfit⟩ := hp
  obtain ⟨n, hn⟩ : ∃ n, vs.length = n := ⟨_, rfl⟩
  have hn64 : n ≤ 64 := by rw [← hn]; exact hok.1
  have Hn := Lib.hid hn
  have Ht := Lib.hid ht
  have Hm := Lib.hid hm
  have Hask := Lib.hid hask
  have Hfit := Lib.hid hfit
  obtain ⟨ao, cap, bn, on, rfl, hao, hml, hc⟩ := hnv.form
  rw [List.length_map, hn] at hao hml
  have Hao := Lib.hid hao
  have Hc := Lib.hid hc
  have hl : (vs.map Vw.nm).length = n := by rw [List.length_map, hn]
  rw [hl] at hb
  have Hb := Lib.hid hb
  have c0 := cell_of_row _ _ 0 _ _ _ hb
  have Hl := Lib.hid hl
  clear hn hb ht hm hr hok hfit hask hao hc hl hnv
  go_enter Tryz.func66, Tryz.ntmps66
  go_wp2_with fail
  clear c0
  go_loopw [5, 17] (fun u i wr => ∃ k : Nat, k ≤ n ∧ i = .int .i64 k ∧ wr.ownsRow w.heap.size 9 1 u (takeF is vs k).length (((takeF is vs k).map fun v => Value.string (f v))) ∧ Below w.heap.size w wr) (fun _ i _ => n - (intOf i).toNat)
  case atStart => exact ⟨0, Nat.zero_le _, rfl, World.ownsRow_nil _ _ _ _, Below.refl _ _⟩
  case round =>
    obtain ⟨k, hk, rfl, hown, hbw⟩ := hrel
    have Hown := Lib.hid hown
    have Hbw := Lib.hid hbw
    clear hown hbw
    by_cases hlt : k < n
    · have hkv : k < vs.length := by rw [Hn.out]; exact hlt
      obtain rfl := Hao.out (by omega)
      have ck := cell_kept Hbw.out (Hc.out k (by rw [Hl.out]; exact hlt))
      rw [List.getElem_map] at ck
      have c1 := cell_kept Hbw.out (cell_of_row _ _ 1 _ _ _ Hb.out)
      have hmk := map_kept Hm.out Hbw.out
      obtain ⟨v, hv⟩ : ∃ v, vs[k]'hkv = v := ⟨_, rfl⟩
      rw [hv] at ck
      have Hv := Lib.hid hv
      have hvm : v ∈ vs := by rw [← hv]; exact List.getElem_mem hkv
      have hat := Ht.out.2 v hvm
      have hvs := Hfit.out v hvm
      have hask := fun W (hbW : Below w.heap.size w W) => Hask.out W v hbW hvm
      have hz : (zeroValue 24).run Tryz.prog wr = .ok (.int .u64 0) wr := Tryz.zeroValue24 wr
      have hi0 : (0 : Int) ≤ (k : Int) := by omega
      have hi1 : (k : Int) < (n : Int) := by omega
      clear hv
      go_wp2_with (at_lookup; refine wpList_lookup_own_int _ rfl _ _ 85 rfl 9 24 .u64 keyed Tryz.underlying85 Tryz.underlying24 hz mb nn D rfl hmk _ _ rfl (key_of hvs.2) ?_; intro c hc' _; obtain rfl := lit_at (hat.symm.trans hc'))
      refine (hask _ Hbw.out).mono ?_
      rintro e w2 ⟨rfl, hb2⟩
      have B2 := Lib.hid (Hbw.out.trans (hb2.mono Hbw.out.size))
      have Ho2 := Lib.hid (own_kept Hown.out hb2)
      clear hb2 hask hmk ck c1 hat
      cases his : is v with
      | true =>
        have Htk := Lib.hid (takeF_yes hkv ((congrArg is Hv.out).trans his))
        rw [Hv.out] at Htk
        have htl := takeF_len is vs k
        obtain ⟨m, hm'⟩ : ∃ m, (takeF is vs k).length = m := ⟨_, rfl⟩
        have Hm' := Lib.hid hm'
        have ho2 := Ho2.out
        rw [hm'] at htl ho2
        have Ho3 := Lib.hid ho2
        clear hm' ho2 his
        go_wp2_with (at_builtin; refine wpList_append_own _ rfl _ _ 40 rfl w.heap.size 9 i0 (.string ⟨#[]⟩) 1 16 Tryz.underlying40 hi hz0 hz1 hz2 rfl (by decide) _ _ _ rfl (Ho3.out.alloc _) ⟨w2.heap.size, 0, none⟩ 1 1 [.string (f v)] rfl rfl ?d2 ?d3 ?d4 ?d5 ?d6 ?_)
        case d2 => exact one_cellP _ _ _
        case d3 => intro y hy; rw [List.mem_singleton] at hy; rw [hy]; rfl
        case d4 => unfold maxLen; omega
        case d5 => omega
        case d6 => simp; have := B2.out.size; omega
        intro v3 w3 hown3 hgrow3 _
        have B3 := Lib.hid ((B2.out.alloc B2.out.size _).grown hgrow3 (by simp; have := B2.out.size; omega) (fun q hq => (Ho3.out.lt q hq).1))
        have Ho4 := Lib.hid (show w3.ownsRow w.heap.size 9 1 v3 (takeF is vs (k + 1)).length (((takeF is vs (k + 1)).map fun v => Value.string (f v))) by
          rw [Htk.out, List.length_append, Hm'.out, List.map_append, List.map_singleton]; exact hown3)
        clear hown3 hgrow3
        go_wp2_with fail
        go_roundw
        case rel => exact ⟨k + 1, by omega, by go_num, Ho4.out, B3.out⟩
        case measure => simp [intOf]; omega
      | false =>
        have Htk := Lib.hid (takeF_no hkv ((congrArg is Hv.out).trans his))
        clear his
        go_wp2_with fail
        go_roundw
        case rel => exact ⟨k + 1, by omega, by go_num, by rw [Htk.out]; exact Ho2.out, B2.out⟩
        case measure => simp [intOf]; omega
    · obtain rfl : k = n := by omega
      have Hfin : Hid (takeF is vs k = vs.filter is) := by
        show _ = _
        rw [← Hn.out, takeF_all]
      go_wp2_with fail
      go_ret
      exact ⟨_, rfl, by rw [← Hfin.out]; exact Hown.out, Hbw.out⟩
set_option maxHeartbeats 8000000 in
set_option maxRecDepth 100000 in
theorem toldL_any (g : Nat) (lb : Array Value) (eg : ∀ args w, (callFunc g args).run Tryz.prog w = .ok (.enter g args) w) (is : Vw → Bool) (p : Value) (vs : List Vw) (w : World) (hp : Pol w p vs)
    (hask : Asks g lb (fun v => .int .u64 (v.lab : Int)) is vs w) :
    Calls Tryz.prog 62 #[p, .func (.func g) #[] lb] w fun e w' => ∃ u, e = .returned u ∧ w'.ownsRow w.heap.size 24 1 u (vs.filter is).length (((vs.filter is).map fun v => Value.int .u64 (v.lab : Int))) ∧ Below w.heap.size w w' := by
  obtain ⟨i0, hi, hz0, hz1, hz2⟩ := info_parts Tryz.info24
  obtain ⟨b, nv, mb, nn, D, rfl, hb, hnv, hm, ht, hr, hok, hfit⟩ := hp
  obtain ⟨n, hn⟩ : ∃ n, vs.length = n := ⟨_, rfl⟩
  have hn64 : n ≤ 64 := by rw [← hn]; exact hok.1
  have Hn := Lib.hid hn
  have Ht := Lib.hid ht
  have Hm := Lib.hid hm
  have Hask := Lib.hid hask
  have Hfit := Lib.hid hfit
  obtain ⟨ao, cap, bn, on, rfl, hao, hml, hc⟩ := hnv.form
  rw [List.length_map, hn] at hao hml
  have Hao := Lib.hid hao
  have Hc := Lib.hid hc
  have hl : (vs.map Vw.nm).length = n := by rw [List.length_map, hn]
  rw [hl] at hb
  have Hb := Lib.hid hb
  have c0 := cell_of_row _ _ 0 _ _ _ hb
  have Hl := Lib.hid hl
  clear hn hb ht hm hr hok hfit hask hao hc hl hnv
  go_enter Tryz.func62, Tryz.ntmps62
  go_wp2_with fail
  clear c0
  go_loopw [5, 17] (fun u i wr => ∃ k : Nat, k ≤ n ∧ i = .int .i64 k ∧ wr.ownsRow w.heap.size 24 1 u (takeF is vs k).length (((takeF is vs k).map fun v => Value.int .u64 (v.lab : Int))) ∧ Below w.heap.size w wr) (fun _ i _ => n - (intOf i).toNat)
  case atStart => exact ⟨0, Nat.zero_le _, rfl, World.ownsRow_nil _ _ _ _, Below.refl _ _⟩
  case round =>
    obtain ⟨k, hk, rfl, hown, hbw⟩ := hrel
    have Hown := Lib.hid hown
    have Hbw := Lib.hid hbw
    clear hown hbw
    by_cases hlt : k < n
    · have hkv : k < vs.length := by rw [Hn.out]; exact hlt
      obtain rfl := Hao.out (by omega)
      have ck := cell_kept Hbw.out (Hc.out k (by rw [Hl.out]; exact hlt))
      rw [List.getElem_map] at ck
      have c1 := cell_kept Hbw.out (cell_of_row _ _ 1 _ _ _ Hb.out)
      have hmk := map_kept Hm.out Hbw.out
      obtain ⟨v, hv⟩ : ∃ v, vs[k]'hkv = v := ⟨_, rfl⟩
      rw [hv] at ck
      have Hv := Lib.hid hv
      have hvm : v ∈ vs := by rw [← hv]; exact List.getElem_mem hkv
      have hat := Ht.out.2 v hvm
      have hvs := Hfit.out v hvm
      have hask := fun W (hbW : Below w.heap.size w W) => Hask.out W v hbW hvm
      have hz : (zeroValue 24).run Tryz.prog wr = .ok (.int .u64 0) wr := Tryz.zeroValue24 wr
      have hi0 : (0 : Int) ≤ (k : Int) := by omega
      have hi1 : (k : Int) < (n : Int) := by omega
      clear hv
      go_wp2_with (at_lookup; refine wpList_lookup_own_int _ rfl _ _ 85 rfl 9 24 .u64 keyed Tryz.underlying85 Tryz.underlying24 hz mb nn D rfl hmk _ _ rfl (key_of hvs.2) ?_; intro c hc' _; obtain rfl := lit_at (hat.symm.trans hc'))
      refine (hask _ Hbw.out).mono ?_
      rintro e w2 ⟨rfl, hb2⟩
      have B2 := Lib.hid (Hbw.out.trans (hb2.mono Hbw.out.size))
      have Ho2 := Lib.hid (own_kept Hown.out hb2)
      clear hb2 hask hmk ck c1 hat
      cases his : is v with
      | true =>
        have Htk := Lib.hid (takeF_yes hkv ((congrArg is Hv.out).trans his))
        rw [Hv.out] at Htk
        have htl := takeF_len is vs k
        obtain ⟨m, hm'⟩ : ∃ m, (takeF is vs k).length = m := ⟨_, rfl⟩
        have Hm' := Lib.hid hm'
        have ho2 := Ho2.out
        rw [hm'] at htl ho2
        have Ho3 := Lib.hid ho2
        clear hm' ho2 his
        go_wp2_with (at_builtin; refine wpList_append_own _ rfl _ _ 38 rfl w.heap.size 24 i0 (.int .u64 0) 1 8 Tryz.underlying38 hi hz0 hz1 hz2 rfl (by decide) _ _ _ rfl (Ho3.out.alloc _) ⟨w2.heap.size, 0, none⟩ 1 1 [.int .u64 (v.lab : Int)] rfl rfl ?d2 ?d3 ?d4 ?d5 ?d6 ?_)
        case d2 => exact one_cellP _ _ _
        case d3 => intro y hy; rw [List.mem_singleton] at hy; rw [hy]; rfl
        case d4 => unfold maxLen; omega
        case d5 => omega
        case d6 => simp; have := B2.out.size; omega
        intro v3 w3 hown3 hgrow3 _
        have B3 := Lib.hid ((B2.out.alloc B2.out.size _).grown hgrow3 (by simp; have := B2.out.size; omega) (fun q hq => (Ho3.out.lt q hq).1))
        have Ho4 := Lib.hid (show w3.ownsRow w.heap.size 24 1 v3 (takeF is vs (k + 1)).length (((takeF is vs (k + 1)).map fun v => Value.int .u64 (v.lab : Int))) by
          rw [Htk.out, List.length_append, Hm'.out, List.map_append, List.map_singleton]; exact hown3)
        clear hown3 hgrow3
        go_wp2_with fail
        go_roundw
        case rel => exact ⟨k + 1, by omega, by go_num, Ho4.out, B3.out⟩
        case measure => simp [intOf]; omega
      | false =>
        have Htk := Lib.hid (takeF_no hkv ((congrArg is Hv.out).trans his))
        clear his
        go_wp2_with fail
        go_roundw
        case rel => exact ⟨k + 1, by omega, by go_num, by rw [Htk.out]; exact Ho2.out, B2.out⟩
        case measure => simp [intOf]; omega
    · obtain rfl : k = n := by omega
      have Hfin : Hid (takeF is vs k = vs.filter is) := by
        show _ = _
        rw [← Hn.out, takeF_all]
      go_wp2_with fail
      go_ret
      exact ⟨_, rfl, by rw [← Hfin.out]; exact Hown.out, Hbw.out⟩
end Go.Proofs.YtajjikbigacbaaaGreatDoor
