/- Own work: policy.New. -/
import Derived.Test.YtajjikbigacbaaaGreatDoorVws
import Derived.Test.YtajjikbigacbaaaGreatDoorLinesA
import Derived.Test.YtajjikbigacbaaaGreatDoorIter
import Derived.Test.YtajjikbigacbaaaGreatDoorLabBase
namespace Go.Proofs.YtajjikbigacbaaaGreatDoor
open Go.RowKit Go.Maps Go.Shelf

theorem run_makeMapN (w : World) (n : Int) : (Instr.makeMap 85 (some (.int .i64 n))).run Tryz.prog w = .ok (.map (some w.heap.size)) (w.alloc (.map #[] 0)) := by
  simp [Instr.makeMap, run_underlying Tryz.underlying85, asInt, asIntOf, Result.andThen]
theorem two_newV0 (w : World) (x : ByteArray) (l : Int) (t : TypeId) : (w.alloc (.cells #[.string x, .int .u64 l] t)).cell? ⟨w.heap.size, 0, none⟩ = some (.string x) ∧ (w.alloc (.cells #[.string x, .int .u64 l] t)).cell? ⟨w.heap.size, 1, none⟩ = some (.int .u64 l) :=
  ⟨cell_of_row _ _ 0 _ _ _ (heap_alloc_new w _), cell_of_row _ _ 1 _ _ _ (heap_alloc_new w _)⟩
theorem tells_nil : Tells (.map []) [] := ⟨fun _ => rfl, fun v hv => by cases hv⟩
theorem tells_put {D : DataW Unit} {vs : List Vw} {v : Vw} (h : Tells D vs) (hm : IsMap D) (hn : Maps.has D (.string v.key) = false) : Tells (D.put (.string v.key) (.lit (.int .u64 (v.lab : Int)))) (vs ++ [v]) := by
  have hno : ∀ x ∈ vs, x.key ≠ v.key := by
    intro x hx e
    rw [h.1, List.any_eq_false] at hn
    exact hn x hx (by simpa using e)
  refine ⟨fun s => ?_, fun x hx => ?_⟩
  · rw [List.any_append]
    by_cases e : s = v.key
    · subst e
      rw [has_put_same hm (show WideAt.IsKeyLit (.string v.key) from trivial)]
      simp
    · rw [has_put_other (fun h => e (by injection h)), h.1 s]
      simp [Ne.symm e]
  · rcases List.mem_append.1 hx with hx | hx
    · rw [atKey_put_other (fun h => hno x hx (by injection h))]
      exact h.2 x hx
    · rw [List.mem_singleton] at hx
      subst hx
      exact atKey_put_same hm (show WideAt.IsKeyLit (.string x.key) from trivial) _ _
theorem tells_perm {D : DataW Unit} {a b : List Vw} (h : Tells D a) (hp : b.Perm a) : Tells D b := by
  refine ⟨fun s => ?_, fun v hv => h.2 v (hp.mem_iff.1 hv)⟩
  rw [h.1 s, Bool.eq_iff_iff, List.any_eq_true, List.any_eq_true]
  exact ⟨fun ⟨x, hx, e⟩ => ⟨x, hp.mem_iff.2 hx, e⟩, fun ⟨x, hx, e⟩ => ⟨x, hp.mem_iff.1 hx, e⟩⟩
theorem keys_of {w : World} {mb n : Nat} {D : DataW Unit} {vs : List Vw} (hm : MapAt w mb n D) (h : Tells D vs) (ho : Once vs) : (vs.map Vw.key).Perm (strKeys D) :=
  Collected.perm (left := fun _ => false) ⟨ho, fun x => by
    rw [h.1 x, List.mem_map, List.any_eq_true]
    constructor
    · rintro ⟨v, hv, rfl⟩; exact ⟨⟨v, hv, by simp⟩, rfl⟩
    · rintro ⟨⟨v, hv, e⟩, _⟩; exact ⟨v, hv, by simpa using e⟩⟩ hm keyed Tryz.underlying9 (fun _ => rfl)
theorem keysAt_any (mb : Option Nat) (W : World) : Calls Tryz.prog 45 #[.map mb] W fun e w' => e = .returned (.func (.func 100) #[] #[.pointer (some ⟨W.heap.size, 0, none⟩)]) ∧ w' = W.alloc (.cells #[.map mb] 85) :=
  callsIn_wide.1 (Tryz.maps_Keys_45 mb W)
theorem sorted_any (vs : List Vw) (mb n : Nat) (D : DataW Unit) (w : World) (hm : MapAt w mb n D) (h : Tells D vs) (ho : Once vs) (hl : vs.length ≤ 64) :
    Calls Tryz.prog 44 #[.func (.func 100) #[] #[.pointer (some ⟨w.heap.size, 0, none⟩)]] (w.alloc (.cells #[.map (some mb)] 85)) fun e w' =>
      ∃ u, e = .returned u ∧ Texts w' u ((sortV vs).map Vw.nm) ∧ (∀ q, u.ownBlock = some q → w.heap.size ≤ q) ∧ Below w.heap.size w w' := by
  have hp := keys_of hm h ho
  have hsz : Maps.size D = vs.length := by
    have := hp.length_eq
    rw [List.length_map] at this
    rw [this]
    obtain ⟨es, _, _, _, _, rfl⟩ := hm
    simp [strKeys, Maps.size]
  have hc := callsIn_wide.1 (Tryz.slices_Sorted_keys_44_45 mb n D _ w hm (by rw [hsz]; unfold maxLen; omega) (by rw [hsz]; omega))
  refine hc.mono fun e w' ⟨u, ss, he, hs, hrow, _, hb⟩ => ⟨u, he, ?_, fun q hq => Nat.le_trans (by simp) (hrow.lt q hq).1, ((Below.refl _ w).alloc (Nat.le_refl _) _).trans (hb.mono (by simp))⟩
  rw [keys_sorted ho (hs.trans hp.symm), enc_keys] at hrow
  exact Texts.of_own hrow
/-- a policy whose parts lie from block B on -/
def PolB (B : Nat) (w : World) (p : Value) (vs : List Vw) : Prop :=
  ∃ b nv mb n D, p = .pointer (some ⟨b, 0, none⟩) ∧ w.heap[b]? = some (.cells #[nv, .map (some mb)] 92 (0, 0)) ∧ Texts w nv (vs.map Vw.nm) ∧ MapAt w mb n D ∧ Tells D vs ∧ (Rising vs ∧ polOk vs ∧ Fits vs) ∧ B ≤ b ∧ B ≤ mb ∧ ∀ q, nv.ownBlock = some q → B ≤ q
theorem PolB.pol {B : Nat} {w : World} {p : Value} {vs : List Vw} (h : PolB B w p vs) : Pol w p vs := by
  obtain ⟨b, nv, mb, n, D, h1, h2, h3, h4, h5, h6, _⟩ := h
  exact ⟨b, nv, mb, n, D, h1, h2, h3, h4, h5, h6⟩
theorem texts_grown {w w' : World} {v : Value} {ss : List ByteArray} {B g : Nat} (h : Texts w v ss) (hq : ∀ q, v.ownBlock = some q → B ≤ q) (hg : w.grownBy w' (some g)) (hB : g < B) : Texts w' v ss := by
  rcases h with h | ⟨b, o, cap, rfl, h2, h3, h4, h5⟩
  · exact .inl h
  · refine .inr ⟨b, o, cap, rfl, h2, h3, h4, fun i hi => ?_⟩
    have hb : B ≤ b := hq b rfl
    have hc := h5 i hi
    have hlt := World.block_lt_of_cell? w _ hc
    have hh := hg.block b hlt (fun e => by cases e; omega)
    unfold World.cell? at hc ⊢
    rw [hh]; exact hc
theorem PolB.grown {B g : Nat} {w w' : World} {p : Value} {vs : List Vw} (h : PolB B w p vs) (hg : w.grownBy w' (some g)) (hB : g < B) : PolB B w' p vs := by
  obtain ⟨b, nv, mb, n, D, h1, h2, h3, h4, h5, h6, h7, h8, h9⟩ := h
  refine ⟨b, nv, mb, n, D, h1, ?_, texts_grown h3 h9 hg hB, ?_, h5, h6, h7, h8, h9⟩
  · rw [hg.block b (lt_of_block h2) (fun e => by cases e; omega)]; exact h2
  · exact h4.kept hg (fun e => by cases e; omega)
theorem PolB.kept {B : Nat} {w w' : World} {p : Value} {vs : List Vw} (h : PolB B w p vs) (hb : Below w.heap.size w w') : PolB B w' p vs := by
  obtain ⟨b, nv, mb, n, D, h1, h2, h3, h4, h5, h6⟩ := h
  exact ⟨b, nv, mb, n, D, h1, row_kept hb h2, h3.kept hb, map_kept h4 hb, h5, h6⟩
theorem pol_made {w : World} {nv : Value} {mb n : Nat} {D : DataW Unit} {vs : List Vw} (htx : Texts w nv (vs.map Vw.nm)) (hm : MapAt w mb n D) (ht : Tells D vs) (hr : Rising vs) (ho : polOk vs) (hf : Fits vs) {B : Nat} (hB : B ≤ w.heap.size) (hmb : B ≤ mb) (hnv : ∀ q, nv.ownBlock = some q → B ≤ q) :
    PolB B (w.alloc (.cells #[nv, .map (some mb)] 92)) (.pointer (some ⟨w.heap.size, 0, none⟩)) vs :=
  have hal : Below w.heap.size w (w.alloc (.cells #[nv, .map (some mb)] 92)) := (Below.refl _ _).alloc (Nat.le_refl _) _
  ⟨_, nv, mb, n, D, rfl, heap_alloc_new w _, htx.kept hal, map_kept hm hal, ht, ⟨hr, ho, hf⟩, hB, hmb, hnv⟩
/-- what New tells -/
def NewPostB (w : World) (l : List Vw) (e : Ending) (w' : World) : Prop :=
  Below w.heap.size w w' ∧ ((¬ polOk l ∧ e = .returned (.tuple #[.pointer none, .int .i64 30])) ∨ (polOk l ∧ ∃ p, e = .returned (.tuple #[p, .int .i64 0]) ∧ PolB w.heap.size w' p (sortV l)))
def NewPost (w : World) (l : List Vw) (e : Ending) (w' : World) : Prop :=
  Below w.heap.size w w' ∧ ((¬ polOk l ∧ e = .returned (.tuple #[.pointer none, .int .i64 30])) ∨ (polOk l ∧ ∃ p, e = .returned (.tuple #[p, .int .i64 0]) ∧ Pol w' p (sortV l)))
theorem polOk_no_take {l : List Vw} {k : Nat} (h : ¬ polOk (l.take k)) : ¬ polOk l := fun h' => h (polOk_take_of h' k)
theorem polOk_snoc {l : List Vw} {v : Vw} (h : polOk l) (hl : l.length < 64) : polOk (l ++ [v]) ↔ isName v.nm = true ∧ ∀ x ∈ l, x.key ≠ v.key := by
  constructor
  · rintro ⟨_, h2, h3⟩
    exact ⟨h2 v (by simp), (once_snoc.1 h3).2⟩
  · rintro ⟨h1, h2⟩
    refine ⟨by simp; omega, ?_, once_snoc.2 ⟨h.2.2, h2⟩⟩
    intro x hx
    rcases List.mem_append.1 hx with hx | hx
    · exact h.2.1 x hx
    · rw [List.mem_singleton] at hx; rw [hx]; exact h1

set_option maxHeartbeats 16000000 in
set_option maxRecDepth 100000 in
theorem new_strong (u : Value) (l : List Vw) (w : World) (hu : Vws w u l) (hf : Fits l) : Calls Tryz.prog 10 #[u] w (NewPostB w l) := by
  obtain ⟨ao, cap, b, o, rfl, hao, hml, hc⟩ := hu.form
  obtain ⟨n, hn⟩ : ∃ n, l.length = n := ⟨_, rfl⟩
  unfold maxLen at hml
  have Hn := Lib.hid hn
  rw [hn] at hao hml ⊢
  have Hao := Lib.hid hao
  have Hc := Lib.hid hc
  have Hf := Lib.hid hf
  have hmk := run_makeMapN
  clear hu hao hc hf hn
  by_cases h64 : n ≤ 64
  · have hgt : ((64 : Int) < (n : Int)) = False := by simp; omega
    go_enter Tryz.func10, Tryz.ntmps10
    go_wp2_with fail
    clear hmk
    go_loopw [17] (fun i wr => ∃ (k : Nat) (D : DataW Unit), k ≤ n ∧ i = .int .i64 k ∧ Hid (polOk (l.take k)) ∧ Tells D (l.take k) ∧ MapAt wr w.heap.size k D ∧ Below w.heap.size w wr) (fun i _ => n - (intOf i).toNat)
    case atStart => exact ⟨0, .map [], Nat.zero_le _, rfl, ⟨Nat.zero_le _, by simp, by simp [Once]⟩, tells_nil, World.ownsMap_made _ _ _ _, (Below.refl _ _).alloc (Nat.le_refl _) _⟩
    case round =>
      obtain ⟨k, D, hk, rfl, Hok, hts, hm, hbw⟩ := hrel
      have Hts := Lib.hid hts
      have Hm := Lib.hid hm
      have Hbw := Lib.hid hbw
      clear hts hm hbw
      by_cases hlt : k < n
      · have hkl : k < l.length := by rw [Hn.out]; exact hlt
        obtain rfl := Hao.out (by omega)
        obtain ⟨c0, c1⟩ := Hc.out k hkl
        have c0 := cell_kept Hbw.out c0
        have c1 := cell_kept Hbw.out c1
        obtain ⟨v, hv⟩ : ∃ v, l[k]'hkl = v := ⟨_, rfl⟩
        rw [hv] at c0 c1
        have Htk : Hid (l.take (k + 1) = l.take k ++ [v]) := by
          show _ = _
          rw [List.take_succ_eq_append_getElem hkl, hv]
        obtain ⟨hv1, hv2⟩ := Hf.out v (by rw [← hv]; exact List.getElem_mem hkl)
        have hi0 : (0 : Int) ≤ (k : Int) := by omega
        have hi1 : (k : Int) < (n : Int) := by omega
        have Hbox := Lib.hid (show Below w.heap.size w (wr.alloc (.cells #[.string v.nm, .int .u64 (v.lab : Int)] 33)) from Hbw.out.alloc Hbw.out.size _)
        have Hmb := Lib.hid (Hm.out.alloc (.cells #[.string v.nm, .int .u64 (v.lab : Int)] 33))
        have hz : ∀ w : World, (zeroValue 24).run Tryz.prog w = .ok (.int .u64 0) w := Tryz.zeroValue24
        clear hv
        cases hhas : Maps.has D (.string v.key) with
        | true =>
          have Hno : Hid (¬ polOk l) := by
            refine polOk_no_take (k := k + 1) ?_
            rw [Htk.out, polOk_snoc Hok.out (by rw [List.length_take]; omega)]
            rintro ⟨_, h2⟩
            rw [Hts.out.1, List.any_eq_true] at hhas
            obtain ⟨x, hx, e⟩ := hhas
            exact h2 x hx (by simpa using e)
          go_wp2_with (at_lookup; refine wpList_lookup_own_ok_int _ rfl _ _ 85 rfl 9 24 .u64 keyed Tryz.underlying85 Tryz.underlying24 (hz _) w.heap.size k D rfl Hmb.out _ _ rfl (key_of hv2) ?_; intro c _ _; rw [show Maps.has D (.string v.nm.data.toList) = true from hhas])
          go_ret2
          exact ⟨Hbox.out, .inl ⟨Hno.out, rfl⟩⟩
        | false =>
          have Hnn := Lib.hid hhas
          cases hnm : isName v.nm with
          | false =>
            have Hno : Hid (¬ polOk l) := by
              refine polOk_no_take (k := k + 1) ?_
              rw [Htk.out, polOk_snoc Hok.out (by rw [List.length_take]; omega), hnm]
              rintro ⟨h2, _⟩
              cases h2
            go_wp2_with (at_lookup; refine wpList_lookup_own_ok_int _ rfl _ _ 85 rfl 9 24 .u64 keyed Tryz.underlying85 Tryz.underlying24 (hz _) w.heap.size k D rfl Hmb.out _ _ rfl (key_of hv2) ?_; intro c _ _; rw [show Maps.has D (.string v.nm.data.toList) = false from hhas])
            refine (name_any v.nm _ hv2).mono ?_
            rintro e w3 ⟨rfl, hb⟩
            rw [hnm]
            have B3 := Lib.hid (Hbox.out.trans (hb.mono Hbox.out.size))
            clear hb
            go_wp2_with fail
            go_ret2
            exact ⟨B3.out, .inl ⟨Hno.out, rfl⟩⟩
          | true =>
            have Hok2 : Hid (polOk (l.take (k + 1))) := by
              show polOk _
              rw [Htk.out, polOk_snoc Hok.out (by rw [List.length_take]; omega)]
              refine ⟨hnm, fun x hx e => ?_⟩
              have h1 := Hnn.out
              rw [Hts.out.1, List.any_eq_false] at h1
              exact h1 x hx (by simpa using e)
            go_wp2_with (at_lookup; refine wpList_lookup_own_ok_int _ rfl _ _ 85 rfl 9 24 .u64 keyed Tryz.underlying85 Tryz.underlying24 (hz _) w.heap.size k D rfl Hmb.out _ _ rfl (key_of hv2) ?_; intro c _ _; rw [show Maps.has D (.string v.nm.data.toList) = false from hhas])
            refine (name_any v.nm _ hv2).mono ?_
            rintro e w3 ⟨rfl, hb⟩
            rw [hnm]
            have B3 := Lib.hid (Hbox.out.trans (hb.mono Hbox.out.size))
            have Hm3 := Lib.hid (map_kept Hmb.out hb)
            obtain ⟨d0, d1⟩ := two_newV0 wr v.nm (v.lab : Int) 33
            have d0 := cell_kept hb d0
            have d1 := cell_kept hb d1
            clear hb
            go_wp2_with (at_mapUpdate; refine wpList_mapUpdate_own _ rfl _ _ _ 85 rfl 9 24 keyed Tryz.underlying85 _ w.heap.size k D rfl Hm3.out (by unfold maxLen; omega) _ _ _ rfl rfl (key_of hv2) _ [] (lab_elem hv1) ?_; intro w4 hown4 hgrow4)
            go_roundw
            case rel =>
              refine ⟨k + 1, D.put (.string v.key) (.lit (.int .u64 (v.lab : Int))), by omega, by go_num, Hok2, ?_, hown4, ?_⟩
              · rw [Htk.out]; exact tells_put Hts.out Hm.out.isMap Hnn.out
              · exact B3.out.grown hgrow4 B3.out.size (fun q hq => by cases hq; exact Nat.le_refl _)
            case measure => simp [intOf]; omega
      · obtain rfl : k = n := by omega
        have Hall : Hid (l.take k = l) := List.take_of_length_le (by rw [Hn.out]; exact Nat.le_refl _)
        have hok := Hok.out
        have hts := Hts.out
        rw [Hall.out] at hok hts
        go_wp2_with fail
        refine (keysAt_any _ _).mono ?_
        rintro e w' ⟨rfl, rfl⟩
        go_wp2_with fail
        refine (sorted_any l _ _ D wr Hm.out hts hok.2.2 hok.1).mono ?_
        rintro e w3 ⟨nv, rfl, htx, hnq, hb⟩
        have B3 := Lib.hid (Hbw.out.trans (hb.mono Hbw.out.size))
        obtain ⟨no, ncap, _, _, hnv, _⟩ := htx.form
        subst hnv
        have Hnq := Lib.hid (fun q hq => Nat.le_trans Hbw.out.size (hnq q hq))
        have Htx := Lib.hid htx
        have Hm3 := Lib.hid (map_kept Hm.out hb)
        clear htx hb hnq
        go_wp2_with fail
        go_ret2
        refine ⟨B3.out.alloc B3.out.size _, .inr ⟨hok, _, rfl, ?_⟩⟩
        exact pol_made (by have h := Htx.out; rw [List.length_map] at h; exact h) Hm3.out (tells_perm hts (sortV_perm l)) (sortV_rising hok.2.2) ((polOk_perm (sortV_perm l)).2 hok) (Hf.out.sub fun v hv => (sortV_perm l).mem_iff.1 hv) B3.out.size (Nat.le_refl _) (fun q hq => Hnq.out q (by cases no <;> first | exact hq | cases hq))
  · have hgt : (64 : Int) < (n : Int) := by omega
    have Hno : Hid (¬ polOk l) := fun h => h64 (by have := h.1; have := Hn.out; omega)
    go_enter Tryz.func10, Tryz.ntmps10
    go_wp2_with fail
    go_ret2
    exact ⟨Below.refl _ _, .inl ⟨Hno.out, rfl⟩⟩
theorem new_any (u : Value) (l : List Vw) (w : World) (hu : Vws w u l) (hf : Fits l) : Calls Tryz.prog 10 #[u] w (NewPost w l) :=
  (new_strong u l w hu hf).mono fun _ _ ⟨hb, h⟩ => ⟨hb, h.imp id fun ⟨h1, p, h2, h3⟩ => ⟨h1, p, h2, h3.pol⟩⟩
end Go.Proofs.YtajjikbigacbaaaGreatDoor
