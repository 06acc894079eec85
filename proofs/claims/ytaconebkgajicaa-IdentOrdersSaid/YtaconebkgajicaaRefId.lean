/- Own work: scrimref04's counters. -/
import Derived.Test.YtaconebkgajicaaRefTw
namespace Go.Proofs.Ytaconebkgajicaa
open Go.RowKit Go.Maps

/-- a label's number in two lists -/
def lookF : List Int → List Int → Int → Int
  | l :: ls, n :: ns, a => if l = a then n else lookF ls ns a
  | _, _, _ => 0
theorem lookF_at : ∀ {Ls Ns : List Int} {a : Int} {k : Nat}, Ls.length = Ns.length → Ls[k]? = some a → (∀ j, j < k → Ls[j]? ≠ some a) → Ns[k]? = some (lookF Ls Ns a)
  | [], _, a, k, _, h, _ => by simp at h
  | _ :: _, [], _, _, h, _, _ => by simp at h
  | l :: ls, n :: ns, a, 0, _, h, _ => by simp at h; simp [lookF, h]
  | l :: ls, n :: ns, a, k + 1, hl, h, hn => by
    have h0 := hn 0 (by omega)
    simp at h0
    have ih := lookF_at (Ls := ls) (Ns := ns) (a := a) (k := k) (by simpa using hl) (by simpa using h) (fun j hj => by have := hn (j + 1) (by omega); simpa using this)
    simp [lookF, h0, ih]
theorem lookF_set : ∀ {Ls Ns : List Int} {a : Int} {k : Nat} {v : Int}, Ls.length = Ns.length → Ls[k]? = some a → (∀ j, j < k → Ls[j]? ≠ some a) → lookF Ls (Ns.set k v) = upd (lookF Ls Ns) a v
  | [], _, a, k, _, _, h, _ => by simp at h
  | _ :: _, [], _, _, _, h, _, _ => by simp at h
  | l :: ls, n :: ns, a, 0, v, _, h, _ => by
    simp at h
    subst h
    funext c
    simp only [List.set_cons_zero, lookF, upd]
    by_cases e : l = c
    · simp [e]
    · simp [e, Ne.symm e]
  | l :: ls, n :: ns, a, k + 1, v, hl, h, hn => by
    have h0 := hn 0 (by omega)
    simp at h0
    have ih := lookF_set (Ls := ls) (Ns := ns) (a := a) (k := k) (v := v) (by simpa using hl) (by simpa using h) (fun j hj => by have := hn (j + 1) (by omega); simpa using this)
    funext c
    simp only [List.set_cons_succ, lookF, ih, upd]
    by_cases e : l = c
    · subst e; simp [h0]
    · simp [e]
theorem lookF_snoc : ∀ {Ls Ns : List Int} {a : Int}, Ls.length = Ns.length → a ∉ Ls → lookF (Ls ++ [a]) (Ns ++ [0]) = lookF Ls Ns
  | [], [], a, _, _ => by funext c; simp [lookF]
  | [], _ :: _, _, h, _ => by simp at h
  | _ :: _, [], _, h, _ => by simp at h
  | l :: ls, n :: ns, a, hl, h => by
    have ih := lookF_snoc (Ls := ls) (Ns := ns) (a := a) (by simpa using hl) (fun hm => h (by simp [hm]))
    funext c
    simp [lookF, ih]

/-- two slices in a struct, rows of the call's own from block B on -/
structure Rc (B : Nat) (w : World) (b : Nat) (lv nv : Value) (Ls Ns : List Int) : Prop where
  row : w.heap[b]? = some (.cells #[lv, nv] 56 (0, 0))
  ls : w.ownsRow B 25 1 lv Ls.length (Ls.map (Value.int .u64))
  ns : w.ownsRow B 3 1 nv Ls.length (Ns.map (Value.int .i64))
  len : Ls.length = Ns.length
  base : B ≤ b
  ap1 : lv.ownBlock ≠ some b
  ap2 : nv.ownBlock ≠ some b
  ap3 : ∀ q, lv.ownBlock = some q → nv.ownBlock ≠ some q
  fit : ∀ n ∈ Ns, 0 ≤ n ∧ n ≤ 4611686018427387904
theorem own_grown {w w' : World} {base : Nat} {e : TypeId} {size n : Nat} {v : Value} {xs : List Value} {r : Option Nat} (h : w.ownsRow base e size v n xs) (hg : w.grownBy w' r) (hne : v.ownBlock = none ∨ v.ownBlock ≠ r) : w'.ownsRow base e size v n xs := h.kept hg hne
theorem Rc.kept {B : Nat} {w w' : World} {b : Nat} {lv nv : Value} {Ls Ns : List Int} (h : Rc B w b lv nv Ls Ns) (hb : Below w.heap.size w w') : Rc B w' b lv nv Ls Ns :=
  { h with row := row_kept hb h.row, ls := own_kept h.ls hb, ns := own_kept h.ns hb }
theorem Try.info25 : (Try.prog.info? 25).map (fun i => (i.zero, i.size, i.bytes)) = some (some (.int .u64 0), 1, 8) := by kernel_rfl
theorem Try.info3 : (Try.prog.info? 3).map (fun i => (i.zero, i.size, i.bytes)) = some (some (.int .i64 0), 1, 8) := by kernel_rfl

theorem apart_of {a b : Option Nat} (h : ∀ q, a = some q → b ≠ some q) : b = none ∨ b ≠ a := by
  cases b with
  | none => exact .inl rfl
  | some x => exact .inr fun e => h x e.symm rfl

set_option maxHeartbeats 16000000 in
set_option maxRecDepth 100000 in
theorem at_any (B : Nat) (b : Nat) (lv nv : Value) (Ls Ns : List Int) (a : Int) (w : World) (h : Rc B w b lv nv Ls Ns) (hn : Ls.length < 5000000000000) :
    Calls Try.prog 23 #[.pointer (some ⟨b, 0, none⟩), .int .u64 a] w fun e w' => ∃ lv' nv' Ls' Ns' k, e = .returned (.int .i64 (k : Nat)) ∧ Rc B w' b lv' nv' Ls' Ns' ∧ Below B w w' ∧
      Ls'[k]? = some a ∧ (∀ j, j < k → Ls'[j]? ≠ some a) ∧ lookF Ls' Ns' = lookF Ls Ns ∧ Ls'.length ≤ Ls.length + 1 := by
  obtain ⟨n, hnl⟩ : ∃ n, Ls.length = n := ⟨_, rfl⟩
  obtain ⟨ao, cap, g, o, hlv, hao, hml, hc⟩ := (Nums.of_own h.ls).form
  obtain ⟨bo, bcap, _, _, hnv, _⟩ := (Nums.of_own h.ns).form
  rw [← h.len, hnl] at hnv
  subst hnv
  have hf := h.row
  have c0 := cell_of_row _ _ 0 _ _ _ hf
  have H := Lib.hid h
  have Hn := Lib.hid hnl
  unfold maxLen at hml
  rw [hnl] at hn hao hml hlv
  subst hlv
  have Hao := Lib.hid hao
  have Hc := Lib.hid hc
  clear h hf hao hc hnl
  go_enter Try.func23, Try.ntmps23
  go_wp2_with fail
  go_loop [5] (fun i => ∃ k : Nat, k ≤ n ∧ i = .int .i64 k ∧ Hid (∀ j, j < k → Ls[j]? ≠ some a)) (fun i => n - (intOf i).toNat)
  case atStart => exact ⟨0, Nat.zero_le _, rfl, fun j hj => by omega⟩
  case round =>
    obtain ⟨k, hk, rfl, HN⟩ := hrel
    by_cases hlt : k < n
    · have hkl : k < Ls.length := by rw [Hn.out]; exact hlt
      obtain rfl := Hao.out (by omega)
      have d := Hc.out k hkl
      have hi0 : (0 : Int) ≤ (k : Int) := by omega
      have hi1 : (k : Int) < (n : Int) := by omega
      obtain ⟨x, hx⟩ : ∃ x, Ls[k]'hkl = x := ⟨_, rfl⟩
      rw [hx] at d
      have Hx : Hid (Ls[k]? = some x) := by show _ = _; rw [List.getElem?_eq_getElem hkl, hx]
      clear hx
      by_cases hxa : x = a
      · subst hxa
        go_wp2_with fail
        go_ret
        exact ⟨_, _, Ls, Ns, k, rfl, H.out, Below.refl _ _, Hx.out, HN.out, rfl, by omega⟩
      · go_wp2_with fail
        refine ⟨⟨k + 1, by omega, by go_num, fun j hj => ?_⟩, by simp [intOf]; omega⟩
        by_cases e : j = k
        · rw [e, Hx.out]
          exact fun h => hxa (Option.some.inj h)
        · exact HN.out j (by omega)
    · obtain rfl : k = n := by omega
      obtain ⟨i1, hi1, hz1, hs1, hb1⟩ := info_parts Try.info25
      obtain ⟨i2, hi2, hz2, hs2, hb2⟩ := info_parts Try.info3
      have hbl := lt_of_block H.out.row
      go_wp2_with (at_builtin; first
        | (refine wpList_append_own_at _ rfl _ _ 53 rfl B 25 i1 (.int .u64 0) 1 8 Try.underlying53 hi1 hz1 hs1 hb1 rfl (by decide) _ k _ rfl ((by have := H.out.ls; rw [Hn.out] at this; exact this.alloc _)) ⟨w.heap.size, 0, none⟩ 1 1 [.int .u64 a] rfl rfl (cell_one_new _ _ _) (by intro u hu; simp at hu; subst hu; rfl) (by unfold maxLen; omega) (by omega) ?hB ?_
           case hB => have := H.out.base; simp; omega
           intro lv' w1 hown1 hg1 _ hat1
           obtain ⟨g1, cap1, rfl⟩ := Joins.ownsRow_form hown1 (by omega)
           have row1 : w1.heap[b]? = some (.cells #[.slice ao k cap, .slice bo k bcap] 56 (0, 0)) := (hg1.block b (by simp; omega) (fun e => H.out.ap1 e.symm)).trans ((heap_alloc_old w _ hbl).trans H.out.row)
           have c0 := cell_of_row _ _ 0 _ _ _ row1
           have c1 := cell_of_row _ _ 1 _ _ _ row1
           have f0 := frozen_of_row _ _ 0 _ _ row1
           have f1 := frozen_of_row _ _ 1 _ _ row1
           have hns1 := own_grown ((by have := H.out.ns; rw [Hn.out] at this; exact this.alloc (.cells #[.int .u64 a] 25)) : (w.alloc (.cells #[.int .u64 a] 25)).ownsRow B 3 1 (.slice bo k bcap) k (Ns.map (Value.int .i64))) hg1 (apart_of H.out.ap3)
           have Hhat1 := Lib.hid hat1
           have Hown1 := Lib.hid hown1
           have Hg1 := Lib.hid hg1
           have Hns1 := Lib.hid hns1
           clear hat1 hown1 hg1 hns1)
        | (refine wpList_append_own_at _ rfl _ _ 54 rfl B 3 i2 (.int .i64 0) 1 8 Try.underlying54 hi2 hz2 hs2 hb2 rfl (by decide) _ k _ rfl ((ownsRow_setCell_other Hns1.out H.out.ap2 _).alloc _) ⟨w1.heap.size, 0, none⟩ 1 1 [.int .i64 0] rfl rfl ?hcell (by intro u hu; simp at hu; subst hu; rfl) (by unfold maxLen; omega) (by omega) ?hB ?_
           case hB => have := H.out.base; have := Hg1.out.size; simp at *; omega
           case hcell =>
             have := cell_one_new (w1.setCell ⟨b, 0, none⟩ (.slice (some ⟨g1, 0, none⟩) (k + 1) cap1)) (.int .i64 0) 3
             rwa [World.size_setCell] at this
           intro nv' w2 hown2 hg2 _ hat2
           obtain ⟨g2, cap2, rfl⟩ := Joins.ownsRow_form hown2 (by omega)
           have row2 : w2.heap[b]? = some (.cells #[.slice (some ⟨g1, 0, none⟩) (k + 1) cap1, .slice bo k bcap] 56 (0, 0)) :=
             (hg2.block b (by have := lt_of_block row1; simp; omega) (fun e => H.out.ap2 e.symm)).trans ((heap_alloc_old _ _ (by have := lt_of_block row1; simp; omega)).trans (heap_setCell_same w1 b 0 _ _ _ row1))
           have c0 := cell_of_row _ _ 0 _ _ _ row2
           have c1 := cell_of_row _ _ 1 _ _ _ row2
           have f0 := frozen_of_row _ _ 0 _ _ row2
           have f1 := frozen_of_row _ _ 1 _ _ row2))
      go_ret
      have hl := H.out.len
      have hbase := H.out.base
      have hsz1 := Hg1.out.size
      have hsz2 := hg2.size
      simp only [World.size_alloc, World.size_setCell] at hsz1 hsz2
      have hnb : ∀ q, bo = some ⟨q, 0, none⟩ → B ≤ q ∧ q < w.heap.size := fun q hq => H.out.ns.lt q (by rw [hq]; rfl)
      -- where the two rows lie now
      have e1 : g1 ≠ b ∧ ∀ q, Value.ownBlock (.slice bo k bcap) = some q → g1 ≠ q := by
        rcases Hhat1.out with h | h
        · have hg : Value.ownBlock (.slice ao k cap) = some g1 := h.symm
          exact ⟨fun e => H.out.ap1 (by rw [hg, e]), fun q hq e => H.out.ap3 g1 hg (by rw [hq, e])⟩
        · have hg : some g1 = some (w.alloc (.cells #[.int .u64 a] 25)).heap.size := h
          have hg := Option.some.inj hg
          simp only [World.size_alloc] at hg
          refine ⟨by omega, fun q hq e => ?_⟩
          have := (H.out.ns.lt q hq).2
          omega
      have e2 : g2 ≠ b ∧ g2 ≠ g1 := by
        rcases hat2 with h | h
        · have hg : Value.ownBlock (.slice bo k bcap) = some g2 := h.symm
          exact ⟨fun e => H.out.ap2 (by rw [hg, e]), fun e => e1.2 g2 hg e.symm⟩
        · have hg : some g2 = some ((w1.setCell ⟨b, 0, none⟩ (.slice (some ⟨g1, 0, none⟩) (k + 1) cap1)).alloc (.cells #[.int .i64 0] 3)).heap.size := h
          have hg := Option.some.inj hg
          simp only [World.size_alloc, World.size_setCell] at hg
          have := (Hown1.out.lt g1 rfl).2
          exact ⟨by omega, by omega⟩
      have hlk : (Ls ++ [a]).length = k + 1 := by simp [Hn.out]
      have hls : w2.ownsRow B 25 1 (.slice (some ⟨g1, 0, none⟩) (k + 1) cap1) (k + 1) ((Ls ++ [a]).map (Value.int .u64)) := by
        have h := own_grown ((ownsRow_setCell_other Hown1.out (a := ⟨b, 0, none⟩) (fun e => e1.1 (Option.some.inj e)) (.slice (some ⟨g1, 0, none⟩) (k + 1) cap1)).alloc (.cells #[.int .i64 0] 3)) hg2 (apart_of fun q hq e => e1.2 q hq (Option.some.inj e))
        rw [List.map_append]
        exact h
      refine ⟨_, _, Ls ++ [a], Ns ++ [0], k, rfl, ⟨heap_setCell_same w2 b 1 _ _ _ row2, ?_, ?_, by simp [hl], hbase, fun e => e1.1 (Option.some.inj e), fun e => e2.1 (Option.some.inj e), fun q hq e => e2.2 ((Option.some.inj e).trans (Option.some.inj hq).symm), ?_⟩, ?_, ?_, ?_, ?_, by simp⟩
      · rw [hlk]
        exact ownsRow_setCell_other hls (a := ⟨b, 1, none⟩) (fun e => e1.1 (Option.some.inj e)) _
      · rw [hlk, List.map_append]
        exact ownsRow_setCell_other hown2 (a := ⟨b, 1, none⟩) (fun e => e2.1 (Option.some.inj e)) _
      · intro n hn
        rcases List.mem_append.1 hn with hn | hn
        · exact H.out.fit n hn
        · simp at hn; omega
      · have hB1 : Below B w w1 := ((Below.refl B w).alloc (by omega) _).grown Hg1.out (by simp; omega) (fun q hq => (H.out.ls.lt q hq).1)
        have hB2 := ((hB1.setCell (p := ⟨b, 0, none⟩) hbase (.slice (some ⟨g1, 0, none⟩) (k + 1) cap1)).alloc (by simp; omega) (.cells #[.int .i64 0] 3)).grown hg2 (by simp; omega) (fun q hq => (H.out.ns.lt q hq).1)
        exact hB2.setCell (p := ⟨b, 1, none⟩) hbase _
      · rw [List.getElem?_append_right (by rw [Hn.out]; exact Nat.le_refl _), Hn.out]; simp
      · intro j hj
        rw [List.getElem?_append_left (by rw [Hn.out]; exact hj)]
        exact HN.out j hj
      · refine lookF_snoc hl fun hm => ?_
        obtain ⟨j, hj, e⟩ := List.getElem_of_mem hm
        exact HN.out j (by rw [← Hn.out]; exact hj) (by rw [List.getElem?_eq_getElem hj, e])
end Go.Proofs.Ytaconebkgajicaa
