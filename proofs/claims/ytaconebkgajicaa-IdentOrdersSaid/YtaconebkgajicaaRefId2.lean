/- Own work: scrimref04's counters: Last, Next, New. -/
import Derived.Test.YtaconebkgajicaaRefId
namespace Go.Proofs.Ytaconebkgajicaa
open Go.RowKit Go.Maps

/-- what a call leaves of the counters: others of at most one label more, that say f -/
def RcP (B : Nat) (w : World) (b m : Nat) (f : Int → Int) (w' : World) : Prop :=
  ∃ lv nv Ls Ns, Rc B w' b lv nv Ls Ns ∧ Below B w w' ∧ lookF Ls Ns = f ∧ Ls.length ≤ m ∧ 0 < Ls.length

set_option maxHeartbeats 16000000 in
set_option maxRecDepth 100000 in
theorem refLast_any (B : Nat) (b : Nat) (lv nv : Value) (Ls Ns : List Int) (a : Int) (w : World) (h : Rc B w b lv nv Ls Ns) (hn : Ls.length < 5000000000000) :
    Calls Try.prog 14 #[.pointer (some ⟨b, 0, none⟩), .int .u64 a] w fun e w' => e = .returned (.int .i64 (lookF Ls Ns a)) ∧ RcP B w b (Ls.length + 1) (lookF Ls Ns) w' := by
  have H := Lib.hid h
  clear h
  go_enter Try.func14, Try.ntmps14
  go_wp2_with fail
  refine (at_any B b lv nv Ls Ns a _ H.out hn).mono ?_
  rintro e w1 ⟨lv', nv', Ls', Ns', k, rfl, hr, hb, hk, hf, hl, hle⟩
  have c1 := cell_of_row _ _ 1 _ _ _ hr.row
  have hat := lookF_at hr.len hk hf
  rw [hl] at hat
  have hkl : k < Ns'.length := (List.getElem?_eq_some_iff.1 hat).1
  obtain ⟨no, ncap, g, o, hnv, hno, hml, hc⟩ := (Nums.of_own hr.ns).form
  obtain rfl := hno (by omega)
  have d := hc k hkl
  rw [(List.getElem?_eq_some_iff.1 hat).2] at d
  obtain ⟨n, hnn⟩ : ∃ n, Ns'.length = n := ⟨_, rfl⟩
  rw [hnn] at hkl hnv
  have HR := Lib.hid hr
  have HB := Lib.hid hb
  subst hnv
  have hi0 : (0 : Int) ≤ (k : Int) := by omega
  have hi1 : (k : Int) < (n : Int) := by omega
  clear hr hb hk hf hat hc
  go_wp2_with fail
  go_ret
  exact ⟨rfl, _, _, Ls', Ns', HR.out, HB.out, hl, hle, by rw [HR.out.len]; omega⟩

/-- a number written into the second row -/
theorem Rc.put0 {B : Nat} {w : World} {b g n ncap : Nat} {lv : Value} {Ls Ns : List Int} {k : Nat} {v : Int} (h : Rc B w b lv (.slice (some ⟨g, 0, none⟩) n ncap) Ls Ns) (h1 : 0 ≤ v) (h2 : v ≤ 4611686018427387904) :
    Rc B (w.setCell ⟨g, k, none⟩ (.int .i64 v)) b lv (.slice (some ⟨g, 0, none⟩) n ncap) Ls (Ns.set k v) ∧ Below B w (w.setCell ⟨g, k, none⟩ (.int .i64 v)) := by
  have hn : n = Ls.length := by
    rcases h.ns.2 with ⟨e, _⟩ | ⟨_, _, _, e, _⟩
    · cases e
    · cases e; rfl
  subst hn
  have hs := World.ownsRow.stored h.ns k (.int .i64 v)
  have hgb : g ≠ b := fun e => h.ap2 (by rw [e]; rfl)
  refine ⟨⟨?_, ?_, ?_, by simp [h.len], h.base, h.ap1, h.ap2, h.ap3, ?_⟩, ?_⟩
  · rw [heap_setCell_other _ _ _ _ (fun e => hgb e.symm)]; exact h.row
  · exact ownsRow_setCell_other h.ls (fun e => h.ap3 g e rfl) _
  · rw [List.map_set]; exact hs.1
  · intro x hx
    rcases List.mem_or_eq_of_mem_set hx with hx | hx
    · exact h.fit x hx
    · omega
  · exact (Below.refl B w).setCell (p := ⟨g, k, none⟩) (h.ns.lt g rfl).1 _
theorem Rc.put {B : Nat} {w : World} {b g n ncap : Nat} {lv : Value} {Ls Ns : List Int} {k : Nat} {v : Int} (h : Rc B w b lv (.slice (some ⟨g, 0, none⟩) n ncap) Ls Ns) (h1 : 0 ≤ v) (h2 : v ≤ 4611686018427387904) :
    Rc B (w.setCell ⟨g, k, none⟩ (.int .i64 v)).drew b lv (.slice (some ⟨g, 0, none⟩) n ncap) Ls (Ns.set k v) ∧ Below B w (w.setCell ⟨g, k, none⟩ (.int .i64 v)).drew :=
  have H := h.put0 (k := k) h1 h2
  ⟨H.1.kept (Below.refl _ _).drew, H.2.drew⟩

set_option maxHeartbeats 16000000 in
set_option maxRecDepth 100000 in
theorem refNext_any (B : Nat) (b : Nat) (lv nv : Value) (Ls Ns : List Int) (a : Int) (w : World) (h : Rc B w b lv nv Ls Ns) (hn : Ls.length < 5000000000000) :
    Calls Try.prog 10 #[.pointer (some ⟨b, 0, none⟩), .int .u64 a] w fun e w' => e = .returned (.tuple #[.int .i64 (nextF (lookF Ls Ns) a).1, .int .i64 (nextF (lookF Ls Ns) a).2]) ∧ RcP B w b (Ls.length + 1) (nextU (lookF Ls Ns) a) w' := by
  have H := Lib.hid h
  clear h
  go_enter Try.func10, Try.ntmps10
  go_wp2_with fail
  refine (at_any B b lv nv Ls Ns a _ H.out hn).mono ?_
  rintro e w1 ⟨lv', nv', Ls', Ns', k, rfl, hr, hb, hk, hf, hl, hle⟩
  have c1 := cell_of_row _ _ 1 _ _ _ hr.row
  have hat := lookF_at hr.len hk hf
  have HS := Lib.hid (fun v => lookF_set (v := v) hr.len hk hf)
  rw [hl] at hat HS
  have hkl : k < Ns'.length := (List.getElem?_eq_some_iff.1 hat).1
  have hkm := hr.fit _ (List.mem_of_getElem? hat)
  rcases Joins.ownsRow_forms hr.ns with ⟨_, h0⟩ | ⟨g, ncap, hnv⟩
  · have := hr.len; omega
  subst hnv
  have d := hr.ns.cellAt k (by rw [hr.len]; omega)
  have fz := hr.ns.frozenAt k
  rw [List.getElem?_map, hat] at d
  simp only [Option.map_some] at d
  have hgb : g ≠ b := fun e => hr.ap2 (by rw [e]; rfl)
  obtain ⟨m, hm⟩ : ∃ m, lookF Ls Ns a = m := ⟨_, rfl⟩
  have Hm := Lib.hid hm
  obtain ⟨n, hnn⟩ : ∃ n, Ls'.length = n := ⟨_, rfl⟩
  have hlen := hr.len
  rw [hnn] at hlen
  rw [← hlen] at hkl
  rw [hm] at d hkm
  have HR := Lib.hid hr
  have HB := Lib.hid hb
  have Hle := Lib.hid hle
  have Hpos := Lib.hid (show 0 < Ls'.length by rw [hnn]; omega)
  have Hl := Lib.hid hl
  have hi0 : (0 : Int) ≤ (k : Int) := by omega
  have hi1 : (k : Int) < (n : Int) := by omega
  rw [hnn] at HR c1 hle
  clear hr hb hk hf hat hl hm hle hnn hlen
  by_cases hfull : m = 4611686018427387904
  · have hr : nextF (lookF Ls Ns) a = (0, 3) := if_pos (by rw [Hm.out]; exact hfull)
    have hu : nextU (lookF Ls Ns) a = lookF Ls Ns := if_pos (by rw [Hm.out]; exact hfull)
    have Hr := Lib.hid hr
    have Hu := Lib.hid hu
    clear hr hu
    go_wp2_with fail
    go_ret2
    refine ⟨by rw [Hr.out]; rfl, ?_⟩
    rw [Hu.out]
    exact ⟨_, _, Ls', Ns', HR.out, HB.out, Hl.out, Hle.out, Hpos.out⟩
  · have hr : nextF (lookF Ls Ns) a = (m + 1, 0) := (if_neg (by rw [Hm.out]; exact hfull)).trans (by rw [Hm.out])
    have hu : nextU (lookF Ls Ns) a = upd (lookF Ls Ns) a (m + 1) := (if_neg (by rw [Hm.out]; exact hfull)).trans (by rw [Hm.out])
    have Hr := Lib.hid hr
    have Hu := Lib.hid hu
    clear hr hu
    go_wp2_with fail
    go_region
    all_goals go_wp2
    go_ret2
    obtain ⟨h1, h2⟩ := HR.out.put (k := k) (v := m + 1) (by omega) (by omega)
    refine ⟨by rw [Hr.out]; rfl, ?_⟩
    rw [Hu.out, ← HS.out]
    exact ⟨_, _, Ls', _, h1, HB.out.trans h2, rfl, Hle.out, Hpos.out⟩

/-- what the reference's New tells -/
def RefNewP (w : World) (l : List LineV) (e : Ending) (w' : World) : Prop :=
  Below w.heap.size w w' ∧ ((idsOk l = false ∧ e = .returned (.tuple #[.pointer none, .int .i64 50])) ∨
    (idsOk l = true ∧ ∃ b lv nv Ls Ns, e = .returned (.tuple #[.pointer (some ⟨b, 0, none⟩), .int .i64 0]) ∧ Rc w.heap.size w' b lv nv Ls Ns ∧ lookF Ls Ns = maxF l ∧ Ls.length ≤ l.length ∧ (Ls.length = 0 → lv = .slice none 0 0 ∧ nv = .slice none 0 0)))

set_option maxHeartbeats 16000000 in
set_option maxRecDepth 100000 in
theorem refNew_any (u : Value) (l : List LineV) (w : World) (hu : Lns w u l) (hok : ∀ x ∈ l, x.ok) (hlen : l.length < 4000000000000) : Calls Try.prog 7 #[u] w (RefNewP w l) := by
  obtain ⟨ao, cap, b, o, rfl, hao, hml, hc⟩ := hu.form
  obtain ⟨n, hn⟩ : ∃ n, l.length = n := ⟨_, rfl⟩
  have Hn := Lib.hid hn
  have Hu := Lib.hid hu
  rw [hn] at hao hml Hu hlen ⊢
  have Hao := Lib.hid hao
  have Hc := Lib.hid hc
  have Hok := Lib.hid hok
  clear hu hao hc hok hn hml
  have hal := (Below.refl w.heap.size w).alloc (Nat.le_refl _) (.cells #[.slice none 0 0, .slice none 0 0] 56)
  go_enter Try.func7, Try.ntmps7
  go_wp2_with fail
  refine (refTwice_any _ l _ (Hu.out.kept hal) Hok.out).mono ?_
  rintro e w1 ⟨rfl, hb⟩
  have row1 := row_kept hb (heap_alloc_new w (.cells #[.slice none 0 0, .slice none 0 0] 56))
  have B1 := Lib.hid (below_join hal hb)
  have Row1 := Lib.hid row1
  clear hb row1 hal
  cases htw : (twV l).2 with
  | true =>
    have Hno : Hid (idsOk l = false) := by show _ = _; simp [idsOk, htw]
    go_wp2_with fail
    go_ret2
    exact ⟨B1.out, .inl ⟨Hno.out, rfl⟩⟩
  | false =>
    have Htw := Lib.hid htw
    clear htw
    go_wp2_with fail
    go_loopw [7] (fun i wr => ∃ (k : Nat) (lv nv : Value) (Ls Ns : List Int), k ≤ n ∧ i = .int .i64 k ∧ Rc w.heap.size wr w.heap.size lv nv Ls Ns ∧ lookF Ls Ns = maxF (l.take k) ∧ Ls.length ≤ k ∧ Hid (Ls.length = 0 → lv = .slice none 0 0 ∧ nv = .slice none 0 0) ∧ Hid (∀ x ∈ l.take k, numOk x = true) ∧ Below w.heap.size w wr) (fun i _ => n - (intOf i).toNat)
    case atStart =>
      exact ⟨0, _, _, [], [], Nat.zero_le _, rfl, ⟨Row1.out, World.ownsRow_nil _ _ _ _, World.ownsRow_nil _ _ _ _, rfl, Nat.le_refl _, (fun e => by cases e), (fun e => by cases e), (fun q e => by cases e), (fun n hn => by cases hn)⟩, rfl, Nat.le_refl _, (fun _ => ⟨rfl, rfl⟩), (fun x hx => by simp at hx), B1.out⟩
    case round =>
      obtain ⟨k, lv, nv, Ls, Ns, hk, rfl, hr, hl, hle, HE, HN, hbw⟩ := hrel
      have HR := Lib.hid hr
      have Hl := Lib.hid hl
      have Hbw := Lib.hid hbw
      clear hr hl hbw
      by_cases hlt : k < n
      · have hkl : k < l.length := by rw [Hn.out]; exact hlt
        obtain rfl := Hao.out (by omega)
        obtain ⟨c0, c1, _, _⟩ := Hc.out k hkl
        have lb : b < w.heap.size := World.block_lt_of_cell? w _ c0
        have c0 := cell_kept Hbw.out c0
        have c1 := cell_kept Hbw.out c1
        have Htk := Lib.hid (List.take_succ_eq_append_getElem hkl)
        have HF := Lib.hid (fun h => all_take hkl h)
        obtain ⟨x, hx⟩ : ∃ x, l[k]'hkl = x := ⟨_, rfl⟩
        rw [hx] at c0 c1 Htk HF
        obtain ⟨x1, x2, x3, x4⟩ := x
        have hi0 : (0 : Int) ≤ (k : Int) := by omega
        have hi1 : (k : Int) < (n : Int) := by omega
        clear hx
        cases hnum : numOk ⟨x1, x2, x3, x4⟩ with
        | false =>
          have Hno := Lib.hid (HF.out hnum)
          by_cases h1 : x2 < 1
          · go_wp2_with fail
            go_ret2
            exact ⟨Hbw.out, .inl ⟨Hno.out, rfl⟩⟩
          · have h2 : x2 > 4611686018427387904 := by
              simp [numOk] at hnum
              exact hnum (by omega)
            go_wp2_with fail
            go_ret2
            exact ⟨Hbw.out, .inl ⟨Hno.out, rfl⟩⟩
        | true =>
          have h1 : 1 ≤ x2 := (numOk_iff.1 hnum).1
          have h2 : x2 ≤ 4611686018427387904 := (numOk_iff.1 hnum).2
          have h1' : ¬ x2 < 1 := by omega
          have h2' : ¬ x2 > 4611686018427387904 := by omega
          have Hnum := Lib.hid hnum
          clear hnum
          go_wp2_with fail
          refine (at_any _ _ lv nv Ls Ns x1 _ HR.out (by omega)).mono ?_
          rintro e w2 ⟨lv', nv', Ls', Ns', j, rfl, hr, hb, hj, hf, hl, hle'⟩
          have c1 := (hb.cell (p := ⟨b, o + k * 4 + 1, none⟩) lb).trans c1
          have c0 := cell_of_row _ _ 1 _ _ _ hr.row
          have hat := lookF_at hr.len hj hf
          have HS := Lib.hid (fun v => lookF_set (v := v) hr.len hj hf)
          rw [hl, Hl.out] at hat HS
          have hjl : j < Ns'.length := (List.getElem?_eq_some_iff.1 hat).1
          have hjm := hr.fit _ (List.mem_of_getElem? hat)
          rcases Joins.ownsRow_forms hr.ns with ⟨_, h0⟩ | ⟨g, ncap, hnv⟩
          · have := hr.len; omega
          subst hnv
          have d := hr.ns.cellAt j (by rw [hr.len]; omega)
          have fz := hr.ns.frozenAt j
          rw [List.getElem?_map, hat] at d
          simp only [Option.map_some] at d
          have hgb : g ≠ w.heap.size := fun e => hr.ap2 (by rw [e]; rfl)
          obtain ⟨m, hm⟩ : ∃ m, maxF (l.take k) x1 = m := ⟨_, rfl⟩
          have Hm := Lib.hid hm
          obtain ⟨r, hnn⟩ : ∃ r, Ls'.length = r := ⟨_, rfl⟩
          have hlen' := hr.len
          rw [hnn] at hlen'
          rw [← hlen'] at hjl
          rw [hm] at d hjm
          have HR2 := Lib.hid hr
          have HB2 := Lib.hid (Hbw.out.trans hb)
          have Hle2 := Lib.hid (show Ls'.length ≤ k + 1 by omega)
          have HE2 : Hid (Ls'.length = 0 → lv' = .slice none 0 0 ∧ Value.slice (some ⟨g, 0, none⟩) r ncap = .slice none 0 0) := fun e => absurd e (by rw [hnn]; omega)
          have Hl2 := Lib.hid (hl.trans Hl.out)
          have hj0 : (0 : Int) ≤ (j : Int) := by omega
          have hj1 : (j : Int) < (r : Int) := by omega
          rw [hnn] at HR2 c0
          have HN2 : Hid (∀ x ∈ l.take (k + 1), numOk x = true) := by
            intro y hy
            rw [Htk.out] at hy
            rcases List.mem_append.1 hy with hy | hy
            · exact HN.out y hy
            · rw [List.mem_singleton] at hy; rw [hy]; exact Hnum.out
          clear hr hb hj hf hat hl hm hle' hnn hlen'
          by_cases hmx : m < x2
          · have Hmax : Hid (lookF Ls' (Ns'.set j x2) = maxF (l.take (k + 1))) := by
              show _ = _
              rw [HS.out, Htk.out, maxF_snoc]
              show _ = upd _ x1 (max (maxF (l.take k) x1) x2)
              rw [Hm.out, show max m x2 = x2 by omega]
            go_wp2_with fail
            go_quiet (fail)
            go_wp2
            go_region
            all_goals go_wp2
            obtain ⟨p1, p2⟩ := (HR2.out.kept (below_drewN (Below.refl _ _) (nq + 1))).put0 (k := j) (v := x2) (by omega) (by omega)
            exact ⟨⟨k + 1, _, _, _, _, by omega, by go_num, p1, Hmax.out, Hle2.out, HE2.out, HN2.out, (below_drewN HB2.out _).trans p2⟩, by simp [intOf]; omega⟩
          · have Hmax : Hid (lookF Ls' Ns' = maxF (l.take (k + 1))) := by
              show _ = _
              rw [Hl2.out, Htk.out, maxF_snoc]
              show _ = upd _ x1 (max (maxF (l.take k) x1) x2)
              rw [Hm.out, show max m x2 = m by omega]
              funext c
              unfold upd
              split
              · rename_i e; rw [e, Hm.out]
              · rfl
            go_wp2_with fail
            go_quiet (fail)
            go_wp2
            exact ⟨⟨k + 1, _, _, _, _, by omega, by go_num, HR2.out.kept (below_drewN (Below.refl _ _) nq), Hmax.out, Hle2.out, HE2.out, HN2.out, below_drewN HB2.out _⟩, by simp [intOf]; omega⟩
      · obtain rfl : k = n := by omega
        have Hall : Hid (l.take k = l) := List.take_of_length_le (by rw [Hn.out]; exact Nat.le_refl _)
        have hl := Hl.out
        have hN := HN.out
        rw [Hall.out] at hl hN
        have Hyes : Hid (idsOk l = true) := by
          show _ = _
          simp only [idsOk, Htw.out, Bool.not_false, Bool.true_and, List.all_eq_true]
          exact hN
        have Hl2 := Lib.hid hl
        clear hl hN
        go_wp2_with fail
        go_ret2
        exact ⟨Hbw.out, .inr ⟨Hyes.out, _, _, _, _, _, rfl, HR.out, Hl2.out, by rw [Hn.out]; exact hle, HE.out⟩⟩
end Go.Proofs.Ytaconebkgajicaa
