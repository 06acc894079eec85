/- Own work: IdentCounts' walk. -/
import Derived.Test.YtaconebkgajicaaIdAsks
import Derived.Test.YtaconebkgajicaaIdNames
namespace Go.Proofs.Ytaconebkgajicaa
open Go.RowKit Go.Maps

theorem own_empty4 {W : World} {B H : Nat} {e : TypeId} (h : W.heap[H]? = some (.cells #[] e (0, 0))) (hB : B ≤ H) : W.ownsRow B e 4 (.slice (some ⟨H, 0, none⟩) 0 0) 0 [] :=
  ⟨rfl, .inr ⟨H, 0, #[], rfl, hB, h, Nat.le_refl _, Nat.zero_le _, rfl, rfl⟩⟩
/-- the first lines of a row -/
theorem lns_front {w : World} {B g n cap m : Nat} {e : TypeId} {l r : List LineV} (h : w.ownsRow B e 4 (.slice (some ⟨g, 0, none⟩) n cap) n (flatL (l ++ r))) (hm : l.length = m) : Lns w (.slice (some ⟨g, 0, none⟩) m cap) l := by
  have hn : n * 4 = (l ++ r).length * 4 := by rw [← h.1, flatL_len]
  rcases h.2 with ⟨e, _⟩ | ⟨g', cap', cur, hv, _, _, hnc, hcm, _, _⟩
  · cases e
  · cases hv
    by_cases h0 : 0 < l.length
    · refine .inr ⟨g, 0, cap, by rw [hm], h0, by simp at hn; omega, hcm, fun i hi => ?_⟩
      have hi2 : i < (l ++ r).length := by simp; omega
      obtain ⟨f0, f1, f2, f3⟩ := flatL_get (l ++ r) i hi2
      have hg : (l ++ r)[i]'hi2 = l[i]'hi := List.getElem_append_left hi
      rw [hg] at f0 f1 f2 f3
      simp only [Nat.zero_add]
      exact ⟨(h.cellAt _ (by omega)).trans f0, (h.cellAt _ (by omega)).trans f1, (h.cellAt _ (by omega)).trans f2, (h.cellAt _ (by omega)).trans f3⟩
    · have : l = [] := List.eq_nil_of_length_eq_zero (by omega)
      subst this
      simp at hm
      subst hm
      exact .inl ⟨_, _, rfl, rfl⟩
theorem own_cap {w : World} {B g n cap s : Nat} {e : TypeId} {xs : List Value} (h : w.ownsRow B e s (.slice (some ⟨g, 0, none⟩) n cap) n xs) : n ≤ cap ∧ cap ≤ maxLen := by
  rcases h.2 with ⟨e, _⟩ | ⟨g', cap', cur, hv, _, _, hnc, hcm, _, _⟩
  · cases e
  · cases hv; exact ⟨hnc, hcm⟩
theorem four_news (w : World) (x : LineV) (t : TypeId) : ∀ (i : Nat) (u : Value), x.cells[i]? = some u → (w.alloc (.cells #[.int .u64 x.lab, .int .i64 x.num, .int .i64 x.rev, .string x.text] t)).cell? ((⟨w.heap.size, 0, none⟩ : Addr).add i) = some u := by
  intro i u hu
  rw [addr_add, Nat.zero_add, cell_of_row _ _ _ _ _ _ (heap_alloc_new w _)]
  simpa [LineV.cells] using hu
def x7 : LineV := ⟨0, 7, 0, ⟨#[]⟩⟩
theorem flatL_append (a b : List LineV) : flatL (a ++ b) = flatL a ++ flatL b := by simp [flatL]
theorem flatL_one (x : LineV) : flatL [x] = x.cells := by simp [flatL]
theorem cells_plain (x : LineV) : ∀ y ∈ x.cells, y.oneCell' = true := by
  intro y hy
  simp [LineV.cells] at hy
  rcases hy with rfl | rfl | rfl | rfl <;> rfl

theorem Cnt.under {B T : Nat} {w w' : World} {b mb n : Nat} {f : Int → Int} (h : Cnt B w (.pointer (some ⟨b, 0, none⟩)) mb n f) (hb : b < T) (hm : mb < T) (hB : Below T w w') : Cnt B w' (.pointer (some ⟨b, 0, none⟩)) mb n f := by
  obtain ⟨b', D, h1, h2, h3, h4⟩ := h
  cases h1
  obtain ⟨es, clock, e1, e2⟩ := h3
  exact ⟨b, D, rfl, (hB.block b hb).trans h2, ⟨es, clock, (hB.block mb hm).trans e1, e2⟩, h4⟩
theorem Rc.low {B r : Nat} {w w' : World} {b : Nat} {lv nv : Value} {Ls Ns : List Int} (h : Rc B w b lv nv Ls Ns) (hg : w.grownBy w' (some r)) (hr : r < B) : Rc B w' b lv nv Ls Ns :=
  { h with
    row := (hg.block b (lt_of_block h.row) (fun e => by have := h.base; have := Option.some.inj e; omega)).trans h.row
    ls := own_same h.ls fun q hq => hg.block q (h.ls.lt q hq).2 (fun e => by have := (h.ls.lt q hq).1; have := Option.some.inj e; omega)
    ns := own_same h.ns fun q hq => hg.block q (h.ns.lt q hq).2 (fun e => by have := (h.ns.lt q hq).1; have := Option.some.inj e; omega) }

set_option maxHeartbeats 1000000 in
theorem refNilNext (a : Int) (w : World) : Calls Try.prog 10 #[.pointer none, .int .u64 a] w fun e w' => e = .returned (.tuple #[.int .i64 0, .int .i64 2]) ∧ w' = w := by
  go_enter Try.func10, Try.ntmps10
  go_wp2
  go_ret2
  exact ⟨rfl, rfl⟩
set_option maxHeartbeats 1000000 in
theorem refNilLast (a : Int) (w : World) : Calls Try.prog 14 #[.pointer none, .int .u64 a] w fun e w' => e = .returned (.int .i64 0) ∧ w' = w := by
  go_enter Try.func14, Try.ntmps14
  go_wp2
  go_ret
  exact ⟨rfl, rfl⟩
set_option maxHeartbeats 1000000 in
theorem refNilCopy (w : World) : Calls Try.prog 12 #[.pointer none] w fun e w' => e = .returned (.pointer none) ∧ w' = w := by
  go_enter Try.func12, Try.ntmps12
  go_wp2
  go_ret
  exact ⟨rfl, rfl⟩

set_option maxHeartbeats 32000000 in
set_option maxRecDepth 100000 in
theorem counts_walk (u v : Value) (l : List LineV) (ks : List AskV) (w : World) (hu : Lns w u l) (hf : SliceForm u) (hok : ∀ x ∈ l, x.ok) (hlen : l.length * 40 ≤ 140737488351232) (hk : Aks w v ks) (hka : ∀ x ∈ ks, u64 x.lab) :
    Calls Try.prog 3 #[u, v] w fun e w' => e = .returned (.bool true) ∧ Below w.heap.size w w' := by
  obtain ⟨uo, ucap, ub, uof, hu1, _⟩ := hu.form
  obtain ⟨vo, vcap, vb, vof, rfl, hvo, hvm, hvc⟩ := hk.form
  subst hu1
  have Hu := Lib.hid hu
  have Hf := Lib.hid hf
  have Hok := Lib.hid hok
  have Hvo := Lib.hid hvo
  have Hvc := Lib.hid hvc
  have Hka := Lib.hid hka
  unfold maxLen at hvm
  obtain ⟨i0, hi, hz0, hz1, hz2⟩ := info_parts Try.info27
  obtain ⟨n, hn⟩ : ∃ n, l.length = n := ⟨_, rfl⟩
  have Hn := Lib.hid hn
  obtain ⟨m, hm⟩ : ∃ m, ks.length = m := ⟨_, rfl⟩
  have Hm := Lib.hid hm
  rw [hn] at hlen Hu Hf ⊢
  rw [hm] at hvm Hvo ⊢
  clear hu hf hok hvo hvc hk hka hn hm
  have hal : Below w.heap.size w (w.alloc (.cells #[] 27)) := (Below.refl _ _).alloc (Nat.le_refl _) _
  go_enter Try.func3, Try.ntmps3
  go_wp2_with (at_builtin; first
    | (refine wpList_append_lines rfl _ _ rfl w.heap.size _ 0 [] rfl (own_empty4 (heap_alloc_new w _) (Nat.le_refl _)) _ l rfl (Hu.out.kept hal) Hf.out (by rw [Hn.out]; omega) (by simp) ?_
       intro v1 w1 hown1 hg1
       have B1 := Lib.hid (hal.grown hg1 (by simp) (fun q hq => by cases hq; exact Nat.le_refl _)))
    | (refine wpList_append_own _ rfl _ _ 22 rfl w.heap.size 27 i0 _ 4 40 Try.underlying22 hi hz0 hz1 hz2 rfl (by decide) _ _ _ rfl (hown1.alloc _) ⟨w1.heap.size, 0, none⟩ 1 1 x7.cells rfl rfl (four_news w1 x7 _) (cells_plain x7) (by rw [Hn.out]; unfold maxLen; omega) (by rw [Hn.out]; omega) (by have := B1.out.size; simp; omega) ?_
       intro v2 w2 hown2 hg2 _
       simp only [Nat.zero_add, Hn.out, List.nil_append] at hown2
       obtain ⟨g2, cap2, rfl⟩ := Joins.ownsRow_form hown2 (by omega)
       rw [← flatL_one, ← flatL_append] at hown2
       obtain ⟨hcap, hcm⟩ := own_cap hown2
       unfold maxLen at hcm
       have B2 := Lib.hid ((B1.out.alloc B1.out.size _).grown hg2 (by have := B1.out.size; simp; omega) (fun q hq => (hown1.lt q hq).1))
       have Hown2 := Lib.hid hown2
       clear hown2 hg2))
  have Hin2 := Lib.hid (lns_front Hown2.out Hn.out)
  have c7 := (flatL_get (l ++ [x7]) n (by simp [Hn.out])).2.1
  have c7 := (Hown2.out.cellAt (n * 4 + 1) (by omega)).trans c7
  simp only [show (l ++ [x7])[n]'(by simp [Hn.out]) = x7 from by rw [List.getElem_append_right (by rw [Hn.out]; exact Nat.le_refl _)]; simp] at c7
  have C7 := Lib.hid c7
  clear c7
  refine (idNew_any _ l _ Hin2.out Hok.out).mono ?_
  rintro e w3 ⟨hb3, h3⟩
  have B3 := Lib.hid (below_join B2.out hb3)
  have Hin3 := Lib.hid (Hin2.out.kept hb3)
  have C73 := Lib.hid (cell_kept hb3 C7.out)
  clear hb3
  rcases h3 with ⟨hno, rfl⟩ | ⟨hyes, p, mb, rfl, hp⟩
  · have Hno := Lib.hid hno
    clear hno
    go_wp2_with fail
    refine (refNew_any _ l _ (Hu.out.kept B3.out) Hok.out (by rw [Hn.out]; omega)).mono ?_
    rintro e w4 ⟨hb4, ⟨_, rfl⟩ | ⟨hyes, _⟩⟩
    rotate_left
    · rw [Hno.out] at hyes; cases hyes
    have B4 := Lib.hid (below_join B3.out hb4)
    have Hin4 := Lib.hid (Hin3.out.kept hb4)
    have C74 := Lib.hid (cell_kept hb4 C73.out)
    clear hb4
    go_wp2_with fail
    refine (linesSame_any _ _ l l _ Hin4.out (Hu.out.kept B4.out)).mono ?_
    rintro e w5 ⟨rfl, hb5⟩
    have B5 := Lib.hid (below_join B4.out hb5)
    have c75 := cell_kept hb5 C74.out
    simp only [decide_true]
    have hx7 : x7.num = 7 := rfl
    rw [hx7] at c75
    clear hb5 hx7
    go_wp2_with fail
    clear c75
    go_loop [11] (fun i => ∃ k : Nat, k ≤ m ∧ k ≤ 300 ∧ i = .int .i64 k) (fun i => 300 - (intOf i).toNat)
    case atStart => exact ⟨0, Nat.zero_le _, Nat.zero_le _, rfl⟩
    case round =>
      obtain ⟨k, hk1, hk2, rfl⟩ := hrel
      by_cases hlt : k < m
      rotate_left
      · obtain rfl : k = m := by omega
        go_wp2_with fail
        go_ret
        exact ⟨rfl, B5.out⟩
      by_cases hlt2 : k < 300
      rotate_left
      · have h300 : ¬ (k : Int) < 300 := by omega
        go_wp2_with fail
        go_ret
        exact ⟨rfl, B5.out⟩
      have hkl : k < ks.length := by rw [Hm.out]; exact hlt
      obtain rfl := Hvo.out (by omega)
      obtain ⟨d0, d1⟩ := Hvc.out k hkl
      have d0 := cell_kept B5.out d0
      have d1 := cell_kept B5.out d1
      obtain ⟨x, hx⟩ : ∃ x, ks[k]'hkl = x := ⟨_, rfl⟩
      rw [hx] at d0 d1
      obtain ⟨kd, lb⟩ := x
      have hi0 : (0 : Int) ≤ (k : Int) := by omega
      have hi1 : (k : Int) < (m : Int) := by omega
      clear hx
      by_cases hk0 : kd = 0
      · subst hk0
        go_wp2_with (first
          | (go_at_call 9; refine (nilNext _ _).mono ?_; rintro e w' ⟨rfl, rfl⟩)
          | (go_at_call 10; refine (refNilNext _ _).mono ?_; rintro e w' ⟨rfl, rfl⟩)
          | (go_at_call 13; refine (nilLast _ _).mono ?_; rintro e w' ⟨rfl, rfl⟩)
          | (go_at_call 14; refine (refNilLast _ _).mono ?_; rintro e w' ⟨rfl, rfl⟩))
        exact ⟨⟨k + 1, by omega, by omega, by go_num⟩, by simp [intOf]; omega⟩
      by_cases hk2 : kd = 2
      · subst hk2
        go_wp2_with (first
          | (go_at_call 11; refine (nilCopy _).mono ?_; rintro e w' ⟨rfl, rfl⟩)
          | (go_at_call 12; refine (refNilCopy _).mono ?_; rintro e w' ⟨rfl, rfl⟩)
          | (go_at_call 9; refine (nilNext _ _).mono ?_; rintro e w' ⟨rfl, rfl⟩)
          | (go_at_call 10; refine (refNilNext _ _).mono ?_; rintro e w' ⟨rfl, rfl⟩)
          | (go_at_call 13; refine (nilLast _ _).mono ?_; rintro e w' ⟨rfl, rfl⟩)
          | (go_at_call 14; refine (refNilLast _ _).mono ?_; rintro e w' ⟨rfl, rfl⟩))
        exact ⟨⟨k + 1, by omega, by omega, by go_num⟩, by simp [intOf]; omega⟩
      go_wp2_with (first
        | (go_at_call 13; refine (nilLast _ _).mono ?_; rintro e w' ⟨rfl, rfl⟩)
        | (go_at_call 14; refine (refNilLast _ _).mono ?_; rintro e w' ⟨rfl, rfl⟩))
      exact ⟨⟨k + 1, by omega, by omega, by go_num⟩, by simp [intOf]; omega⟩
  · obtain ⟨bx, rfl⟩ := hp.ptr
    have Hyes := Lib.hid hyes
    have hxl := hp.lts
    have hmx : w.heap.size ≤ mb := Nat.le_trans B2.out.size hxl.2.2.2
    have Hp3 := Lib.hid hp
    clear hyes hp
    go_wp2_with fail
    refine (refNew_any _ l _ (Hu.out.kept B3.out) Hok.out (by rw [Hn.out]; omega)).mono ?_
    rintro e w4 ⟨hb4, ⟨hno, _⟩ | ⟨_, b, lv, nv, Ls, Ns, rfl, hr, hl, hle, h0⟩⟩
    · rw [Hyes.out] at hno; cases hno
    have B4 := Lib.hid (below_join B3.out hb4)
    have Hin4 := Lib.hid (Hin3.out.kept hb4)
    have C74 := Lib.hid (cell_kept hb4 C73.out)
    have Hp4 := Lib.hid (Hp3.out.kept hb4)
    have Hr4 := Lib.hid hr
    have Hl := Lib.hid hl
    have H0 := Lib.hid h0
    rw [Hn.out] at hle
    clear hb4 hr hl h0
    go_wp2_with fail
    refine (linesSame_any _ _ l l _ Hin4.out (Hu.out.kept B4.out)).mono ?_
    rintro e w5 ⟨rfl, hb5⟩
    have B5 := Lib.hid (below_join B4.out hb5)
    have c75 := cell_kept hb5 C74.out
    have Hp5 := Lib.hid (Hp4.out.kept hb5)
    have Hr5 := Lib.hid (Hr4.out.kept hb5)
    simp only [decide_true]
    have hx7 : x7.num = 7 := rfl
    rw [hx7] at c75
    clear hb5 hx7
    go_wp2_with fail
    clear c75
    go_loopw [11] (fun i wr => ∃ (k nx : Nat) (f : Int → Int) (lv nv : Value) (Ls Ns : List Int), k ≤ m ∧ k ≤ 300 ∧ i = .int .i64 k ∧ Cnt w2.heap.size wr (.pointer (some ⟨bx, 0, none⟩)) mb nx f ∧ nx ≤ n + k ∧ Rc w3.heap.size wr b lv nv Ls Ns ∧
      lookF Ls Ns = f ∧ Ls.length ≤ n + 2 * k ∧ Hid (Ls.length = 0 → lv = .slice none 0 0 ∧ nv = .slice none 0 0) ∧ Below w.heap.size w wr) (fun i _ => 300 - (intOf i).toNat)
    case atStart => exact ⟨0, _, _, lv, nv, Ls, Ns, Nat.zero_le _, Nat.zero_le _, rfl, Hp5.out, by rw [Hn.out]; omega, Hr5.out, Hl.out, by omega, H0.out, B5.out⟩
    case round =>
      clear Hp5 Hr5 Hl H0 Hr4 Hp4 Hin4 C74
      clear hle
      clear lv nv Ls Ns
      obtain ⟨k, nx, f, lv, nv, Ls, Ns, hk1, hk2, rfl, hp, hnx, hr, hl, hle, H0, hbw⟩ := hrel
      have HP := Lib.hid hp
      have HR := Lib.hid hr
      have HL := Lib.hid hl
      have BW := Lib.hid hbw
      clear hp hr hl hbw
      by_cases hlt : k < m
      rotate_left
      · obtain rfl : k = m := by omega
        go_wp2_with fail
        go_ret
        exact ⟨rfl, BW.out⟩
      by_cases hlt2 : k < 300
      rotate_left
      · have h300 : ¬ (k : Int) < 300 := by omega
        go_wp2_with fail
        go_ret
        exact ⟨rfl, BW.out⟩
      have hkl : k < ks.length := by rw [Hm.out]; exact hlt
      obtain rfl := Hvo.out (by omega)
      obtain ⟨d0, d1⟩ := Hvc.out k hkl
      have d0 := cell_kept BW.out d0
      have d1 := cell_kept BW.out d1
      have Hlb := Lib.hid (Hka.out _ (List.getElem_mem hkl))
      obtain ⟨x, hx⟩ : ∃ x, ks[k]'hkl = x := ⟨_, rfl⟩
      rw [hx] at d0 d1 Hlb
      obtain ⟨kd, lb⟩ := x
      have hi0 : (0 : Int) ≤ (k : Int) := by omega
      have hi1 : (k : Int) < (m : Int) := by omega
      clear hx
      by_cases hk0 : kd = 0
      · subst hk0
        go_wp2_with fail
        refine (next_any _ _ _ _ _ lb _ HP.out Hlb.out (by omega)).mono ?_
        rintro e w6 ⟨rfl, hp6, hg6⟩
        have HP6 := Lib.hid hp6
        have HR6 := Lib.hid (HR.out.low hg6 (by omega))
        have BW6 := Lib.hid (BW.out.grown hg6 BW.out.size (fun q hq => by cases hq; exact hmx))
        clear hp6 hg6
        go_wp2_with fail
        refine (refNext_any _ _ _ _ _ _ lb _ HR6.out (by omega)).mono ?_
        rintro e w7 ⟨rfl, lv7, nv7, Ls7, Ns7, hr7, hB7, hl7, hle7, hpos7⟩
        rw [HL.out] at hl7 ⊢
        obtain ⟨⟨r1, r2⟩, hr⟩ : ∃ r, nextF f lb = r := ⟨_, rfl⟩
        rw [hr]
        have HP7 := Lib.hid (HP6.out.under (T := w3.heap.size) (by omega) (by omega) hB7)
        have HR7 := Lib.hid hr7
        have HL7 := Lib.hid hl7
        have BW7 := Lib.hid (BW6.out.trans (hB7.mono B3.out.size))
        clear hr7 hB7 hl7 hr
        go_wp2_with fail
        refine (last_any _ _ _ _ _ lb _ HP7.out Hlb.out).mono ?_
        rintro e w8 ⟨rfl, rfl⟩
        go_wp2_with fail
        refine (refLast_any _ _ _ _ _ _ lb _ HR7.out (by omega)).mono ?_
        rintro e w9 ⟨rfl, lv9, nv9, Ls9, Ns9, hr9, hB9, hl9, hle9, hpos9⟩
        rw [HL7.out] at hl9 ⊢
        obtain ⟨r3, hr3⟩ : ∃ r, nextU f lb lb = r := ⟨_, rfl⟩
        rw [hr3]
        have HP9 := Lib.hid (HP7.out.under (T := w3.heap.size) (by omega) (by omega) hB9)
        have HR9 := Lib.hid hr9
        have HL9 := Lib.hid hl9
        have BW9 := Lib.hid (BW7.out.trans (hB9.mono B3.out.size))
        clear hr9 hB9 hl9 hr3
        go_wp2_with fail
        exact ⟨⟨k + 1, nx + 1, _, lv9, nv9, Ls9, Ns9, by omega, by omega, by go_num, HP9.out, by omega, HR9.out, HL9.out, by omega, fun e => absurd e (by omega), BW9.out⟩, by simp [intOf]; omega⟩
      by_cases hk2 : kd = 2
      · subst hk2
        go_wp2_with fail
        refine (copy_any _ _ _ _ _ _ HP.out (by omega)).mono ?_
        rintro e w6 ⟨c, mc, rfl, hc, hb6⟩
        obtain ⟨bc, rfl⟩ := hc.ptr
        have hcl := hc.lts
        have HC := Lib.hid hc
        have HR6 := Lib.hid (HR.out.kept hb6)
        have K6 := Lib.hid hb6
        clear hc hb6
        go_wp2_with fail
        refine (refCopy_any _ _ _ _ _ _ _ HR6.out (by omega) H0.out).mono ?_
        rintro e w7 ⟨b2, lv2, nv2, rfl, hr2, hb7⟩
        have HC7 := Lib.hid (HC.out.kept hb7)
        have HD7 := Lib.hid hr2
        have K7 := Lib.hid (below_join K6.out hb7)
        have hs67 := hb7.size
        clear hr2 hb7
        go_wp2_with fail
        refine (next_any _ _ _ _ _ lb _ HC7.out Hlb.out (by omega)).mono ?_
        rintro e w8 ⟨rfl, _, hg8⟩
        have HD8 := Lib.hid (HD7.out.low hg8 (by omega))
        have K8 := Lib.hid (K7.out.grown hg8 K7.out.size (fun q hq => by cases hq; omega))
        clear hg8
        go_wp2_with fail
        refine (refNext_any _ _ _ _ _ _ lb _ HD8.out (by omega)).mono ?_
        rintro e w9 ⟨rfl, _, _, _, _, _, hB9, _⟩
        have hk69 := K6.out.size
        have K9 := Lib.hid (K8.out.trans (hB9.mono hk69))
        rw [HL.out]
        obtain ⟨⟨r1, r2⟩, hr⟩ : ∃ r, nextF f lb = r := ⟨_, rfl⟩
        rw [hr]
        have HP9 := Lib.hid (HP.out.kept K9.out)
        have HR9 := Lib.hid (HR.out.kept K9.out)
        have BW9 := Lib.hid (below_join BW.out K9.out)
        clear hB9 hr
        go_wp2_with fail
        refine (last_any _ _ _ _ _ lb _ HP9.out Hlb.out).mono ?_
        rintro e w11 ⟨rfl, rfl⟩
        go_wp2_with fail
        refine (refLast_any _ _ _ _ _ _ lb _ HR9.out (by omega)).mono ?_
        rintro e w12 ⟨rfl, lv9, nv9, Ls9, Ns9, hr9, hB9, hl9, hle9, hpos9⟩
        rw [HL.out] at hl9 ⊢
        obtain ⟨r5, hr5⟩ : ∃ r, f lb = r := ⟨_, rfl⟩
        rw [hr5]
        have HP12 := Lib.hid (HP9.out.under (T := w3.heap.size) (by omega) (by omega) hB9)
        have HR12 := Lib.hid hr9
        have HL12 := Lib.hid hl9
        have BW12 := Lib.hid (BW9.out.trans (hB9.mono B3.out.size))
        clear hr9 hB9 hl9 hr5
        go_wp2_with fail
        exact ⟨⟨k + 1, nx, _, lv9, nv9, Ls9, Ns9, by omega, by omega, by go_num, HP12.out, by omega, HR12.out, HL12.out, by omega, fun e => absurd e (by omega), BW12.out⟩, by simp [intOf]; omega⟩
      · go_wp2_with fail
        refine (last_any _ _ _ _ _ lb _ HP.out Hlb.out).mono ?_
        rintro e w11 ⟨rfl, rfl⟩
        go_wp2_with fail
        refine (refLast_any _ _ _ _ _ _ lb _ HR.out (by omega)).mono ?_
        rintro e w12 ⟨rfl, lv9, nv9, Ls9, Ns9, hr9, hB9, hl9, hle9, hpos9⟩
        rw [HL.out] at hl9 ⊢
        obtain ⟨r5, hr5⟩ : ∃ r, f lb = r := ⟨_, rfl⟩
        rw [hr5]
        have HP12 := Lib.hid (HP.out.under (T := w3.heap.size) (by omega) (by omega) hB9)
        have HR12 := Lib.hid hr9
        have HL12 := Lib.hid hl9
        have BW12 := Lib.hid (BW.out.trans (hB9.mono B3.out.size))
        clear hr9 hB9 hl9 hr5
        go_wp2_with fail
        exact ⟨⟨k + 1, nx, _, lv9, nv9, Ls9, Ns9, by omega, by omega, by go_num, HP12.out, by omega, HR12.out, HL12.out, by omega, fun e => absurd e (by omega), BW12.out⟩, by simp [intOf]; omega⟩
end Go.Proofs.Ytaconebkgajicaa
