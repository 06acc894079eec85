/- Own work: ident's counters: New, Next, Last, Copy. -/
import Derived.Test.YtajjikbigacbaaaDoorIdTw
namespace Go.Proofs.YtajjikbigacbaaaDoor
open Go.RowKit Go.Maps

theorem zeroInt (w : World) : (zeroValue 3).run Tryd.prog w = .ok (.int .i64 0) w := Tryd.zeroValue3 w
/-- p points to counters, which say f; their parts lie from block B on -/
def Cnt (B : Nat) (w : World) (p : Value) (mb n : Nat) (f : Int → Int) : Prop :=
  ∃ b D, p = .pointer (some ⟨b, 0, none⟩) ∧ w.heap[b]? = some (.cells #[.map (some mb)] 60 (0, 0)) ∧ LMap w mb n D ∧ Says D f ∧ Fine f ∧ B ≤ b ∧ B ≤ mb ∧ b ≠ mb
theorem Cnt.kept {B : Nat} {w w' : World} {p : Value} {mb n : Nat} {f : Int → Int} (h : Cnt B w p mb n f) (hb : Below w.heap.size w w') : Cnt B w' p mb n f := by
  obtain ⟨b, D, h1, h2, h3, h4⟩ := h
  exact ⟨b, D, h1, row_kept hb h2, lmap_kept h3 hb, h4⟩
theorem Cnt.grown {B : Nat} {w w' : World} {p : Value} {mb n q : Nat} {f : Int → Int} (h : Cnt B w p mb n f) (hg : w.grownBy w' (some q)) (hq : ∀ b, p = .pointer (some ⟨b, 0, none⟩) → b ≠ q) (hm : mb ≠ q) : Cnt B w' p mb n f := by
  obtain ⟨b, D, h1, h2, h3, h4⟩ := h
  exact ⟨b, D, h1, (hg.block b (lt_of_block h2) (fun e => hq b h1 (Option.some.inj e))).trans h2, h3.kept hg (fun e => hm (Option.some.inj e)), h4⟩

theorem mapNil (mb : Nat) (w : World) : (binOp .eql 58 (.map (some mb)) (.map none)).run Tryd.prog w = .ok (.bool false) w := by kernel_rfl
set_option maxHeartbeats 4000000 in
set_option maxRecDepth 100000 in
theorem last_any (B : Nat) (p : Value) (mb n : Nat) (f : Int → Int) (a : Int) (w : World) (h : Cnt B w p mb n f) (ha : u64 a) :
    Calls Tryd.prog 12 #[p, .int .u64 a] w fun e w' => e = .returned (.int .i64 (f a)) ∧ w' = w := by
  obtain ⟨b, D, rfl, hb, hm, hs, _⟩ := h
  have c0 := cell_of_row _ _ 0 _ _ _ hb
  have hat := hs a ha
  go_enter Tryd.func12, Tryd.ntmps12
  go_wp2_with (at_lookup; refine wpList_lookup_own_int _ rfl _ _ 58 rfl 23 3 .i64 keyedL Tryd.underlying58 Tryd.underlying3 (zeroInt _) mb n D rfl hm _ _ rfl (keyL ha) ?_; intro c hc _; obtain rfl := num_at (hat.symm.trans hc))
  go_ret
  exact ⟨rfl, rfl⟩

set_option maxHeartbeats 4000000 in
set_option maxRecDepth 100000 in
theorem next_any (B : Nat) (p : Value) (mb n : Nat) (f : Int → Int) (a : Int) (w : World) (h : Cnt B w p mb n f) (ha : u64 a) (hn : n < 1000000000000000000) :
    Calls Tryd.prog 13 #[p, .int .u64 a] w fun e w' => e = .returned (.tuple #[.int .i64 (nextF f a).1, .int .i64 (nextF f a).2]) ∧ Cnt B w' p mb (n + 1) (nextU f a) ∧ w.grownBy w' (some mb) := by
  obtain ⟨b, D, rfl, hb, hm, hs, hf, hBb, hBm, hbm⟩ := h
  have c0 := cell_of_row _ _ 0 _ _ _ hb
  have hat := hs a ha
  have hfa := hf a
  cases hfull : decide (f a = 4611686018427387904) with
  | true =>
    have hfull := of_decide_eq_true hfull
    have hr : nextF f a = (0, 3) := if_pos hfull
    have hu : nextU f a = f := if_pos hfull
    rw [hfull] at hat
    have Hr := Lib.hid hr
    have Hu := Lib.hid hu
    rw [Hr.out, Hu.out]
    clear hr hu hfull
    go_enter Tryd.func13, Tryd.ntmps13
    go_wp2_with (at_lookup; refine wpList_lookup_own_int _ rfl _ _ 58 rfl 23 3 .i64 keyedL Tryd.underlying58 Tryd.underlying3 (zeroInt _) mb n D rfl hm _ _ rfl (keyL ha) ?_; intro c hc _; obtain rfl := num_at (hat.symm.trans hc))
    go_ret2
    exact ⟨rfl, ⟨b, D, rfl, hb, hm.mono (by omega), hs, hf, hBb, hBm, hbm⟩, ⟨rfl, rfl, rfl, Nat.le_refl _, fun _ _ _ => rfl⟩⟩
  | false =>
    have hfull := of_decide_eq_false hfull
    have hr : nextF f a = (f a + 1, 0) := if_neg hfull
    have hu : nextU f a = upd f a (f a + 1) := if_neg hfull
    have Hr := Lib.hid hr
    have Hu := Lib.hid hu
    rw [Hr.out, Hu.out]
    clear hr hu
    obtain ⟨m, hmf⟩ : ∃ m, f a = m := ⟨_, rfl⟩
    rw [hmf] at hat hfa hfull ⊢
    have hmp : i64 (m + 1) := by unfold i64; omega
    have Hput := Lib.hid (hs.put (a := a) (v := m + 1) hm.isMap)
    have Hf := Lib.hid (hf.upd (a := a) (v := m + 1) (by omega) (by omega))
    have hsum : IntKind.i64.wrap (m + 1) = m + 1 := by rw [IntKind.wrap_i64]; omega
    have hnil := mapNil mb w
    have Hm := Lib.hid hm
    have Hat := Lib.hid hat
    have Hat5 := Lib.hid (show (D.put (.int .u64 a) (.lit (.int .i64 (m + 1)))).atKey (.int .u64 a) (.lit (.int .i64 0)) = .lit (.int .i64 (m + 1)) by
      have e := Hput.out a ha
      rwa [show upd f a (m + 1) a = m + 1 from if_pos rfl] at e)
    go_enter Tryd.func13, Tryd.ntmps13
    go_wp2_with (first
      | (at_lookup; first
          | (refine wpList_lookup_own_int _ rfl _ _ 58 rfl 23 3 .i64 keyedL Tryd.underlying58 Tryd.underlying3 (zeroInt _) mb n D rfl Hm.out _ _ rfl (keyL ha) ?_; intro c hc _; obtain rfl := num_at (Hat.out.symm.trans hc))
          | (refine wpList_lookup_own_int _ rfl _ _ 58 rfl 23 3 .i64 keyedL Tryd.underlying58 Tryd.underlying3 (zeroInt _) mb (n + 1) _ rfl hown5 _ _ rfl (keyL ha) ?_; intro c hc _; obtain rfl := num_at (Hat5.out.symm.trans hc)))
      | (at_mapUpdate; refine wpList_mapUpdate_own _ rfl _ _ _ 58 rfl 23 3 keyedL Tryd.underlying58 _ mb n D rfl Hm.out (by unfold maxLen; omega) _ _ _ rfl rfl (keyL ha) _ [] (numElem hmp) ?_; intro w5 hown5 hgrow5; have hb5 := (hgrow5.block b (lt_of_block hb) (fun e => hbm (Option.some.inj e))).trans hb; have c5 := cell_of_row _ _ 0 _ _ _ hb5))
    go_ret2
    exact ⟨rfl, ⟨b, _, rfl, hb5, hown5, Hput.out, Hf.out, hBb, hBm, hbm⟩, hgrow5⟩

/-- what New tells -/
def IdNewP (w : World) (l : List LineV) (e : Ending) (w' : World) : Prop :=
  Below w.heap.size w w' ∧ ((idsOk l = false ∧ e = .returned (.tuple #[.pointer none, .int .i64 50])) ∨ (idsOk l = true ∧ ∃ p mb, e = .returned (.tuple #[p, .int .i64 0]) ∧ Cnt w.heap.size w' p mb l.length (maxF l)))
theorem run_makeLM (w : World) : (Instr.makeMap 58 none).run Tryd.prog w = .ok (.map (some w.heap.size)) (w.alloc (.map #[] 0)) := by
  simp [Instr.makeMap, Result.andThen]

set_option maxHeartbeats 16000000 in
set_option maxRecDepth 100000 in
theorem idNew_any (u : Value) (l : List LineV) (w : World) (hu : Lns w u l) (hok : ∀ x ∈ l, x.ok) : Calls Tryd.prog 11 #[u] w (IdNewP w l) := by
  obtain ⟨ao, cap, b, o, rfl, hao, hml, hc⟩ := hu.form
  obtain ⟨n, hn⟩ : ∃ n, l.length = n := ⟨_, rfl⟩
  unfold maxLen at hml
  have Hn := Lib.hid hn
  have Hu := Lib.hid hu
  rw [hn] at hao hml Hu ⊢
  have Hao := Lib.hid hao
  have Hc := Lib.hid hc
  have Hok := Lib.hid hok
  have hmk := run_makeLM
  clear hu hao hc hok hn
  go_enter Tryd.func11, Tryd.ntmps11
  go_wp2_with fail
  refine (twice_any _ l _ Hu.out Hok.out).mono ?_
  rintro e w1 ⟨rfl, hb⟩
  have B1 := Lib.hid hb
  clear hb
  cases htw : (twV l).2 with
  | true =>
    have Hno : Hid (idsOk l = false) := by show _ = _; simp [idsOk, htw]
    go_wp2_with fail
    go_ret2
    exact ⟨B1.out, .inl ⟨Hno.out, rfl⟩⟩
  | false =>
    have Htw := Lib.hid htw
    clear htw
    go_wp2_with fail
    clear hmk
    go_loopw [18] (fun i wr => ∃ (k : Nat) (D : DataW Unit), k ≤ n ∧ i = .int .i64 k ∧ Says D (maxF (l.take k)) ∧ LMap wr w1.heap.size k D ∧ Hid (∀ x ∈ l.take k, numOk x = true) ∧ Below w.heap.size w wr) (fun i _ => n - (intOf i).toNat)
    case atStart => exact ⟨0, .map [], Nat.zero_le _, rfl, says_none, World.ownsMap_made _ _ _ _, by intro x hx; simp at hx, B1.out.alloc B1.out.size _⟩
    case round =>
      obtain ⟨k, D, hk, rfl, hs, hm, HN, hbw⟩ := hrel
      have Hs := Lib.hid hs
      have Hm := Lib.hid hm
      have Hbw := Lib.hid hbw
      clear hs hm hbw
      by_cases hlt : k < n
      · have hkl : k < l.length := by rw [Hn.out]; exact hlt
        obtain rfl := Hao.out (by omega)
        obtain ⟨c0, c1, c2, c3⟩ := Hc.out k hkl
        have c0 := cell_kept Hbw.out c0
        have c1 := cell_kept Hbw.out c1
        have c2 := cell_kept Hbw.out c2
        have c3 := cell_kept Hbw.out c3
        have Hx := Lib.hid (Hok.out _ (List.getElem_mem hkl))
        have Htk := Lib.hid (List.take_succ_eq_append_getElem hkl)
        have HF := Lib.hid (fun h => all_take hkl h)
        obtain ⟨x, hx⟩ : ∃ x, l[k]'hkl = x := ⟨_, rfl⟩
        rw [hx] at c0 c1 c2 c3 Hx Htk HF
        obtain ⟨x1, x2, x3, x4⟩ := x
        have hi0 : (0 : Int) ≤ (k : Int) := by omega
        have hi1 : (k : Int) < (n : Int) := by omega
        clear hx
        have Hbox := Lib.hid (show Below w.heap.size w (wr.alloc (.cells #[.int .u64 x1, .int .i64 x2, .int .i64 x3, .string x4] 25)) from Hbw.out.alloc Hbw.out.size _)
        have Hm3 := Lib.hid (Hm.out.alloc (.cells #[.int .u64 x1, .int .i64 x2, .int .i64 x3, .string x4] 25))
        obtain ⟨d0, d1, d2, d3⟩ := four_new wr x1 x2 x3 x4 25
        cases hnum : numOk ⟨x1, x2, x3, x4⟩ with
        | false =>
          have Hno := Lib.hid (HF.out hnum)
          by_cases h1 : x2 < 1
          · go_wp2_with fail
            go_ret2
            exact ⟨Hbox.out, .inl ⟨Hno.out, rfl⟩⟩
          · have h2 : x2 > 4611686018427387904 := by
              simp [numOk] at hnum
              exact hnum (by omega)
            go_wp2_with fail
            go_ret2
            exact ⟨Hbox.out, .inl ⟨Hno.out, rfl⟩⟩
        | true =>
          have h1 : 1 ≤ x2 := (numOk_iff.1 hnum).1
          have h2 : x2 ≤ 4611686018427387904 := (numOk_iff.1 hnum).2
          have h1' : ¬ x2 < 1 := by omega
          have h2' : ¬ x2 > 4611686018427387904 := by omega
          have Hnum := Lib.hid hnum
          clear hnum
          have Hat := Lib.hid (Hs.out x1 Hx.out.1)
          have hmr := maxF_range (fun y hy => numOk_iff.1 (HN.out y hy)) x1
          obtain ⟨m, hmx⟩ : ∃ m, maxF (l.take k) x1 = m := ⟨_, rfl⟩
          have Hmx := Lib.hid hmx
          rw [hmx] at Hat hmr
          clear hmx
          have hmi : i64 (if m < x2 then x2 else m) := by unfold i64; split <;> omega
          have HP := Lib.hid (Hs.out.put (a := x1) (v := if m < x2 then x2 else m) Hm.out.isMap)
          have HM := Lib.hid (show max m x2 = if m < x2 then x2 else m by split <;> omega)
          go_wp2_with (first
            | (at_lookup; refine wpList_lookup_own_int _ rfl _ _ 58 rfl 23 3 .i64 keyedL Tryd.underlying58 Tryd.underlying3 (zeroInt _) w1.heap.size k D rfl Hm3.out _ _ rfl (keyL Hx.out.1) ?_; intro c hc _; obtain rfl := num_at (Hat.out.symm.trans hc))
            | (at_mapUpdate; refine wpList_mapUpdate_own _ rfl _ _ _ 58 rfl 23 3 keyedL Tryd.underlying58 _ w1.heap.size k D rfl Hm3.out (by unfold maxLen; omega) _ _ _ rfl rfl (keyL Hx.out.1) _ [] (numElem hmi) ?_; intro w5 hown5 hgrow5))
          go_roundw
          case rel =>
            refine ⟨k + 1, _, by omega, by go_num, ?_, hown5, ?_, Hbox.out.grown hgrow5 Hbox.out.size (fun q hq => by cases hq; exact B1.out.size)⟩
            · rw [Htk.out, maxF_snoc]
              dsimp only
              rw [Hmx.out, HM.out]
              exact HP.out
            · intro y hy
              rw [Htk.out] at hy
              rcases List.mem_append.1 hy with hy | hy
              · exact HN.out y hy
              · rw [List.mem_singleton] at hy; rw [hy]; exact Hnum.out
          case measure => simp [intOf]; omega
      · obtain rfl : k = n := by omega
        have Hall : Hid (l.take k = l) := List.take_of_length_le (by rw [Hn.out]; exact Nat.le_refl _)
        have hs := Hs.out
        have hN := HN.out
        rw [Hall.out] at hs hN
        have Hyes : Hid (idsOk l = true) := by
          show _ = _
          simp only [idsOk, Htw.out, Bool.not_false, Bool.true_and, List.all_eq_true]
          exact hN
        have Hsa := Lib.hid hs
        have HNa := Lib.hid hN
        clear hs hN
        have h64 := Hm.out.lt
        go_wp2_with fail
        go_ret2
        refine ⟨Hbw.out.alloc Hbw.out.size _, .inr ⟨Hyes.out, _, w1.heap.size, rfl, wr.heap.size, D, rfl, heap_alloc_new wr _, (Hm.out.mono (by rw [Hn.out]; exact Nat.le_refl _)).alloc _, Hsa.out, fun a => maxF_range (fun y hy => numOk_iff.1 (HNa.out y hy)) a, Hbw.out.size, B1.out.size, by omega⟩⟩
end Go.Proofs.YtajjikbigacbaaaDoor
