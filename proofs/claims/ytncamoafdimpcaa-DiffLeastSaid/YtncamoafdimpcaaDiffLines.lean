/- Own work: diff.Lines. -/
import Derived.Test.YtncamoafdimpcaaDiffCommon
import Derived.Deep.RegionHeld3
namespace Go.Proofs.Ytncamoafdimpcaa
open Go.RowKit

def nextF (i j : Nat) (l : List (Nat × Nat)) : Nat × Nat := match l.getLast? with | none => (i, j) | some x => (x.1 + 1, x.2 + 1)
theorem nextF_cons (i j : Nat) (x : Nat × Nat) (l : List (Nat × Nat)) : nextF i j (x :: l) = nextF (x.1 + 1) (x.2 + 1) l := by
  cases l with
  | nil => rfl
  | cons y l => rfl
theorem next_le {a b : List ByteArray} : ∀ {l : List (Nat × Nat)} {i j : Nat}, Paired a b i j l → i ≤ a.length → j ≤ b.length → ∀ (k : Nat) (hk : k < (l ++ [(a.length, b.length)]).length),
    (nextF i j ((l ++ [(a.length, b.length)]).take k)).1 ≤ ((l ++ [(a.length, b.length)])[k]'hk).1 ∧ (nextF i j ((l ++ [(a.length, b.length)]).take k)).2 ≤ ((l ++ [(a.length, b.length)])[k]'hk).2 ∧
    ((l ++ [(a.length, b.length)])[k]'hk).1 ≤ a.length ∧ ((l ++ [(a.length, b.length)])[k]'hk).2 ≤ b.length := by
  intro l
  induction l with
  | nil =>
    intro i j _ hi hj k hk
    simp at hk
    subst hk
    exact ⟨hi, hj, Nat.le_refl _, Nat.le_refl _⟩
  | cons x l ih =>
    intro i j h hi hj k hk
    obtain ⟨h1, h2, h3, h4, h5, h6⟩ := h
    cases k with
    | zero => exact ⟨h1, h2, Nat.le_of_lt h3, Nat.le_of_lt h4⟩
    | succ k =>
      have := ih h6 (by omega) (by omega) k (by simpa using hk)
      simp only [List.cons_append, List.take_succ_cons, List.getElem_cons_succ, nextF_cons]
      exact this
theorem next_at (a b : List ByteArray) (k : Nat) (x : Nat × Nat) (hx : (commonL a b ++ [(a.length, b.length)])[k]? = some x) :
    (nextP ((commonL a b ++ [(a.length, b.length)]).take k)).1 ≤ x.1 ∧ (nextP ((commonL a b ++ [(a.length, b.length)]).take k)).2 ≤ x.2 ∧ x.1 ≤ a.length ∧ x.2 ≤ b.length := by
  obtain ⟨hk, he⟩ := List.getElem?_eq_some_iff.1 hx
  rw [← he]
  exact next_le (paired_common a b) (Nat.zero_le _) (Nat.zero_le _) k hk
theorem gaps_at (a b : List ByteArray) (P : List (Nat × Nat)) (k : Nat) (hk : k < P.length) : gapsL a b 0 0 (P.take (k + 1)) = gapsL a b 0 0 (P.take k) ++ gapH a b (nextP (P.take k)).1 (nextP (P.take k)).2 (P[k]'hk).1 (P[k]'hk).2 ∧ nextP (P.take (k + 1)) = ((P[k]'hk).1 + 1, (P[k]'hk).2 + 1) := by
  rw [List.take_succ_eq_append_getElem hk, gapsL_snoc, nextP_snoc]
  exact ⟨rfl, rfl⟩

theorem kinds_apart {w : World} {g g' : Nat} {c c' : Array Value} {t t' : TypeId} {f f' : Nat × Nat} (h : w.heap[g]? = some (.cells c t f)) (h' : w.heap[g']? = some (.cells c' t' f')) (hne : t ≠ t') : g ≠ g' := by
  rintro rfl
  rw [h] at h'
  injection h' with h'
  injection h' with _ h2 _
  exact hne h2
theorem own_row {w : World} {B n s g : Nat} {e : TypeId} {v : Value} {xs : List Value} (h : w.ownsRow B e s v n xs) (hg : v.ownBlock = some g) : ∃ cur, w.heap[g]? = some (.cells cur e (0, 0)) := by
  rcases h.2 with ⟨h1, _⟩ | ⟨g', cap, cur, hv, _, hc, _⟩
  · rw [h1] at hg; cases hg
  · rw [hv] at hg
    cases hg
    exact ⟨cur, hc⟩
/-- a row of texts stands while a row of hunks grows -/
theorem OwnT.beside {w w' : World} {B B' n : Nat} {v u : Value} {l : List ByteArray} {xs : List Value} (h : OwnT w B v l) (hu : w.ownsRow B' 30 3 u n xs) (hg : w.grownBy w' u.ownBlock) : OwnT w' B v l := by
  refine own_grown h hg ?_
  intro g hv e
  obtain ⟨c1, h1⟩ := own_row h hv
  obtain ⟨c2, h2⟩ := own_row hu e
  exact kinds_apart h1 h2 (by decide) rfl
/-- append(v, api.Hunk{..}), in a region that draws its order -/
theorem step_append_hunk {w0 : World} {ops : Array Oper} {o : Oper} {a : Act} {K : Act → World → Prop} {Q : Exit → Act → World → Prop} {E : Prop} (hgd : o.guard = none) (s x : Operand)
    (ho : o.op = .call { callee := .builtin .append, args := #[s, x], argTypes := #[25, 25] })
    (base : Nat) (v : Value) (hs : List HunkM) (mm : HunkM) (hsv : a.eval s = v) (hown : OwnH w0 base v hs) (hmo : OwnT w0 base mm.ov mm.old) (hmn : OwnT w0 base mm.nv mm.new) (t : TypeId) (H : Nat) (hH : w0.heap.size = H)
    (hx : a.eval x = .slice (some ⟨H, 0, none⟩) 1 1)
    (hn : (hs.length + 1) * 56 ≤ 140737488355328) (hbase : base ≤ w0.heap.size)
    (h : ∀ v' w', OwnH w' base v' (hs ++ [mm]) → Below base w0 w' → (∀ b o y, w0.cell? ⟨b, o, none⟩ = some y → v.ownBlock ≠ some b → w'.cell? ⟨b, o, none⟩ = some y) → K (a.put o.dst v') w') :
    if Region.wanted o (yielded ops a.tmps) = true then Oper.wp Try.prog o a (w0.alloc (.cells #[.int .i64 (mm.at_ : Int), mm.ov, mm.nv] t)) K Q else E := by
  subst hH
  obtain ⟨i0, hi, hz0, hz1, hz2⟩ := info_parts Try.info30
  have hal : Below w0.heap.size w0 (w0.alloc (.cells #[.int .i64 (mm.at_ : Int), mm.ov, mm.nv] t)) := (Below.refl _ _).alloc (Nat.le_refl _) _
  refine step_append_lies _ hgd s x 25 ho base 30 i0 _ 3 56 Try.underlying25 hi hz0 hz1 hz2 rfl (by decide) v hs.length (flatH hs) hsv (hown.1.alloc _) ⟨w0.heap.size, 0, none⟩ 1 1 mm.cells hx rfl (news_hunk w0 mm t) ?_ (by decide) (by unfold maxLen; omega) hn (by simp; omega) (w0.heap.size + 1) (by simp) ?_
  · intro y hy
    simp [HunkM.cells] at hy
    rcases hy with rfl | rfl | rfl
    · rfl
    · exact form_one hmo.form
    · exact form_one hmn.form
  · intro g cap w' h1 h2 h3 _
    refine h _ w' ⟨?_, ?_⟩ (((Below.refl base w0).alloc hbase _).grown h2 (by simp; omega) (fun q hq => (hown.1.lt q hq).1)) (fun b o y hy hne => ?_)
    rotate_left 2
    · have h4 := cell_kept hal hy
      have hlt := World.block_lt_of_cell? _ _ h4
      have h5 := h2.block b hlt (fun e => hne e.symm)
      unfold World.cell? at h4 ⊢
      rw [h5]
      exact h4
    · rw [flatH_append, flatH_one, List.length_append]
      exact h1
    · intro y hy
      rcases List.mem_append.1 hy with hy | hy
      · exact ⟨((hown.2 y hy).1.below hal).beside (own_kept hown.1 hal) h2, ((hown.2 y hy).2.below hal).beside (own_kept hown.1 hal) h2⟩
      · obtain rfl : y = mm := by simpa using hy
        exact ⟨(hmo.below hal).beside (own_kept hown.1 hal) h2, (hmn.below hal).beside (own_kept hown.1 hal) h2⟩

set_option maxRecDepth 100000 in
set_option maxHeartbeats 8000000 in
theorem lines_any (u v : Value) (a b : List ByteArray) (w : World) (hu : Texts w u a) (hv : Texts w v b) (hfu : SliceForm u) (hfv : SliceForm v) (hla : a.length * 16 + 16 ≤ 140737488355328) (hlb : b.length * 16 + 16 ≤ 140737488355328) :
    Calls Try.prog 10 #[u, v] w fun e w' => ∃ p hs, e = .returned p ∧ OwnH w' w.heap.size p hs ∧ hs.map HunkM.txt = linesL a b ∧ Below w.heap.size w w' := by
  have Hu := Lib.hid hu
  have Hv := Lib.hid hv
  have Hfu := Lib.hid hfu
  have Hfv := Lib.hid hfv
  obtain ⟨uo, uc, _, _, rfl, _⟩ := hu.form
  obtain ⟨vo, vc, _, _, rfl, _⟩ := hv.form
  clear hu hv hfu hfv
  obtain ⟨n, hn⟩ : ∃ n, a.length = n := ⟨_, rfl⟩
  obtain ⟨m, hm⟩ : ∃ m, b.length = m := ⟨_, rfl⟩
  have Hn := Lib.hid hn
  have Hm := Lib.hid hm
  have HC := Lib.hid (common_any _ _ a b w Hu.out Hv.out (by omega) (by omega))
  have HNx := next_at a b
  have Hcl := Lib.hid (common_le a b)
  obtain ⟨C, hC⟩ : ∃ C, commonL a b = C := ⟨_, rfl⟩
  have Hcc := Lib.hid hC
  simp only [hC] at HC HNx Hcl
  have HL : Hid (linesL a b = gapsL a b 0 0 (C ++ [(n, m)])) := by show _ = _; rw [linesL, hC, hn, hm]
  rw [hn] at hla Hu HC Hfu ⊢
  simp only [hn, hm] at HNx
  have HNx := Lib.hid HNx
  rw [hm] at hlb Hv HC Hfv ⊢
  have hun := Hu.out.cap
  have hvn := Hv.out.cap
  have hucn : n ≤ uc := hun.2
  have hvcm : m ≤ vc := hvn.2
  clear hn hm hun hvn hC
  go_enter Try.func10, Try.ntmps10
  go_wp2_with fail
  refine HC.out.mono ?_
  rintro e w1 ⟨p1, rfl, ho1, hb1⟩
  have HO1 := Lib.hid ho1
  have B1 := Lib.hid hb1
  clear ho1 hb1 HC
  have hcn : C.length ≤ n := by have h := Hcl.out.1; have := Hn.out; omega
  go_wp2_with (at_builtin; refine wpList_append_pair2 rfl _ _ rfl w.heap.size p1 C (n, m) rfl HO1.out _ w1.heap.size rfl rfl (by omega) B1.out.size ?_)
  intro v2 w2 ho2 hg2 hv2
  have HO2 := Lib.hid ho2
  have B2 := Lib.hid (B1.out.grown hg2 B1.out.size (fun g hg => (HO1.out.lt g hg).1))
  clear ho2 hg2 hv2
  obtain ⟨P, hP⟩ : ∃ P, C ++ [(n, m)] = P := ⟨_, rfl⟩
  have HPl : Hid (P.length ≤ n + 1) := by show _ ≤ _; rw [← hP, List.length_append, List.length_singleton]; omega
  rw [hP] at HO2 HL HNx
  clear hP
  obtain ⟨q, hq⟩ : ∃ q, P.length = q := ⟨_, rfl⟩
  have Hq := Lib.hid hq
  have hqn : q ≤ n + 1 := by rw [← hq]; exact HPl.out
  obtain ⟨po, pc, pb, rfl, hpo, _, hpc⟩ := HO2.out.form
  rw [hq] at HO2 hpo ⊢
  have Hpo := Lib.hid hpo
  have Hpc := Lib.hid hpc
  clear hq hpo hpc
  go_wp2_with fail
  go_loopw [5, 6, 7, 21] (fun hv iv jv kv wr => ∃ (k i j : Nat) (hs : List HunkM), k ≤ q ∧ kv = .int .i64 (k : Int) ∧ iv = .int .i64 (i : Int) ∧ jv = .int .i64 (j : Int) ∧ Hid (nextP (P.take k) = (i, j)) ∧ i ≤ n + 1 ∧ j ≤ m + 1 ∧ Hid (OwnH wr w2.heap.size hv hs) ∧ Hid (hs.map HunkM.txt = gapsL a b 0 0 (P.take k)) ∧ Hid (Below w2.heap.size w2 wr)) (fun _ _ _ kv _ => q - (intOf kv).toNat)
  case atStart => exact ⟨0, 0, 0, [], Nat.zero_le _, rfl, rfl, rfl, rfl, by omega, by omega, ⟨⟨rfl, .inl ⟨rfl, rfl⟩⟩, fun m hm => by cases hm⟩, rfl, Below.refl _ _⟩
  case round =>
    obtain ⟨k, i, j, hs, hk, rfl, rfl, rfl, HNX, hin, hjm, HO, HT, HB⟩ := hrel
    by_cases hlt : k < q
    · have hkl : k < P.length := by have := Hq.out; omega
      obtain rfl := Hpo.out (by omega)
      obtain ⟨c1, c2⟩ := Hpc.out k hkl
      have HGA := Lib.hid (gaps_at a b P k hkl)
      obtain ⟨x, hx⟩ : ∃ x, P[k]'hkl = x := ⟨_, rfl⟩
      have hnx := HNx.out k x (by rw [List.getElem?_eq_getElem hkl, hx])
      rw [HNX.out] at HGA hnx
      rw [hx] at c1 c2 HGA
      obtain ⟨x1, x2⟩ := x
      obtain ⟨hx1, hx2, hx3, hx4⟩ := hnx
      dsimp only at c1 c2 hx1 hx2 hx3 hx4 HGA
      have c1 := cell_kept HB.out c1
      have c2 := cell_kept HB.out c2
      have ki0 : (0 : Int) ≤ (k : Int) := by omega
      have ki1 : (k : Int) < (q : Int) := by omega
      clear hx
      by_cases hgap : i < x1 ∨ j < x2
      · have hal : Below wr.heap.size wr (wr.alloc (.cells #[.int .i64 (x1 : Int), .int .i64 (x2 : Int)] 39)) := (Below.refl _ _).alloc (Nat.le_refl _) _
        have hc0 : (wr.alloc (.cells #[.int .i64 (x1 : Int), .int .i64 (x2 : Int)] 39)).cell? ⟨wr.heap.size, 0, none⟩ = some (.int .i64 (x1 : Int)) := cell_of_row _ _ 0 _ _ _ (heap_alloc_new wr _)
        have hc1 : (wr.alloc (.cells #[.int .i64 (x1 : Int), .int .i64 (x2 : Int)] 39)).cell? ⟨wr.heap.size, 1, none⟩ = some (.int .i64 (x2 : Int)) := cell_of_row _ _ 1 _ _ _ (heap_alloc_new wr _)
        have hra := heap_alloc_new wr (.cells #[.int .i64 (x1 : Int), .int .i64 (x2 : Int)] 39)
        have HOa := Lib.hid (HO.out.below hal)
        have HBa := Lib.hid (HB.out.trans (hal.mono HB.out.size))
        have hs1 := run_sub uo n uc i x1 (by omega) (by omega)
        have hs2 := run_sub vo m vc j x2 (by omega) (by omega)
        have hor : ((i : Int) < (x1 : Int)) ∨ ((j : Int) < (x2 : Int)) := by omega
        have Ht1 := Lib.hid (texts_sub Hu.out i x1 hx1 hx3)
        have Ht2 := Lib.hid (texts_sub Hv.out j x2 hx2 hx4)
        have Hf1 := Lib.hid (form_sub Hfu.out hx1 hx3)
        have Hf2 := Lib.hid (form_sub Hfv.out hx2 hx4)
        have hl1 : ((a.drop i).take (x1 - i)).length * 16 ≤ 140737488355328 := by rw [List.length_take]; omega
        have hl2 : ((b.drop j).take (x2 - j)).length * 16 ≤ 140737488355328 := by rw [List.length_take]; omega
        have HGH : Hid (gapH a b i j x1 x2 = [⟨i, (a.drop i).take (x1 - i), (b.drop j).take (x2 - j)⟩]) := by show _ = _; rw [gapH, if_pos hgap]
        obtain ⟨os, hos⟩ : ∃ os, (a.drop i).take (x1 - i) = os := ⟨_, rfl⟩
        obtain ⟨ns, hns⟩ : ∃ ns, (b.drop j).take (x2 - j) = ns := ⟨_, rfl⟩
        rw [hos] at Ht1 hl1 HGH
        rw [hns] at Ht2 hl2 HGH
        clear hos hns hgap
        go_upto_region 6 with fail
        obtain ⟨w3, hw3⟩ : ∃ w3, wr.alloc (.cells #[.int .i64 (x1 : Int), .int .i64 (x2 : Int)] 39) = w3 := ⟨_, rfl⟩
        rw [hw3] at hc0 hc1 HOa HBa hra ⊢
        obtain ⟨A, hA⟩ : ∃ A, wr.heap.size = A := ⟨_, rfl⟩
        rw [hA] at hc0 hc1 hra ⊢
        have HA : Hid (u5.ownBlock ≠ some A) := by
          intro e
          obtain ⟨cur, hcur⟩ := own_row HOa.out.1 e
          exact kinds_apart hcur hra (by decide) rfl
        clear hw3 hA hal hra
        go_cut [21, 34] from 21 to 58 (fun kv c wx => kv = .int .i64 (k : Int) ∧ c = .bool true ∧ wx = w3)
        case first =>
          by_cases h1 : i < x1
          · have h1 : (i : Int) < (x1 : Int) := by omega
            go_wp2_with fail
            go_meet
            exact ⟨rfl, rfl, rfl⟩
          · have h1 : ¬ ((i : Int) < (x1 : Int)) := by omega
            have h2 : (j : Int) < (x2 : Int) := by omega
            go_wp2_with fail
            go_meet
            exact ⟨rfl, rfl, rfl⟩
        case rest =>
          obtain ⟨rfl, rfl, hwx⟩ := hcut
          obtain rfl : w3 = wc := hwx.symm
          clear hwx hor
          have keepS : ∀ W, Below w3.heap.size w3 W → (W.cell? ⟨A, 0, none⟩ = some (.int .i64 (x1 : Int)) ∧ W.cell? ⟨A, 1, none⟩ = some (.int .i64 (x2 : Int)) ∧ Below w2.heap.size w2 W) := fun W h => ⟨cell_kept h hc0, cell_kept h hc1, HBa.out.trans (h.mono HBa.out.size)⟩
          have hba := HBa.out.size
          have keep0 : Below w3.heap.size w3 w3 := Below.refl _ _
          have keepD : ∀ W, Below w3.heap.size w3 W → Below w3.heap.size w3 W.drew := fun W h => h.drew
          have keepA : ∀ W o, Below w3.heap.size w3 W → Below w3.heap.size w3 (W.alloc o) := fun W o h => h.alloc h.size o
          have T1 : ∀ W, Below w3.heap.size w3 W → Hid (Calls Try.prog 24 #[subV uo uc i x1] W fun e w' => ∃ r, e = .returned r ∧ OwnT w' w2.heap.size r os ∧ Below w3.heap.size w3 w') := fun W h =>
            (copied_any _ os W (Ht1.out.kept (below_join (below_join B2.out HBa.out) h)) Hf1.out hl1).mono fun e w' ⟨r, he, ho, hb⟩ => ⟨r, he, own_base ho (Nat.le_trans hba h.size), below_join h hb⟩
          have T2 : ∀ W, Below w3.heap.size w3 W → Hid (Calls Try.prog 24 #[subV vo vc j x2] W fun e w' => ∃ r, e = .returned r ∧ OwnT w' w2.heap.size r ns ∧ Below w3.heap.size w3 w' ∧ Below W.heap.size W w') := fun W h =>
            (copied_any _ ns W (Ht2.out.kept (below_join (below_join B2.out HBa.out) h)) Hf2.out hl2).mono fun e w' ⟨r, he, ho, hb⟩ => ⟨r, he, own_base ho (Nat.le_trans hba h.size), below_join h hb, hb⟩
          have hhn : (hs.length + 1) * 56 ≤ 140737488355328 := by
            have h1 := gaps_prefix a b P k
            have h2 := lines_count a b
            rw [HL.out] at h2
            have h3 := congrArg List.length HT.out
            rw [List.length_map] at h3
            omega
          go_wp2_with fail
          go_region_held3 (fun w' => w'.cell? ⟨A, 0, none⟩ = some (.int .i64 (x1 : Int)) ∧ w'.cell? ⟨A, 1, none⟩ = some (.int .i64 (x2 : Int)) ∧ Below w2.heap.size w2 w')
            (first
              | exact ⟨k0, k1, kB⟩
              | (refine keepS _ ?_; repeat (first | assumption | exact keep0 | refine keepD _ ?_ | refine keepA _ _ ?_ | (refine below_join ?_ (by assumption)))))
            (first
              | (go_at_call 24; refine (T1 _ ?_).out.mono ?_; (repeat (first | assumption | exact keep0 | refine keepD _ ?_)); (rintro e w5 ⟨ov, rfl, hov, hb5⟩); (obtain ⟨oo, oc, hoe, _⟩ := own_slice hov); subst hoe)
              | (go_at_call 24; refine (T2 _ ?_).out.mono ?_; (repeat (first | assumption | exact keep0 | refine keepD _ ?_)); (rintro e w6 ⟨nv, rfl, hnv, hb6, hb56⟩); (obtain ⟨no, nc, hne, _⟩ := own_slice hnv); subst hne)
              | (refine step_append_hunk rfl _ _ rfl w2.heap.size u5 hs ⟨i, .slice oo os.length oc, .slice no ns.length nc, os, ns⟩ rfl (HOa.out.below hb6) (hov.below hb56) hnv _ w6.heap.size rfl rfl hhn (Nat.le_trans hba hb6.size) ?_; (intro v7 w7 ho7 hb7 hc7); have k0 := hc7 A 0 _ (cell_kept hb6 hc0) HA.out; have k1 := hc7 A 1 _ (cell_kept hb6 hc1) HA.out; have kB : Below w2.heap.size w2 w7 := (HBa.out.trans (hb6.mono HBa.out.size)).trans hb7))
          go_wp2_with fail
          go_quiet (fail)
          go_wp2_with fail
          go_roundw
          case rel =>
            refine ⟨k + 1, x1 + 1, x2 + 1, _, by omega, by go_num, by go_num, by go_num, HGA.out.2, by omega, by omega, ho7.below (below_drewN (Below.refl _ _) _), ?_, below_drewN kB _⟩
            show _ = _
            rw [HGA.out.1, HGH.out, List.map_append, HT.out]
            rfl
          case measure => simp [intOf]; omega
      · obtain rfl : i = x1 := by omega
        obtain rfl : j = x2 := by omega
        have HGH : Hid (gapH a b i j i j = []) := by show _ = _; rw [gapH, if_neg hgap]
        have hal : Below wr.heap.size wr (wr.alloc (.cells #[.int .i64 (i : Int), .int .i64 (j : Int)] 39)) := (Below.refl _ _).alloc (Nat.le_refl _) _
        clear hgap
        go_wp2_with fail
        go_quiet (fail)
        go_wp2_with fail
        go_roundw
        case rel =>
          refine ⟨k + 1, i + 1, j + 1, hs, by omega, by go_num, by go_num, by go_num, HGA.out.2, by omega, by omega, (HO.out.below hal).below (below_drewN (Below.refl _ _) _), ?_, below_drewN (HB.out.trans (hal.mono HB.out.size)) _⟩
          show _ = _
          rw [HGA.out.1, HGH.out, List.append_nil, HT.out]
        case measure => simp [intOf]; omega
    · obtain rfl : k = q := by omega
      go_wp2_with fail
      go_ret
      refine ⟨_, hs, rfl, ⟨own_base HO.out.1 B2.out.size, fun m hm => ⟨own_base (HO.out.2 m hm).1 B2.out.size, own_base (HO.out.2 m hm).2 B2.out.size⟩⟩, ?_, below_join B2.out HB.out⟩
      rw [HT.out, HL.out, List.take_of_length_le (by rw [Hq.out]; exact Nat.le_refl _)]
end Go.Proofs.Ytncamoafdimpcaa
