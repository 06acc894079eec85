/- Own work: view's told: what is answered of each line that is gone over. -/
import Derived.Test.YtgchcgllpceghaaSeeIt
import Derived.Test.YtgchcgllpceghaaRound
import Derived.Test.YtgchcgllpceghaaRoundBox
import Derived.RangeFuncBox
namespace Go.Proofs.Ytgchcgllpceghaa
open Go.RowKit Go.Shelf

attribute [local go_sem] Oper.semAt_some

theorem Try.seenInfo26 : (Try.prog.info? 26).map (fun i => (i.zero, i.size, i.bytes)) = some (some (.agg #[.int .u64 0, .int .i64 0, .int .i64 0, .string ⟨#[]⟩]), 4, 40) := by kernel_rfl
theorem Try.seenInfo24 : (Try.prog.info? 24).map (fun i => (i.zero, i.size, i.bytes)) = some (some (.int .u64 0), 1, 8) := by kernel_rfl
theorem Try.seenInfo3 : (Try.prog.info? 3).map (fun i => (i.zero, i.size, i.bytes)) = some (some (.int .i64 0), 1, 8) := by kernel_rfl
theorem Try.seenInfo9 : (Try.prog.info? 9).map (fun i => (i.zero, i.size, i.bytes)) = some (some (.string ⟨#[]⟩), 1, 16) := by kernel_rfl
/-- where a line's cells lie, whatever lies beside them -/
theorem own_news (w : World) (b : Nat) (row : Array Value) (t : TypeId) (h : w.heap[b]? = some (.cells row t (0, 0))) : ∀ j u, row.toList[j]? = some u → w.cell? ((⟨b, 0, none⟩ : Addr).add j) = some u := by
  intro j u hu
  rw [addr_add, Nat.zero_add]
  exact cell_row w b j row t u h (by simpa using hu)

theorem slice_block {w : World} {v : Value} {ls : List LineV} (hv : Lns w v ls) : ∀ b o k, v = .slice (some ⟨b, o, none⟩) ls.length k → 0 < ls.length → b < w.heap.size := by
  intro b o k e h0
  rcases hv with ⟨ao, cap, _, rfl⟩ | ⟨b', o', cap, h1, _, _, _, h5⟩
  · simp at h0
  · rw [h1] at e
    cases e
    exact World.block_lt_of_cell? w _ (h5 0 h0).1
theorem allLines_stops (n : Nat) (hn : 1 ≤ n) (g : Nat) (v : Value) (ls : List LineV) (w : World) (hv : Lns w v ls) (hf : ∀ x ∈ ls, x.fine) (h1 : w.heap[g]? = some (.cells #[v] 22 (0, 0))) :
    SeqStopsK Fence.wide n Try.prog 56 #[.pointer (some ⟨g, 0, none⟩)] encP (Below w.heap.size) (fun ys => ys = pickL (fun _ => true) 0 ls) (fun pre => pre <+: pickL (fun _ => true) 0 ls) (pickL (fun _ => true) 0 ls).length w :=
  fun l J Jx W hW hJ _ hY h0 => allLines_in n hn l g w.heap.size v ls J Jx W hJ hW.size hY (hv.kept hW) hf (slice_block hv) (lt_of_block h1) (row_kept hW h1) h0
theorem whereSeen_stops (n : Nat) (hn : 1 ≤ n) (g h : Nat) (c : Nat) (hc : c < 18446744073709551616) (v : Value) (ls : List LineV) (w : World) (hv : Lns w v ls) (hf : ∀ x ∈ ls, x.fine) (h1 : w.heap[g]? = some (.cells #[v] 22 (0, 0)))
    (h2 : w.heap[g + 1]? = some (.cells #[.func (.func 54) #[] #[.pointer (some ⟨h, 0, none⟩)]] 59 (0, 0))) (h3 : w.heap[h]? = some (.cells #[.int .u64 c] 24 (0, 0))) :
    SeqStopsK Fence.wide n Try.prog 55 #[.pointer (some ⟨g, 0, none⟩), .pointer (some ⟨g + 1, 0, none⟩)] encP (Below w.heap.size) (fun ys => ys = pickL (LineV.seen c) 0 ls) (fun pre => pre <+: pickL (LineV.seen c) 0 ls) (pickL (LineV.seen c) 0 ls).length w :=
  fun l J Jx W hW hJ _ hY h0 => whereSeen_in n hn l g h w.heap.size c hc v ls J Jx W hJ hW.size hY (hv.kept hW) hf (slice_block hv) (lt_of_block h2) (lt_of_block h3) (row_kept hW h1) (row_kept hW h2) (row_kept hW h3) h0
theorem whereHid_stops (n : Nat) (hn : 1 ≤ n) (g h : Nat) (c : Nat) (hc : c < 18446744073709551616) (v : Value) (ls : List LineV) (w : World) (hv : Lns w v ls) (hf : ∀ x ∈ ls, x.fine) (h1 : w.heap[g]? = some (.cells #[v] 22 (0, 0)))
    (h2 : w.heap[g + 1]? = some (.cells #[.func (.func 39) #[] #[.pointer (some ⟨h, 0, none⟩)]] 59 (0, 0))) (h3 : w.heap[h]? = some (.cells #[.int .u64 c] 24 (0, 0))) :
    SeqStopsK Fence.wide n Try.prog 55 #[.pointer (some ⟨g, 0, none⟩), .pointer (some ⟨g + 1, 0, none⟩)] encP (Below w.heap.size) (fun ys => ys = pickL (fun x => !x.seen c) 0 ls) (fun pre => pre <+: pickL (fun x => !x.seen c) 0 ls) (pickL (fun x => !x.seen c) 0 ls).length w :=
  fun l J Jx W hW hJ _ hY h0 => whereHid_in n hn l g h w.heap.size c hc v ls J Jx W hJ hW.size hY (hv.kept hW) hf (slice_block hv) (lt_of_block h2) (lt_of_block h3) (row_kept hW h1) (row_kept hW h2) (row_kept hW h3) h0

set_option maxRecDepth 100000 in
set_option maxHeartbeats 8000000 in
theorem toldLine_any (gf : Nat) (lb : Array Value) (out : List (Nat × LineV)) (w : World) (eg : ∀ args w, (callFunc gf args).run Try.prog w = .ok (.enter gf args) w)
    (hseq : SeqStopsK Fence.wide 4 Try.prog gf lb encP (Below w.heap.size) (fun ys => ys = out) (fun pre => pre <+: out) out.length w) (hlen : out.length * 40 ≤ 140737488355328) :
    Calls Try.prog 35 #[.func (.func gf) #[] lb, .func (.func 37) #[] #[]] w fun e w' => ∃ v, e = .returned v ∧ w'.ownsRow w.heap.size 26 4 v out.length (flatL (out.map Prod.snd)) ∧ Below w.heap.size w w' := by
  obtain ⟨i0, hi, hz0, hz1, hz2⟩ := info_parts Try.seenInfo26
  have Heg := Lib.hid eg
  have Hseq := Lib.hid hseq
  have Hlen := Lib.hid hlen
  clear eg hseq hlen
  refine (callsIn_wide (n := 5)).1 ?_
  refine callsIn_of_wp_marks Try.func35 rfl trivial ?_ rfl
  simp only [Try.ntmps35, List.size_toArray, List.length_cons, List.length_nil, Nat.reduceAdd, Nat.reduceSub, Array.replicate_succ, Array.replicate_zero, List.push_toArray, List.append_toArray, List.nil_append, List.cons_append]
  obtain ⟨s2, b2, ra2, rb2⟩ := two_cells w (.func (.func 37) #[] #[]) (.slice none 0 0) 57 22
  have S2 := Lib.hid s2
  have B2 := Lib.hid b2
  have RA2 := Lib.hid ra2
  have RB2 := Lib.hid rb2
  clear s2 b2 ra2 rb2
  gi_wp2_with fail
  obtain ⟨W2, hW2⟩ : ∃ W2, ((w.alloc (.cells #[.func (.func 37) #[] #[]] 57)).alloc (.cells #[.slice none 0 0] 22)) = W2 := ⟨_, rfl⟩
  rw [hW2] at S2 B2 RA2 RB2 ⊢
  clear hW2
  have hs2 := S2.out
  refine' Round.rangeBoxed (by decide) (gf := gf) (lb := lb) rfl Heg.out Hseq.out (by omega) B2.out (fun _ => rfl)
    (fun pre V => (∃ v, Boxed V (w.heap.size + 1) 22 v ∧ V.ownsRow (w.heap.size + 1) 26 4 v pre.length (flatL (pre.map Prod.snd)) ∧ True) ∧ Below (w.heap.size + 1) W2 V)
    (fun _ _ _ => False) ?hI ?hIx ?h0 (fun x => .cells #[.int .u64 x.2.lab, .int .i64 x.2.num, .int .i64 x.2.rev, .string x.2.text] 26) (fun x b => { tmps := #[.func (.func gf) #[] lb, .func (.func 37) #[] #[], undef, .pointer (some ⟨w.heap.size, 0, none⟩), .slice none 0 0, .pointer (some ⟨w.heap.size + 1, 0, none⟩), .int .i64 (x.1 : Int), .pointer (some ⟨b, 0, none⟩), .func (.func gf) #[] lb, .int .i64 (x.1 : Int), x.2.agg, undef, undef, undef, undef, undef, undef, undef, undef], defers := [] }) ?assign ?body ?done ?stop
  case assign =>
    rintro l ⟨i, x1, x2, x3, x4⟩ V K hK
    dsimp only [encP, LineV.agg] at hK ⊢
    gi_wp2
    exact hK
  case hI =>
    rintro s V V' row ⟨h, h4⟩ hgr hr
    exact ⟨holdsRow_own (w.heap.size + 1) (w.heap.size + 1) 22 26 4 List.length (fun pre => flatL (pre.map Prod.snd)) (fun _ _ => True) s V V' row h hgr (fun r e => (hr r e).2), h4.grown hgr (by have := h4.size; omega) (fun k e => by have := (hr k e).1; omega)⟩
  case hIx => exact fun c s V V' row h _ _ => h
  case h0 => exact ⟨⟨_, RB2.out, World.ownsRow_nil _ _ _ _, trivial⟩, Below.refl _ _⟩
  case stop =>
    rintro D c pre V _ _ h _
    exact h.elim
  case body =>
    rintro l pre x V b ⟨⟨v, hv, hrow, _⟩, hBV⟩ hpl hbw hbx
    obtain ⟨i, x1, x2, x3, x4⟩ := x
    have cA := cell_of_one ((hBV.block w.heap.size (by omega)).trans RA2.out)
    have cB := hv.cell
    have d0 := cell_row _ _ 0 _ _ _ hbx rfl
    have d1 := cell_row _ _ 1 _ _ _ hbx rfl
    have d2 := cell_row _ _ 2 _ _ _ hbx rfl
    have d3 := cell_row _ _ 3 _ _ _ hbx rfl
    dsimp only at d0 d1 d2 d3
    have HBV := Lib.hid hBV
    have Hv := Lib.hid hv
    have Hrow := Lib.hid hrow
    have Hpl := Lib.hid hpl
    have hVs := hBV.size
    clear hBV hv hrow hpl hbx
    dsimp only [LineV.agg]
    gi_wp2_with fail
    refine Round.region_in (by kernel_rfl) (by rfl) (by rintro ⟨_, _, h⟩; exact h) (Round.any_of_B (S := fun W' => Below V.heap.size V W') (M := [4, 6]) _ _ _ _ ?_)
    have HS := Lib.hid (show Below V.heap.size V V.drew from (Below.refl _ _).drew)
    refine' Round.takeB (i := 0) 6 (oi := { dst := some 11, op := Op.load 22 (Operand.tmp 5), type := 22, pos := "view.go:85", after := #[], guard := none }) (v := v) rfl (by kernel_rfl) (by kernel_rfl) (by kernel_rfl) (by kernel_rfl) (fun _ _ _ h => h) (Or.inl ⟨?wt0, ?hy0⟩) HS.out ?rest0
    case wt0 => rfl
    case hy0 => (intro w' hSw; have c := cell_kept hSw cB; go_simp; try (with_reducible rfl))
    try simp only [Act.put, List.setIfInBounds_toArray, List.set_cons_zero, List.set_cons_succ]
    refine' Round.takeB (i := 1) 4 (oi := { dst := some 12, op := Op.load 57 (Operand.tmp 3), type := 57, pos := "view.go:85", after := #[], guard := none }) (v := .func (.func 37) #[] #[]) rfl (by kernel_rfl) (by kernel_rfl) (by kernel_rfl) (by kernel_rfl) (fun _ _ _ h => h) (Or.inl ⟨?wt1, ?hy1⟩) HS.out ?rest1
    case wt1 => rfl
    case hy1 => (intro w' hSw; have c := cell_kept hSw cA; go_simp; try (with_reducible rfl))
    try simp only [Act.put, List.setIfInBounds_toArray, List.set_cons_zero, List.set_cons_succ]
    refine' Round.takeB (i := 2) 4 (oi := { dst := some 13, op := Op.move (Operand.tmp 6), type := 3, pos := "view.go:85", after := #[], guard := none }) (v := .int .i64 (i : Int)) rfl (by kernel_rfl) (by kernel_rfl) (by kernel_rfl) (by kernel_rfl) (fun _ _ _ h => h) (Or.inl ⟨?wt2, ?hy2⟩) HS.out ?rest2
    case wt2 => rfl
    case hy2 => (intro w' hSw; go_simp; try (with_reducible rfl))
    try simp only [Act.put, List.setIfInBounds_toArray, List.set_cons_zero, List.set_cons_succ]
    refine' Round.takeB (i := 3) 4 (oi := { dst := some 14, op := Op.load 26 (Operand.tmp 7), type := 26, pos := "view.go:85", after := #[], guard := none }) (v := .agg #[.int .u64 x1, .int .i64 x2, .int .i64 x3, .string x4]) rfl (by kernel_rfl) (by kernel_rfl) (by kernel_rfl) (by kernel_rfl) (fun _ _ _ h => h) (Or.inl ⟨?wt3, ?hy3⟩) HS.out ?rest3
    case wt3 => rfl
    case hy3 => (intro w' hSw; have e0 := cell_kept hSw d0; have e1 := cell_kept hSw d1; have e2 := cell_kept hSw d2; have e3 := cell_kept hSw d3; go_simp; try (with_reducible rfl))
    try simp only [Act.put, List.setIfInBounds_toArray, List.set_cons_zero, List.set_cons_succ]
    clear d0 d1 d2 d3 cA cB
    refine Round.stepB (i := 4) (by kernel_rfl) rfl ?_
    intro K hK
    have HK := Lib.hid hK
    clear hK
    go_simp
    refine (itself_any (i : Int) x1 x2 x3 x4 _).mono ?_
    rintro e w1 ⟨rfl, hb1⟩
    have B1 := Lib.hid (below_join HS.out (show Below V.drew.heap.size V.drew w1 from hb1))
    clear hb1
    go_wp2_with fail
    refine HK.out _ _ (fun _ => B1.out) ?_
    clear HK K
    try simp only [Act.put, List.setIfInBounds_toArray, List.set_cons_zero, List.set_cons_succ]
    refine Round.stepB (i := 5) (by kernel_rfl) rfl ?_
    intro K hK
    have HK := Lib.hid hK
    clear hK
    go_simp
    refine HK.out _ _ (fun _ => B1.out.alloc B1.out.size _) ?_
    clear HK K
    try simp only [Act.put, List.setIfInBounds_toArray, List.set_cons_zero, List.set_cons_succ]
    have hrow1 := own_kept Hrow.out B1.out
    have hrow2 := hrow1.alloc (.cells #[.int .u64 x1, .int .i64 x2, .int .i64 x3, .string x4] 26)
    have hnew := own_news _ _ _ _ (heap_alloc_new w1 (.cells #[.int .u64 x1, .int .i64 x2, .int .i64 x3, .string x4] 26))
    have hs1 := B1.out.size
    refine Round.stepB (i := 6) (by kernel_rfl) rfl ?_
    intro K hK
    have HK := Lib.hid hK
    clear hK
    refine step_append_lies _ (by rfl) (.tmp 11) (.tmp 16) 22 (by rfl) (w.heap.size + 1) 26 i0 (.agg #[.int .u64 0, .int .i64 0, .int .i64 0, .string ⟨#[]⟩]) 4 40 Try.underlying22 hi hz0 hz1 hz2 rfl (by decide) v pre.length (flatL (pre.map Prod.snd)) (by kernel_rfl) hrow2 ⟨w1.heap.size, 0, none⟩ 1 1 [.int .u64 x1, .int .i64 x2, .int .i64 x3, .string x4] (by kernel_rfl) rfl hnew (by simp [Value.oneCell']) (by decide) (by unfold maxLen; have := Hpl.out; have := Hlen.out; omega) (by have := Hpl.out; have := Hlen.out; omega) (by simp; omega) _ rfl ?_
    intro g cap w3 hown3 hgrow3 _ _
    refine HK.out _ _ (fun h => by simp [Round.openM] at h) ?_
    clear HK K
    try simp only [Act.put, List.setIfInBounds_toArray]
    have hbx1 : Boxed w1 (w.heap.size + 1) 22 v := row_kept B1.out Hv.out
    obtain ⟨q1, q2, q3, q4, q5⟩ := hbx1.appended (by decide) hrow1 (by omega) (Nat.le_refl _) hown3 hgrow3
    have cq := q1.cell
    have fq := q1.frozen
    have Q2 := Lib.hid q2
    have Q3 := Lib.hid q3
    have Q4 := Lib.hid q4
    have Q5 := Lib.hid q5
    clear q1 q2 q3 q4 q5 hown3 hgrow3 hrow2 hnew hrow1 hbx1
    refine Round.stepB (i := 7) (by kernel_rfl) rfl ?_
    intro K hK
    have HK := Lib.hid hK
    clear hK
    go_simp
    refine HK.out _ _ (fun h => by simp [Round.openM] at h) ?_
    clear HK K
    refine Round.doneB (by kernel_rfl) ?_ _
    have hko := (KeepsOthers.trans (A := V) (B := w1) ⟨B1.out.size, fun k o hk _ => (B1.out.block k (lt_of_block hk)).trans hk⟩ Q4.out)
    have hbel : Below (w.heap.size + 1) V (w3.setCell ⟨w.heap.size + 1, 0, none⟩ (.slice (some ⟨g, 0, none⟩) (pre.length + 1) cap)) := (B1.out.mono (by omega)).trans Q5.out
    refine ⟨hko.from _, hbel.mono (by omega), ⟨_, Q2.out, ?_, trivial⟩, HBV.out.trans hbel⟩
    have e : flatL ((pre ++ [((i, ⟨x1, x2, x3, x4⟩) : Nat × LineV)]).map Prod.snd) = flatL (pre.map Prod.snd) ++ [.int .u64 x1, .int .i64 x2, .int .i64 x3, .string x4] := by simp [flatL, LineV.cells]
    rw [e, List.length_append]
    exact Q3.out
  case done =>
    rintro D ys V hD rfl ⟨⟨v, hv, hrow, _⟩, hBV⟩ hK
    have cB := hv.cell
    have hDs := lt_of_block hK
    have HK := Lib.hid hK
    have Hrow := Lib.hid hrow
    have HBV := Lib.hid hBV
    have HD := Lib.hid hD
    clear hBV hrow hK hD hv
    gi_wp2_with fail
    refine ⟨by simp, .inl ⟨_, _, rfl, run_takeDeferred HK.out, ?_⟩⟩
    refine ⟨_, results_tmp rfl _ _ _, _, rfl, ownsRow_putObj (own_base Hrow.out (by omega)) _ HK.out rfl, ?_⟩
    exact (B2.out.trans (HBV.out.mono (by omega))).trans (belowK_b (w := w) (Nat.le_refl _) _ D _ _ (by have := HD.out; omega) HK.out rfl rfl)

set_option maxRecDepth 100000 in
set_option maxHeartbeats 8000000 in
theorem toldInt_any (gf : Nat) (lb : Array Value) (out : List (Nat × LineV)) (w : World) (eg : ∀ args w, (callFunc gf args).run Try.prog w = .ok (.enter gf args) w)
    (hseq : SeqStopsK Fence.wide 4 Try.prog gf lb encP (Below w.heap.size) (fun ys => ys = out) (fun pre => pre <+: out) out.length w) (hlen : out.length * 8 ≤ 140737488355328) :
    Calls Try.prog 40 #[.func (.func gf) #[] lb, .func (.func 41) #[] #[]] w fun e w' => ∃ v, e = .returned v ∧ w'.ownsRow w.heap.size 3 1 v out.length ((out.map fun q => (q.1 : Int)).map (Value.int .i64)) ∧ Below w.heap.size w w' := by
  obtain ⟨i0, hi, hz0, hz1, hz2⟩ := info_parts Try.seenInfo3
  have Heg := Lib.hid eg
  have Hseq := Lib.hid hseq
  have Hlen := Lib.hid hlen
  clear eg hseq hlen
  refine (callsIn_wide (n := 5)).1 ?_
  refine callsIn_of_wp_marks Try.func40 rfl trivial ?_ rfl
  simp only [Try.ntmps40, List.size_toArray, List.length_cons, List.length_nil, Nat.reduceAdd, Nat.reduceSub, Array.replicate_succ, Array.replicate_zero, List.push_toArray, List.append_toArray, List.nil_append, List.cons_append]
  obtain ⟨s2, b2, ra2, rb2⟩ := two_cells w (.func (.func 41) #[] #[]) (.slice none 0 0) 61 28
  have S2 := Lib.hid s2
  have B2 := Lib.hid b2
  have RA2 := Lib.hid ra2
  have RB2 := Lib.hid rb2
  clear s2 b2 ra2 rb2
  gi_wp2_with fail
  obtain ⟨W2, hW2⟩ : ∃ W2, ((w.alloc (.cells #[.func (.func 41) #[] #[]] 61)).alloc (.cells #[.slice none 0 0] 28)) = W2 := ⟨_, rfl⟩
  rw [hW2] at S2 B2 RA2 RB2 ⊢
  clear hW2
  have hs2 := S2.out
  refine' Round.rangeBoxed (by decide) (gf := gf) (lb := lb) rfl Heg.out Hseq.out (by omega) B2.out (fun _ => rfl)
    (fun pre V => (∃ v, Boxed V (w.heap.size + 1) 28 v ∧ V.ownsRow (w.heap.size + 1) 3 1 v pre.length ((pre.map fun q => (q.1 : Int)).map (Value.int .i64)) ∧ True) ∧ Below (w.heap.size + 1) W2 V)
    (fun _ _ _ => False) ?hI ?hIx ?h0 (fun x => .cells #[.int .u64 x.2.lab, .int .i64 x.2.num, .int .i64 x.2.rev, .string x.2.text] 26) (fun x b => { tmps := #[.func (.func gf) #[] lb, .func (.func 41) #[] #[], undef, .pointer (some ⟨w.heap.size, 0, none⟩), .slice none 0 0, .pointer (some ⟨w.heap.size + 1, 0, none⟩), .int .i64 (x.1 : Int), .pointer (some ⟨b, 0, none⟩), .func (.func gf) #[] lb, .int .i64 (x.1 : Int), x.2.agg, undef, undef, undef, undef, undef, undef, undef, undef], defers := [] }) ?assign ?body ?done ?stop
  case assign =>
    rintro l ⟨i, x1, x2, x3, x4⟩ V K hK
    dsimp only [encP, LineV.agg] at hK ⊢
    gi_wp2
    exact hK
  case hI =>
    rintro s V V' row ⟨h, h4⟩ hgr hr
    exact ⟨holdsRow_own (w.heap.size + 1) (w.heap.size + 1) 28 3 1 List.length (fun pre => (pre.map fun q => (q.1 : Int)).map (Value.int .i64)) (fun _ _ => True) s V V' row h hgr (fun r e => (hr r e).2), h4.grown hgr (by have := h4.size; omega) (fun k e => by have := (hr k e).1; omega)⟩
  case hIx => exact fun c s V V' row h _ _ => h
  case h0 => exact ⟨⟨_, RB2.out, World.ownsRow_nil _ _ _ _, trivial⟩, Below.refl _ _⟩
  case stop =>
    rintro D c pre V _ _ h _
    exact h.elim
  case body =>
    rintro l pre x V b ⟨⟨v, hv, hrow, _⟩, hBV⟩ hpl hbw hbx
    obtain ⟨i, x1, x2, x3, x4⟩ := x
    have cA := cell_of_one ((hBV.block w.heap.size (by omega)).trans RA2.out)
    have cB := hv.cell
    have d0 := cell_row _ _ 0 _ _ _ hbx rfl
    have d1 := cell_row _ _ 1 _ _ _ hbx rfl
    have d2 := cell_row _ _ 2 _ _ _ hbx rfl
    have d3 := cell_row _ _ 3 _ _ _ hbx rfl
    dsimp only at d0 d1 d2 d3
    have HBV := Lib.hid hBV
    have Hv := Lib.hid hv
    have Hrow := Lib.hid hrow
    have Hpl := Lib.hid hpl
    have hVs := hBV.size
    clear hBV hv hrow hpl hbx
    dsimp only [LineV.agg]
    gi_wp2_with fail
    refine Round.region_in (by kernel_rfl) (by rfl) (by rintro ⟨_, _, h⟩; exact h) (Round.any_of_B (S := fun W' => Below V.heap.size V W') (M := [4, 6]) _ _ _ _ ?_)
    have HS := Lib.hid (show Below V.heap.size V V.drew from (Below.refl _ _).drew)
    refine' Round.takeB (i := 0) 6 (oi := { dst := some 11, op := Op.load 28 (Operand.tmp 5), type := 28, pos := "view.go:85", after := #[], guard := none }) (v := v) rfl (by kernel_rfl) (by kernel_rfl) (by kernel_rfl) (by kernel_rfl) (fun _ _ _ h => h) (Or.inl ⟨?wt0, ?hy0⟩) HS.out ?rest0
    case wt0 => rfl
    case hy0 => (intro w' hSw; have c := cell_kept hSw cB; go_simp; try (with_reducible rfl))
    try simp only [Act.put, List.setIfInBounds_toArray, List.set_cons_zero, List.set_cons_succ]
    refine' Round.takeB (i := 1) 4 (oi := { dst := some 12, op := Op.load 61 (Operand.tmp 3), type := 61, pos := "view.go:85", after := #[], guard := none }) (v := .func (.func 41) #[] #[]) rfl (by kernel_rfl) (by kernel_rfl) (by kernel_rfl) (by kernel_rfl) (fun _ _ _ h => h) (Or.inl ⟨?wt1, ?hy1⟩) HS.out ?rest1
    case wt1 => rfl
    case hy1 => (intro w' hSw; have c := cell_kept hSw cA; go_simp; try (with_reducible rfl))
    try simp only [Act.put, List.setIfInBounds_toArray, List.set_cons_zero, List.set_cons_succ]
    refine' Round.takeB (i := 2) 4 (oi := { dst := some 13, op := Op.move (Operand.tmp 6), type := 3, pos := "view.go:85", after := #[], guard := none }) (v := .int .i64 (i : Int)) rfl (by kernel_rfl) (by kernel_rfl) (by kernel_rfl) (by kernel_rfl) (fun _ _ _ h => h) (Or.inl ⟨?wt2, ?hy2⟩) HS.out ?rest2
    case wt2 => rfl
    case hy2 => (intro w' hSw; go_simp; try (with_reducible rfl))
    try simp only [Act.put, List.setIfInBounds_toArray, List.set_cons_zero, List.set_cons_succ]
    refine' Round.takeB (i := 3) 4 (oi := { dst := some 14, op := Op.load 26 (Operand.tmp 7), type := 26, pos := "view.go:85", after := #[], guard := none }) (v := .agg #[.int .u64 x1, .int .i64 x2, .int .i64 x3, .string x4]) rfl (by kernel_rfl) (by kernel_rfl) (by kernel_rfl) (by kernel_rfl) (fun _ _ _ h => h) (Or.inl ⟨?wt3, ?hy3⟩) HS.out ?rest3
    case wt3 => rfl
    case hy3 => (intro w' hSw; have e0 := cell_kept hSw d0; have e1 := cell_kept hSw d1; have e2 := cell_kept hSw d2; have e3 := cell_kept hSw d3; go_simp; try (with_reducible rfl))
    try simp only [Act.put, List.setIfInBounds_toArray, List.set_cons_zero, List.set_cons_succ]
    clear d0 d1 d2 d3 cA cB
    refine Round.stepB (i := 4) (by kernel_rfl) rfl ?_
    intro K hK
    have HK := Lib.hid hK
    clear hK
    go_simp
    refine (places1_any (i : Int) x1 x2 x3 x4 _).mono ?_
    rintro e w1 ⟨rfl, hb1⟩
    have B1 := Lib.hid (below_join HS.out (show Below V.drew.heap.size V.drew w1 from hb1))
    clear hb1
    go_wp2_with fail
    refine HK.out _ _ (fun _ => B1.out) ?_
    clear HK K
    try simp only [Act.put, List.setIfInBounds_toArray, List.set_cons_zero, List.set_cons_succ]
    refine Round.stepB (i := 5) (by kernel_rfl) rfl ?_
    intro K hK
    have HK := Lib.hid hK
    clear hK
    go_simp
    refine HK.out _ _ (fun _ => B1.out.alloc B1.out.size _) ?_
    clear HK K
    try simp only [Act.put, List.setIfInBounds_toArray, List.set_cons_zero, List.set_cons_succ]
    have hrow1 := own_kept Hrow.out B1.out
    have hrow2 := hrow1.alloc (.cells #[.int .i64 (i : Int)] 3)
    have hnew := own_news _ _ _ _ (heap_alloc_new w1 (.cells #[.int .i64 (i : Int)] 3))
    have hs1 := B1.out.size
    refine Round.stepB (i := 6) (by kernel_rfl) rfl ?_
    intro K hK
    have HK := Lib.hid hK
    clear hK
    refine step_append_lies _ (by rfl) (.tmp 11) (.tmp 16) 28 (by rfl) (w.heap.size + 1) 3 i0 (.int .i64 0) 1 8 Try.underlying28 hi hz0 hz1 hz2 rfl (by decide) v pre.length ((pre.map fun q => (q.1 : Int)).map (Value.int .i64)) (by kernel_rfl) hrow2 ⟨w1.heap.size, 0, none⟩ 1 1 [.int .i64 (i : Int)] (by kernel_rfl) rfl hnew (by simp [Value.oneCell']) (by decide) (by unfold maxLen; have := Hpl.out; have := Hlen.out; omega) (by have := Hpl.out; have := Hlen.out; omega) (by simp; omega) _ rfl ?_
    intro g cap w3 hown3 hgrow3 _ _
    refine HK.out _ _ (fun h => by simp [Round.openM] at h) ?_
    clear HK K
    try simp only [Act.put, List.setIfInBounds_toArray]
    have hbx1 : Boxed w1 (w.heap.size + 1) 28 v := row_kept B1.out Hv.out
    obtain ⟨q1, q2, q3, q4, q5⟩ := hbx1.appended (by decide) hrow1 (by omega) (Nat.le_refl _) hown3 hgrow3
    have cq := q1.cell
    have fq := q1.frozen
    have Q2 := Lib.hid q2
    have Q3 := Lib.hid q3
    have Q4 := Lib.hid q4
    have Q5 := Lib.hid q5
    clear q1 q2 q3 q4 q5 hown3 hgrow3 hrow2 hnew hrow1 hbx1
    refine Round.stepB (i := 7) (by kernel_rfl) rfl ?_
    intro K hK
    have HK := Lib.hid hK
    clear hK
    go_simp
    refine HK.out _ _ (fun h => by simp [Round.openM] at h) ?_
    clear HK K
    refine Round.doneB (by kernel_rfl) ?_ _
    have hko := (KeepsOthers.trans (A := V) (B := w1) ⟨B1.out.size, fun k o hk _ => (B1.out.block k (lt_of_block hk)).trans hk⟩ Q4.out)
    have hbel : Below (w.heap.size + 1) V (w3.setCell ⟨w.heap.size + 1, 0, none⟩ (.slice (some ⟨g, 0, none⟩) (pre.length + 1) cap)) := (B1.out.mono (by omega)).trans Q5.out
    refine ⟨hko.from _, hbel.mono (by omega), ⟨_, Q2.out, ?_, trivial⟩, HBV.out.trans hbel⟩
    have e : ((pre ++ [((i, ⟨x1, x2, x3, x4⟩) : Nat × LineV)]).map fun q => (q.1 : Int)).map (Value.int .i64) = (pre.map fun q => (q.1 : Int)).map (Value.int .i64) ++ [.int .i64 (i : Int)] := by simp []
    rw [e, List.length_append]
    exact Q3.out
  case done =>
    rintro D ys V hD rfl ⟨⟨v, hv, hrow, _⟩, hBV⟩ hK
    have cB := hv.cell
    have hDs := lt_of_block hK
    have HK := Lib.hid hK
    have Hrow := Lib.hid hrow
    have HBV := Lib.hid hBV
    have HD := Lib.hid hD
    clear hBV hrow hK hD hv
    gi_wp2_with fail
    refine ⟨by simp, .inl ⟨_, _, rfl, run_takeDeferred HK.out, ?_⟩⟩
    refine ⟨_, results_tmp rfl _ _ _, _, rfl, ownsRow_putObj (own_base Hrow.out (by omega)) _ HK.out rfl, ?_⟩
    exact (B2.out.trans (HBV.out.mono (by omega))).trans (belowK_b (w := w) (Nat.le_refl _) _ D _ _ (by have := HD.out; omega) HK.out rfl rfl)

set_option maxRecDepth 100000 in
set_option maxHeartbeats 8000000 in
theorem toldStr_any (gf : Nat) (lb : Array Value) (out : List (Nat × LineV)) (w : World) (eg : ∀ args w, (callFunc gf args).run Try.prog w = .ok (.enter gf args) w)
    (hseq : SeqStopsK Fence.wide 4 Try.prog gf lb encP (Below w.heap.size) (fun ys => ys = out) (fun pre => pre <+: out) out.length w) (hlen : out.length * 16 ≤ 140737488355328) :
    Calls Try.prog 42 #[.func (.func gf) #[] lb, .func (.func 44) #[] #[]] w fun e w' => ∃ v, e = .returned v ∧ w'.ownsRow w.heap.size 9 1 v out.length ((out.map fun q => q.2.text).map Value.string) ∧ Below w.heap.size w w' := by
  obtain ⟨i0, hi, hz0, hz1, hz2⟩ := info_parts Try.seenInfo9
  have Heg := Lib.hid eg
  have Hseq := Lib.hid hseq
  have Hlen := Lib.hid hlen
  clear eg hseq hlen
  refine (callsIn_wide (n := 5)).1 ?_
  refine callsIn_of_wp_marks Try.func42 rfl trivial ?_ rfl
  simp only [Try.ntmps42, List.size_toArray, List.length_cons, List.length_nil, Nat.reduceAdd, Nat.reduceSub, Array.replicate_succ, Array.replicate_zero, List.push_toArray, List.append_toArray, List.nil_append, List.cons_append]
  obtain ⟨s2, b2, ra2, rb2⟩ := two_cells w (.func (.func 44) #[] #[]) (.slice none 0 0) 64 30
  have S2 := Lib.hid s2
  have B2 := Lib.hid b2
  have RA2 := Lib.hid ra2
  have RB2 := Lib.hid rb2
  clear s2 b2 ra2 rb2
  gi_wp2_with fail
  obtain ⟨W2, hW2⟩ : ∃ W2, ((w.alloc (.cells #[.func (.func 44) #[] #[]] 64)).alloc (.cells #[.slice none 0 0] 30)) = W2 := ⟨_, rfl⟩
  rw [hW2] at S2 B2 RA2 RB2 ⊢
  clear hW2
  have hs2 := S2.out
  refine' Round.rangeBoxed (by decide) (gf := gf) (lb := lb) rfl Heg.out Hseq.out (by omega) B2.out (fun _ => rfl)
    (fun pre V => (∃ v, Boxed V (w.heap.size + 1) 30 v ∧ V.ownsRow (w.heap.size + 1) 9 1 v pre.length ((pre.map fun q => q.2.text).map Value.string) ∧ True) ∧ Below (w.heap.size + 1) W2 V)
    (fun _ _ _ => False) ?hI ?hIx ?h0 (fun x => .cells #[.int .u64 x.2.lab, .int .i64 x.2.num, .int .i64 x.2.rev, .string x.2.text] 26) (fun x b => { tmps := #[.func (.func gf) #[] lb, .func (.func 44) #[] #[], undef, .pointer (some ⟨w.heap.size, 0, none⟩), .slice none 0 0, .pointer (some ⟨w.heap.size + 1, 0, none⟩), .int .i64 (x.1 : Int), .pointer (some ⟨b, 0, none⟩), .func (.func gf) #[] lb, .int .i64 (x.1 : Int), x.2.agg, undef, undef, undef, undef, undef, undef, undef, undef], defers := [] }) ?assign ?body ?done ?stop
  case assign =>
    rintro l ⟨i, x1, x2, x3, x4⟩ V K hK
    dsimp only [encP, LineV.agg] at hK ⊢
    gi_wp2
    exact hK
  case hI =>
    rintro s V V' row ⟨h, h4⟩ hgr hr
    exact ⟨holdsRow_own (w.heap.size + 1) (w.heap.size + 1) 30 9 1 List.length (fun pre => (pre.map fun q => q.2.text).map Value.string) (fun _ _ => True) s V V' row h hgr (fun r e => (hr r e).2), h4.grown hgr (by have := h4.size; omega) (fun k e => by have := (hr k e).1; omega)⟩
  case hIx => exact fun c s V V' row h _ _ => h
  case h0 => exact ⟨⟨_, RB2.out, World.ownsRow_nil _ _ _ _, trivial⟩, Below.refl _ _⟩
  case stop =>
    rintro D c pre V _ _ h _
    exact h.elim
  case body =>
    rintro l pre x V b ⟨⟨v, hv, hrow, _⟩, hBV⟩ hpl hbw hbx
    obtain ⟨i, x1, x2, x3, x4⟩ := x
    have cA := cell_of_one ((hBV.block w.heap.size (by omega)).trans RA2.out)
    have cB := hv.cell
    have d0 := cell_row _ _ 0 _ _ _ hbx rfl
    have d1 := cell_row _ _ 1 _ _ _ hbx rfl
    have d2 := cell_row _ _ 2 _ _ _ hbx rfl
    have d3 := cell_row _ _ 3 _ _ _ hbx rfl
    dsimp only at d0 d1 d2 d3
    have HBV := Lib.hid hBV
    have Hv := Lib.hid hv
    have Hrow := Lib.hid hrow
    have Hpl := Lib.hid hpl
    have hVs := hBV.size
    clear hBV hv hrow hpl hbx
    dsimp only [LineV.agg]
    gi_wp2_with fail
    refine Round.region_in (by kernel_rfl) (by rfl) (by rintro ⟨_, _, h⟩; exact h) (Round.any_of_B (S := fun W' => Below V.heap.size V W') (M := [4, 6]) _ _ _ _ ?_)
    have HS := Lib.hid (show Below V.heap.size V V.drew from (Below.refl _ _).drew)
    refine' Round.takeB (i := 0) 6 (oi := { dst := some 11, op := Op.load 30 (Operand.tmp 5), type := 30, pos := "view.go:85", after := #[], guard := none }) (v := v) rfl (by kernel_rfl) (by kernel_rfl) (by kernel_rfl) (by kernel_rfl) (fun _ _ _ h => h) (Or.inl ⟨?wt0, ?hy0⟩) HS.out ?rest0
    case wt0 => rfl
    case hy0 => (intro w' hSw; have c := cell_kept hSw cB; go_simp; try (with_reducible rfl))
    try simp only [Act.put, List.setIfInBounds_toArray, List.set_cons_zero, List.set_cons_succ]
    refine' Round.takeB (i := 1) 4 (oi := { dst := some 12, op := Op.load 64 (Operand.tmp 3), type := 64, pos := "view.go:85", after := #[], guard := none }) (v := .func (.func 44) #[] #[]) rfl (by kernel_rfl) (by kernel_rfl) (by kernel_rfl) (by kernel_rfl) (fun _ _ _ h => h) (Or.inl ⟨?wt1, ?hy1⟩) HS.out ?rest1
    case wt1 => rfl
    case hy1 => (intro w' hSw; have c := cell_kept hSw cA; go_simp; try (with_reducible rfl))
    try simp only [Act.put, List.setIfInBounds_toArray, List.set_cons_zero, List.set_cons_succ]
    refine' Round.takeB (i := 2) 4 (oi := { dst := some 13, op := Op.move (Operand.tmp 6), type := 3, pos := "view.go:85", after := #[], guard := none }) (v := .int .i64 (i : Int)) rfl (by kernel_rfl) (by kernel_rfl) (by kernel_rfl) (by kernel_rfl) (fun _ _ _ h => h) (Or.inl ⟨?wt2, ?hy2⟩) HS.out ?rest2
    case wt2 => rfl
    case hy2 => (intro w' hSw; go_simp; try (with_reducible rfl))
    try simp only [Act.put, List.setIfInBounds_toArray, List.set_cons_zero, List.set_cons_succ]
    refine' Round.takeB (i := 3) 4 (oi := { dst := some 14, op := Op.load 26 (Operand.tmp 7), type := 26, pos := "view.go:85", after := #[], guard := none }) (v := .agg #[.int .u64 x1, .int .i64 x2, .int .i64 x3, .string x4]) rfl (by kernel_rfl) (by kernel_rfl) (by kernel_rfl) (by kernel_rfl) (fun _ _ _ h => h) (Or.inl ⟨?wt3, ?hy3⟩) HS.out ?rest3
    case wt3 => rfl
    case hy3 => (intro w' hSw; have e0 := cell_kept hSw d0; have e1 := cell_kept hSw d1; have e2 := cell_kept hSw d2; have e3 := cell_kept hSw d3; go_simp; try (with_reducible rfl))
    try simp only [Act.put, List.setIfInBounds_toArray, List.set_cons_zero, List.set_cons_succ]
    clear d0 d1 d2 d3 cA cB
    refine Round.stepB (i := 4) (by kernel_rfl) rfl ?_
    intro K hK
    have HK := Lib.hid hK
    clear hK
    go_simp
    refine (texts1_any (i : Int) x1 x2 x3 x4 _).mono ?_
    rintro e w1 ⟨rfl, hb1⟩
    have B1 := Lib.hid (below_join HS.out (show Below V.drew.heap.size V.drew w1 from hb1))
    clear hb1
    go_wp2_with fail
    refine HK.out _ _ (fun _ => B1.out) ?_
    clear HK K
    try simp only [Act.put, List.setIfInBounds_toArray, List.set_cons_zero, List.set_cons_succ]
    refine Round.stepB (i := 5) (by kernel_rfl) rfl ?_
    intro K hK
    have HK := Lib.hid hK
    clear hK
    go_simp
    refine HK.out _ _ (fun _ => B1.out.alloc B1.out.size _) ?_
    clear HK K
    try simp only [Act.put, List.setIfInBounds_toArray, List.set_cons_zero, List.set_cons_succ]
    have hrow1 := own_kept Hrow.out B1.out
    have hrow2 := hrow1.alloc (.cells #[.string x4] 9)
    have hnew := own_news _ _ _ _ (heap_alloc_new w1 (.cells #[.string x4] 9))
    have hs1 := B1.out.size
    refine Round.stepB (i := 6) (by kernel_rfl) rfl ?_
    intro K hK
    have HK := Lib.hid hK
    clear hK
    refine step_append_lies _ (by rfl) (.tmp 11) (.tmp 16) 30 (by rfl) (w.heap.size + 1) 9 i0 (.string ⟨#[]⟩) 1 16 Try.underlying30 hi hz0 hz1 hz2 rfl (by decide) v pre.length ((pre.map fun q => q.2.text).map Value.string) (by kernel_rfl) hrow2 ⟨w1.heap.size, 0, none⟩ 1 1 [.string x4] (by kernel_rfl) rfl hnew (by simp [Value.oneCell']) (by decide) (by unfold maxLen; have := Hpl.out; have := Hlen.out; omega) (by have := Hpl.out; have := Hlen.out; omega) (by simp; omega) _ rfl ?_
    intro g cap w3 hown3 hgrow3 _ _
    refine HK.out _ _ (fun h => by simp [Round.openM] at h) ?_
    clear HK K
    try simp only [Act.put, List.setIfInBounds_toArray]
    have hbx1 : Boxed w1 (w.heap.size + 1) 30 v := row_kept B1.out Hv.out
    obtain ⟨q1, q2, q3, q4, q5⟩ := hbx1.appended (by decide) hrow1 (by omega) (Nat.le_refl _) hown3 hgrow3
    have cq := q1.cell
    have fq := q1.frozen
    have Q2 := Lib.hid q2
    have Q3 := Lib.hid q3
    have Q4 := Lib.hid q4
    have Q5 := Lib.hid q5
    clear q1 q2 q3 q4 q5 hown3 hgrow3 hrow2 hnew hrow1 hbx1
    refine Round.stepB (i := 7) (by kernel_rfl) rfl ?_
    intro K hK
    have HK := Lib.hid hK
    clear hK
    go_simp
    refine HK.out _ _ (fun h => by simp [Round.openM] at h) ?_
    clear HK K
    refine Round.doneB (by kernel_rfl) ?_ _
    have hko := (KeepsOthers.trans (A := V) (B := w1) ⟨B1.out.size, fun k o hk _ => (B1.out.block k (lt_of_block hk)).trans hk⟩ Q4.out)
    have hbel : Below (w.heap.size + 1) V (w3.setCell ⟨w.heap.size + 1, 0, none⟩ (.slice (some ⟨g, 0, none⟩) (pre.length + 1) cap)) := (B1.out.mono (by omega)).trans Q5.out
    refine ⟨hko.from _, hbel.mono (by omega), ⟨_, Q2.out, ?_, trivial⟩, HBV.out.trans hbel⟩
    have e : ((pre ++ [((i, ⟨x1, x2, x3, x4⟩) : Nat × LineV)]).map fun q => q.2.text).map Value.string = (pre.map fun q => q.2.text).map Value.string ++ [.string x4] := by simp []
    rw [e, List.length_append]
    exact Q3.out
  case done =>
    rintro D ys V hD rfl ⟨⟨v, hv, hrow, _⟩, hBV⟩ hK
    have cB := hv.cell
    have hDs := lt_of_block hK
    have HK := Lib.hid hK
    have Hrow := Lib.hid hrow
    have HBV := Lib.hid hBV
    have HD := Lib.hid hD
    clear hBV hrow hK hD hv
    gi_wp2_with fail
    refine ⟨by simp, .inl ⟨_, _, rfl, run_takeDeferred HK.out, ?_⟩⟩
    refine ⟨_, results_tmp rfl _ _ _, _, rfl, ownsRow_putObj (own_base Hrow.out (by omega)) _ HK.out rfl, ?_⟩
    exact (B2.out.trans (HBV.out.mono (by omega))).trans (belowK_b (w := w) (Nat.le_refl _) _ D _ _ (by have := HD.out; omega) HK.out rfl rfl)

set_option maxRecDepth 100000 in
set_option maxHeartbeats 8000000 in
theorem toldLab_any (gf : Nat) (lb : Array Value) (out : List (Nat × LineV)) (w : World) (eg : ∀ args w, (callFunc gf args).run Try.prog w = .ok (.enter gf args) w)
    (hseq : SeqStopsK Fence.wide 4 Try.prog gf lb encP (Below w.heap.size) (fun ys => ys = out) (fun pre => pre <+: out) out.length w) (hlen : out.length * 8 ≤ 140737488355328) :
    Calls Try.prog 47 #[.func (.func gf) #[] lb, .func (.func 48) #[] #[]] w fun e w' => ∃ v, e = .returned v ∧ w'.ownsRow w.heap.size 24 1 v out.length ((out.map fun q => q.2.lab).map (Value.int .u64)) ∧ Below w.heap.size w w' := by
  obtain ⟨i0, hi, hz0, hz1, hz2⟩ := info_parts Try.seenInfo24
  have Heg := Lib.hid eg
  have Hseq := Lib.hid hseq
  have Hlen := Lib.hid hlen
  clear eg hseq hlen
  refine (callsIn_wide (n := 5)).1 ?_
  refine callsIn_of_wp_marks Try.func47 rfl trivial ?_ rfl
  simp only [Try.ntmps47, List.size_toArray, List.length_cons, List.length_nil, Nat.reduceAdd, Nat.reduceSub, Array.replicate_succ, Array.replicate_zero, List.push_toArray, List.append_toArray, List.nil_append, List.cons_append]
  obtain ⟨s2, b2, ra2, rb2⟩ := two_cells w (.func (.func 48) #[] #[]) (.slice none 0 0) 67 45
  have S2 := Lib.hid s2
  have B2 := Lib.hid b2
  have RA2 := Lib.hid ra2
  have RB2 := Lib.hid rb2
  clear s2 b2 ra2 rb2
  gi_wp2_with fail
  obtain ⟨W2, hW2⟩ : ∃ W2, ((w.alloc (.cells #[.func (.func 48) #[] #[]] 67)).alloc (.cells #[.slice none 0 0] 45)) = W2 := ⟨_, rfl⟩
  rw [hW2] at S2 B2 RA2 RB2 ⊢
  clear hW2
  have hs2 := S2.out
  refine' Round.rangeBoxed (by decide) (gf := gf) (lb := lb) rfl Heg.out Hseq.out (by omega) B2.out (fun _ => rfl)
    (fun pre V => (∃ v, Boxed V (w.heap.size + 1) 45 v ∧ V.ownsRow (w.heap.size + 1) 24 1 v pre.length ((pre.map fun q => q.2.lab).map (Value.int .u64)) ∧ True) ∧ Below (w.heap.size + 1) W2 V)
    (fun _ _ _ => False) ?hI ?hIx ?h0 (fun x => .cells #[.int .u64 x.2.lab, .int .i64 x.2.num, .int .i64 x.2.rev, .string x.2.text] 26) (fun x b => { tmps := #[.func (.func gf) #[] lb, .func (.func 48) #[] #[], undef, .pointer (some ⟨w.heap.size, 0, none⟩), .slice none 0 0, .pointer (some ⟨w.heap.size + 1, 0, none⟩), .int .i64 (x.1 : Int), .pointer (some ⟨b, 0, none⟩), .func (.func gf) #[] lb, .int .i64 (x.1 : Int), x.2.agg, undef, undef, undef, undef, undef, undef, undef, undef], defers := [] }) ?assign ?body ?done ?stop
  case assign =>
    rintro l ⟨i, x1, x2, x3, x4⟩ V K hK
    dsimp only [encP, LineV.agg] at hK ⊢
    gi_wp2
    exact hK
  case hI =>
    rintro s V V' row ⟨h, h4⟩ hgr hr
    exact ⟨holdsRow_own (w.heap.size + 1) (w.heap.size + 1) 45 24 1 List.length (fun pre => (pre.map fun q => q.2.lab).map (Value.int .u64)) (fun _ _ => True) s V V' row h hgr (fun r e => (hr r e).2), h4.grown hgr (by have := h4.size; omega) (fun k e => by have := (hr k e).1; omega)⟩
  case hIx => exact fun c s V V' row h _ _ => h
  case h0 => exact ⟨⟨_, RB2.out, World.ownsRow_nil _ _ _ _, trivial⟩, Below.refl _ _⟩
  case stop =>
    rintro D c pre V _ _ h _
    exact h.elim
  case body =>
    rintro l pre x V b ⟨⟨v, hv, hrow, _⟩, hBV⟩ hpl hbw hbx
    obtain ⟨i, x1, x2, x3, x4⟩ := x
    have cA := cell_of_one ((hBV.block w.heap.size (by omega)).trans RA2.out)
    have cB := hv.cell
    have d0 := cell_row _ _ 0 _ _ _ hbx rfl
    have d1 := cell_row _ _ 1 _ _ _ hbx rfl
    have d2 := cell_row _ _ 2 _ _ _ hbx rfl
    have d3 := cell_row _ _ 3 _ _ _ hbx rfl
    dsimp only at d0 d1 d2 d3
    have HBV := Lib.hid hBV
    have Hv := Lib.hid hv
    have Hrow := Lib.hid hrow
    have Hpl := Lib.hid hpl
    have hVs := hBV.size
    clear hBV hv hrow hpl hbx
    dsimp only [LineV.agg]
    gi_wp2_with fail
    refine Round.region_in (by kernel_rfl) (by rfl) (by rintro ⟨_, _, h⟩; exact h) (Round.any_of_B (S := fun W' => Below V.heap.size V W') (M := [4, 6]) _ _ _ _ ?_)
    have HS := Lib.hid (show Below V.heap.size V V.drew from (Below.refl _ _).drew)
    refine' Round.takeB (i := 0) 6 (oi := { dst := some 11, op := Op.load 45 (Operand.tmp 5), type := 45, pos := "view.go:85", after := #[], guard := none }) (v := v) rfl (by kernel_rfl) (by kernel_rfl) (by kernel_rfl) (by kernel_rfl) (fun _ _ _ h => h) (Or.inl ⟨?wt0, ?hy0⟩) HS.out ?rest0
    case wt0 => rfl
    case hy0 => (intro w' hSw; have c := cell_kept hSw cB; go_simp; try (with_reducible rfl))
    try simp only [Act.put, List.setIfInBounds_toArray, List.set_cons_zero, List.set_cons_succ]
    refine' Round.takeB (i := 1) 4 (oi := { dst := some 12, op := Op.load 67 (Operand.tmp 3), type := 67, pos := "view.go:85", after := #[], guard := none }) (v := .func (.func 48) #[] #[]) rfl (by kernel_rfl) (by kernel_rfl) (by kernel_rfl) (by kernel_rfl) (fun _ _ _ h => h) (Or.inl ⟨?wt1, ?hy1⟩) HS.out ?rest1
    case wt1 => rfl
    case hy1 => (intro w' hSw; have c := cell_kept hSw cA; go_simp; try (with_reducible rfl))
    try simp only [Act.put, List.setIfInBounds_toArray, List.set_cons_zero, List.set_cons_succ]
    refine' Round.takeB (i := 2) 4 (oi := { dst := some 13, op := Op.move (Operand.tmp 6), type := 3, pos := "view.go:85", after := #[], guard := none }) (v := .int .i64 (i : Int)) rfl (by kernel_rfl) (by kernel_rfl) (by kernel_rfl) (by kernel_rfl) (fun _ _ _ h => h) (Or.inl ⟨?wt2, ?hy2⟩) HS.out ?rest2
    case wt2 => rfl
    case hy2 => (intro w' hSw; go_simp; try (with_reducible rfl))
    try simp only [Act.put, List.setIfInBounds_toArray, List.set_cons_zero, List.set_cons_succ]
    refine' Round.takeB (i := 3) 4 (oi := { dst := some 14, op := Op.load 26 (Operand.tmp 7), type := 26, pos := "view.go:85", after := #[], guard := none }) (v := .agg #[.int .u64 x1, .int .i64 x2, .int .i64 x3, .string x4]) rfl (by kernel_rfl) (by kernel_rfl) (by kernel_rfl) (by kernel_rfl) (fun _ _ _ h => h) (Or.inl ⟨?wt3, ?hy3⟩) HS.out ?rest3
    case wt3 => rfl
    case hy3 => (intro w' hSw; have e0 := cell_kept hSw d0; have e1 := cell_kept hSw d1; have e2 := cell_kept hSw d2; have e3 := cell_kept hSw d3; go_simp; try (with_reducible rfl))
    try simp only [Act.put, List.setIfInBounds_toArray, List.set_cons_zero, List.set_cons_succ]
    clear d0 d1 d2 d3 cA cB
    refine Round.stepB (i := 4) (by kernel_rfl) rfl ?_
    intro K hK
    have HK := Lib.hid hK
    clear hK
    go_simp
    refine (labels1_any (i : Int) x1 x2 x3 x4 _).mono ?_
    rintro e w1 ⟨rfl, hb1⟩
    have B1 := Lib.hid (below_join HS.out (show Below V.drew.heap.size V.drew w1 from hb1))
    clear hb1
    go_wp2_with fail
    refine HK.out _ _ (fun _ => B1.out) ?_
    clear HK K
    try simp only [Act.put, List.setIfInBounds_toArray, List.set_cons_zero, List.set_cons_succ]
    refine Round.stepB (i := 5) (by kernel_rfl) rfl ?_
    intro K hK
    have HK := Lib.hid hK
    clear hK
    go_simp
    refine HK.out _ _ (fun _ => B1.out.alloc B1.out.size _) ?_
    clear HK K
    try simp only [Act.put, List.setIfInBounds_toArray, List.set_cons_zero, List.set_cons_succ]
    have hrow1 := own_kept Hrow.out B1.out
    have hrow2 := hrow1.alloc (.cells #[.int .u64 x1] 24)
    have hnew := own_news _ _ _ _ (heap_alloc_new w1 (.cells #[.int .u64 x1] 24))
    have hs1 := B1.out.size
    refine Round.stepB (i := 6) (by kernel_rfl) rfl ?_
    intro K hK
    have HK := Lib.hid hK
    clear hK
    refine step_append_lies _ (by rfl) (.tmp 11) (.tmp 16) 45 (by rfl) (w.heap.size + 1) 24 i0 (.int .u64 0) 1 8 Try.underlying45 hi hz0 hz1 hz2 rfl (by decide) v pre.length ((pre.map fun q => q.2.lab).map (Value.int .u64)) (by kernel_rfl) hrow2 ⟨w1.heap.size, 0, none⟩ 1 1 [.int .u64 x1] (by kernel_rfl) rfl hnew (by simp [Value.oneCell']) (by decide) (by unfold maxLen; have := Hpl.out; have := Hlen.out; omega) (by have := Hpl.out; have := Hlen.out; omega) (by simp; omega) _ rfl ?_
    intro g cap w3 hown3 hgrow3 _ _
    refine HK.out _ _ (fun h => by simp [Round.openM] at h) ?_
    clear HK K
    try simp only [Act.put, List.setIfInBounds_toArray]
    have hbx1 : Boxed w1 (w.heap.size + 1) 45 v := row_kept B1.out Hv.out
    obtain ⟨q1, q2, q3, q4, q5⟩ := hbx1.appended (by decide) hrow1 (by omega) (Nat.le_refl _) hown3 hgrow3
    have cq := q1.cell
    have fq := q1.frozen
    have Q2 := Lib.hid q2
    have Q3 := Lib.hid q3
    have Q4 := Lib.hid q4
    have Q5 := Lib.hid q5
    clear q1 q2 q3 q4 q5 hown3 hgrow3 hrow2 hnew hrow1 hbx1
    refine Round.stepB (i := 7) (by kernel_rfl) rfl ?_
    intro K hK
    have HK := Lib.hid hK
    clear hK
    go_simp
    refine HK.out _ _ (fun h => by simp [Round.openM] at h) ?_
    clear HK K
    refine Round.doneB (by kernel_rfl) ?_ _
    have hko := (KeepsOthers.trans (A := V) (B := w1) ⟨B1.out.size, fun k o hk _ => (B1.out.block k (lt_of_block hk)).trans hk⟩ Q4.out)
    have hbel : Below (w.heap.size + 1) V (w3.setCell ⟨w.heap.size + 1, 0, none⟩ (.slice (some ⟨g, 0, none⟩) (pre.length + 1) cap)) := (B1.out.mono (by omega)).trans Q5.out
    refine ⟨hko.from _, hbel.mono (by omega), ⟨_, Q2.out, ?_, trivial⟩, HBV.out.trans hbel⟩
    have e : ((pre ++ [((i, ⟨x1, x2, x3, x4⟩) : Nat × LineV)]).map fun q => q.2.lab).map (Value.int .u64) = (pre.map fun q => q.2.lab).map (Value.int .u64) ++ [.int .u64 x1] := by simp []
    rw [e, List.length_append]
    exact Q3.out
  case done =>
    rintro D ys V hD rfl ⟨⟨v, hv, hrow, _⟩, hBV⟩ hK
    have cB := hv.cell
    have hDs := lt_of_block hK
    have HK := Lib.hid hK
    have Hrow := Lib.hid hrow
    have HBV := Lib.hid hBV
    have HD := Lib.hid hD
    clear hBV hrow hK hD hv
    gi_wp2_with fail
    refine ⟨by simp, .inl ⟨_, _, rfl, run_takeDeferred HK.out, ?_⟩⟩
    refine ⟨_, results_tmp rfl _ _ _, _, rfl, ownsRow_putObj (own_base Hrow.out (by omega)) _ HK.out rfl, ?_⟩
    exact (B2.out.trans (HBV.out.mono (by omega))).trans (belowK_b (w := w) (Nat.le_refl _) _ D _ _ (by have := HD.out; omega) HK.out rfl rfl)
end Go.Proofs.Ytgchcgllpceghaa
