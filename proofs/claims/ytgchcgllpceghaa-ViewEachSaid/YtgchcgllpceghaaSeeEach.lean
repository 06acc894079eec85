/- Own work: view's Each, and ViewEach's walk. -/
import Derived.Test.YtgchcgllpceghaaSeePut
import Derived.Test.YtgchcgllpceghaaPit
import Derived.RangeFuncWrites
import Derived.OrdersHeld
import Derived.Sort.BigQuietIn
import Derived.Sort.CutIn
import Derived.BigQuiet
import Derived.Test.YtgchcgllpceghaaRound
import Derived.Test.YtgchcgllpceghaaRoundBox
import Derived.Deep.Cut
namespace Go.Proofs.Ytgchcgllpceghaa
open Go.RowKit Go.Joins

attribute [local go_sem] Oper.semAt_some

set_option maxHeartbeats 1000000 in
/-- seen: the iterator, with its three boxes, and where these lie -/
theorem seenSeq2_any (c : Nat) (ao : Option Addr) (n cap : Nat) (w : World) :
    Calls Try.prog 36 #[.slice ao n cap, .int .u64 c] w fun e w' => ∃ g h,
      e = .returned (.func (.func 55) #[] #[.pointer (some ⟨g, 0, none⟩), .pointer (some ⟨g + 1, 0, none⟩)]) ∧ Below w.heap.size w w' ∧
      w'.heap[g]? = some (.cells #[.slice ao n cap] 22 (0, 0)) ∧ w'.heap[g + 1]? = some (.cells #[.func (.func 54) #[] #[.pointer (some ⟨h, 0, none⟩)]] 59 (0, 0)) ∧
      w'.heap[h]? = some (.cells #[.int .u64 c] 24 (0, 0)) ∧ w.heap.size ≤ g ∧ w.heap.size ≤ h := by
  have hb := (Below.refl w.heap.size w).alloc (Nat.le_refl _) (.cells #[.int .u64 c] 24)
  have h1 := heap_alloc_new w (.cells #[.int .u64 c] 24)
  have HB := Lib.hid hb
  have H1 := Lib.hid h1
  clear hb h1
  go_enter Try.func36, Try.ntmps36
  go_wp2_with fail
  refine (where_any ao n cap _ _ _).mono ?_
  rintro e w' ⟨rfl, hb, h2, h3⟩
  have HB2 := Lib.hid (below_join HB.out hb)
  have H12 := Lib.hid (row_kept hb H1.out)
  simp only [World.size_alloc] at h2 h3
  have H2 := Lib.hid h2
  have H3 := Lib.hid h3
  clear hb h2 h3
  go_wp2_with fail
  go_ret
  exact ⟨w.heap.size + 1, w.heap.size, rfl, HB2.out, H2.out, H3.out, H12.out, Nat.le_succ _, Nat.le_refl _⟩
set_option maxHeartbeats 2000000 in
theorem each_any (u : Value) (l : List LineV) (c : Nat) (w : World) (hu : Lns w u l) (hform : SliceForm u) (hlen : l.length * 40 ≤ 140737488355328) :
    Calls Try.prog 25 #[u, .int .u64 c] w fun e w' => ∃ g h v, e = .returned (.func (.func 55) #[] #[.pointer (some ⟨g, 0, none⟩), .pointer (some ⟨g + 1, 0, none⟩)]) ∧ Below w.heap.size w w' ∧
      Lns w' v l ∧ Lies v w.heap.size w'.heap.size ∧ w.heap.size ≤ g ∧ w.heap.size ≤ h ∧
      w'.heap[g]? = some (.cells #[v] 22 (0, 0)) ∧ w'.heap[g + 1]? = some (.cells #[.func (.func 54) #[] #[.pointer (some ⟨h, 0, none⟩)]] 59 (0, 0)) ∧
      w'.heap[h]? = some (.cells #[.int .u64 c] 24 (0, 0)) := by
  have Hu := Lib.hid hu
  have Hform := Lib.hid hform
  have Hlen := Lib.hid hlen
  clear hu hform hlen
  go_enter Try.func25, Try.ntmps25
  go_wp2_with fail
  refine (cloneL_any u l _ Hu.out Hform.out Hlen.out).mono ?_
  rintro e w1 ⟨v, rfl, hv, hb1⟩
  obtain ⟨vo, vc, rfl, _⟩ := own_slice (show w1.ownsRow w.heap.size 26 4 v l.length (flatL l) from hv)
  have HV := Lib.hid hv
  have B1 := Lib.hid hb1
  clear hv hb1
  go_wp2_with fail
  refine (seenSeq2_any c vo l.length vc _).mono ?_
  rintro e w2 ⟨g, h, rfl, hb2, q1, q2, q3, q4⟩
  have HV2 := Lib.hid (HV.out.kept hb2)
  have B2 := Lib.hid (below_join B1.out hb2)
  have Q1 := Lib.hid q1
  have Q2 := Lib.hid q2
  have Q3 := Lib.hid q3
  have Q4 := Lib.hid q4
  have S1 := Lib.hid B1.out.size
  clear hb2 q1 q2 q3 q4
  go_wp2_with fail
  go_ret
  exact ⟨g, h, _, rfl, B2.out, HV2.out.lns, Lies.of HV2.out, Nat.le_trans S1.out Q4.out.1, Nat.le_trans S1.out Q4.out.2, Q1.out, Q2.out, Q3.out⟩
theorem by_act {F : Fence} {n : Nat} {P : Program} {c : Code} {Q : Exit → Act → World → Prop} {a a' : Act} {w : World} (h : a = a') (hw : c.wpIn F n P Q a' w) : c.wpIn F n P Q a w := h ▸ hw
section
variable {P : Program} {Q : Exit → Act → World → Prop}
/-- a region that draws its order and only reads, in a round: one walk, in the text's order -/
theorem region_in_quiet {id l n : Nat} {a : Act} {w : World} {L : List Oper} (hm : P.follows .mixedOrders = true) (hB : Region.lexB .any L.toArray = true) (hd : L.toArray.toList.all Round.notDefer = true)
    (h : wpQuiet P L.toArray (fun w' => ∃ n, w' = w.drewN n) (fun a' => ∀ w', (∃ n, w' = w.drewN n) → Q .normal a' w') L a) : (Code.region id L.toArray true).wpIn (Fence.wide.inRound l) n P Q a w := by
  refine wpIn_mono (Round.region_in (Q := fun e a w => e = .normal ∧ Q .normal a w) hm hd (by rintro ⟨a, w, h, _⟩; cases h) ?_) (by rintro e a w ⟨rfl, h⟩; exact h)
  simp only [Region.lexB, Bool.and_eq_true] at hB
  refine wpAny_of_quiet (C := fun w' => ∃ n, w' = w.drewN n) (Q := fun a' => ∀ w', (∃ n, w' = w.drewN n) → Q .normal a' w') (fun _ w' hw' h => ⟨rfl, h w' hw'⟩) _ _ _ _ ⟨1, rfl⟩ ?_
  have := wpAnyQ_lex (C := fun w' => ∃ n, w' = w.drewN n) (md := .any) hB.1 L 0 (Array.replicate L.toArray.size false) a (by simp) (by simpa using hB.2) h
  simpa using this
end
macro "gi_round_quiet" : tactic => `(tactic|
  (refine region_in_quiet (by kernel_rfl) (by kernel_rfl) (by kernel_rfl) ?_
   repeat (go_big_quiet_step (fail))
   refine wpQuiet_nil ?_
   intro _ hw'
   obtain ⟨$(Lean.mkIdent `nq):ident, hw''⟩ := hw'
   subst hw''))
theorem pre_snoc {α : Type} {L pre : List α} {m : Nat} (h : pre <+: L) (hm : pre.length = m) (hlt : m < L.length) (x : α) : pre ++ [x] <+: L ↔ x = L[m]'hlt := by
  obtain ⟨t, rfl⟩ := h
  subst hm
  cases t with
  | nil => simp at hlt
  | cons z t' => simp [List.prefix_append_right_inj]
theorem rangeBoxed2 {P : Program} {n : Nat} {α : Type} {g : Operand} {ps : Array Tmp} {assign body : Code} {Q : Exit → Act → World → Prop} {a : Act} {w : World}
    (h1 : 1 ≤ n) {gf : Nat} {lb : Array Value} (hg : a.eval g = .func (.func gf) #[] lb) (eg : ∀ args w, (callFunc gf args).run P w = .ok (.enter gf args) w)
    {encs : α → Array Value} {n₀ : Nat} {S Sp : List α → Prop} {N : Nat} {w0 : World} (hseq : SeqStopsK Fence.wide (n - 1) P gf lb encs (Below n₀) S Sp N w0)
    (hn₀ : n₀ ≤ w.heap.size) (hb0 : Below w0.heap.size w0 w) (hps : ∀ x, (encs x).size = ps.size)
    (I : List α → World → Prop) (Ix : Code → List α → World → Prop) (hI : OwnFrom w.heap.size I) (hIx : ∀ c, OwnFrom w.heap.size (Ix c)) (h0 : I [] w)
    (obj : α → Obj) (q1 q2 : Nat) (v1 : α → Value)
    (hassign : ∀ (l : Nat) (x : α) (W : World) (K : Act → World → Prop), K { tmps := (((ps.zip (encs x)).foldl (fun t (p, v) => t.setIfInBounds p v) a.tmps).setIfInBounds q1 (v1 x)).setIfInBounds q2 (.pointer (some ⟨W.heap.size, 0, none⟩)), defers := [] } (W.alloc (obj x)) →
      assign.wpIn (Fence.wide.inRound l) (n - 1 - 1) P (Exit.then K (fun _ _ _ => False)) { tmps := (ps.zip (encs x)).foldl (fun t (p, v) => t.setIfInBounds p v) a.tmps, defers := [] } W)
    (hbody : ∀ (l : Nat) (pre : List α) (x : α) (W : World) (b : Nat), I pre W → pre.length < N → w.heap.size ≤ b → W.heap[b]? = some (obj x) →
      body.wpIn (Fence.wide.inRound l) (n - 1 - 1) P (ownPostG w.heap.size (Below n₀) I Ix (pre ++ [x]) W) { tmps := (((ps.zip (encs x)).foldl (fun t (p, v) => t.setIfInBounds p v) a.tmps).setIfInBounds q1 (v1 x)).setIfInBounds q2 (.pointer (some ⟨b, 0, none⟩)), defers := [] } W)
    (hdone : ∀ (D : Nat) (xs : List α) (W : World), w.heap.size ≤ D → S xs → I xs W → W.heap[D]? = some (.deferred (some [])) → Q .normal { a with defers := { target := .collected D, args := #[] } :: a.defers } W)
    (hstop : ∀ (D : Nat) (c : Code) (pre : List α) (W : World), w.heap.size ≤ D → Sp pre → Ix c pre W → W.heap[D]? = some (.deferred (some [])) → c.wpIn Fence.wide n P Q { a with defers := { target := .collected D, args := #[] } :: a.defers } W) :
    (Code.rangeFunc g ps assign body).wpIn Fence.wide n P Q a w :=
  Round.rangeBoxed h1 hg eg hseq hn₀ hb0 hps I Ix hI hIx h0 obj (fun x b => { tmps := (((ps.zip (encs x)).foldl (fun t (p, v) => t.setIfInBounds p v) a.tmps).setIfInBounds q1 (v1 x)).setIfInBounds q2 (.pointer (some ⟨b, 0, none⟩)), defers := [] }) hassign hbody hdone hstop
theorem res_each (w : World) (tmps : Array Value) (g : Nat) (v : Value) (hp : tmps.getD 6 undef = .pointer (some ⟨g, 0, none⟩)) (hc : w.cell? ⟨g, 0, none⟩ = some v) :
    (results Try.f5 tmps).run Try.prog w = .ok v w := by
  have hp' : tmps[6]?.getD undef = .pointer (some ⟨g, 0, none⟩) := by simpa using hp
  simp [results, Try.results5, hp', asAddr, go_sem, hc]
theorem seq2_nil (W : World) (u v : Value) : (binOp .eql 39 (.func (.func 55) #[] #[u, v]) .nilFunc).run Try.prog W = .ok (.bool false) W := by kernel_rfl

set_option maxRecDepth 100000 in
set_option maxHeartbeats 16000000 in
theorem eachLaw_walk (u : Value) (l : List LineV) (c : Nat) (leave : Int) (w : World) (hu : Lns w u l) (hform : SliceForm u) (hf : ∀ x ∈ l, x.fine) (hc : c < 18446744073709551616) (hlen : l.length * 40 ≤ 140737488351232) :
    Calls Try.prog 5 #[u, .int .u64 c, .int .i64 leave] w fun e w' => e = .returned (.bool true) ∧ Below w.heap.size w w' := by
  have Hu := Lib.hid hu
  have Hform := Lib.hid hform
  have Hf := Lib.hid hf
  have Hc := Lib.hid hc
  have Hlen : Hid (l.length * 40 ≤ 140737488355328) := by show _ ≤ _; omega
  clear hu hform hf hc hlen
  refine (callsIn_wide (n := 6)).1 ?_
  refine callsIn_of_wp_marks Try.func5 rfl trivial ?_ rfl
  simp only [Try.ntmps5, List.size_toArray, List.length_cons, List.length_nil, Nat.reduceAdd, Nat.reduceSub, Array.replicate_succ, Array.replicate_zero, List.push_toArray, List.append_toArray, List.nil_append, List.cons_append]
  refine wpIn_wide.2 ?_
  obtain ⟨s0, b0, rl0, rr0⟩ := two_cells w (.int .i64 leave) (.bool false) 3 4
  obtain ⟨w0, hw0⟩ : ∃ w0, ((w.alloc (.cells #[.int .i64 leave] 3)).alloc (.cells #[.bool false] 4)) = w0 := ⟨_, rfl⟩
  have Hw0 := Lib.hid hw0
  rw [hw0] at s0 b0 rl0 rr0
  have S0 := Lib.hid s0
  have B0 := Lib.hid b0
  have RL := Lib.hid rl0
  have RR := Lib.hid rr0
  have hal : Below w0.heap.size w0 (w0.alloc (.cells #[] 26)) := (Below.refl _ _).alloc (Nat.le_refl _) _
  have HAL := Lib.hid hal
  have HN := Lib.hid (heap_alloc_new w0 (.cells #[] 26))
  clear s0 b0 rl0 rr0 hw0 hal
  go_upto_region 2 with (fail)
  rw [Hw0.out]
  go_wp2_with (at_builtin; refine wpList_append_lines rfl _ _ rfl w0.heap.size _ 0 [] rfl (own_empty4 HN.out (Nat.le_refl _)) _ l rfl (Hu.out.kept (below_join B0.out HAL.out)) Hform.out (by have := Hlen.out; omega) (by simp) ?_)
  intro v1 w1 hown1 hg1
  have hb1 := HAL.out.grown hg1 (by simp) (fun q hq => by cases hq; exact Nat.le_refl _)
  have B1 := Lib.hid (below_join B0.out hb1)
  have RL1 := Lib.hid (row_kept hb1 RL.out)
  have RR1 := Lib.hid (row_kept hb1 RR.out)
  have S1 : Hid (w.heap.size + 2 ≤ w1.heap.size) := by show _ ≤ _; have := hb1.size; have := S0.out; omega
  try rw [Nat.zero_add, List.nil_append] at hown1
  obtain ⟨vo, vc, rfl, hvo⟩ := own_slice hown1
  have Hvo := Lib.hid hvo
  have HO1 := Lib.hid hown1
  have L1 := Lib.hid (Lies.of hown1)
  have HI := Lib.hid (Lns.of_own hown1)
  have HIF := Lib.hid (SliceForm.of_own hown1)
  clear hown1 hg1 hb1 hvo
  go_wp2_with fail
  refine (each_any _ l c _ HI.out HIF.out Hlen.out).mono ?_
  rintro e w2 ⟨g, h, cv, rfl, hb2, hcl, hcl2, hgl, hhl, q1, q2, q3⟩
  have hsn := fun W => seq2_nil W (.pointer (some ⟨g, 0, none⟩)) (.pointer (some ⟨g + 1, 0, none⟩))
  have B2 := Lib.hid (below_join B1.out hb2)
  have RL2 := Lib.hid (row_kept hb2 RL1.out)
  have RR2 := Lib.hid (row_kept hb2 RR1.out)
  have HO2 := Lib.hid (own_kept HO1.out hb2)
  have S2 := Lib.hid hb2.size
  have Q1 := Lib.hid q1
  have Q2 := Lib.hid q2
  have Q3 := Lib.hid q3
  have HCL := Lib.hid hcl
  have HCL2 := Lib.hid hcl2
  have HG := Lib.hid hgl
  have HH := Lib.hid hhl
  clear hb2 q1 q2 q3 hcl hcl2 hgl hhl
  go_wp2_with fail
  clear hsn
  obtain ⟨N, hN⟩ : ∃ N, l.length = N := ⟨_, rfl⟩
  have HNl := Lib.hid hN
  rw [hN] at HO2 HI Hvo L1 ⊢
  -- the list that was handed in is written to: only its own block turns
  have hPit : Pit (fun k => (Value.slice vo N vc).ownBlock = some k) w2 w2 [⟨26, 4, .slice vo N vc, N⟩] := by
    refine Pit.start ?_ ?_ (by simp)
    · intro r hr
      rw [List.mem_singleton] at hr
      subst hr
      exact ⟨_, own_base HO2.out (Nat.zero_le _)⟩
    · intro r hr k hk
      rw [List.mem_singleton] at hr
      subst hr
      exact hk
  obtain ⟨S, hS⟩ : ∃ S : Nat → Prop, S = fun k => (Value.slice vo N vc).ownBlock = some k := ⟨_, rfl⟩
  rw [← hS] at hPit
  have HS1 : Hid (∀ k, S k → w.heap.size + 2 ≤ k ∧ k < w1.heap.size) := by
    rw [hS]
    intro k hk
    have h1 := L1.out k hk
    have h2 := S0.out
    omega
  have HPit := Lib.hid hPit
  clear hPit hS hN
  go_loopw [10] (fun t wr => ∃ k : Nat, k ≤ N ∧ t = .int .i64 (k : Int) ∧ Pit S w2 wr [⟨26, 4, .slice vo N vc, N⟩]) (fun t _ => N - (intOf t).toNat)
  case atStart => exact ⟨0, Nat.zero_le _, rfl, HPit.out⟩
  case round =>
    obtain ⟨k, hk, rfl, hp⟩ := hrel
    have HP := Lib.hid hp
    have hlb := Hlen.out
    rw [HNl.out] at hlb
    clear hp
    by_cases hlt : k < N
    · obtain ⟨ga, rfl⟩ := Hvo.out (by omega)
      obtain ⟨_, xa⟩ := HP.out.own _ (List.Mem.head _)
      have f0 := own_frozen xa (k * 4)
      have f1 := own_frozen xa (k * 4 + 1)
      have f2 := own_frozen xa (k * 4 + 2)
      have f3 := own_frozen xa (k * 4 + 3)
      obtain ⟨y0, e0⟩ := own_some xa (k * 4) (by show k * 4 < N * 4; omega)
      obtain ⟨y1, e1⟩ := own_some xa (k * 4 + 1) (by show k * 4 + 1 < N * 4; omega)
      obtain ⟨y2, e2⟩ := own_some xa (k * 4 + 2) (by show k * 4 + 2 < N * 4; omega)
      obtain ⟨y3, e3⟩ := own_some xa (k * 4 + 3) (by show k * 4 + 3 < N * 4; omega)
      have HQ := Lib.hid ((((HP.out.set 0 rfl rfl (k * 4) (.int .u64 0)).set 0 rfl rfl (k * 4 + 1) (.int .i64 0)).set 0 rfl rfl (k * 4 + 2) (.int .i64 0)).set 0 rfl rfl (k * 4 + 3) (.string ⟨#[97, 110, 111, 116, 104, 101, 114]⟩))
      have hi0 : (0 : Int) ≤ (k : Int) := by omega
      have hi1 : (k : Int) < (N : Int) := by omega
      have hNb : N < 9223372036854775807 := by omega
      clear xa
      go_wp2_with fail
      have hq := HQ.out
      go_roundw
      case rel => exact ⟨k + 1, by omega, by go_num, hq⟩
      case measure => simp [intOf]; omega
    · obtain rfl : k = N := by omega
      have K := Lib.hid HP.out.kept
      have hfree : ∀ k, w1.heap.size ≤ k ∨ k < w.heap.size + 2 → ¬ S k := fun k hk hs => by have := HS1.out k hs; omega
      have P1 := Lib.hid ((K.out.block g (lt_of_block Q1.out) (hfree g (.inl HG.out))).trans Q1.out)
      have P2 := Lib.hid ((K.out.block (g + 1) (lt_of_block Q2.out) (hfree _ (.inl (Nat.le_succ_of_le HG.out)))).trans Q2.out)
      have P3 := Lib.hid ((K.out.block h (lt_of_block Q3.out) (hfree _ (.inl HH.out))).trans Q3.out)
      have PL := Lib.hid ((K.out.block w.heap.size (lt_of_block RL2.out) (hfree _ (.inr (by omega)))).trans RL2.out)
      have PR := Lib.hid ((K.out.block (w.heap.size + 1) (lt_of_block RR2.out) (hfree _ (.inr (by omega)))).trans RR2.out)
      have PC := Lib.hid (HCL.out.keptBut K.out (fun b hb _ => hfree b (.inl (HCL2.out b hb).1)))
      have hbw : Below w.heap.size w2 wr := K.out.below (fun k hs => by have := HS1.out k hs; omega) B2.out.size
      have B3 := Lib.hid (B2.out.trans hbw)
      have S3 : Hid (w.heap.size + 2 ≤ wr.heap.size) := by show _ ≤ _; have h1 := S1.out; have h2 := S2.out; have h3 := K.out.size; omega
      clear hfree hbw Q1 Q2 Q3 RL RL1 RL2 RR RR1 RR2 HO1 HO2 HI HIF HCL HCL2 HG HH HP HPit K B0 B1 B2 S0 S1 S2 L1 HAL HN HS1 Hw0
      go_wp2_with fail
      have b6 := (Below.refl wr.heap.size wr).alloc (Nat.le_refl _) (.cells #[.int .i64 0] 3)
      have rn6 := heap_alloc_new wr (.cells #[.int .i64 0] 3)
      have s6 : (wr.alloc (.cells #[.int .i64 0] 3)).heap.size = wr.heap.size + 1 := World.size_alloc _ _
      obtain ⟨w6, hw6⟩ : ∃ w6, (wr.alloc (.cells #[.int .i64 0] 3)) = w6 := ⟨_, rfl⟩
      rw [hw6] at b6 rn6 s6 ⊢
      clear hw6
      have S6 := Lib.hid s6
      have Hpk := Lib.hid (pickL_len (LineV.seen c) 0 l)
      refine (wpIn_wide (n := 6)).1 ?_
      refine' wpIn_rangeFunc_ownF rfl (by decide) (gf := 55) (lb := #[.pointer (some ⟨g, 0, none⟩), .pointer (some ⟨g + 1, 0, none⟩)]) rfl trivial whereE
        (whereSeen_stops 5 (by decide) g h c Hc.out cv l wr PC.out Hf.out P1.out P2.out P3.out) belowK_t (belowK_b (by omega)) b6 (fun _ => rfl)
        (fun pre V => V.heap[wr.heap.size]? = some (.cells #[.int .i64 (pre.length : Int)] 3 (0, 0)) ∧ Below wr.heap.size wr V)
        (fun cc _ V => cc = .exit 2 ∧ (∃ q : Int, V.heap[wr.heap.size]? = some (.cells #[.int .i64 q] 3 (0, 0))) ∧ Below wr.heap.size wr V) ?hI ?hIx ?h0 _ ?assign ?body ?done ?stop
      case assign =>
        intro l x V K hK
        simp only [encP]
        gi_wp2
        exact hK
      case hI =>
        rintro s V V' row ⟨h2, h4⟩ hgr hr
        refine ⟨?_, h4.grown hgr h4.size (fun k e => by have := (hr k e).1; omega)⟩
        rw [hgr.block _ (lt_of_block h2) (fun e => by
          obtain ⟨_, o, ho, hc⟩ := hr _ e.symm
          rw [h2] at ho
          cases ho
          cases hc)]
        exact h2
      case hIx =>
        rintro cc s V V' row ⟨h1, ⟨q, h2⟩, h4⟩ hgr hr
        refine ⟨h1, ⟨q, ?_⟩, h4.grown hgr h4.size (fun k e => by have := (hr k e).1; omega)⟩
        rw [hgr.block _ (lt_of_block h2) (fun e => by
          obtain ⟨_, o, ho, hc⟩ := hr _ e.symm
          rw [h2] at ho
          cases ho
          cases hc)]
        exact h2
      case h0 => exact ⟨rn6, b6⟩
      case body =>
        rintro lp pre x V ⟨hm, hB⟩ hlt
        have hpl : pre.length ≤ 4000000000000 := by have := Hpk.out; have := Hlen.out; omega
        have cl := cell_of_one (row_kept hB PL.out)
        have cm := cell_of_one hm
        have fm := free_of_one hm
        have hne : w.heap.size ≠ wr.heap.size := by have := S3.out; omega
        have HB := Lib.hid hB
        have Hm := Lib.hid hm
        obtain ⟨m, hml⟩ : ∃ m, pre.length = m := ⟨_, rfl⟩
        rw [hml] at cm hpl
        have Hml := Lib.hid hml
        clear hm hB hml hlt
        gi_wp2_with fail
        · exact ⟨KeepsOthers.setCell _ _ _, rfl, ⟨_, one_setCell Hm.out⟩, HB.out.setCell (p := ⟨wr.heap.size, 0, none⟩) (Nat.le_refl _) _⟩
        · exact ⟨KeepsOthers.setCell _ _ _, (Below.refl _ _).setCell (p := ⟨wr.heap.size, 0, none⟩) (Nat.le_refl _) _, by rw [one_setCell Hm.out, List.length_append, Hml.out]; rfl, HB.out.setCell (p := ⟨wr.heap.size, 0, none⟩) (Nat.le_refl _) _⟩
      case done =>
        rintro D ys V hD _ ⟨hm, hB⟩ hK
        have HD := Lib.hid hD
        have HKD := Lib.hid hK
        have HQn := Lib.hid hm
        have HBV := Lib.hid hB
        clear hD hK hm hB
        have hBV := B3.out.trans (HBV.out.mono (show w.heap.size ≤ wr.heap.size by have := S3.out; omega))
        have B4 := Lib.hid hBV
        clear hBV
        go_wp2_with fail
        refine (ref06Of_any u l c V (Hu.out.kept B4.out) Hf.out Hc.out Hlen.out).mono ?_
        rintro e w7 ⟨want, rfl, hwant, hb7⟩
        rw [pickL_lines, pickL_count] at hwant
        have HQ7 := Lib.hid (row_kept hb7 HQn.out)
        have HKD7 := Lib.hid (row_kept hb7 HKD.out)
        have HB7 := Lib.hid (HBV.out.trans (hb7.mono HBV.out.size))
        have HW7 := Lib.hid hwant
        have B7 := Lib.hid (below_join B4.out hb7)
        clear hb7 hwant
        go_wp2_with fail
        refine (ref06Places_any u l c _ (Hu.out.kept B7.out) Hf.out Hc.out Hlen.out).mono ?_
        rintro e w8 ⟨at8, rfl, hat8, hb8⟩
        have HQ8 := Lib.hid (row_kept hb8 HQ7.out)
        have HKD8 := Lib.hid (row_kept hb8 HKD7.out)
        have HB8 := Lib.hid (HB7.out.trans (hb8.mono HB7.out.size))
        have HW8 := Lib.hid (own_kept HW7.out hb8)
        have HA8 := Lib.hid hat8
        have B8 := Lib.hid (below_join B7.out hb8)
        obtain ⟨wo, wc, rfl, hwo⟩ := own_slice HW8.out
        obtain ⟨ao, ac, rfl, hao⟩ := own_slice HA8.out
        have Hwo := Lib.hid hwo
        have Hao := Lib.hid hao
        clear hb8 hat8 hwo hao
        go_upto_region 15 with (fail)
        have HPl := Lib.hid (pickL_len (LineV.seen c) 0 l)
        have W8V := Lib.hid HB8.out.size
        have WOlt := Lib.hid (fun k (hk : (Value.slice wo (List.filter (LineV.seen c) l).length wc).ownBlock = some k) => HW8.out.lt k hk)
        have AOlt := Lib.hid (fun k (hk : (Value.slice ao (pickL (LineV.seen c) 0 l).length ac).ownBlock = some k) => HA8.out.lt k hk)
        have HWL := Lib.hid (Lns.of_own HW8.out)
        have HAN := Lib.hid (Nums.of_own HA8.out)
        obtain ⟨s9, b9, rw9, ra9⟩ := two_cells w8 (.slice wo (List.filter (LineV.seen c) l).length wc) (.slice ao (pickL (LineV.seen c) 0 l).length ac) 22 28
        obtain ⟨w9, hw9⟩ : ∃ w9, ((w8.alloc (.cells #[.slice wo (List.filter (LineV.seen c) l).length wc] 22)).alloc (.cells #[.slice ao (pickL (LineV.seen c) 0 l).length ac] 28)) = w9 := ⟨_, rfl⟩
        rw [hw9] at s9 b9 rw9 ra9 ⊢
        clear hw9
        have HQ9 := Lib.hid (row_kept b9 HQ8.out)
        have cq := cell_of_one HQ9.out
        have fq := free_of_one HQ9.out
        have HB9 := Lib.hid (HB8.out.trans (b9.mono HB8.out.size))
        have HKD9 := Lib.hid (row_kept b9 HKD8.out)
        have HWL9 := Lib.hid (HWL.out.kept b9)
        have HAN9 := Lib.hid (HAN.out.kept b9)
        have RW9 := Lib.hid rw9
        have RA9 := Lib.hid ra9
        have S9 := Lib.hid s9
        clear rw9 ra9 s9 b9
        have HD6 := Lib.hid (Nat.le_trans (Nat.le_of_eq S6.out.symm) HD.out)
        have VQ := Lib.hid (lt_of_block HQn.out)
        have VQ7 := Lib.hid (lt_of_block HQ7.out)
        have VW8 := Lib.hid (show wr.heap.size < w8.heap.size from lt_of_block HQ8.out)
        clear HQ7 HQ8 HKD HKD7 HKD8 HBV HB7 HB8 HW7 HW8 HA8 HWL HAN HQn
        go_wp2_with fail
        have K10 := Lib.hid ((KeptBut.refl (fun k => k = wr.heap.size) w9).grown (grown_setCell w9 wr.heap.size 0 (.int .i64 0)) (fun k e => by cases e; exact .inl rfl))
        have HB10 := Lib.hid (HB9.out.setCell (p := ⟨wr.heap.size, 0, none⟩) (Nat.le_refl _) (.int .i64 0))
        have HQ10 := Lib.hid (show (w9.setCell ⟨wr.heap.size, 0, none⟩ (.int .i64 0)).heap[wr.heap.size]? = some (.cells #[.int .i64 0] 3 (0, 0)) from one_setCell HQ9.out)
        obtain ⟨w10, hw10⟩ : ∃ w10, w9.setCell ⟨wr.heap.size, 0, none⟩ (.int .i64 0) = w10 := ⟨_, rfl⟩
        rw [hw10] at K10 HB10 HQ10 ⊢
        clear hw10 cq fq
        refine (wpIn_wide (n := 6)).1 ?_
        refine' rangeBoxed2 (by decide) (gf := 55) (lb := #[.pointer (some ⟨g, 0, none⟩), .pointer (some ⟨g + 1, 0, none⟩)]) rfl (enters_of Try.func55 (by kernel_rfl) rfl)
          (whereSeen_stops 5 (by decide) g h c Hc.out cv l wr PC.out Hf.out P1.out P2.out P3.out) HB10.out.size HB10.out (fun _ => rfl)
          (fun pre W => pre <+: pickL (LineV.seen c) 0 l ∧ W.heap[wr.heap.size]? = some (.cells #[.int .i64 (pre.length : Int)] 3 (0, 0)) ∧ KeptBut (fun k => k = wr.heap.size) w9 W)
          (fun _ pre _ => ¬ pre <+: pickL (LineV.seen c) 0 l) ?hIA ?hIxA ?h0A
          (fun x => .cells #[.int .u64 x.2.lab, .int .i64 x.2.num, .int .i64 x.2.rev, .string x.2.text] 26) 14 15 (fun x => .int .i64 (x.1 : Int)) ?assignA ?bodyA ?doneA ?stopA
        case assignA =>
          intro lp x W K hK
          obtain ⟨xp, x1, x2, x3, x4⟩ := x
          simp only [encP, LineV.agg]
          gi_wp2
          simpa [encP, LineV.agg] using hK
        case hIA =>
          rintro s W W' row ⟨h0, h2, h4⟩ hgr hr
          refine ⟨h0, ?_, h4.grown hgr (fun k e => by have h1 := (hr k e).1; have h2 := K10.out.size; right; omega)⟩
          rw [hgr.block _ (lt_of_block h2) (fun e => by
            obtain ⟨_, o, ho, hc⟩ := hr _ e.symm
            rw [h2] at ho
            cases ho
            cases hc)]
          exact h2
        case hIxA => exact fun c s V V' row h _ _ => h
        case h0A => exact ⟨List.nil_prefix, HQ10.out, K10.out⟩
        case stopA =>
          rintro D2 cc pre W _ hSp h _
          exact absurd hSp h
        case doneA =>
          rintro D2 ys W hD2 rfl ⟨hpre, hm, hK⟩ hK2
          have cq := cell_of_one hm
          have cw := hK.cell (cell_of_one RW9.out) (show ¬ w8.heap.size = wr.heap.size from by have h1 := VQ7.out; have h2 := VW8.out; omega)
          have pr9 := row_kept HB9.out PR.out
          have prW := (hK.block (w.heap.size + 1) (lt_of_block pr9) (show ¬ w.heap.size + 1 = wr.heap.size from by have := S3.out; omega)).trans pr9
          have cr := cell_of_one prW
          have fr := free_of_one prW
          have KD9 := HKD9.out
          have hDne : ¬ D = wr.heap.size := by have := HD6.out; omega
          have kdW := (hK.block D (lt_of_block KD9) hDne).trans KD9
          have BW := Lib.hid (B3.out.trans ((HB9.out.trans (hK.below (fun k hs => by rw [hs]; exact Nat.le_refl _) HB9.out.size)).mono (show w.heap.size ≤ wr.heap.size by have := S3.out; omega)))
          have KD := Lib.hid kdW
          have KD2 := Lib.hid hK2
          have DD := Lib.hid (show D < D2 from Nat.lt_of_lt_of_le (lt_of_block KD9) (Nat.le_trans K10.out.size hD2))
          have DR := Lib.hid (show w.heap.size + 1 < D from by have h1 := S3.out; have h2 := HD6.out; omega)
          have hcnt := pickL_count (LineV.seen c) 0 l
          rw [hcnt] at cq
          clear hpre hm hK hK2 pr9 prW KD9 kdW hcnt
          go_wp2_with fail
          have n1 : w.heap.size + 1 ≠ D2 := by have h1 := DD.out; have h2 := DR.out; omega
          have n2 : w.heap.size + 1 ≠ D := by have h2 := DR.out; omega
          have n3 : D ≠ D2 := by have h1 := DD.out; omega
          have q1 : (W.setCell ⟨w.heap.size + 1, 0, none⟩ (.bool true)).heap[D2]? = some (.deferred (some [])) := by
            rw [heap_setCell_other _ _ _ _ (Ne.symm n1)]; exact KD2.out
          have q2 : ((W.setCell ⟨w.heap.size + 1, 0, none⟩ (.bool true)).putObj D2 (.deferred none)).heap[D]? = some (.deferred (some [])) := by
            rw [World.putObj_heap_other n3, heap_setCell_other _ _ _ _ (Ne.symm n2)]; exact KD.out
          refine ⟨by simp, .inl ⟨_, _, rfl, run_takeDeferred q1, ?_⟩⟩
          refine ⟨by simp, .inl ⟨_, _, rfl, run_takeDeferred q2, ?_⟩⟩
          refine ⟨_, res_each _ _ (w.heap.size + 1) (.bool true) rfl ?_, rfl, ?_⟩
          · have h1 := World.cell?_setCell_same' W ⟨w.heap.size + 1, 0, none⟩ (.bool true) (by rw [cr]; rfl)
            unfold World.cell? at h1 ⊢
            rw [World.putObj_heap_other n2, World.putObj_heap_other n1]
            exact h1
          · exact ((BW.out.setCell (p := ⟨w.heap.size + 1, 0, none⟩) (Nat.le_succ _) _).trans (belowK_b (w := w) (Nat.le_refl _) _ D2 _ _ (by have h1 := DD.out; have h2 := DR.out; omega) q1 rfl rfl)).trans (belowK_b (w := w) (Nat.le_refl _) _ D _ _ (by have h2 := DR.out; omega) q2 rfl rfl)
        case bodyA =>
          rintro lp pre x W b ⟨hpre, hm, hK⟩ hlt hb hx
          obtain ⟨m, hml⟩ : ∃ m, pre.length = m := ⟨_, rfl⟩
          have cm := cell_of_one hm
          have fm := free_of_one hm
          rw [hml] at cm hlt
          have cw := hK.cell (cell_of_one RW9.out) (show ¬ w8.heap.size = wr.heap.size from by have h1 := VQ7.out; have h2 := VW8.out; omega)
          have ca := hK.cell (cell_of_one RA9.out) (show ¬ w8.heap.size + 1 = wr.heap.size from by have h1 := VQ7.out; have h2 := VW8.out; omega)
          have pr9 := row_kept HB9.out PR.out
          have prW := (hK.block (w.heap.size + 1) (lt_of_block pr9) (show ¬ w.heap.size + 1 = wr.heap.size from by have := S3.out; omega)).trans pr9
          have cr := cell_of_one prW
          have fr := free_of_one prW
          have hWL := HWL9.out.keptBut hK (fun k hk _ e => by have h1 := (WOlt.out k hk).1; have h2 := VQ.out; omega)
          have hAN : Nums .i64 W _ _ := Vec.keptBut HAN9.out hK (fun k hk _ e => by have h1 := (AOlt.out k hk).1; have h2 := VQ7.out; omega)
          obtain ⟨wo', wc', wb, wof, hwe, hwo2, _, hwc⟩ := hWL.form
          obtain ⟨ao', ac', ab, aof, hae, hao2, _, hac⟩ := Vec.form hAN
          injection hwe with hwe1 hwe2 hwe3
          injection hae with hae1 hae2 hae3
          have hfl : m < (List.filter (LineV.seen c) l).length := by rw [← pickL_count (LineV.seen c) 0 l]; exact hlt
          have hal : m < (((pickL (LineV.seen c) 0 l).map fun q => (q.1 : Int)).map (Value.int .i64)).length := by simpa using hlt
          have ca0 := hac m hal
          obtain ⟨cw0, cw1, cw2, cw3⟩ := hwc m hfl
          have ey : (List.filter (LineV.seen c) l)[m]'hfl = ((pickL (LineV.seen c) 0 l)[m]'hlt).2 := by
            have h := pickL_lines (LineV.seen c) 0 l
            simp [← h]
          rw [hwe1, hwo2 (by omega)] at cw
          rw [hae1, hao2 (by omega)] at ca
          have Hne := Lib.hid (fun h => mt (pre_snoc hpre hml hlt x).1 h)
          have Heq := Lib.hid (fun h => (pre_snoc hpre hml hlt x).2 h)
          simp only [List.getElem_map] at ca0
          obtain ⟨y, hy⟩ : ∃ y, (pickL (LineV.seen c) 0 l)[m]'hlt = y := ⟨_, rfl⟩
          rw [ey, hy] at cw0 cw1 cw2 cw3
          rw [hy] at ca0 Hne Heq
          obtain ⟨xp, x1, x2, x3, x4⟩ := x
          obtain ⟨yp, y1, y2, y3, y4⟩ := y
          apply by_act
          · simp [encP, LineV.agg]
            rfl
          have cx0 : W.cell? ⟨b, 0, none⟩ = some (.int .u64 x1) := by simp [World.cell?, hx]
          have cx1 : W.cell? ⟨b, 1, none⟩ = some (.int .i64 x2) := by simp [World.cell?, hx]
          have cx2 : W.cell? ⟨b, 2, none⟩ = some (.int .i64 x3) := by simp [World.cell?, hx]
          have cx3 : W.cell? ⟨b, 3, none⟩ = some (.string x4) := by simp [World.cell?, hx]
          have hi0 : (0 : Int) ≤ (m : Int) := by omega
          have hi1 : (m : Int) < ((List.filter (LineV.seen c) l).length : Int) := by omega
          have hi2 : (m : Int) < ((pickL (LineV.seen c) 0 l).length : Int) := by omega
          have hi3 : ¬ ((List.filter (LineV.seen c) l).length : Int) ≤ (m : Int) := by omega
          have hpl : m ≤ 4000000000000 := by have := HPl.out; have := Hlen.out; omega
          have Hm := Lib.hid hm
          have HK := Lib.hid hK
          have Hml := Lib.hid hml
          have hfl2 : ¬ (List.filter (LineV.seen c) l).length ≤ m := by omega
          have hne : ¬ w.heap.size + 1 = wr.heap.size := by have := S3.out; omega
          clear hpre hm hK hml hx hWL hAN hwc hac hy ey pr9 prW hwe1 hwe2 hwe3 hae1 hae2 hae3 hwo2 hao2 hal
          by_cases e0 : xp = yp
          rotate_left
          · have Hno := Lib.hid (Hne.out (fun e => e0 (by cases e; rfl)))
            have e0b : ((xp : Int) != (yp : Int)) = true := by rw [bne_iff_ne]; omega
            gi_wp2_with fail
            gi_round_quiet
            gi_wp2_with fail
            exact ⟨⟨(KeepsOthers.setCell (W.drewN nq) _ _).size, fun k o _ hk ho => (KeepsOthers.setCell (W.drewN nq) _ _).same k o hk ho⟩, Hno.out⟩
          by_cases e1 : x1 = y1
          rotate_left
          · have Hno := Lib.hid (Hne.out (fun e => e1 (by cases e; rfl)))
            gi_wp2_with fail
            gi_round_quiet
            gi_wp2_with fail
            exact ⟨⟨(KeepsOthers.setCell (W.drewN nq) _ _).size, fun k o _ hk ho => (KeepsOthers.setCell (W.drewN nq) _ _).same k o hk ho⟩, Hno.out⟩
          by_cases e2 : x2 = y2
          rotate_left
          · have Hno := Lib.hid (Hne.out (fun e => e2 (by cases e; rfl)))
            gi_wp2_with fail
            gi_round_quiet
            gi_wp2_with fail
            exact ⟨⟨(KeepsOthers.setCell (W.drewN nq) _ _).size, fun k o _ hk ho => (KeepsOthers.setCell (W.drewN nq) _ _).same k o hk ho⟩, Hno.out⟩
          by_cases e3 : x3 = y3
          rotate_left
          · have Hno := Lib.hid (Hne.out (fun e => e3 (by cases e; rfl)))
            gi_wp2_with fail
            gi_round_quiet
            gi_wp2_with fail
            exact ⟨⟨(KeepsOthers.setCell (W.drewN nq) _ _).size, fun k o _ hk ho => (KeepsOthers.setCell (W.drewN nq) _ _).same k o hk ho⟩, Hno.out⟩
          by_cases e4 : x4 = y4
          rotate_left
          · have e4' : ¬ x4.toList = y4.toList := fun e => e4 (bytes_iff.1 e)
            have Hno := Lib.hid (Hne.out (fun e => e4 (by cases e; rfl)))
            gi_wp2_with fail
            gi_round_quiet
            gi_wp2_with fail
            exact ⟨⟨(KeepsOthers.setCell (W.drewN nq) _ _).size, fun k o _ hk ho => (KeepsOthers.setCell (W.drewN nq) _ _).same k o hk ho⟩, Hno.out⟩
          subst e0 e1 e2 e3 e4
          gi_wp2_with fail
          gi_round_quiet
          gi_wp2_with fail
          have hbd := below_drewN (Below.refl W.heap.size W) nq
          have hr : ((W.drewN nq).setCell ⟨wr.heap.size, 0, none⟩ (.int .i64 ((m : Int) + 1))).heap[wr.heap.size]? = some (.cells #[.int .i64 ((m : Int) + 1)] 3 (0, 0)) := one_setCell Hm.out
          exact ⟨⟨(KeepsOthers.setCell (W.drewN nq) _ _).size, fun k o _ hk ho => (KeepsOthers.setCell (W.drewN nq) _ _).same k o hk ho⟩,
            (below_drewN (Below.refl wr.heap.size W) nq).setCell (p := ⟨wr.heap.size, 0, none⟩) (Nat.le_refl _) _,
            Heq.out (by first | rfl | trivial), by rw [List.length_append, Hml.out]; exact hr,
            (HK.out.grown (row := none) ⟨hbd.os, hbd.tape, hbd.output, hbd.size, fun k hk _ => hbd.block k hk⟩ (fun k e => by cases e)).grown (grown_setCell _ wr.heap.size 0 _) (fun k e => by cases e; exact .inl rfl)⟩
      case stop =>
        rintro D cc pre V hD _ ⟨rfl, ⟨q, hm⟩, hB⟩ hK
        gi_wp2_with fail
        have HD := Lib.hid hD
        have HKD := Lib.hid hK
        have HQn := Lib.hid hm
        have HBV := Lib.hid hB
        clear hD hK hm hB
        have hBV := B3.out.trans (HBV.out.mono (show w.heap.size ≤ wr.heap.size by have := S3.out; omega))
        have B4 := Lib.hid hBV
        clear hBV
        go_wp2_with fail
        refine (ref06Of_any u l c V (Hu.out.kept B4.out) Hf.out Hc.out Hlen.out).mono ?_
        rintro e w7 ⟨want, rfl, hwant, hb7⟩
        rw [pickL_lines, pickL_count] at hwant
        have HQ7 := Lib.hid (row_kept hb7 HQn.out)
        have HKD7 := Lib.hid (row_kept hb7 HKD.out)
        have HB7 := Lib.hid (HBV.out.trans (hb7.mono HBV.out.size))
        have HW7 := Lib.hid hwant
        have B7 := Lib.hid (below_join B4.out hb7)
        clear hb7 hwant
        go_wp2_with fail
        refine (ref06Places_any u l c _ (Hu.out.kept B7.out) Hf.out Hc.out Hlen.out).mono ?_
        rintro e w8 ⟨at8, rfl, hat8, hb8⟩
        have HQ8 := Lib.hid (row_kept hb8 HQ7.out)
        have HKD8 := Lib.hid (row_kept hb8 HKD7.out)
        have HB8 := Lib.hid (HB7.out.trans (hb8.mono HB7.out.size))
        have HW8 := Lib.hid (own_kept HW7.out hb8)
        have HA8 := Lib.hid hat8
        have B8 := Lib.hid (below_join B7.out hb8)
        obtain ⟨wo, wc, rfl, hwo⟩ := own_slice HW8.out
        obtain ⟨ao, ac, rfl, hao⟩ := own_slice HA8.out
        have Hwo := Lib.hid hwo
        have Hao := Lib.hid hao
        clear hb8 hat8 hwo hao
        go_upto_region 15 with (fail)
        have HPl := Lib.hid (pickL_len (LineV.seen c) 0 l)
        have W8V := Lib.hid HB8.out.size
        have WOlt := Lib.hid (fun k (hk : (Value.slice wo (List.filter (LineV.seen c) l).length wc).ownBlock = some k) => HW8.out.lt k hk)
        have AOlt := Lib.hid (fun k (hk : (Value.slice ao (pickL (LineV.seen c) 0 l).length ac).ownBlock = some k) => HA8.out.lt k hk)
        have HWL := Lib.hid (Lns.of_own HW8.out)
        have HAN := Lib.hid (Nums.of_own HA8.out)
        obtain ⟨s9, b9, rw9, ra9⟩ := two_cells w8 (.slice wo (List.filter (LineV.seen c) l).length wc) (.slice ao (pickL (LineV.seen c) 0 l).length ac) 22 28
        obtain ⟨w9, hw9⟩ : ∃ w9, ((w8.alloc (.cells #[.slice wo (List.filter (LineV.seen c) l).length wc] 22)).alloc (.cells #[.slice ao (pickL (LineV.seen c) 0 l).length ac] 28)) = w9 := ⟨_, rfl⟩
        rw [hw9] at s9 b9 rw9 ra9 ⊢
        clear hw9
        have HQ9 := Lib.hid (row_kept b9 HQ8.out)
        have cq := cell_of_one HQ9.out
        have fq := free_of_one HQ9.out
        have HB9 := Lib.hid (HB8.out.trans (b9.mono HB8.out.size))
        have HKD9 := Lib.hid (row_kept b9 HKD8.out)
        have HWL9 := Lib.hid (HWL.out.kept b9)
        have HAN9 := Lib.hid (HAN.out.kept b9)
        have RW9 := Lib.hid rw9
        have RA9 := Lib.hid ra9
        have S9 := Lib.hid s9
        clear rw9 ra9 s9 b9
        have HD6 := Lib.hid (Nat.le_trans (Nat.le_of_eq S6.out.symm) HD.out)
        have VQ := Lib.hid (lt_of_block HQn.out)
        have VQ7 := Lib.hid (lt_of_block HQ7.out)
        have VW8 := Lib.hid (show wr.heap.size < w8.heap.size from lt_of_block HQ8.out)
        clear HQ7 HQ8 HKD HKD7 HKD8 HBV HB7 HB8 HW7 HW8 HA8 HWL HAN HQn
        go_wp2_with fail
        have K10 := Lib.hid ((KeptBut.refl (fun k => k = wr.heap.size) w9).grown (grown_setCell w9 wr.heap.size 0 (.int .i64 0)) (fun k e => by cases e; exact .inl rfl))
        have HB10 := Lib.hid (HB9.out.setCell (p := ⟨wr.heap.size, 0, none⟩) (Nat.le_refl _) (.int .i64 0))
        have HQ10 := Lib.hid (show (w9.setCell ⟨wr.heap.size, 0, none⟩ (.int .i64 0)).heap[wr.heap.size]? = some (.cells #[.int .i64 0] 3 (0, 0)) from one_setCell HQ9.out)
        obtain ⟨w10, hw10⟩ : ∃ w10, w9.setCell ⟨wr.heap.size, 0, none⟩ (.int .i64 0) = w10 := ⟨_, rfl⟩
        rw [hw10] at K10 HB10 HQ10 ⊢
        clear hw10 cq fq
        refine (wpIn_wide (n := 6)).1 ?_
        refine' rangeBoxed2 (by decide) (gf := 55) (lb := #[.pointer (some ⟨g, 0, none⟩), .pointer (some ⟨g + 1, 0, none⟩)]) rfl (enters_of Try.func55 (by kernel_rfl) rfl)
          (whereSeen_stops 5 (by decide) g h c Hc.out cv l wr PC.out Hf.out P1.out P2.out P3.out) HB10.out.size HB10.out (fun _ => rfl)
          (fun pre W => pre <+: pickL (LineV.seen c) 0 l ∧ W.heap[wr.heap.size]? = some (.cells #[.int .i64 (pre.length : Int)] 3 (0, 0)) ∧ KeptBut (fun k => k = wr.heap.size) w9 W)
          (fun _ pre _ => ¬ pre <+: pickL (LineV.seen c) 0 l) ?hIA ?hIxA ?h0A
          (fun x => .cells #[.int .u64 x.2.lab, .int .i64 x.2.num, .int .i64 x.2.rev, .string x.2.text] 26) 14 15 (fun x => .int .i64 (x.1 : Int)) ?assignA ?bodyA ?doneA ?stopA
        case assignA =>
          intro lp x W K hK
          obtain ⟨xp, x1, x2, x3, x4⟩ := x
          simp only [encP, LineV.agg]
          gi_wp2
          simpa [encP, LineV.agg] using hK
        case hIA =>
          rintro s W W' row ⟨h0, h2, h4⟩ hgr hr
          refine ⟨h0, ?_, h4.grown hgr (fun k e => by have h1 := (hr k e).1; have h2 := K10.out.size; right; omega)⟩
          rw [hgr.block _ (lt_of_block h2) (fun e => by
            obtain ⟨_, o, ho, hc⟩ := hr _ e.symm
            rw [h2] at ho
            cases ho
            cases hc)]
          exact h2
        case hIxA => exact fun c s V V' row h _ _ => h
        case h0A => exact ⟨List.nil_prefix, HQ10.out, K10.out⟩
        case stopA =>
          rintro D2 cc pre W _ hSp h _
          exact absurd hSp h
        case doneA =>
          rintro D2 ys W hD2 rfl ⟨hpre, hm, hK⟩ hK2
          have cq := cell_of_one hm
          have cw := hK.cell (cell_of_one RW9.out) (show ¬ w8.heap.size = wr.heap.size from by have h1 := VQ7.out; have h2 := VW8.out; omega)
          have pr9 := row_kept HB9.out PR.out
          have prW := (hK.block (w.heap.size + 1) (lt_of_block pr9) (show ¬ w.heap.size + 1 = wr.heap.size from by have := S3.out; omega)).trans pr9
          have cr := cell_of_one prW
          have fr := free_of_one prW
          have KD9 := HKD9.out
          have hDne : ¬ D = wr.heap.size := by have := HD6.out; omega
          have kdW := (hK.block D (lt_of_block KD9) hDne).trans KD9
          have BW := Lib.hid (B3.out.trans ((HB9.out.trans (hK.below (fun k hs => by rw [hs]; exact Nat.le_refl _) HB9.out.size)).mono (show w.heap.size ≤ wr.heap.size by have := S3.out; omega)))
          have KD := Lib.hid kdW
          have KD2 := Lib.hid hK2
          have DD := Lib.hid (show D < D2 from Nat.lt_of_lt_of_le (lt_of_block KD9) (Nat.le_trans K10.out.size hD2))
          have DR := Lib.hid (show w.heap.size + 1 < D from by have h1 := S3.out; have h2 := HD6.out; omega)
          have hcnt := pickL_count (LineV.seen c) 0 l
          rw [hcnt] at cq
          clear hpre hm hK hK2 pr9 prW KD9 kdW hcnt
          go_wp2_with fail
          have n1 : w.heap.size + 1 ≠ D2 := by have h1 := DD.out; have h2 := DR.out; omega
          have n2 : w.heap.size + 1 ≠ D := by have h2 := DR.out; omega
          have n3 : D ≠ D2 := by have h1 := DD.out; omega
          have q1 : (W.setCell ⟨w.heap.size + 1, 0, none⟩ (.bool true)).heap[D2]? = some (.deferred (some [])) := by
            rw [heap_setCell_other _ _ _ _ (Ne.symm n1)]; exact KD2.out
          have q2 : ((W.setCell ⟨w.heap.size + 1, 0, none⟩ (.bool true)).putObj D2 (.deferred none)).heap[D]? = some (.deferred (some [])) := by
            rw [World.putObj_heap_other n3, heap_setCell_other _ _ _ _ (Ne.symm n2)]; exact KD.out
          refine ⟨by simp, .inl ⟨_, _, rfl, run_takeDeferred q1, ?_⟩⟩
          refine ⟨by simp, .inl ⟨_, _, rfl, run_takeDeferred q2, ?_⟩⟩
          refine ⟨_, res_each _ _ (w.heap.size + 1) (.bool true) rfl ?_, rfl, ?_⟩
          · have h1 := World.cell?_setCell_same' W ⟨w.heap.size + 1, 0, none⟩ (.bool true) (by rw [cr]; rfl)
            unfold World.cell? at h1 ⊢
            rw [World.putObj_heap_other n2, World.putObj_heap_other n1]
            exact h1
          · exact ((BW.out.setCell (p := ⟨w.heap.size + 1, 0, none⟩) (Nat.le_succ _) _).trans (belowK_b (w := w) (Nat.le_refl _) _ D2 _ _ (by have h1 := DD.out; have h2 := DR.out; omega) q1 rfl rfl)).trans (belowK_b (w := w) (Nat.le_refl _) _ D _ _ (by have h2 := DR.out; omega) q2 rfl rfl)
        case bodyA =>
          rintro lp pre x W b ⟨hpre, hm, hK⟩ hlt hb hx
          obtain ⟨m, hml⟩ : ∃ m, pre.length = m := ⟨_, rfl⟩
          have cm := cell_of_one hm
          have fm := free_of_one hm
          rw [hml] at cm hlt
          have cw := hK.cell (cell_of_one RW9.out) (show ¬ w8.heap.size = wr.heap.size from by have h1 := VQ7.out; have h2 := VW8.out; omega)
          have ca := hK.cell (cell_of_one RA9.out) (show ¬ w8.heap.size + 1 = wr.heap.size from by have h1 := VQ7.out; have h2 := VW8.out; omega)
          have pr9 := row_kept HB9.out PR.out
          have prW := (hK.block (w.heap.size + 1) (lt_of_block pr9) (show ¬ w.heap.size + 1 = wr.heap.size from by have := S3.out; omega)).trans pr9
          have cr := cell_of_one prW
          have fr := free_of_one prW
          have hWL := HWL9.out.keptBut hK (fun k hk _ e => by have h1 := (WOlt.out k hk).1; have h2 := VQ.out; omega)
          have hAN : Nums .i64 W _ _ := Vec.keptBut HAN9.out hK (fun k hk _ e => by have h1 := (AOlt.out k hk).1; have h2 := VQ7.out; omega)
          obtain ⟨wo', wc', wb, wof, hwe, hwo2, _, hwc⟩ := hWL.form
          obtain ⟨ao', ac', ab, aof, hae, hao2, _, hac⟩ := Vec.form hAN
          injection hwe with hwe1 hwe2 hwe3
          injection hae with hae1 hae2 hae3
          have hfl : m < (List.filter (LineV.seen c) l).length := by rw [← pickL_count (LineV.seen c) 0 l]; exact hlt
          have hal : m < (((pickL (LineV.seen c) 0 l).map fun q => (q.1 : Int)).map (Value.int .i64)).length := by simpa using hlt
          have ca0 := hac m hal
          obtain ⟨cw0, cw1, cw2, cw3⟩ := hwc m hfl
          have ey : (List.filter (LineV.seen c) l)[m]'hfl = ((pickL (LineV.seen c) 0 l)[m]'hlt).2 := by
            have h := pickL_lines (LineV.seen c) 0 l
            simp [← h]
          rw [hwe1, hwo2 (by omega)] at cw
          rw [hae1, hao2 (by omega)] at ca
          have Hne := Lib.hid (fun h => mt (pre_snoc hpre hml hlt x).1 h)
          have Heq := Lib.hid (fun h => (pre_snoc hpre hml hlt x).2 h)
          simp only [List.getElem_map] at ca0
          obtain ⟨y, hy⟩ : ∃ y, (pickL (LineV.seen c) 0 l)[m]'hlt = y := ⟨_, rfl⟩
          rw [ey, hy] at cw0 cw1 cw2 cw3
          rw [hy] at ca0 Hne Heq
          obtain ⟨xp, x1, x2, x3, x4⟩ := x
          obtain ⟨yp, y1, y2, y3, y4⟩ := y
          apply by_act
          · simp [encP, LineV.agg]
            rfl
          have cx0 : W.cell? ⟨b, 0, none⟩ = some (.int .u64 x1) := by simp [World.cell?, hx]
          have cx1 : W.cell? ⟨b, 1, none⟩ = some (.int .i64 x2) := by simp [World.cell?, hx]
          have cx2 : W.cell? ⟨b, 2, none⟩ = some (.int .i64 x3) := by simp [World.cell?, hx]
          have cx3 : W.cell? ⟨b, 3, none⟩ = some (.string x4) := by simp [World.cell?, hx]
          have hi0 : (0 : Int) ≤ (m : Int) := by omega
          have hi1 : (m : Int) < ((List.filter (LineV.seen c) l).length : Int) := by omega
          have hi2 : (m : Int) < ((pickL (LineV.seen c) 0 l).length : Int) := by omega
          have hi3 : ¬ ((List.filter (LineV.seen c) l).length : Int) ≤ (m : Int) := by omega
          have hpl : m ≤ 4000000000000 := by have := HPl.out; have := Hlen.out; omega
          have Hm := Lib.hid hm
          have HK := Lib.hid hK
          have Hml := Lib.hid hml
          have hfl2 : ¬ (List.filter (LineV.seen c) l).length ≤ m := by omega
          have hne : ¬ w.heap.size + 1 = wr.heap.size := by have := S3.out; omega
          clear hpre hm hK hml hx hWL hAN hwc hac hy ey pr9 prW hwe1 hwe2 hwe3 hae1 hae2 hae3 hwo2 hao2 hal
          by_cases e0 : xp = yp
          rotate_left
          · have Hno := Lib.hid (Hne.out (fun e => e0 (by cases e; rfl)))
            have e0b : ((xp : Int) != (yp : Int)) = true := by rw [bne_iff_ne]; omega
            gi_wp2_with fail
            gi_round_quiet
            gi_wp2_with fail
            exact ⟨⟨(KeepsOthers.setCell (W.drewN nq) _ _).size, fun k o _ hk ho => (KeepsOthers.setCell (W.drewN nq) _ _).same k o hk ho⟩, Hno.out⟩
          by_cases e1 : x1 = y1
          rotate_left
          · have Hno := Lib.hid (Hne.out (fun e => e1 (by cases e; rfl)))
            gi_wp2_with fail
            gi_round_quiet
            gi_wp2_with fail
            exact ⟨⟨(KeepsOthers.setCell (W.drewN nq) _ _).size, fun k o _ hk ho => (KeepsOthers.setCell (W.drewN nq) _ _).same k o hk ho⟩, Hno.out⟩
          by_cases e2 : x2 = y2
          rotate_left
          · have Hno := Lib.hid (Hne.out (fun e => e2 (by cases e; rfl)))
            gi_wp2_with fail
            gi_round_quiet
            gi_wp2_with fail
            exact ⟨⟨(KeepsOthers.setCell (W.drewN nq) _ _).size, fun k o _ hk ho => (KeepsOthers.setCell (W.drewN nq) _ _).same k o hk ho⟩, Hno.out⟩
          by_cases e3 : x3 = y3
          rotate_left
          · have Hno := Lib.hid (Hne.out (fun e => e3 (by cases e; rfl)))
            gi_wp2_with fail
            gi_round_quiet
            gi_wp2_with fail
            exact ⟨⟨(KeepsOthers.setCell (W.drewN nq) _ _).size, fun k o _ hk ho => (KeepsOthers.setCell (W.drewN nq) _ _).same k o hk ho⟩, Hno.out⟩
          by_cases e4 : x4 = y4
          rotate_left
          · have e4' : ¬ x4.toList = y4.toList := fun e => e4 (bytes_iff.1 e)
            have Hno := Lib.hid (Hne.out (fun e => e4 (by cases e; rfl)))
            gi_wp2_with fail
            gi_round_quiet
            gi_wp2_with fail
            exact ⟨⟨(KeepsOthers.setCell (W.drewN nq) _ _).size, fun k o _ hk ho => (KeepsOthers.setCell (W.drewN nq) _ _).same k o hk ho⟩, Hno.out⟩
          subst e0 e1 e2 e3 e4
          gi_wp2_with fail
          gi_round_quiet
          gi_wp2_with fail
          have hbd := below_drewN (Below.refl W.heap.size W) nq
          have hr : ((W.drewN nq).setCell ⟨wr.heap.size, 0, none⟩ (.int .i64 ((m : Int) + 1))).heap[wr.heap.size]? = some (.cells #[.int .i64 ((m : Int) + 1)] 3 (0, 0)) := one_setCell Hm.out
          exact ⟨⟨(KeepsOthers.setCell (W.drewN nq) _ _).size, fun k o _ hk ho => (KeepsOthers.setCell (W.drewN nq) _ _).same k o hk ho⟩,
            (below_drewN (Below.refl wr.heap.size W) nq).setCell (p := ⟨wr.heap.size, 0, none⟩) (Nat.le_refl _) _,
            Heq.out (by first | rfl | trivial), by rw [List.length_append, Hml.out]; exact hr,
            (HK.out.grown (row := none) ⟨hbd.os, hbd.tape, hbd.output, hbd.size, fun k hk _ => hbd.block k hk⟩ (fun k e => by cases e)).grown (grown_setCell _ wr.heap.size 0 _) (fun k e => by cases e; exact .inl rfl)⟩
end Go.Proofs.Ytgchcgllpceghaa
