/- Own work: scrimref04's counters: Copy. -/
import Derived.Test.YtaconebkgajicaaRefId2
import Derived.Deep.AppendLies
import Derived.Deep.RegionLaw
import Derived.Deep.RegionHeldLaw
namespace Go.Proofs.Ytaconebkgajicaa
open Go.RowKit Go.Maps

theorem own_empty {W : World} {B H : Nat} {e : TypeId} (h : W.heap[H]? = some (.cells #[] e (0, 0))) (hB : B ≤ H) : W.ownsRow B e 1 (.slice (some ⟨H, 0, none⟩) 0 0) 0 [] :=
  ⟨rfl, .inr ⟨H, 0, #[], rfl, hB, h, Nat.le_refl _, Nat.zero_le _, rfl, rfl⟩⟩
theorem ints_plain (k : IntKind) (l : List Int) : ∀ u ∈ l.map (Value.int k), u.oneCell' = true := by
  intro u hu
  obtain ⟨x, _, rfl⟩ := List.mem_map.1 hu
  rfl
theorem own_news {W : World} {B g n cap : Nat} {e : TypeId} {xs : List Value} (h : W.ownsRow B e 1 (.slice (some ⟨g, 0, none⟩) n cap) n xs) : ∀ j u, xs[j]? = some u → W.cell? ((⟨g, 0, none⟩ : Addr).add j) = some u := by
  intro j u hu
  rw [addr_add, Nat.zero_add, h.cellAt j (by have := (List.getElem?_eq_some_iff.1 hu).1; rw [h.1] at this; omega)]
  exact hu

theorem own_same {W W' : World} {B size n : Nat} {e : TypeId} {v : Value} {xs : List Value} (h : W.ownsRow B e size v n xs) (hs : ∀ q, v.ownBlock = some q → W'.heap[q]? = W.heap[q]?) : W'.ownsRow B e size v n xs := by
  refine ⟨h.1, ?_⟩
  rcases h.2 with h2 | ⟨g, cap, cur, h1, h2, h3, h4⟩
  · exact .inl h2
  · exact .inr ⟨g, cap, cur, h1, h2, (hs g (by rw [h1]; rfl)).trans h3, h4⟩
/-- two rows and what points to them -/
theorem rc_made {w w1 w2 : World} {g1 cap1 g2 cap2 n B2 : Nat} {Ls Ns : List Int} (h1 : w1.ownsRow w.heap.size 25 1 (.slice (some ⟨g1, 0, none⟩) n cap1) n (Ls.map (Value.int .u64))) (h2 : w2.ownsRow w.heap.size 3 1 (.slice (some ⟨g2, 0, none⟩) n cap2) n (Ns.map (Value.int .i64)))
    (hk : ∀ i, i < w1.heap.size → i ≠ B2 → w2.heap[i]? = w1.heap[i]?) (hne : g1 ≠ B2) (hg : B2 = g2 ∨ w1.heap.size ≤ g2) (hn : Ls.length = n) (hl : Ls.length = Ns.length) (hf : ∀ x ∈ Ns, 0 ≤ x ∧ x ≤ 4611686018427387904) (hb : Below w.heap.size w w2) :
    Rc w.heap.size (w2.alloc (.cells #[.slice (some ⟨g1, 0, none⟩) n cap1, .slice (some ⟨g2, 0, none⟩) n cap2] 56)) w2.heap.size (.slice (some ⟨g1, 0, none⟩) n cap1) (.slice (some ⟨g2, 0, none⟩) n cap2) Ls Ns := by
  have l1 := (h1.lt g1 rfl).2
  have l2 := (h2.lt g2 rfl).2
  have h1' : w2.ownsRow w.heap.size 25 1 (.slice (some ⟨g1, 0, none⟩) n cap1) n (Ls.map (Value.int .u64)) := own_same h1 fun q hq => by
    obtain rfl : g1 = q := Option.some.inj hq
    exact hk g1 l1 hne
  have l1' := (h1'.lt g1 rfl).2
  refine ⟨heap_alloc_new w2 _, by rw [hn]; exact h1'.alloc _, by rw [hn]; exact h2.alloc _, hl, hb.size, fun e => ?_, fun e => ?_, fun q hq e => ?_, hf⟩
  · have : g1 = w2.heap.size := Option.some.inj e; omega
  · have : g2 = w2.heap.size := Option.some.inj e; omega
  · have a : g1 = q := Option.some.inj hq
    have b : g2 = q := Option.some.inj e
    omega
/-- at a step of a region: a whole slice, copied behind an empty one of the call's own -/
theorem step_copy {P : Program} {w0 w : World} {ops : Array Oper} {o : Oper} {a : Act} {K : Act → World → Prop} {Q : Exit → Act → World → Prop} {E : Prop} (hgd : o.guard = none) (s x : Operand) (t : TypeId)
    (ho : o.op = .call { callee := .builtin .append, args := #[s, x], argTypes := #[t, t] })
    (e : TypeId) (i : TypeInfo) (z : Value) (ht : P.underlying t = some (.slice e)) (hi : P.info? e = some i) (hz : i.zero = some z) (hsize : i.size = 1) (hby : i.bytes = 8) (hzs : z.cells.size = 1)
    (Hb : Nat) (hs : a.eval s = .slice (some ⟨Hb, 0, none⟩) 0 0) (B g n cap : Nat) (xs : List Value) (hx : a.eval x = .slice (some ⟨g, 0, none⟩) n cap) (hown : w0.ownsRow B e 1 (.slice (some ⟨g, 0, none⟩) n cap) n xs)
    (hone : ∀ u ∈ xs, u.oneCell' = true) (hpos : 0 < n) (hn : n < 5000000000000) (hge : w0.heap.size ≤ Hb) (hemp : w.heap[Hb]? = some (.cells #[] e (0, 0))) (hB : Below w0.heap.size w0 w)
    (h : ∀ g' cap' w', w'.ownsRow w0.heap.size e 1 (.slice (some ⟨g', 0, none⟩) n cap') n xs → Below w0.heap.size w0 w' → (∀ i, i < w.heap.size → i ≠ Hb → w'.heap[i]? = w.heap[i]?) → (Hb = g' ∨ w.heap.size ≤ g') → w.heap.size ≤ w'.heap.size → K (a.put o.dst (.slice (some ⟨g', 0, none⟩) n cap')) w') :
    if Region.wanted o (yielded ops a.tmps) = true then Oper.wp P o a w K Q else E := by
  have hlen : xs.length = n * 1 := hown.1
  refine step_append_lies _ hgd s x t ho w0.heap.size e i z 1 8 ht hi hz hsize hby hzs (by decide) _ 0 [] hs (own_empty hemp hge) ⟨g, 0, none⟩ n cap xs hx hlen (own_news (own_kept hown hB)) hone hpos (by unfold maxLen; omega) (by omega) hB.size _ rfl fun g' cap' w' h1 h2 h3 h4 => ?_
  have hv : (a.eval s).ownBlock = some Hb := by rw [hs]; rfl
  simp only [Nat.zero_add, List.nil_append] at h1
  have hg : w.grownBy w' (some Hb) := h2
  have := h g' cap' w' h1 (hB.grown hg hB.size (fun q hq => by cases hq; exact hge)) (fun i hi hne => hg.block i hi (fun e => hne (Option.some.inj e))) (h3.imp (fun e => Option.some.inj e) (fun e => by omega)) hg.size
  simpa using this

set_option maxHeartbeats 16000000 in
set_option maxRecDepth 100000 in
theorem refCopy_some (B : Nat) (b : Nat) (lv nv : Value) (Ls Ns : List Int) (w : World) (h : Rc B w b lv nv Ls Ns) (hn : Ls.length < 5000000000000) (hpos : 0 < Ls.length) :
    Calls Try.prog 12 #[.pointer (some ⟨b, 0, none⟩)] w fun e w' => ∃ b' lv' nv', e = .returned (.pointer (some ⟨b', 0, none⟩)) ∧ Rc w.heap.size w' b' lv' nv' Ls Ns ∧ Below w.heap.size w w' := by
  have c0 := cell_of_row _ _ 0 _ _ _ h.row
  have c1 := cell_of_row _ _ 1 _ _ _ h.row
  obtain ⟨g1, cap1, rfl⟩ := Joins.ownsRow_form h.ls hpos
  obtain ⟨g2, cap2, rfl⟩ := Joins.ownsRow_form h.ns hpos
  have H := Lib.hid h
  have hls := h.ls
  have hns := h.ns
  clear h
  have lb := lt_of_block H.out.row
  obtain ⟨i1, hi1, hz1, hs1, hb1⟩ := info_parts Try.info25
  obtain ⟨i2, hi2, hz2, hs2, hb2⟩ := info_parts Try.info3
  obtain ⟨n, hnn⟩ : ∃ n, Ls.length = n := ⟨_, rfl⟩
  rw [hnn] at hn hpos c0 c1 hls hns
  have Hls := Lib.hid hls
  have Hns := Lib.hid hns
  have Hc := Lib.hid (And.intro c0 c1)
  clear hls hns
  have keepS : ∀ W, Below w.heap.size w W → (W.cell? ⟨b, 0, none⟩ = some (.slice (some ⟨g1, 0, none⟩) n cap1) ∧ W.cell? ⟨b, 1, none⟩ = some (.slice (some ⟨g2, 0, none⟩) n cap2) ∧ Below w.heap.size w W) :=
    fun W hb => ⟨(Below.cell (p := ⟨b, 0, none⟩) hb lb).trans c0, (Below.cell (p := ⟨b, 1, none⟩) hb lb).trans c1, hb⟩
  have keepA : ∀ W o, Below w.heap.size w W → Below w.heap.size w (W.alloc o) := fun W o h => h.alloc h.size o
  have keepD : ∀ W, Below w.heap.size w W → Below w.heap.size w W.drew := fun W h => h.drew
  have keep0 : Below w.heap.size w w := Below.refl _ _
  go_enter Try.func12, Try.ntmps12
  go_wp2_with fail
  go_region_held_law (fun w' => w'.cell? ⟨b, 0, none⟩ = some (.slice (some ⟨g1, 0, none⟩) n cap1) ∧ w'.cell? ⟨b, 1, none⟩ = some (.slice (some ⟨g2, 0, none⟩) n cap2) ∧ Below w.heap.size w w')
    ((refine keepS _ ?_; repeat (first | assumption | exact keep0 | refine keepD _ ?_ | refine keepA _ _ ?_)))
    (first
      | (refine step_copy (w0 := w) rfl _ _ 53 rfl 25 i1 (.int .u64 0) Try.underlying53 hi1 hz1 hs1 hb1 rfl _ rfl _ _ _ _ _ rfl Hls.out (ints_plain _ _) hpos hn (by first | exact Nat.le_refl _ | exact Nat.le_succ _ | exact Below.size (by assumption)) ?hemp (by repeat (first | assumption | exact keep0 | refine keepD _ ?_ | refine keepA _ _ ?_)) ?_; (case hemp => first | exact heap_alloc_new _ _ | exact heap_alloc2_new _ _ _ | exact (heap_alloc_old _ _ (by simp <;> omega)).trans (heap_alloc_new _ _) | exact (hk1 _ (by simp <;> omega) (by omega)).trans (heap_alloc2_new _ _ _) | exact (hk1 _ (by simp <;> omega) (by omega)).trans ((heap_alloc_old _ _ (by simp <;> omega)).trans (heap_alloc_new _ _)) | exact (hk2 _ (by simp <;> omega) (by omega)).trans (heap_alloc2_new _ _ _) | exact (hk2 _ (by simp <;> omega) (by omega)).trans ((heap_alloc_old _ _ (by simp <;> omega)).trans (heap_alloc_new _ _))); intro g1' cap1' w1 ho1 hb1' hk1 hat1 hsz1)
      | (refine step_copy (w0 := w) rfl _ _ 54 rfl 3 i2 (.int .i64 0) Try.underlying54 hi2 hz2 hs2 hb2 rfl _ rfl _ _ _ _ _ rfl Hns.out (ints_plain _ _) hpos hn (by first | exact Nat.le_refl _ | exact Nat.le_succ _ | exact Below.size (by assumption)) ?hemp (by repeat (first | assumption | exact keep0 | refine keepD _ ?_ | refine keepA _ _ ?_)) ?_; (case hemp => first | exact heap_alloc_new _ _ | exact heap_alloc2_new _ _ _ | exact (heap_alloc_old _ _ (by simp <;> omega)).trans (heap_alloc_new _ _) | exact (hk1 _ (by simp <;> omega) (by omega)).trans (heap_alloc2_new _ _ _) | exact (hk1 _ (by simp <;> omega) (by omega)).trans ((heap_alloc_old _ _ (by simp <;> omega)).trans (heap_alloc_new _ _)) | exact (hk2 _ (by simp <;> omega) (by omega)).trans (heap_alloc2_new _ _ _) | exact (hk2 _ (by simp <;> omega) (by omega)).trans ((heap_alloc_old _ _ (by simp <;> omega)).trans (heap_alloc_new _ _))); intro g2' cap2' w2 ho2 hb2' hk2 hat2 hsz2))
  all_goals
    have hl := H.out.len
    have hf := H.out.fit
    go_wp2
    go_ret
    have hl1 : g1' < w1.heap.size := (ho1.lt g1' rfl).2
    have hat1' := hat1
    simp only [World.drew, World.size_alloc] at hat1'
    first
      | exact ⟨_, _, _, rfl, rc_made ho1 ho2 hk2 (by omega) hat2 hnn hl hf hb2', keepA _ _ hb2'⟩
      | exact ⟨_, _, _, rfl, rc_made (ho1.alloc (.cells #[] 3)) ho2 hk2 (by omega) hat2 hnn hl hf hb2', keepA _ _ hb2'⟩

theorem three_at (w : World) (o1 o2 o3 : Obj) : (((w.alloc o1).alloc o2).alloc o3).drew.heap[w.heap.size]? = some o1 ∧ (((w.alloc o1).alloc o2).alloc o3).drew.heap[w.heap.size + 1]? = some o2 ∧ (((w.alloc o1).alloc o2).alloc o3).drew.heap[w.heap.size + 1 + 1]? = some o3 := by
  show (((w.alloc o1).alloc o2).alloc o3).heap[w.heap.size]? = some o1 ∧ (((w.alloc o1).alloc o2).alloc o3).heap[w.heap.size + 1]? = some o2 ∧ (((w.alloc o1).alloc o2).alloc o3).heap[w.heap.size + 1 + 1]? = some o3
  refine ⟨?_, ?_, ?_⟩
  · rw [heap_alloc_old _ _ (by simp; omega), heap_alloc_old _ _ (by simp)]; exact heap_alloc_new w o1
  · rw [heap_alloc_old _ _ (by simp)]; exact heap_alloc2_new w o1 o2
  · have := heap_alloc_new ((w.alloc o1).alloc o2) o3
    simp only [World.size_alloc] at this
    exact this
theorem rc_empty {w W : World} {H1 H2 b : Nat} (h1 : W.heap[H1]? = some (.cells #[] 25 (0, 0))) (h2 : W.heap[H2]? = some (.cells #[] 3 (0, 0))) (h3 : W.heap[b]? = some (.cells #[.slice (some ⟨H1, 0, none⟩) 0 0, .slice (some ⟨H2, 0, none⟩) 0 0] 56 (0, 0)))
    (l1 : w.heap.size ≤ H1) (l2 : w.heap.size ≤ H2) (l3 : w.heap.size ≤ b) (n1 : H1 ≠ b) (n2 : H2 ≠ b) (n3 : H1 ≠ H2) : Rc w.heap.size W b (.slice (some ⟨H1, 0, none⟩) 0 0) (.slice (some ⟨H2, 0, none⟩) 0 0) [] [] :=
  ⟨h3, own_empty h1 l1, own_empty h2 l2, rfl, l3, fun e => n1 (Option.some.inj e), fun e => n2 (Option.some.inj e), fun q hq e => n3 ((show H1 = q from Option.some.inj hq).trans (show H2 = q from Option.some.inj e).symm), fun n hn => by cases hn⟩

set_option maxHeartbeats 16000000 in
set_option maxRecDepth 100000 in
theorem refCopy_none (b : Nat) (w : World) (hr : w.heap[b]? = some (.cells #[.slice none 0 0, .slice none 0 0] 56 (0, 0))) :
    Calls Try.prog 12 #[.pointer (some ⟨b, 0, none⟩)] w fun e w' => ∃ b' lv' nv', e = .returned (.pointer (some ⟨b', 0, none⟩)) ∧ Rc w.heap.size w' b' lv' nv' [] [] ∧ Below w.heap.size w w' := by
  have c0 := cell_of_row _ _ 0 _ _ _ hr
  have c1 := cell_of_row _ _ 1 _ _ _ hr
  have lb := lt_of_block hr
  have keepS : ∀ W, Below w.heap.size w W → (W.cell? ⟨b, 0, none⟩ = some (.slice none 0 0) ∧ W.cell? ⟨b, 1, none⟩ = some (.slice none 0 0) ∧ Below w.heap.size w W) :=
    fun W hb => ⟨(Below.cell (p := ⟨b, 0, none⟩) hb lb).trans c0, (Below.cell (p := ⟨b, 1, none⟩) hb lb).trans c1, hb⟩
  have keepA : ∀ W o, Below w.heap.size w W → Below w.heap.size w (W.alloc o) := fun W o h => h.alloc h.size o
  have keepD : ∀ W, Below w.heap.size w W → Below w.heap.size w W.drew := fun W h => h.drew
  have keep0 : Below w.heap.size w w := Below.refl _ _
  go_enter Try.func12, Try.ntmps12
  go_wp2_with fail
  go_region_held_law (fun w' => w'.cell? ⟨b, 0, none⟩ = some (.slice none 0 0) ∧ w'.cell? ⟨b, 1, none⟩ = some (.slice none 0 0) ∧ Below w.heap.size w w')
    ((refine keepS _ ?_; repeat (first | assumption | exact keep0 | refine keepD _ ?_ | refine keepA _ _ ?_)))
    (fail)
  all_goals
    go_wp2
    go_ret
    obtain ⟨t1, t2, t3⟩ := three_at w _ _ _
    first
      | exact ⟨_, _, _, rfl, rc_empty t1 t2 t3 (Nat.le_refl _) (by omega) (by omega) (by omega) (by omega) (by omega), keepD _ (keepA _ _ (keepA _ _ (keepA _ _ keep0)))⟩
      | exact ⟨_, _, _, rfl, rc_empty t2 t1 t3 (by omega) (Nat.le_refl _) (by omega) (by omega) (by omega) (by omega), keepD _ (keepA _ _ (keepA _ _ (keepA _ _ keep0)))⟩
theorem refCopy_any (B : Nat) (b : Nat) (lv nv : Value) (Ls Ns : List Int) (w : World) (h : Rc B w b lv nv Ls Ns) (hn : Ls.length < 5000000000000) (h0 : Ls.length = 0 → lv = .slice none 0 0 ∧ nv = .slice none 0 0) :
    Calls Try.prog 12 #[.pointer (some ⟨b, 0, none⟩)] w fun e w' => ∃ b' lv' nv', e = .returned (.pointer (some ⟨b', 0, none⟩)) ∧ Rc w.heap.size w' b' lv' nv' Ls Ns ∧ Below w.heap.size w w' := by
  by_cases hp : 0 < Ls.length
  · exact refCopy_some B b lv nv Ls Ns w h hn hp
  · obtain ⟨rfl, rfl⟩ := h0 (by omega)
    obtain rfl : Ls = [] := List.eq_nil_of_length_eq_zero (by omega)
    obtain rfl : Ns = [] := List.eq_nil_of_length_eq_zero (by rw [← h.len]; rfl)
    exact refCopy_none b w h.row
end Go.Proofs.Ytaconebkgajicaa
