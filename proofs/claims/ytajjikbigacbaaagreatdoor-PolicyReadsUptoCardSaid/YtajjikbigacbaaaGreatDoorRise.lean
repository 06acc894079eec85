/- Own work: labels sorted, each once. -/
import Derived.Test.YtajjikbigacbaaaGreatDoorSortV1
import Derived.Test.YtajjikbigacbaaaGreatDoorSortNil
import Derived.Test.YtajjikbigacbaaaGreatDoorTold
import Derived.Lib.SlicesCompact
import Derived.Test.YtajjikbigacbaaaGreatDoorRef3A
namespace Go.Proofs.YtajjikbigacbaaaGreatDoor
open Go.RowKit Go.Shelf Go.Sort Go.Lib

/-- out has just the members of l, rising -/
def Rises (l out : List Int) : Prop := out.Pairwise (· < ·) ∧ ∀ x, x ∈ out ↔ x ∈ l
theorem rise_sameI : ∀ (xs ys : List Int), xs.Pairwise (· < ·) → ys.Pairwise (· < ·) → (∀ i, i ∈ xs ↔ i ∈ ys) → xs = ys
  | [], [], _, _, _ => rfl
  | [], y :: ys, _, _, h => by have := (h y).2 (by simp); simp at this
  | x :: xs, [], _, _, h => by have := (h x).1 (by simp); simp at this
  | x :: xs, y :: ys, hx, hy, h => by
    rw [List.pairwise_cons] at hx hy
    have e : x = y := by
      have h1 := (h x).1 (by simp)
      have h2 := (h y).2 (by simp)
      rw [List.mem_cons] at h1 h2
      rcases h1 with h1 | h1
      · exact h1
      · rcases h2 with h2 | h2
        · exact h2.symm
        · have a := hy.1 x h1
          have b := hx.1 y h2
          omega
    subst e
    rw [rise_sameI xs ys hx.2 hy.2 fun i => ?_]
    constructor
    · intro hi
      have h1 := (h i).1 (by simp [hi])
      have h2 := hx.1 i hi
      rw [List.mem_cons] at h1
      rcases h1 with h1 | h1
      · omega
      · exact h1
    · intro hi
      have h1 := (h i).2 (by simp [hi])
      have h2 := hy.1 i hi
      rw [List.mem_cons] at h1
      rcases h1 with h1 | h1
      · omega
      · exact h1
theorem Rises.one {l a b : List Int} (h : Rises l a) (k : Rises l b) : a = b := rise_sameI a b h.1 k.1 fun i => (h.2 i).trans (k.2 i).symm
theorem compact_rises (d : Array Int) (hs : ∀ i j, i ≤ j → j < d.size → d[i]! ≤ d[j]!) : ∀ m, m ≤ d.size → (compactUpTo d m).Pairwise (· < ·) ∧ (∀ x, x ∈ compactUpTo d m ↔ ∃ j, j < m ∧ d[j]! = x)
  | 0, _ => ⟨List.Pairwise.nil, fun x => ⟨(fun h => by simp [compactUpTo] at h), (fun ⟨j, hj, _⟩ => absurd hj (Nat.not_lt_zero _))⟩⟩
  | m + 1, hm => by
    obtain ⟨h1, h2⟩ := compact_rises d hs m (by omega)
    rw [compactUpTo_succ]
    by_cases hk : keeps d m = true
    · rw [if_pos hk]
      refine ⟨?_, fun x => ?_⟩
      · rw [List.pairwise_append]
        refine ⟨h1, by simp, fun x hx y hy => ?_⟩
        rw [List.mem_singleton] at hy
        subst hy
        obtain ⟨j, hj, rfl⟩ := (h2 x).1 hx
        have a := hs j (m - 1) (by omega) (by omega)
        have b := hs (m - 1) m (by omega) (by omega)
        have c : d[m]! ≠ d[m - 1]! := by
          simp only [keeps, decide_eq_true_eq] at hk
          rcases hk with hk | hk
          · omega
          · exact hk
        omega
      · rw [List.mem_append, h2 x, List.mem_singleton]
        constructor
        · rintro (⟨j, hj, e⟩ | e)
          · exact ⟨j, by omega, e⟩
          · exact ⟨m, by omega, e.symm⟩
        · rintro ⟨j, hj, e⟩
          by_cases h : j = m
          · subst h; exact .inr e.symm
          · exact .inl ⟨j, by omega, e⟩
    · rw [if_neg hk, List.append_nil]
      refine ⟨h1, fun x => ?_⟩
      rw [h2 x]
      simp only [keeps, decide_eq_true_eq, not_or] at hk
      have hk : ¬ m = 0 ∧ d[m]! = d[m - 1]! := ⟨hk.1, Decidable.not_not.1 hk.2⟩
      constructor
      · rintro ⟨j, hj, e⟩; exact ⟨j, by omega, e⟩
      · rintro ⟨j, hj, e⟩
        by_cases h : j = m
        · subst h; exact ⟨j - 1, by omega, by rw [← hk.2, e]⟩
        · exact ⟨j, by omega, e⟩
theorem sort_compact (zs : List Int) : Rises zs (compactUpTo (zs.mergeSort fun x y => decide (x ≤ y)).toArray (zs.mergeSort fun x y => decide (x ≤ y)).toArray.size) := by
  have hp : (zs.mergeSort fun x y => decide (x ≤ y)).Pairwise (fun x y => (decide (x ≤ y)) = true) := List.pairwise_mergeSort (fun a b c h1 h2 => by simp at *; omega) (fun a b => by simp; omega) zs
  have hm : ∀ x, x ∈ (zs.mergeSort fun x y => decide (x ≤ y)) ↔ x ∈ zs := fun x => (List.mergeSort_perm zs _).mem_iff
  obtain ⟨ss, hss⟩ : ∃ ss, (zs.mergeSort fun x y => decide (x ≤ y)) = ss := ⟨_, rfl⟩
  rw [hss] at hp hm ⊢
  have hg : ∀ j, j < ss.length → ss.toArray[j]! = ss[j]! := fun j hj => by
    rw [getElem!_pos ss.toArray j (by simpa using hj), getElem!_pos ss j hj, List.getElem_toArray]
  obtain ⟨h1, h2⟩ := compact_rises ss.toArray (fun i j hij hj => by
    have hj' : j < ss.length := by simpa using hj
    rw [hg i (by omega), hg j hj', getElem!_pos ss i (by omega), getElem!_pos ss j hj']
    by_cases e : i = j
    · subst e; exact Int.le_refl _
    · have := List.pairwise_iff_getElem.1 hp i j (by omega) hj' (by omega)
      simpa using this) ss.toArray.size (Nat.le_refl _)
  refine ⟨h1, fun x => (h2 x).trans ?_⟩
  rw [← hm x]
  constructor
  · rintro ⟨j, hj, rfl⟩
    have hj' : j < ss.length := by simpa using hj
    rw [hg j hj', getElem!_pos ss j hj']
    exact List.getElem_mem hj'
  · intro hx
    obtain ⟨j, hj, rfl⟩ := List.getElem_of_mem hx
    exact ⟨j, by simpa using hj, by rw [hg j hj, getElem!_pos ss j hj]⟩
theorem below_row {B : Nat} {w0 w : World} (h : Below B w0 w) (q g o : Nat) (d : Array Int) (hg : B ≤ g) : Below B w0 (RowU w g o q d) :=
  h.trans ⟨rfl, rfl, rfl, by rw [size_putRow]; exact Nat.le_refl _, fun k hk => by
    show ((Sort.ahead w q).heap.modify g _)[k]? = _
    rw [Array.getElem?_modify, if_neg (by omega)]
    rfl⟩
theorem below_os {B : Nat} {w0 w : World} (h : Below B w0 w) (hB : B ≤ w.heap.size) (os : Array Obj) : Below B w0 (grow w os) :=
  h.trans ⟨rfl, rfl, rfl, by rw [size_grow]; exact Nat.le_add_right _ _, fun k hk => heap_grow_old _ _ (by omega)⟩
theorem below_atU {B : Nat} {w0 w w' : World} {g o : Nat} {d : Array Int} (h : Below B w0 w) (ha : AtU w g o d w') (hg : B ≤ g) (hB : B ≤ w.heap.size) : Below B w0 w' := by
  obtain ⟨q, os, rfl⟩ := ha
  exact below_os (below_row h q g o d hg) (by rw [size_putRow]; exact hB) os
theorem nums_row {w : World} {g : Nat} {d : Array Int} (q : Nat) {c : Array Int} (hH : Holds (Value.int .u64) w g 0 d) (hs : c.size = d.size) {out : List Int} {cap : Nat} (ho : ∀ i, i < out.length → c[i]! = out[i]!) (hl : out.length ≤ c.size) (hc : d.size ≤ cap) (hm : cap ≤ maxLen) :
    Nums .u64 (RowU w g 0 q c) (.slice (some ⟨g, 0, none⟩) out.length cap) out := by
  by_cases h0 : 0 < out.length
  · refine .inr ⟨g, 0, cap, by rw [List.length_map], by rw [List.length_map]; exact h0, by rw [List.length_map]; omega, hm, fun i hi => ?_⟩
    rw [List.length_map] at hi
    have := rowU_cell hH (m := q) hs i (by omega)
    rw [this, ho i hi, getElem!_pos out i hi, List.getElem_map]
  · have : out = [] := List.eq_nil_of_length_eq_zero (by omega)
    subst this
    exact .inl ⟨_, _, rfl, rfl⟩
theorem holdsU_own {w : World} {B g n cap : Nat} {e : TypeId} {zs : List Int} (h : w.ownsRow B e 1 (.slice (some ⟨g, 0, none⟩) n cap) n (zs.map (Value.int .u64))) (hn : zs.length = n) : Holds (Value.int .u64) w g 0 zs.toArray := fun j hj => by
  have hj' : j < zs.length := by simpa using hj
  rw [Nat.zero_add]
  refine ⟨?_, h.frozenAt j⟩
  rw [h.cellAt j (by omega), List.getElem?_map, List.getElem?_eq_getElem hj', getElem!_pos zs.toArray j hj, List.getElem_toArray]
  rfl
end Go.Proofs.YtajjikbigacbaaaGreatDoor
/- Own work: scrimref03's Clearances. -/
namespace Go.Proofs.YtajjikbigacbaaaGreatDoor
open Go.RowKit Go.Maps Go.Shelf Go.Sort Go.Lib

def bey (out : List Int) (x : Int) : Bool := out.all fun y => decide (y < x)
theorem bey_iff {out : List Int} {x : Int} : bey out x = true ↔ ∀ y ∈ out, y < x := by simp [bey]
theorem bey_last {out : List Int} {x l : Int} (hp : out.Pairwise (· < ·)) {m : Nat} (hm : m + 1 = out.length) (hl : out[m]? = some l) : bey out x = decide (l < x) := by
  obtain ⟨hm', hl'⟩ := List.getElem?_eq_some_iff.1 hl
  rw [Bool.eq_iff_iff, bey_iff, decide_eq_true_eq]
  constructor
  · intro h; exact h _ (hl' ▸ List.getElem_mem hm')
  · intro h y hy
    obtain ⟨j, hj, rfl⟩ := List.getElem_of_mem hy
    by_cases e : j = m
    · subst e; rw [hl']; exact h
    · have := List.pairwise_iff_getElem.1 hp j m hj hm' (by omega)
      rw [hl'] at this
      omega
theorem filter_less {p q : Int → Bool} (h : ∀ x, q x = true → p x = true) : ∀ {l : List Int} {x : Int}, x ∈ l → p x = true → q x = false → (l.filter q).length < (l.filter p).length
  | [], _, hx, _, _ => by cases hx
  | y :: l, x, hx, hp, hq => by
    have hle : ∀ l : List Int, (l.filter q).length ≤ (l.filter p).length := by
      intro l
      induction l with
      | nil => exact Nat.le_refl _
      | cons z l ih =>
        rw [List.filter_cons, List.filter_cons]
        by_cases hz : q z = true
        · rw [if_pos hz, if_pos (h z hz)]; simp; exact ih
        · rw [if_neg hz]
          split
          · simp; omega
          · exact ih
    rw [List.filter_cons, List.filter_cons]
    rcases List.mem_cons.1 hx with e | hx
    · rw [← e, if_neg (by rw [hq]; simp), if_pos hp]
      have := hle l
      simp; omega
    · have ih := filter_less h hx hp hq
      by_cases hz : q y = true
      · rw [if_pos hz, if_pos (h y hz)]; simp; exact ih
      · rw [if_neg hz]
        split
        · simp; omega
        · exact ih
/-- the least so far of what is beyond out -/
def Least (zs out : List Int) (k : Nat) (f : Bool) (z : Int) : Prop :=
  if f = true then z ∈ zs ∧ bey out z = true ∧ ∀ x ∈ zs.take k, bey out x = true → z ≤ x else ∀ x ∈ zs.take k, bey out x = false
theorem least_step {zs out : List Int} {k : Nat} {f : Bool} {z : Int} (hk : k < zs.length) (h : Least zs out k f z) :
    Least zs out (k + 1) (f || bey out (zs[k]'hk)) (if bey out (zs[k]'hk) = true ∧ (f = false ∨ zs[k]'hk < z) then zs[k]'hk else z) := by
  have ht := List.take_succ_eq_append_getElem hk
  have hm := List.getElem_mem hk
  generalize zs[k]'hk = x at ht hm ⊢
  unfold Least at h ⊢
  rw [ht]
  cases hb : bey out x with
  | false =>
    simp only [Bool.or_false, Bool.false_eq_true, false_and, if_false]
    cases f with
    | false =>
      simp only [Bool.false_eq_true, if_false] at h ⊢
      intro y hy
      rcases List.mem_append.1 hy with hy | hy
      · exact h y hy
      · rw [List.mem_singleton] at hy; rw [hy]; exact hb
    | true =>
      simp only [if_true] at h ⊢
      refine ⟨h.1, h.2.1, fun y hy hby => ?_⟩
      rcases List.mem_append.1 hy with hy | hy
      · exact h.2.2 y hy hby
      · rw [List.mem_singleton] at hy; rw [hy, hb] at hby; cases hby
  | true =>
    simp only [Bool.or_true, if_true, true_and]
    cases f with
    | false =>
      simp only [Bool.false_eq_true, if_false, true_or, if_true] at h ⊢
      refine ⟨hm, hb, fun y hy hby => ?_⟩
      rcases List.mem_append.1 hy with hy | hy
      · rw [h y hy] at hby; cases hby
      · rw [List.mem_singleton] at hy; rw [hy]; exact Int.le_refl _
    | true =>
      simp only [if_true, Bool.true_eq_false, false_or] at h ⊢
      by_cases hlt : x < z
      · rw [if_pos hlt]
        refine ⟨hm, hb, fun y hy hby => ?_⟩
        rcases List.mem_append.1 hy with hy | hy
        · exact Int.le_trans (Int.le_of_lt hlt) (h.2.2 y hy hby)
        · rw [List.mem_singleton] at hy; rw [hy]; exact Int.le_refl _
      · rw [if_neg hlt]
        refine ⟨h.1, h.2.1, fun y hy hby => ?_⟩
        rcases List.mem_append.1 hy with hy | hy
        · exact h.2.2 y hy hby
        · rw [List.mem_singleton] at hy; rw [hy]; omega
/-- out are the first of the labels, rising -/
structure Firsts (zs out : List Int) : Prop where
  up : out.Pairwise (· < ·)
  sub : ∀ x ∈ out, x ∈ zs
  all : ∀ x ∈ zs, x ∈ out ∨ bey out x = true
theorem firsts_more {zs out : List Int} {z : Int} (h : Firsts zs out) (hl : Least zs out zs.length true z) : Firsts zs (out ++ [z]) ∧ (zs.filter (bey (out ++ [z]))).length < (zs.filter (bey out)).length := by
  unfold Least at hl
  simp only [if_true, List.take_length] at hl
  obtain ⟨h1, h2, h3⟩ := hl
  refine ⟨⟨?_, ?_, ?_⟩, ?_⟩
  · rw [List.pairwise_append]
    exact ⟨h.up, by simp, fun x hx y hy => by rw [List.mem_singleton] at hy; rw [hy]; exact bey_iff.1 h2 x hx⟩
  · intro x hx
    rcases List.mem_append.1 hx with hx | hx
    · exact h.sub x hx
    · rw [List.mem_singleton] at hx; rw [hx]; exact h1
  · intro x hx
    rcases h.all x hx with hx' | hx'
    · exact .inl (List.mem_append_left _ hx')
    · have := h3 x hx hx'
      by_cases e : x = z
      · exact .inl (by rw [e]; simp)
      · refine .inr (bey_iff.2 fun y hy => ?_)
        rcases List.mem_append.1 hy with hy | hy
        · exact bey_iff.1 hx' y hy
        · rw [List.mem_singleton] at hy; omega
  · refine filter_less (fun x hx => ?_) h1 h2 ?_
    · rw [bey_iff] at hx ⊢
      exact fun y hy => hx y (List.mem_append_left _ hy)
    · rw [← Bool.not_eq_true, bey_iff]
      intro hx
      have := hx z (by simp)
      omega
theorem firsts_end {zs out : List Int} {z : Int} (h : Firsts zs out) (hl : Least zs out zs.length false z) : Rises zs out := by
  unfold Least at hl
  simp only [Bool.false_eq_true, if_false, List.take_length] at hl
  refine ⟨h.up, fun x => ⟨h.sub x, fun hx => ?_⟩⟩
  rcases h.all x hx with hx' | hx'
  · exact hx'
  · rw [hl x hx] at hx'; cases hx'
theorem own_sl {w : World} {B n s : Nat} {e : TypeId} {v : Value} {xs : List Value} (h : w.ownsRow B e s v n xs) : ∃ vo vc, v = .slice vo n vc := by
  rcases Joins.ownsRow_forms h with ⟨h1, h2⟩ | ⟨g, cap, h1⟩
  · exact ⟨none, 0, by rw [h1, h2]⟩
  · exact ⟨_, _, h1⟩
theorem nums_own {w : World} {B c : Nat} {e : TypeId} {v : Value} {out : List Int} (h : w.ownsRow B e 1 v c (out.map (Value.int .u64))) (hc : out.length = c) : Nums .u64 w v out := by
  subst hc
  exact Nums.of_own (by simpa using h)
theorem firsts_nil (zs : List Int) : Firsts zs [] := ⟨.nil, (fun x h => by simp at h), fun x _ => .inr rfl⟩

set_option maxRecDepth 100000 in
set_option maxHeartbeats 16000000 in
theorem ref3Clear_any (u : Value) (vs : List Vw) (w : World) (hu : Vws w u vs) (hlen : vs.length ≤ 4398046511104) (hlab : ∀ v ∈ vs, v.lab < 18446744073709551616) :
    Calls Tryz.prog 53 #[u] w fun e w' => ∃ v out, e = .returned v ∧ Nums .u64 w' v out ∧ Rises (vs.map fun v => (v.lab : Int)) out ∧ Below w.heap.size w w' := by
  obtain ⟨i0, hi, hz0, hz1, hz2⟩ := info_parts Tryz.info24
  obtain ⟨ao, cap, b, o, rfl, hao, hml, hc⟩ := hu.form
  obtain ⟨n, hn⟩ : ∃ n, vs.length = n := ⟨_, rfl⟩
  obtain ⟨zs, hzs⟩ : ∃ zs : List Int, (vs.map fun v => (v.lab : Int)) = zs := ⟨_, rfl⟩
  have hzl : zs.length = n := by rw [← hzs, List.length_map, hn]
  have Hzl := Lib.hid hzl
  have Hzs := Lib.hid (show ∀ (k : Nat) (hk : k < vs.length) (hz : k < zs.length), zs[k]'hz = ((vs[k]'hk).lab : Int) by subst hzs; intro k hk hz; simp)
  rw [hzs]
  have Hn := Lib.hid hn
  rw [hn] at hao hlen ⊢
  have Hao := Lib.hid hao
  have Hc := Lib.hid hc
  have Hlab := Lib.hid hlab
  clear hu hao hc hn hml hzs hzl hlab
  go_enter Tryz.func53, Tryz.ntmps53
  go_wp2_with fail
  go_loopg [3] (zs.filter (bey [])).length (fun K ov wr => ∃ (c : Nat) (out : List Int), Hid (out.length = c) ∧ wr.ownsRow w.heap.size 24 1 ov c (out.map (Value.int .u64)) ∧ Hid (Firsts zs out) ∧ Hid ((zs.filter (bey out)).length ≤ K) ∧ c + K ≤ n ∧ Below w.heap.size w wr)
  case atStart => exact ⟨0, [], rfl, World.ownsRow_nil _ _ _ _, firsts_nil zs, Nat.le_refl _, by have := List.length_filter_le (bey []) zs; have := Hzl.out; omega, Below.refl _ _⟩
  case round =>
    obtain ⟨c, out, HC, hown, HF, HK, hcK, hbw⟩ := hrel
    obtain ⟨vo, vc, rfl⟩ := own_sl hown
    have Hown := Lib.hid hown
    have Hbw := Lib.hid hbw
    clear hown hbw
    obtain ⟨wo, rfl⟩ : ∃ wo : World, wo = wr := ⟨_, rfl⟩
    go_wp2_with fail
    go_loopw [4, 5, 6] (fun fv lv i wr => ∃ (k : Nat) (f : Bool) (z : Nat), k ≤ n ∧ i = .int .i64 k ∧ fv = .bool f ∧ lv = .int .u64 (z : Int) ∧ Hid (Least zs out k f z) ∧ wr = wo) (fun _ _ i _ => n - (intOf i).toNat)
    case atStart => exact ⟨0, false, 0, Nat.zero_le _, rfl, rfl, rfl, by show Least _ _ _ _ _; unfold Least; simp, rfl⟩
    case round =>
      obtain ⟨k, f, z, hk, rfl, rfl, rfl, HL, rfl⟩ := hrel
      by_cases hlt : k < n
      · have hkl : k < vs.length := by rw [Hn.out]; exact hlt
        have hkz : k < zs.length := by rw [Hzl.out]; exact hlt
        obtain rfl := Hao.out (by omega)
        obtain ⟨_, c1⟩ := Hc.out k hkl
        have c1 := cell_kept Hbw.out c1
        have hx64 := Hlab.out _ (List.getElem_mem hkl)
        have HS := Lib.hid (least_step hkz HL.out)
        rw [Hzs.out k hkl hkz] at HS
        obtain ⟨x, hx⟩ : ∃ x, (vs[k]'hkl).lab = x := ⟨_, rfl⟩
        rw [hx] at c1 HS hx64
        have hi0 : (0 : Int) ≤ (k : Int) := by omega
        have hi1 : (k : Int) < (n : Int) := by omega
        clear hx
        by_cases hc0 : c = 0
        · have hnil : out = [] := List.eq_nil_of_length_eq_zero (by rw [HC.out]; exact hc0)
          have hb : bey out (x : Int) = true := by rw [hnil]; rfl
          rw [hb] at HS
          simp only [Bool.or_true, true_and] at HS
          subst hc0
          clear hb
          cases f with
          | false =>
            simp only [true_or, if_true] at HS
            go_wp2_with fail
            go_roundw
            case rel => exact ⟨k + 1, true, x, by omega, by go_num, rfl, rfl, HS.out, by simp⟩
            case measure => simp [intOf]; omega
          | true =>
            simp only [Bool.true_eq_false, false_or] at HS
            by_cases hxz : (x : Int) < (z : Int)
            · rw [if_pos hxz] at HS
              go_wp2_with fail
              go_roundw
              case rel => exact ⟨k + 1, true, x, by omega, by go_num, rfl, rfl, HS.out, by simp⟩
              case measure => simp [intOf]; omega
            · rw [if_neg hxz] at HS
              go_wp2_with fail
              go_roundw
              case rel => exact ⟨k + 1, true, z, by omega, by go_num, rfl, rfl, HS.out, by simp⟩
              case measure => simp [intOf]; omega
        · obtain ⟨m, hm⟩ : ∃ m, c - 1 = m := ⟨_, rfl⟩
          have hol : m < out.length := by rw [HC.out]; omega
          obtain ⟨g, cap2, hov⟩ := Joins.ownsRow_form Hown.out (by omega)
          injection hov with e1 _ e3
          subst e1 e3
          have d0 := Hown.out.cellAt m (by omega)
          rw [List.getElem?_map, List.getElem?_eq_getElem hol] at d0
          have hlast := bey_last (x := (x : Int)) HF.out.up (m := m) (l := out[m]'hol) (by rw [HC.out]; omega) (List.getElem?_eq_getElem hol)
          obtain ⟨L, hL⟩ : ∃ L, out[m]'hol = L := ⟨_, rfl⟩
          rw [hL] at d0 hlast
          simp only [Option.map_some] at d0
          rw [hlast] at HS
          have hw1 : IntKind.i64.wrap ((c : Int) - 1) = (m : Int) := by rw [IntKind.wrap_i64]; omega
          have hm0 : (0 : Int) ≤ (m : Int) := by omega
          have hm1 : (m : Int) < (c : Int) := by omega
          have hcz : ¬ (c : Int) = 0 := by omega
          clear hlast hL
          by_cases hLx : L < (x : Int)
          · rw [decide_eq_true hLx] at HS
            simp only [Bool.or_true, true_and] at HS
            cases f with
            | false =>
              simp only [true_or, if_true] at HS
              go_wp2_with fail
              go_roundw
              case rel => exact ⟨k + 1, true, x, by omega, by go_num, rfl, rfl, HS.out, by simp⟩
              case measure => simp [intOf]; omega
            | true =>
              simp only [Bool.true_eq_false, false_or] at HS
              by_cases hxz : (x : Int) < (z : Int)
              · rw [if_pos hxz] at HS
                go_wp2_with fail
                go_roundw
                case rel => exact ⟨k + 1, true, x, by omega, by go_num, rfl, rfl, HS.out, by simp⟩
                case measure => simp [intOf]; omega
              · rw [if_neg hxz] at HS
                go_wp2_with fail
                go_roundw
                case rel => exact ⟨k + 1, true, z, by omega, by go_num, rfl, rfl, HS.out, by simp⟩
                case measure => simp [intOf]; omega
          · rw [decide_eq_false hLx] at HS
            simp only [Bool.or_false, Bool.false_eq_true, false_and, if_false] at HS
            go_wp2_with fail
            go_roundw
            case rel => exact ⟨k + 1, f, z, by omega, by go_num, rfl, rfl, HS.out, by simp⟩
            case measure => simp [intOf]; omega
      · obtain rfl : n = k := by omega
        have hL := HL.out
        rw [← Hzl.out] at hL
        cases f with
        | false =>
          have HR := Lib.hid (firsts_end HF.out hL)
          have HX := Lib.hid (nums_own Hown.out HC.out)
          clear hL
          go_wp2_with fail
          go_ret
          exact ⟨_, out, rfl, HX.out, HR.out, Hbw.out⟩
        | true =>
          obtain ⟨h1, h2⟩ := firsts_more HF.out hL
          have HF2 := Lib.hid h1
          have hK := HK.out
          clear hL h1
          go_wp2_with (at_builtin; refine wpList_append_own _ rfl _ _ 38 rfl w.heap.size 24 i0 (.int .u64 0) 1 8 Tryz.underlying38 hi hz0 hz1 hz2 rfl (by decide) _ _ _ rfl (Hown.out.alloc _) ⟨wr.heap.size, 0, none⟩ 1 1 [.int .u64 (z : Int)] rfl rfl (one_cell _ _ _) (one_list _ rfl) ?c3 ?c4 ?c5 ?_)
          case c3 => unfold maxLen; omega
          case c4 => omega
          case c5 => exact Nat.le_trans Hbw.out.size (by simp)
          intro v' w2 hown1 hgrow _
          have Hb1 := Lib.hid ((Hbw.out.alloc Hbw.out.size _).grown hgrow (Nat.le_trans Hbw.out.size (by simp)) (fun q hq => (Hown.out.lt q hq).1))
          have Hown1 := Lib.hid hown1
          clear hown1 hgrow
          go_wp2_with fail
          go_roundg (zs.filter (bey (out ++ [(z : Int)]))).length
          case measure => omega
          case rel => exact ⟨c + 1, out ++ [(z : Int)], by show _ = _; rw [List.length_append, HC.out]; rfl, by rw [List.map_append]; exact Hown1.out, HF2.out, Nat.le_refl _, by omega, Hb1.out⟩
end Go.Proofs.YtajjikbigacbaaaGreatDoor
