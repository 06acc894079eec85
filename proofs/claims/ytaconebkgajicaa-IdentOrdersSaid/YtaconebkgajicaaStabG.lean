/- Own work: slices.Clone, SortStableFunc at lines; ident.Sorted. -/
import Derived.Test.YtaconebkgajicaaStabF
import Derived.Lib.SliceRun
namespace Go.Proofs.Ytaconebkgajicaa
open Go.RowKit Go.Sort Go.Shelf

theorem flatK_list (d : Array TL) : (flatK encT 4 d).toList = flatL (d.toList.map Prod.fst) := by
  apply List.ext_getElem?
  intro t
  by_cases ht : t < d.size * 4
  · have e1 : (flatK encT 4 d).toList[t]? = some ((flatK encT 4 d)[t]!) := by
      rw [getElem!_pos _ t (by simpa using ht)]
      simp [ht]
    rw [e1, get_flatK _ _ _ _ ht]
    obtain ⟨q, r, hr, rfl⟩ : ∃ q r, r < 4 ∧ t = q * 4 + r := ⟨t / 4, t % 4, by omega, by omega⟩
    have hq : q < d.size := by omega
    rw [show (q * 4 + r) / 4 = q by omega, show (q * 4 + r) % 4 = r by omega]
    obtain ⟨f0, f1, f2, f3⟩ := flatL_get (d.toList.map Prod.fst) q (by simpa using hq)
    have hx : (d.toList.map Prod.fst)[q]'(by simpa using hq) = (d[q]!).1 := by rw [getElem!_pos d q hq]; simp
    rw [hx] at f0 f1 f2 f3
    match r, hr with
    | 0, _ => rw [Nat.add_zero, f0]; rfl
    | 1, _ => rw [f1]; rfl
    | 2, _ => rw [f2]; rfl
    | 3, _ => rw [f3]; rfl
  · rw [List.getElem?_eq_none (by simpa using Nat.le_of_not_lt ht), List.getElem?_eq_none (by rw [flatL_len]; simpa using Nat.le_of_not_lt ht)]
/-- the lines, each with its place -/
def tagged (l : List LineV) : Array TL := l.zipIdx.toArray
theorem tagged_size (l : List LineV) : (tagged l).size = l.length := by simp [tagged]
theorem tagged_fst (l : List LineV) : (tagged l).toList.map Prod.fst = l := by simp [tagged]
theorem tagged_tag (l : List LineV) : ∀ t, t < (tagged l).size → tgT (tagged l)[t]! = t := by
  intro t ht
  rw [getElem!_pos _ t ht]
  simp [tagged, tgT]
theorem own_holds {w : World} {B g n cap : Nat} {e : TypeId} {l : List LineV} (h : w.ownsRow B e 4 (.slice (some ⟨g, 0, none⟩) n cap) n (flatL l)) : HoldsK encT 4 w g 0 (tagged l) ∧ g < w.heap.size := by
  rcases h.2 with ⟨e, _⟩ | ⟨g', cap', cur, hv, _, hg, hnc, hcm, _, htake⟩
  · cases e
  · cases hv
    refine ⟨fun j hj => ⟨?_, by simp [World.frozen?, hg]⟩, (Array.getElem?_eq_some_iff.1 hg).1⟩
    have hj2 : j < (tagged l).size * 4 := by simpa using hj
    have hn : n = l.length := by have := h.1; rw [flatL_len] at this; omega
    rw [tagged_size, ← hn] at hj2
    have h1 := h.cellAt j (by omega)
    rw [Nat.zero_add, h1]
    have h2 : flatL l = (flatK encT 4 (tagged l)).toList := by rw [flatK_list, tagged_fst]
    rw [h2, id, getElem!_pos _ j hj]
    simp
theorem swk_block {w W : World} {g : Nat} {d : Array TL} {cur : Array Value} {e : TypeId} (h : SWK encT 4 w g 0 d W) (hg : w.heap[g]? = some (.cells cur e (0, 0))) : W.heap[g]? = some (.cells (putCells id 0 (flatK encT 4 d) cur) e (0, 0)) := by
  obtain ⟨n, os, rfl⟩ := h
  have hlt := (Array.getElem?_eq_some_iff.1 hg).1
  unfold sortWorldK
  rw [heap_grow_old _ _ (by rw [size_putRowK]; exact hlt)]
  unfold putRowK putRow mapBlock
  simp only [Sort.ahead, Array.getElem?_modify, if_true, hg, Option.map_some, onCells]
theorem swk_grown {w W : World} {g : Nat} {d : Array TL} (h : SWK encT 4 w g 0 d W) : w.grownBy W (some g) := by
  obtain ⟨n, os, rfl⟩ := h
  refine ⟨rfl, rfl, rfl, (SWK.le ⟨n, os, rfl⟩), fun k hk hne => ?_⟩
  unfold sortWorldK
  rw [heap_grow_old _ _ (by rw [size_putRowK]; exact hk)]
  unfold putRowK putRow mapBlock
  have : ¬ g = k := fun e => hne (by rw [e])
  simp [Sort.ahead, Array.getElem?_modify, this]
theorem own_sorted {w W : World} {B g n cap : Nat} {e : TypeId} {xs : List Value} {d : Array TL} (h : w.ownsRow B e 4 (.slice (some ⟨g, 0, none⟩) n cap) n xs) (hs : SWK encT 4 w g 0 d W) (hd : d.size = n) :
    W.ownsRow B e 4 (.slice (some ⟨g, 0, none⟩) n cap) n (flatL (d.toList.map Prod.fst)) := by
  rcases h.2 with ⟨e, _⟩ | ⟨g', cap', cur, hv, hB, hg, hnc, hcm, hsz, htake⟩
  · cases e
  · cases hv
    refine ⟨by rw [flatL_len]; simp [hd], .inr ⟨g, cap, _, rfl, hB, swk_block hs hg, hnc, hcm, by simp [putCells, hsz], ?_⟩⟩
    rw [← flatK_list]
    apply List.ext_getElem?
    intro k
    by_cases hk : k < n * 4
    · have hk2 : k < cur.size := by rw [hsz]; omega
      have hk3 : k < d.size * 4 := by omega
      have hk4 : k < (flatK encT 4 d).size := by simpa using hk3
      rw [List.getElem?_take_of_lt hk]
      simp [putCells, hk2, hk3]
    · rw [List.getElem?_eq_none (by simp; omega), List.getElem?_eq_none (by simp [hd]; omega)]

theorem own_none4 {W : World} {B H : Nat} {e : TypeId} (h : W.heap[H]? = some (.cells #[] e (0, 0))) (hB : B ≤ H) : W.ownsRow B e 4 (.slice (some ⟨H, 0, none⟩) 0 0) 0 [] :=
  ⟨rfl, .inr ⟨H, 0, #[], rfl, hB, h, Nat.le_refl _, Nat.zero_le _, rfl, rfl⟩⟩
/-- the lines in order: equals as they stood -/
def Stable (l out : List LineV) : Prop := ∃ os : List TL, os.Perm l.zipIdx ∧ os.Pairwise (fun x y => PT y x = false) ∧ out = os.map Prod.fst
theorem Stable.length {l out : List LineV} (h : Stable l out) : out.length = l.length := by
  obtain ⟨os, h1, _, rfl⟩ := h
  simpa using h1.length_eq
theorem Stable.one {l a b : List LineV} (h : Stable l a) (k : Stable l b) : a = b := by
  obtain ⟨os, h1, h2, rfl⟩ := h
  obtain ⟨ps, k1, k2, rfl⟩ := k
  congr 1
  refine List.Perm.eq_of_pairwise (le := fun x y => PT y x = false) (fun x y hx hy h3 h4 => ?_) h2 k2 (h1.trans k1.symm)
  have hx := (h1.mem_iff).1 hx
  have hy := (k1.mem_iff).1 hy
  rw [pB_f] at h3 h4
  have e : x.2 = y.2 := by
    rcases h3.2 with h | h
    · rw [h4.1] at h; cases h
    · rcases h4.2 with h' | h'
      · rw [h3.1] at h'; cases h'
      · exact Nat.le_antisymm h h'
  obtain ⟨x1, x2⟩ := x
  obtain ⟨y1, y2⟩ := y
  simp only at e
  subst e
  have a1 := (List.mem_zipIdx hx).2.2
  have a2 := (List.mem_zipIdx hy).2.2
  rw [a1, a2]
theorem stable_of {l : List LineV} {d : Array TL} (hp : PermIn 0 l.length (tagged l) d) (hs : SortedIn PT 0 l.length d) : Stable l (d.toList.map Prod.fst) := by
  have hsz : d.size = l.length := hp.1.trans (tagged_size l)
  refine ⟨d.toList, ?_, ?_, rfl⟩
  · have h := hp.2.2
    rw [Array.extract_eq_self_of_le (by omega), Array.extract_eq_self_of_le (by rw [tagged_size]; exact Nat.le_refl _)] at h
    simpa [tagged] using h
  · rw [List.pairwise_iff_getElem]
    intro i j hi hj hij
    have := hs i j (Nat.zero_le _) hij (by simpa [hsz] using hj)
    rw [getElem!_pos d i (by simpa using hi), getElem!_pos d j (by simpa using hj)] at this
    simpa using this

set_option maxHeartbeats 4000000 in
set_option maxRecDepth 100000 in
theorem clone_any (v : Value) (l : List LineV) (w : World) (hv : Lns w v l) (hf : SliceForm v) (hlen : l.length * 40 ≤ 140737488355328) :
    Calls Try.prog 24 #[v] w fun e w' => ∃ v', e = .returned v' ∧ w'.ownsRow w.heap.size 27 4 v' l.length (flatL l) ∧ Below w.heap.size w w' := by
  have q22 : ∀ (w : World) (a : Option Addr) (n c n' c' : Nat), (binOp .eql 22 (.slice a n c) (.slice none n' c')).run Try.prog w = .ok (.bool a.isNone) w := fun w a n c n' c' => Lib.run_eql_slice_nil w _ _ a n c n' c' Try.underlying22
  rcases hf with rfl | ⟨ad, m, cap, rfl⟩
  · have hl : l = [] := by
      rcases hv with ⟨_, _, _, h2⟩ | ⟨_, _, _, h1, _⟩
      · exact h2
      · cases h1
    subst hl
    go_enter Try.func24, Try.ntmps24
    go_wp2
    go_ret
    exact ⟨_, rfl, ⟨rfl, .inl ⟨rfl, rfl⟩⟩, Below.refl _ _⟩
  · have Hv := Lib.hid hv
    have hal : Below w.heap.size w (w.alloc (.cells #[] 27)) := (Below.refl _ _).alloc (Nat.le_refl _) _
    clear hv
    go_enter Try.func24, Try.ntmps24
    go_wp2_with (at_builtin; first
      | (refine wpList_append_lines rfl _ _ rfl w.heap.size _ 0 [] rfl (own_none4 (heap_alloc_new w _) (Nat.le_refl _)) _ l rfl (Hv.out.kept hal) (.inr ⟨_, _, _, rfl⟩) (by omega) (by simp) ?_
         intro v1 w1 hown1 hg1
         have B1 := Lib.hid (hal.grown hg1 (by simp) (fun q hq => by cases hq; exact Nat.le_refl _))
         have Hown1 := Lib.hid hown1
         clear hown1 hg1))
    go_ret
    exact ⟨_, rfl, by simpa using Hown1.out, B1.out⟩
end Go.Proofs.Ytaconebkgajicaa
