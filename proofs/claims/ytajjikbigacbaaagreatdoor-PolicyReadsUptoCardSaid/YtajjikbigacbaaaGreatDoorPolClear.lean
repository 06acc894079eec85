/- Own work: a policy's clearances. -/
import Derived.Test.YtajjikbigacbaaaGreatDoorRise
import Derived.Test.YtajjikbigacbaaaGreatDoorPolCalls
namespace Go.Proofs.YtajjikbigacbaaaGreatDoor
open Go.RowKit Go.Maps Go.Shelf Go.Sort Go.Lib

theorem own_putU {w : World} {B g n cap : Nat} {e : TypeId} {xs : List Value} {c : Array Int} (h : w.ownsRow B e 1 (.slice (some ⟨g, 0, none⟩) n cap) n xs) (hs : c.size = n) (q : Nat) :
    (RowU w g 0 q c).ownsRow B e 1 (.slice (some ⟨g, 0, none⟩) n cap) n (c.toList.map (Value.int .u64)) := by
  rcases h.2 with ⟨e, _⟩ | ⟨g', cap', cur, hv, hB, hg, hnc, hcm, hsz, htake⟩
  · cases e
  · cases hv
    refine ⟨by simp [hs], .inr ⟨g, cap, putCells (Value.int .u64) 0 c cur, rfl, hB, ?_, hnc, hcm, by simp [putCells, hsz], ?_⟩⟩
    · show ((Sort.ahead w q).heap.modify g _)[g]? = _
      rw [Array.getElem?_modify, if_pos rfl]
      show (w.heap[g]?).map _ = _
      rw [hg]
      rfl
    · apply List.ext_getElem?
      intro k
      by_cases hk : k < n
      · have hk2 : k < cur.size := by rw [hsz]; omega
        have hk3 : k < c.size := by omega
        rw [List.getElem?_take_of_lt (by omega)]
        simp [putCells, hk2, hk3]
      · rw [List.getElem?_eq_none (by simp; omega), List.getElem?_eq_none (by simp [hs]; omega)]
theorem own_less {w : World} {B g n m cap : Nat} {e : TypeId} {xs : List Value} (h : w.ownsRow B e 1 (.slice (some ⟨g, 0, none⟩) n cap) n xs) (hm : m ≤ n) : w.ownsRow B e 1 (.slice (some ⟨g, 0, none⟩) m cap) m (xs.take m) := by
  have hl := h.1
  rcases h.2 with ⟨e, _⟩ | ⟨g', cap', cur, hv, hB, hg, hnc, hcm, hsz, htake⟩
  · cases e
  · cases hv
    exact ⟨by rw [List.length_take]; omega, .inr ⟨g, cap, cur, rfl, hB, hg, by omega, hcm, hsz, by rw [← htake, List.take_take]; congr 1; omega⟩⟩

set_option maxHeartbeats 4000000 in
set_option maxRecDepth 100000 in
theorem clearM_any (p : Value) (vs : List Vw) (w : World) (hp : Pol w p vs) :
    Calls Tryz.prog 17 #[p] w fun e w' => ∃ v m out, e = .returned v ∧ w'.ownsRow w.heap.size 24 1 v m (out.map (Value.int .u64)) ∧ Rises (vs.map fun v => (v.lab : Int)) out ∧ Below w.heap.size w w' := by
  have HP := Lib.hid hp
  have Ha := Lib.hid (asks_all (g := 63) (enc := fun v => .int .u64 (v.lab : Int)) (is := fun _ => true) (w := w) hp.facts.2.2 fun W v _ _ => clear1_any v.nm v.lab W)
  have hle := hp.facts.2.1.1
  obtain ⟨zs, hzs⟩ : ∃ zs : List Int, (vs.map fun v => (v.lab : Int)) = zs := ⟨_, rfl⟩
  have hzl : zs.length = vs.length := by rw [← hzs, List.length_map]
  rw [hzs]
  clear hp
  go_enter Tryz.func17, Tryz.ntmps17
  go_wp2_with fail
  refine (toldL_any _ _ (enters_at Tryz.func63 (by kernel_rfl) rfl) _ p vs _ HP.out Ha.out).mono ?_
  rintro e w1 ⟨u, rfl, hown, hb⟩
  have hfl : (vs.filter fun _ => true) = vs := List.filter_eq_self.2 fun _ _ => rfl
  have hvals : (vs.map fun v => Value.int .u64 (v.lab : Int)) = zs.map (Value.int .u64) := by rw [← hzs, List.map_map]; rfl
  rw [hfl, hvals, ← hzl] at hown
  rw [← hzl] at hle
  have B1 := Lib.hid hb
  have Hzs := Lib.hid hzs
  clear hfl hvals hb hzs hzl
  rcases Joins.ownsRow_forms hown with ⟨rfl, h0⟩ | ⟨g, cap, rfl⟩
  · have hz : zs = [] := List.eq_nil_of_length_eq_zero h0
    subst hz
    have HO := Lib.hid hown
    clear hown
    go_wp2_with fail
    refine (sortN_any _).mono ?_
    rintro e w2 ⟨rfl, rfl⟩
    go_wp2_with fail
    refine (compactN_any _).mono ?_
    rintro e w2 ⟨rfl, rfl⟩
    go_wp2_with fail
    go_ret
    exact ⟨_, 0, [], rfl, HO.out, ⟨.nil, fun x => Iff.rfl⟩, B1.out⟩
  · have hg := hown.lt g rfl
    have hcap : zs.length ≤ cap ∧ cap ≤ maxLen := by
      rcases hown.2 with ⟨h1, _⟩ | ⟨g', cap', cur, hv, _, _, hnc, hcm, _⟩
      · cases h1
      · cases hv; exact ⟨hnc, hcm⟩
    have Hown := Lib.hid hown
    have hhh := holdsU_own hown rfl
    have HH := Lib.hid hhh
    have hn62 : zs.length < 4611686018427387904 := by omega
    have HS := Lib.hid (sortU_any g 0 cap zs w1 hhh hg.2 hn62)
    clear hown hhh
    go_wp2_with fail
    refine HS.out.mono ?_
    rintro e w2 ⟨rfl, hat⟩
    have Hsc := Lib.hid (sort_compact zs)
    have hml : (zs.mergeSort fun x y => decide (x ≤ y)).length = zs.length := List.length_mergeSort _
    obtain ⟨ss, hss⟩ : ∃ ss, (zs.mergeSort fun x y => decide (x ≤ y)) = ss := ⟨_, rfl⟩
    rw [hss] at hat Hsc hml
    have hsz : ss.toArray.size = zs.length := by simpa using hml
    have B2 := Lib.hid (below_atU B1.out hat hg.1 B1.out.size)
    have hH2 := hat.holds HH.out (by simpa using hml) hg.2
    have hown2 : w2.ownsRow w.heap.size 24 1 (.slice (some ⟨g, 0, none⟩) zs.length cap) zs.length (ss.map (Value.int .u64)) := by
      obtain ⟨q, os, rfl⟩ := hat
      have h1 := own_putU Hown.out hsz q
      exact own_kept (by simpa using h1) ((Below.refl _ _).trans (below_os (Below.refl _ _) (Nat.le_refl _) os))
    have HH2 := Lib.hid hH2.1
    have Hown2 := Lib.hid hown2
    clear hat hH2 hown2 hss
    go_wp2_with fail
    have hC := Tryz.slices_Compact (Value.int .u64) (fun _ => rfl) (Go.Proofs.EqlAt.intD _ _ _) (Go.Proofs.NeqAt.intD _ _ _) 0 Tryz.zeroValue24 g 0 cap ss.toArray _ HH2.out (by omega) (by omega)
    rw [hsz] at hC
    refine hC.mono ?_
    rintro e w3 ⟨he, q, rfl⟩
    rw [hsz] at Hsc
    obtain ⟨out, hout⟩ : ∃ out, compactUpTo ss.toArray zs.length = out := ⟨_, rfl⟩
    rw [hout] at he Hsc ⊢
    have hol : out.length ≤ zs.length := by
      rw [← hout]
      unfold compactUpTo
      rw [List.length_map]
      exact Nat.le_trans (List.length_filter_le _ _) (by simp)
    subst he
    have h3 := own_less (own_putU Hown2.out (c := (out ++ List.replicate (zs.length - out.length) (0 : Int)).toArray) (by simp; omega) q) hol
    have e3 : ((out ++ List.replicate (zs.length - out.length) (0 : Int)).toArray.toList.map (Value.int .u64)).take out.length = out.map (Value.int .u64) := by
      simp [List.map_append]
    rw [e3] at h3
    have H3 := Lib.hid h3
    have B3 := Lib.hid (below_row B2.out q g 0 (out ++ List.replicate (zs.length - out.length) (0 : Int)).toArray hg.1)
    clear h3 e3 hout hC
    go_wp2_with fail
    go_ret
    exact ⟨_, _, out, rfl, H3.out, Hsc.out, B3.out⟩
end Go.Proofs.YtajjikbigacbaaaGreatDoor
