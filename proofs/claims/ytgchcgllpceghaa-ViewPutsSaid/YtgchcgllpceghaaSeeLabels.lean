/- Own work: view's Labels. -/
import Derived.Test.YtgchcgllpceghaaSeeOf
import Derived.Test.YtgchcgllpceghaaRiseM
namespace Go.Proofs.Ytgchcgllpceghaa
open Go.RowKit Go.Maps Go.Shelf Go.Sort Go.Lib

set_option maxHeartbeats 4000000 in
set_option maxRecDepth 100000 in
theorem labels_any (u : Value) (l : List LineV) (w : World) (hu : Lns w u l) (hf : ∀ x ∈ l, x.fine) (hlen : l.length * 40 ≤ 140737488355328) :
    Calls Try.prog 28 #[u] w fun e w' => ∃ v m out, e = .returned v ∧ w'.ownsRow w.heap.size 24 1 v m (out.map (Value.int .u64)) ∧ Rises (l.map LineV.lab) out ∧ Below w.heap.size w w' := by
  have Hu := Lib.hid hu
  obtain ⟨ao, acap, _, _, rfl, _⟩ := hu.form
  have Hf := Lib.hid hf
  have Hlen := Lib.hid hlen
  obtain ⟨N, hN⟩ : ∃ N, l.length = N := ⟨_, rfl⟩
  have HN := Lib.hid hN
  rw [hN] at Hu ⊢
  clear hu hf hlen hN
  obtain ⟨zs, hzs⟩ : ∃ zs : List Int, l.map LineV.lab = zs := ⟨_, rfl⟩
  have hzl : zs.length = l.length := by rw [← hzs, List.length_map]
  rw [hzs]
  go_enter Try.func28, Try.ntmps28
  go_wp2_with fail
  refine (all_any ao N acap _).mono ?_
  rintro e w0 ⟨rfl, hb0, q0⟩
  have B0 := Lib.hid hb0
  have Q0 := Lib.hid q0
  clear hb0 q0
  go_wp2_with fail
  refine (toldLab_any _ _ _ _ allE (allLines_stops 4 (by decide) _ _ l w0 (Hu.out.kept B0.out) Hf.out Q0.out) (by rw [pickL_full]; have := Hlen.out; omega)).mono ?_
  rintro e w1 ⟨u1, rfl, hown, hb⟩
  rw [pickL_labs, pickL_full, hzs, ← hzl] at hown
  have hown := own_base hown B0.out.size
  have hle : zs.length * 40 ≤ 140737488355328 := by rw [hzl]; exact Hlen.out
  have B1 := Lib.hid (below_join B0.out hb)
  clear hb hzs hzl
  rcases Joins.ownsRow_forms hown with ⟨rfl, h0⟩ | ⟨g, cap, rfl⟩
  · have hz : zs = [] := List.eq_nil_of_length_eq_zero h0
    subst hz
    have HO := Lib.hid hown
    clear hown
    go_wp2_with fail
    refine (sortN_any _).mono ?_
    rintro e w2 ⟨rfl, rfl⟩
    go_wp2_with fail
    refine (compactN_any _).mono ?_
    rintro e w2 ⟨rfl, rfl⟩
    go_wp2_with fail
    go_ret
    exact ⟨_, 0, [], rfl, HO.out, ⟨.nil, fun x => Iff.rfl⟩, B1.out⟩
  · have hg := hown.lt g rfl
    have hcap : zs.length ≤ cap ∧ cap ≤ maxLen := by
      rcases hown.2 with ⟨h1, _⟩ | ⟨g', cap', cur, hv, _, _, hnc, hcm, _⟩
      · cases h1
      · cases hv; exact ⟨hnc, hcm⟩
    have Hown := Lib.hid hown
    have hhh := holdsU_own hown rfl
    have HH := Lib.hid hhh
    have hn62 : zs.length < 4611686018427387904 := by omega
    have HS := Lib.hid (sortU_any g 0 cap zs w1 hhh hg.2 hn62)
    clear hown hhh
    go_wp2_with fail
    refine HS.out.mono ?_
    rintro e w2 ⟨rfl, hat⟩
    have Hsc := Lib.hid (sort_compact zs)
    have hml : (zs.mergeSort fun x y => decide (x ≤ y)).length = zs.length := List.length_mergeSort _
    obtain ⟨ss, hss⟩ : ∃ ss, (zs.mergeSort fun x y => decide (x ≤ y)) = ss := ⟨_, rfl⟩
    rw [hss] at hat Hsc hml
    have hsz : ss.toArray.size = zs.length := by simpa using hml
    have B2 := Lib.hid (below_atU B1.out hat hg.1 B1.out.size)
    have hH2 := hat.holds HH.out (by simpa using hml) hg.2
    have hown2 : w2.ownsRow w.heap.size 24 1 (.slice (some ⟨g, 0, none⟩) zs.length cap) zs.length (ss.map (Value.int .u64)) := by
      obtain ⟨q, os, rfl⟩ := hat
      have h1 := own_putU Hown.out hsz q
      exact own_kept (by simpa using h1) ((Below.refl _ _).trans (below_os (Below.refl _ _) (Nat.le_refl _) os))
    have HH2 := Lib.hid hH2.1
    have Hown2 := Lib.hid hown2
    clear hat hH2 hown2 hss
    go_wp2_with fail
    have hC := Try.slices_Compact (Value.int .u64) (fun _ => rfl) (Go.Proofs.EqlAt.intD _ _ _) (Go.Proofs.NeqAt.intD _ _ _) 0 Try.zeroValue24 g 0 cap ss.toArray _ HH2.out (by omega) (by omega)
    rw [hsz] at hC
    refine hC.mono ?_
    rintro e w3 ⟨he, q, rfl⟩
    rw [hsz] at Hsc
    obtain ⟨out, hout⟩ : ∃ out, compactUpTo ss.toArray zs.length = out := ⟨_, rfl⟩
    rw [hout] at he Hsc ⊢
    have hol : out.length ≤ zs.length := by
      rw [← hout]
      unfold compactUpTo
      rw [List.length_map]
      exact Nat.le_trans (List.length_filter_le _ _) (by simp)
    subst he
    have h3 := own_less (own_putU Hown2.out (c := (out ++ List.replicate (zs.length - out.length) (0 : Int)).toArray) (by simp; omega) q) hol
    have e3 : ((out ++ List.replicate (zs.length - out.length) (0 : Int)).toArray.toList.map (Value.int .u64)).take out.length = out.map (Value.int .u64) := by
      simp [List.map_append]
    rw [e3] at h3
    have H3 := Lib.hid h3
    have B3 := Lib.hid (below_row B2.out q g 0 (out ++ List.replicate (zs.length - out.length) (0 : Int)).toArray hg.1)
    clear h3 e3 hout hC
    go_wp2_with fail
    go_ret
    exact ⟨_, _, out, rfl, H3.out, Hsc.out, B3.out⟩
end Go.Proofs.Ytgchcgllpceghaa
