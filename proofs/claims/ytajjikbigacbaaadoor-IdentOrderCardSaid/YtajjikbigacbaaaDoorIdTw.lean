/- Own work: ident.Twice. -/
import Derived.Test.YtajjikbigacbaaaDoorIdMath
namespace Go.Proofs.YtajjikbigacbaaaDoor
open Go.RowKit Go.Maps

set_option maxHeartbeats 1000000 in
theorem of_any (a b c : Int) (s : ByteArray) (w : World) :
    Calls Tryd.prog 27 #[.agg #[.int .u64 a, .int .i64 b, .int .i64 c, .string s]] w fun e w' => e = .returned (.agg #[.int .u64 a, .int .i64 b]) ∧ Below w.heap.size w w' := by
  go_enter Tryd.func27, Tryd.ntmps27
  go_wp2
  refine bodyPost_ret (v := .agg #[.int .u64 a, .int .i64 b]) (results_cell_row (by rfl) _ _ (w.heap.size + 1) 65 _ (0, 0) _ rfl ?_ Tryd.underlying65 rfl (by kernel_rfl)) rfl ⟨rfl, ((Below.refl _ _).alloc (Nat.le_refl _) _).alloc (by simp) _⟩
  have := heap_alloc_new (w.alloc (.cells #[.int .u64 a, .int .i64 b, .int .i64 c, .string s] 25)) (.cells #[.int .u64 a, .int .i64 b] 65)
  rw [World.size_alloc] at this
  exact this
theorem four_new (w : World) (a b c : Int) (s : ByteArray) (t : TypeId) : (w.alloc (.cells #[.int .u64 a, .int .i64 b, .int .i64 c, .string s] t)).cell? ⟨w.heap.size, 0, none⟩ = some (.int .u64 a) ∧
    (w.alloc (.cells #[.int .u64 a, .int .i64 b, .int .i64 c, .string s] t)).cell? ⟨w.heap.size, 1, none⟩ = some (.int .i64 b) ∧
    (w.alloc (.cells #[.int .u64 a, .int .i64 b, .int .i64 c, .string s] t)).cell? ⟨w.heap.size, 2, none⟩ = some (.int .i64 c) ∧
    (w.alloc (.cells #[.int .u64 a, .int .i64 b, .int .i64 c, .string s] t)).cell? ⟨w.heap.size, 3, none⟩ = some (.string s) :=
  ⟨cell_of_row _ _ 0 _ _ _ (heap_alloc_new w _), cell_of_row _ _ 1 _ _ _ (heap_alloc_new w _), cell_of_row _ _ 2 _ _ _ (heap_alloc_new w _), cell_of_row _ _ 3 _ _ _ (heap_alloc_new w _)⟩
theorem run_makeSet (w : World) (n : Int) : (Instr.makeMap 61 (some (.int .i64 n))).run Tryd.prog w = .ok (.map (some w.heap.size)) (w.alloc (.map #[] 0)) := by
  simp [Instr.makeMap, run_underlying Tryd.underlying61, asInt, asIntOf, Result.andThen]

set_option maxHeartbeats 16000000 in
set_option maxRecDepth 100000 in
theorem twice_any (u : Value) (l : List LineV) (w : World) (hu : Lns w u l) (hok : ∀ x ∈ l, x.ok) :
    Calls Tryd.prog 14 #[u] w fun e w' => e = .returned (.tuple #[.int .i64 (twV l).1, .bool (twV l).2]) ∧ Below w.heap.size w w' := by
  obtain ⟨ao, cap, b, o, rfl, hao, hml, hc⟩ := hu.form
  obtain ⟨n, hn⟩ : ∃ n, l.length = n := ⟨_, rfl⟩
  unfold maxLen at hml
  have Hn := Lib.hid hn
  rw [hn] at hao hml ⊢
  have Hao := Lib.hid hao
  have Hc := Lib.hid hc
  have Hok := Lib.hid hok
  have hmk := run_makeSet
  clear hu hao hc hok hn
  go_enter Tryd.func14, Tryd.ntmps14
  go_wp2_with fail
  clear hmk
  go_loopw [14] (fun i wr => ∃ (k : Nat) (D : DataW Unit) (seen : List (Int × Int)), k ≤ n ∧ i = .int .i64 k ∧ Has D seen ∧ ISet wr w.heap.size k D ∧ Hid (twGo seen k (l.drop k) = twV l) ∧ Below w.heap.size w wr) (fun i _ => n - (intOf i).toNat)
  case atStart => exact ⟨0, .map [], [], Nat.zero_le _, rfl, has_none, World.ownsMap_made _ _ _ _, rfl, (Below.refl _ _).alloc (Nat.le_refl _) _⟩
  case round =>
    obtain ⟨k, D, seen, hk, rfl, hhas, hm, HT, hbw⟩ := hrel
    have Hhas := Lib.hid hhas
    have Hm := Lib.hid hm
    have Hbw := Lib.hid hbw
    clear hhas hm hbw
    by_cases hlt : k < n
    · have hkl : k < l.length := by rw [Hn.out]; exact hlt
      obtain rfl := Hao.out (by omega)
      obtain ⟨c0, c1, c2, c3⟩ := Hc.out k hkl
      have c0 := cell_kept Hbw.out c0
      have c1 := cell_kept Hbw.out c1
      have c2 := cell_kept Hbw.out c2
      have c3 := cell_kept Hbw.out c3
      have Hx := Lib.hid (Hok.out _ (List.getElem_mem hkl))
      have HA := Lib.hid (twGo_at hkl seen)
      obtain ⟨x, hx⟩ : ∃ x, l[k]'hkl = x := ⟨_, rfl⟩
      rw [hx] at c0 c1 c2 c3 Hx HA
      obtain ⟨x1, x2, x3, x4⟩ := x
      have hi0 : (0 : Int) ≤ (k : Int) := by omega
      have hi1 : (k : Int) < (n : Int) := by omega
      clear hx
      have hz : ∀ w : World, (zeroValue 62).run Tryd.prog w = .ok (.agg #[]) w := fun w => by kernel_rfl
      have Hbox := Lib.hid (show Below w.heap.size w (wr.alloc (.cells #[.int .u64 x1, .int .i64 x2, .int .i64 x3, .string x4] 25)) from Hbw.out.alloc Hbw.out.size _)
      have Hmb := Lib.hid (Hm.out.alloc (.cells #[.int .u64 x1, .int .i64 x2, .int .i64 x3, .string x4] 25))
      obtain ⟨d0, d1, d2, d3⟩ := four_new wr x1 x2 x3 x4 25
      go_wp2_with fail
      refine (of_any _ _ _ _ _).mono ?_
      rintro e w3 ⟨rfl, hb⟩
      have B3 := Lib.hid (below_join Hbox.out hb)
      have Hm3 := Lib.hid (iset_kept Hmb.out hb)
      have d0 := cell_kept hb d0
      have d1 := cell_kept hb d1
      have d2 := cell_kept hb d2
      have d3 := cell_kept hb d3
      have l3 := World.block_lt_of_cell? w3 _ d0
      have hkey := keyI Hx.out.1 Hx.out.2.1
      have hhas := Hhas.out x1 x2 Hx.out.1 Hx.out.2.1
      have Hw3 := Lib.hid hb.size
      clear hb
      cases hin : seen.contains (x1, x2) with
      | true =>
        rw [hin] at hhas
        go_wp2_with (at_lookup; refine wpList_lookup_own_unit _ rfl _ _ 61 rfl 65 62 keyedI Tryd.underlying61 (hz _) w.heap.size k D rfl Hm3.out _ _ rfl hkey ?_; rw [hhas])
        go_ret2
        have e : twV l = ((k : Int), true) := by rw [← HT.out, HA.out]; exact if_pos hin
        exact ⟨by rw [e]; rfl, B3.out.alloc B3.out.size _⟩
      | false =>
        rw [hin] at hhas
        go_wp2_with (at_lookup; refine wpList_lookup_own_unit _ rfl _ _ 61 rfl 65 62 keyedI Tryd.underlying61 (hz _) w.heap.size k D rfl Hm3.out _ _ rfl hkey ?_; rw [hhas])
        refine (of_any _ _ _ _ _).mono ?_
        rintro e w4 ⟨rfl, hb⟩
        have B4 := Lib.hid (below_join (B3.out.alloc B3.out.size _) hb)
        have Hm4 := Lib.hid (iset_kept (Hm3.out.alloc _) hb)
        clear hb
        go_wp2_with (at_mapUpdate; refine wpList_mapUpdate_own _ rfl _ _ _ 61 rfl 65 62 keyedI Tryd.underlying61 _ w.heap.size k D rfl Hm4.out (by unfold maxLen; omega) _ _ _ rfl rfl hkey _ [] unitElem_mk ?_; intro w5 hown5 hgrow5)
        go_roundw
        case rel =>
          refine ⟨k + 1, _, _, by omega, by go_num, Hhas.out.put Hm.out.isMap Hx.out.1 Hx.out.2.1 _, hown5, ?_, B4.out.grown hgrow5 B4.out.size (fun q hq => by cases hq; exact Nat.le_refl _)⟩
          exact (HT.out.symm.trans (HA.out.trans (if_neg (show ¬ seen.contains (x1, x2) = true by rw [hin]; decide)))).symm
        case measure => simp [intOf]; omega
    · obtain rfl : k = n := by omega
      go_wp2_with fail
      go_ret2
      have e : twV l = (0, false) := by rw [← HT.out, twGo_end (by rw [Hn.out]; exact Nat.le_refl _)]
      exact ⟨by rw [e]; rfl, Hbw.out⟩
end Go.Proofs.YtajjikbigacbaaaDoor
