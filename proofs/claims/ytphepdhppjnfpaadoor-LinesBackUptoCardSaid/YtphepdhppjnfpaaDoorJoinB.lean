import Derived.Test.YtphepdhppjnfpaaDoorJoinA
namespace Go.Proofs.YtphepdhppjnfpaaDoor
open Go.RowKit Num

set_option maxRecDepth 100000 in
set_option maxHeartbeats 8000000 in
theorem refJoined_any (v : Value) (ss : List ByteArray) (w : World) (hv : Texts w v ss) (hN : joinN ss ≤ 1073741824) :
    Calls Tryd.prog 26 #[v] w fun e w' => e = .returned (.string (joinT ss)) ∧ Below w.heap.size w w' := by
  obtain ⟨i0, hi, hz0, hz1, hz2⟩ := info_parts infoByte
  rcases hv with ⟨ao, cap, rfl, rfl⟩ | ⟨b, o, cap, rfl, hp, hc, hm, hcell⟩
  · have hcv : ∀ w : World, (convert 23 9 (.slice none 0 0)).run Tryd.prog w = .ok (.string (joinT [])) w := fun w => run_rowText w (B := 0) (l := []) (World.ownsRow_nil _ _ _ _)
    go_enter Tryd.func26, Tryd.ntmps26
    go_wp2_with fail
    go_loop [3, 4] (fun v i => v = .slice none 0 0 ∧ i = .int .i64 0) (fun _ _ => 0)
    case atStart => exact ⟨rfl, rfl⟩
    case round =>
      obtain ⟨rfl, rfl⟩ := hrel
      go_wp2_with fail
      go_ret
      exact ⟨rfl, Below.refl _ _⟩
  · obtain ⟨n, hn⟩ : ∃ n, ss.length = n := ⟨_, rfl⟩
    have Hn := Lib.hid hn
    have Hc := Lib.hid hcell
    rw [hn] at hp hc ⊢
    clear hn hcell
    unfold maxLen at hm
    go_enter Tryd.func26, Tryd.ntmps26
    go_wp2_with fail
    go_loopw [3, 4] (fun v i wr => ∃ (k : Nat) (l : List UInt8), k ≤ n ∧ i = .int .i64 k ∧ Hid (joinL ((ss.take k).map fun s => s.data.toList) = l) ∧ wr.ownsRow w.heap.size 5 1 v l.length (Lib.byteCells l) ∧ Below w.heap.size w wr) (fun _ i _ => n - (intOf i).toNat)
    case atStart => exact ⟨0, [], Nat.zero_le _, rfl, rfl, World.ownsRow_nil _ _ _ _, Below.refl _ _⟩
    case round =>
      obtain ⟨k, l, hk, rfl, Hl, hown, hbw⟩ := hrel
      have hbs := hbw.size
      by_cases hlt : k < n
      · have hks : k < ss.length := by rw [Hn.out]; exact hlt
        have c1 : wr.cell? ⟨b, o + k, none⟩ = some (.string (ss[k]'hks)) := cell_kept hbw (Hc.out k hks)
        have hle := joinN_take ss k hks
        have HJ := Lib.hid (join_take ss k hks)
        obtain ⟨x, hx⟩ : ∃ x, ss[k]'hks = x := ⟨_, rfl⟩
        have Hx := Lib.hid hx
        rw [hx] at c1 hle
        rw [Hl.out] at hle
        have Hbw := Lib.hid hbw
        clear hx hbw
        go_wp2_with (at_builtin; refine Lib.wpList_append_own_string _ rfl _ _ 23 9 rfl w.heap.size 5 i0 Tryd.underlying23 Tryd.underlying9 hi hz0 hz1 hz2 _ _ _ rfl hown x rfl ?c3 ?c4 ?c5 ?_)
        case c3 => unfold maxLen; omega
        case c4 => omega
        case c5 => exact hbs
        intro v' w1 hown1 hgrow _
        have hb1 : Below w.heap.size w w1 := Hbw.out.grown hgrow hbs (fun q hq => (hown.lt q hq).1)
        have hown2 : w1.ownsRow w.heap.size 5 1 v' (l ++ x.data.toList).length (Lib.byteCells (l ++ x.data.toList)) := by
          rw [← byteCells_append, ← str_cells]
          have e : (l ++ x.data.toList).length = l.length + x.size := by simp
          rw [e]
          exact hown1
        have hlen : (l ++ x.data.toList).length ≤ 1073741823 := by simp; omega
        have hbs1 := hb1.size
        have Hb1 := Lib.hid hb1
        clear hown1 hown hgrow hb1
        go_wp2_with (at_builtin; refine wpList_append_own _ rfl _ _ 23 rfl w.heap.size 5 i0 (.int .u8 0) 1 1 Tryd.underlying23 hi hz0 hz1 hz2 rfl (by decide) _ _ _ rfl (hown2.alloc _) ⟨w1.heap.size, 0, none⟩ 1 1 [.int .u8 10] rfl rfl ?d1 ?d2 ?d3 ?d4 ?d5 ?_)
        case d1 =>
          intro i u hu
          match i, hu with
          | 0, hu => simp at hu; subst hu; simp [Addr.add]
          | i + 1, hu => simp at hu
        case d2 => intro u hu; rw [List.mem_singleton] at hu; subst hu; rfl
        case d3 => unfold maxLen; omega
        case d4 => omega
        case d5 => exact Nat.le_trans hbs1 (by simp)
        intro v2 w2 hown3 hgrow2 _
        have hb2 : Below w.heap.size w w2 := (Hb1.out.alloc hbs1 _).grown hgrow2 (Nat.le_trans hbs1 (by simp)) (fun q hq => (hown2.lt q hq).1)
        have hown4 : w2.ownsRow w.heap.size 5 1 v2 (l ++ x.data.toList ++ [10]).length (Lib.byteCells (l ++ x.data.toList ++ [10])) := by
          have e : Lib.byteCells (l ++ x.data.toList ++ [10]) = Lib.byteCells (l ++ x.data.toList) ++ [.int .u8 10] := by simp [Lib.byteCells]
          have e2 : (l ++ x.data.toList ++ [10]).length = l.length + x.size + 1 := by simp; omega
          rw [e, e2]
          exact hown3
        have HN : Hid (joinL ((ss.take (k + 1)).map fun s => s.data.toList) = l ++ x.data.toList ++ [10]) := by
          show _ = _
          rw [HJ.out, Hl.out, Hx.out]
        clear hown3 hown2 hgrow2
        go_wp2_with fail
        go_roundw
        case rel => exact ⟨k + 1, _, by omega, by go_num, HN, hown4, hb2⟩
        case measure => simp [intOf]; omega
      · have hall : ss.take k = ss := List.take_of_length_le (by rw [Hn.out]; omega)
        have hl2 := Hl.out
        rw [hall] at hl2
        have Hl2 := Lib.hid hl2
        have hcv := run_rowText wr hown
        clear hall hl2
        go_wp2_with fail
        go_ret
        exact ⟨by rw [joinT, Hl2.out]; rfl, hbw⟩
end Go.Proofs.YtphepdhppjnfpaaDoor
