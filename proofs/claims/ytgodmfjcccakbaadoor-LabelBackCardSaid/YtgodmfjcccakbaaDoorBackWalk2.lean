/- Own work: the walk of LabelBack. -/
import Derived.Test.YtgodmfjcccakbaaDoorParseA
import Derived.Test.YtgodmfjcccakbaaDoorAwake
import Derived.Test.YtgodmfjcccakbaaDoorLabsKit
namespace Go.Proofs.YtgodmfjcccakbaaDoor
open Go.RowKit Go.Shelf Go.Sort

theorem dig_dash : ∀ c : Fin 64, (digB c).data.toList ≠ [45] := by decide +kernel
theorem reads_dash {cs : List Nat} (h : Reads dashB cs) : False := by
  have e : parts 43 dashB.data.toList = [[45]] := parts_last 43 [45] (fun k h => by
    match k, h with
    | 0, h => simp at h
    | k + 1, h => simp at h)
  rw [h.2] at e
  have hr := h.1
  clear h
  match cs, e with
  | c :: r, e =>
    have hc : c < 64 := hr.2 c (by simp)
    rw [List.map_cons] at e
    exact dig_dash ⟨c, hc⟩ (List.cons.inj e).1
/-- label.Parse leads back from a label's text -/
theorem parse_text (a : Nat) (w : World) (ha : a < 18446744073709551616) (hv : ErrVars w) : Calls Tryd.prog 6 #[.string (textB a)] w fun e w' => e = .returned (.tuple #[.int .u64 (a : Int), .int .i64 0]) ∧ Below w.heap.size w w' := by
  by_cases h0 : a = 0
  · subst h0
    refine (parse_any (textB 0) w (by show 1 ≤ _; omega) hv).mono fun e w' ⟨hb, h⟩ => ⟨?_, hb⟩
    rcases h with ⟨_, he⟩ | ⟨hd, _⟩ | ⟨hd, _⟩
    · exact he
    · exact absurd rfl hd
    · exact absurd rfl hd
  · have hr := text_reads h0 ha rfl
    have hs := reads_size hr
    refine (parse_any (textB a) w (by omega) hv).mono fun e w' ⟨hb, h⟩ => ⟨?_, hb⟩
    rcases h with ⟨hd, _⟩ | ⟨_, cs, hc, he⟩ | ⟨_, hn, _⟩
    · rw [hd] at hr; exact (reads_dash hr).elim
    · have : cs = listN a := map_dig_inj hc.1.2 hr.1.2 (hc.2.symm.trans hr.2)
      rw [he, this, bits_listN ha]
    · exact absurd ⟨_, hr⟩ hn
/-- what label.Parse takes, label.Text writes -/
theorem parse_back (s : ByteArray) (w : World) (hs : s.size ≤ 140737488355328) (hv : ErrVars w) : Calls Tryd.prog 6 #[.string s] w fun e w' => Below w.heap.size w w' ∧
    ((∃ d : Nat, d < 18446744073709551616 ∧ textB d = s ∧ e = .returned (.tuple #[.int .u64 (d : Int), .int .i64 0])) ∨ e = .returned (.tuple #[.int .u64 0, .int .i64 4])) := by
  refine (parse_any s w hs hv).mono fun e w' ⟨hb, h⟩ => ⟨hb, ?_⟩
  rcases h with ⟨rfl, he⟩ | ⟨_, cs, hc, he⟩ | ⟨_, _, he⟩
  · exact .inl ⟨0, by omega, rfl, he⟩
  · exact .inl ⟨bitsA cs, bitsA_lt hc.1, text_bits hc, he⟩
  · exact .inr he
theorem own_len {w : World} {base : Nat} {e : TypeId} {v : Value} {n m : Nat} {xs : List Value} (h : w.ownsRow base e 1 v n xs) (hn : m = n) : w.ownsRow base e 1 v m xs := by rw [hn]; exact h
/-- is the label below one of the first k? -/
def anyTo (hs : List L64) (x k : Nat) : Bool := (hs.take k).any fun h => belowN x h.1
theorem anyTo_succ {hs : List L64} {x k : Nat} (h : k < hs.length) : anyTo hs x (k + 1) = (anyTo hs x k || belowN x (atL hs k)) := by
  have e : atL hs k = (hs[k]'h).1 := by rw [atL, List.getD_eq_getElem?_getD, List.getElem?_eq_getElem h]; rfl
  rw [anyTo, List.take_succ_eq_append_getElem h, List.any_append, e]
  simp [anyTo]
theorem high_cover {ls hs : List L64} (h : hs.map Subtype.val = hiProg (atL ls) ls.length) {i : Nat} (hi : i < ls.length) : anyTo hs (atL ls i) hs.length = true := by
  obtain ⟨x, hx, hb⟩ := hi_any_cover (f := atL ls) (n := ls.length) i hi
  rw [← h] at hx
  obtain ⟨y, hy, rfl⟩ := List.mem_map.1 hx
  rw [anyTo, List.take_length, List.any_eq_true]
  exact ⟨y, hy, hb⟩
theorem high_apart {ls hs : List L64} (h : hs.map Subtype.val = hiProg (atL ls) ls.length) {i k : Nat} (hi : i < hs.length) (hk : k < hs.length) (hne : i ≠ k) : belowN (atL hs i) (atL hs k) = false := by
  have hp := hi_pair (atL ls) ls.length
  rw [← h, List.pairwise_map, List.pairwise_iff_getElem] at hp
  have e : ∀ j (hj : j < hs.length), atL hs j = (hs[j]'hj).1 := fun j hj => by rw [atL, List.getD_eq_getElem?_getD, List.getElem?_eq_getElem hj]; rfl
  rw [e i hi, e k hk]
  rcases Nat.lt_or_gt_of_ne hne with h1 | h1
  · exact (hp i k hi hk h1).1
  · exact (hp k i hk hi h1).2

set_option maxHeartbeats 16000000 in
set_option maxRecDepth 100000 in
theorem labelBack_walk (a : Nat) (s : ByteArray) (u : Value) (l : List L64) (w : World) (ha : a < 18446744073709551616) (hs : s.size ≤ 140737488355328) (hu : Labs w u l) (hT : Deb w) (hv : ErrVars w) :
    Calls Tryd.prog 4 #[.int .u64 a, .string s, u] w fun e w' => e = .returned (.bool true) ∧ Below w.heap.size w w' := by
  obtain ⟨i0, hi, hz0, hz1, hz2⟩ := info_parts Tryd.info23
  obtain ⟨ao, cap, b, o, rfl, hao, hml, hc⟩ := hu.at
  obtain ⟨n, hn⟩ : ∃ n, l.length = n := ⟨_, rfl⟩
  have Hn := Lib.hid hn
  rw [hn] at hao hml hc ⊢
  unfold maxLen at hml
  have Hao := Lib.hid hao
  have Hc := Lib.hid hc
  have HT := Lib.hid hT
  have HV := Lib.hid hv
  clear hu hao hc hn hT hv
  go_enter Tryd.func4, Tryd.ntmps4
  go_wp2_with fail
  refine (awake_any _ HT.out).mono ?_
  rintro e w1 ⟨rfl, hb⟩
  have B1 := Lib.hid hb
  clear hb
  go_wp2_with fail
  refine (labText_any a _ ha (HT.out.kept B1.out)).mono ?_
  rintro e w2 ⟨rfl, hb⟩
  have B2 := Lib.hid (below_join B1.out hb)
  clear hb
  go_wp2_with fail
  refine (parse_text a _ ha (HV.out.kept B2.out)).mono ?_
  rintro e w3 ⟨rfl, hb⟩
  have B3 := Lib.hid (below_join B2.out hb)
  clear hb
  go_wp2_with fail
  refine (list_any a _ ha (HT.out.kept B3.out)).mono ?_
  rintro e w4 ⟨v4, rfl, hown, hb⟩
  have B4 := Lib.hid (below_join B3.out hb)
  have Hn4 := Lib.hid (Nums.of_own hown)
  have Hof := Lib.hid (show ofA (intsOf (listN a)) = a by
    have := ofA_of (listN_rise a).2
    rw [bits_listN ha] at this
    exact this)
  have Hoe := Lib.hid (show ofE (intsOf (listN a)) = 0 from ofE_of (listN_rise a).2)
  clear hb hown
  go_wp2_with fail
  refine (of_any _ _ _ Hn4.out).mono ?_
  rintro e w5 ⟨rfl, hb⟩
  rw [Hof.out, Hoe.out]
  have B5 := Lib.hid (below_join B4.out hb)
  clear hb
  go_wp2_with fail
  refine (parse_back s _ hs (HV.out.kept B5.out)).mono ?_
  rintro e w6 ⟨hb, hp⟩
  have B6 := Lib.hid (below_join B5.out hb)
  clear hb
  rcases hp with ⟨d, hd, htx, rfl⟩ | rfl
  · have Htx := Lib.hid htx
    clear htx
    go_wp2_with fail
    refine (labText_any d _ hd (HT.out.kept B6.out)).mono ?_
    rintro e w7 ⟨rfl, hb⟩
    rw [Htx.out]
    have B7 := Lib.hid (below_join B6.out hb)
    clear hb
    obtain ⟨wz, rfl⟩ : ∃ wz : World, wz = w7 := ⟨_, rfl⟩
    go_wp2_with fail
    go_loopw [13, 14] (fun v i wr => ∃ k : Nat, k ≤ n ∧ k ≤ 100 ∧ i = .int .i64 k ∧ wr.ownsRow wz.heap.size 23 1 v k (valsL (l.take k)) ∧ Below wz.heap.size wz wr) (fun _ i _ => n - (intOf i).toNat)
    case atStart => exact ⟨0, Nat.zero_le _, Nat.zero_le _, rfl, World.ownsRow_nil _ _ _ _, Below.refl _ _⟩
    case round =>
      obtain ⟨k, hk, hk2, rfl, hown, hbw⟩ := hrel
      have Hown := Lib.hid hown
      have Hbw := Lib.hid hbw
      clear hown hbw
      by_cases hlt : k < n ∧ k < 100
      · obtain ⟨hlt, hlt2⟩ := hlt
        obtain rfl := Hao.out (by omega)
        have hkl : k < l.length := by have := Hn.out; omega
        have ck := cell_kept (below_join B7.out Hbw.out) (Hc.out k hlt)
        have hax : atL l k = (l[k]'hkl).1 := by rw [atL, List.getD_eq_getElem?_getD, List.getElem?_eq_getElem hkl]; rfl
        have Htk : Hid (valsL (l.take (k + 1)) = valsL (l.take k) ++ [.int .u64 ((atL l k : Nat) : Int)]) := by
          show _ = _
          rw [hax, List.take_succ_eq_append_getElem hkl, valsL, List.map_append]; rfl
        have hi0 : (0 : Int) ≤ (k : Int) := by omega
        have hi1 : (k : Int) < (n : Int) := by omega
        have hi2 : (k : Int) < 100 := by omega
        obtain ⟨x, hx⟩ : ∃ x, atL l k = x := ⟨_, rfl⟩
        rw [hx] at ck
        have Hx := Lib.hid hx
        clear hx hax
        go_wp2_with (at_builtin; refine wpList_append_own _ rfl _ _ 34 rfl wz.heap.size 23 i0 (.int .u64 0) 1 8 Tryd.underlying34 hi hz0 hz1 hz2 rfl (by decide) _ _ _ rfl (Hown.out.alloc _) ⟨wr.heap.size, 0, none⟩ 1 1 [.int .u64 x] rfl rfl (one_cellL _ _ _) (one_listL _ rfl) ?d3 ?d4 ?d5 ?_)
        case d3 => unfold maxLen; omega
        case d4 => omega
        case d5 => exact Nat.le_trans Hbw.out.size (by simp)
        intro v3 w3 hown3 hgrow3 _
        have B3 := Lib.hid ((Hbw.out.alloc Hbw.out.size _).grown hgrow3 (Nat.le_trans Hbw.out.size (by simp)) (fun q hq => (Hown.out.lt q hq).1))
        have Ho3 := Lib.hid hown3
        clear hown3 hgrow3
        go_wp2_with fail
        go_roundw
        case rel => exact ⟨k + 1, by omega, by omega, by go_num, by rw [Htk.out, Hx.out]; exact Ho3.out, B3.out⟩
        case measure => simp [intOf]; omega
      · obtain ⟨ls, hls⟩ : ∃ ls, l.take k = ls := ⟨_, rfl⟩
        have hll : ls.length = k := by rw [← hls, List.length_take]; have := Hn.out; omega
        have h1 := Hown.out
        rw [hls] at h1
        have Hin := Lib.hid (Labs.of_own (own_len h1 hll))
        have Hll := Lib.hid hll
        have hstop : (n : Int) ≤ (k : Int) ∨ ((k : Int) < (n : Int) ∧ (100 : Int) ≤ (k : Int)) := by omega
        have Bq := Lib.hid (below_join B7.out Hbw.out)
        clear hls hll h1 Hown
        rcases hstop with hs1 | ⟨hs1, hs2⟩
        all_goals
          go_wp2_with fail
          refine (highest_any _ ls _ Hin.out (by rw [Hll.out]; omega)).mono ?_
          rintro e w8 ⟨hv8, hs8, rfl, hhs, hown8, hb8⟩
          have B8 := Lib.hid (below_join Bq.out hb8)
          have Hhs := Lib.hid hhs
          obtain ⟨m, hm⟩ : ∃ m, hs8.length = m := ⟨_, rfl⟩
          have hm100 : m ≤ k := by
            have h2 := congrArg List.length hhs
            rw [List.length_map] at h2
            have h3 := hiProg_len (atL ls) ls.length
            rw [← hm, h2]
            have := Hll.out
            omega
          obtain ⟨ia, ic, ib, io, rfl, hia, _, hic⟩ := (Hin.out.kept hb8).at
          obtain ⟨ja, jc, jb, jo, rfl, hja, _, hjc⟩ := (Labs.of_own hown8).at
          rw [hm] at hja hjc ⊢
          rw [Hll.out] at hia hic ⊢
          have Hm := Lib.hid hm
          have Hia := Lib.hid hia
          have Hic := Lib.hid hic
          have Hja := Lib.hid hja
          have Hjc := Lib.hid hjc
          clear hb8 hhs hown8 hm hia hic hja hjc
          go_wp2_with fail
          go_loopw [16] (fun i wr => ∃ j : Nat, j ≤ k ∧ i = .int .i64 j ∧ Below w8.heap.size w8 wr) (fun i _ => k - (intOf i).toNat)
          case atStart => exact ⟨0, Nat.zero_le _, rfl, Below.refl _ _⟩
          case round =>
            obtain ⟨j, hj, rfl, hbj⟩ := hrel
            have Hbj := Lib.hid hbj
            clear hbj
            by_cases hjt : j < k
            · obtain ⟨wi, rfl⟩ : ∃ wi : World, wi = wr := ⟨_, rfl⟩
              obtain ⟨x, hx⟩ : ∃ x, atL ls j = x := ⟨_, rfl⟩
              have Hcov := Lib.hid (high_cover Hhs.out (i := j) (by rw [Hll.out]; exact hjt))
              rw [hx, Hm.out] at Hcov
              have hxl : x < 18446744073709551616 := by rw [← hx]; exact atL_lt ls j
              obtain rfl := Hia.out (by omega)
              have ci := Hic.out j hjt
              rw [hx] at ci
              have Ci := Lib.hid (cell_kept Hbj.out ci)
              clear ci hx
              go_wp2_with fail
              go_loopw [17, 18] (fun v i wr => ∃ q : Nat, q ≤ m ∧ i = .int .i64 q ∧ v = .bool (anyTo hs8 x q) ∧ Below wi.heap.size wi wr) (fun _ i _ => m - (intOf i).toNat)
              case atStart => exact ⟨0, Nat.zero_le _, rfl, rfl, Below.refl _ _⟩
              case round =>
                obtain ⟨q, hq, rfl, rfl, hbq⟩ := hrel
                have Hbq := Lib.hid hbq
                clear hbq
                by_cases hqt : q < m
                · have hql : q < hs8.length := by rw [Hm.out]; exact hqt
                  have Hsu := Lib.hid (anyTo_succ (x := x) hql)
                  have hi0 : (0 : Int) ≤ (j : Int) := by omega
                  have hi1 : (j : Int) < (k : Int) := by omega
                  have hq0 : (0 : Int) ≤ (q : Int) := by omega
                  have hq1 : (q : Int) < (m : Int) := by omega
                  obtain rfl := Hja.out (by omega)
                  have cq := cell_kept (below_join Hbj.out Hbq.out) (Hjc.out q hqt)
                  have cx := cell_kept Hbq.out Ci.out
                  have hy := atL_lt hs8 q
                  obtain ⟨y, hye⟩ : ∃ y, atL hs8 q = y := ⟨_, rfl⟩
                  rw [hye] at cq hy Hsu
                  clear hye
                  cases hany : anyTo hs8 x q with
                  | true =>
                    have Hs2 : Hid (anyTo hs8 x (q + 1) = true) := by show _ = _; rw [Hsu.out, hany]; rfl
                    clear hany
                    go_wp2_with fail
                    go_quiet (fail)
                    go_wp2_with fail
                    go_roundw
                    case rel => exact ⟨q + 1, by omega, by go_num, by rw [Hs2.out], below_drewN Hbq.out _⟩
                    case measure => simp [intOf]; omega
                  | false =>
                    have Hs2 : Hid (anyTo hs8 x (q + 1) = belowN x y) := by show _ = _; rw [Hsu.out, hany]; rfl
                    clear hany
                    go_wp2_with fail
                    go_region_held3 (fun w' => w'.cell? ⟨ib, io + j, none⟩ = some (.int .u64 ((x : Nat) : Int)) ∧ w'.cell? ⟨jb, jo + q, none⟩ = some (.int .u64 ((y : Nat) : Int)) ∧ Below wi.heap.size wi w')
                      (first
                        | (go_split_ands; refine ⟨?_, ?_, ?_⟩ <;> first | assumption | exact Hbq.out.drew | (simp; assumption)))
                      (first
                        | (go_at_call 13; refine (below_any x y _ hxl hy).mono ?_; rintro e w1 ⟨rfl, rfl⟩))
                    go_wp2_with fail
                    go_roundw
                    case rel => exact ⟨q + 1, by omega, by go_num, by rw [Hs2.out], by go_split_ands; assumption⟩
                    case measure => simp [intOf]; omega
                · obtain rfl : q = m := by omega
                  rw [Hcov.out]
                  go_wp2_with fail
                  go_roundw
                  case rel => exact ⟨j + 1, by omega, by go_num, below_join Hbj.out Hbq.out⟩
                  case measure => simp [intOf]; omega
            · obtain ⟨wj, rfl⟩ : ∃ wj : World, wj = wr := ⟨_, rfl⟩
              go_wp2_with fail
              go_loopw [19] (fun i wr => ∃ j : Nat, j ≤ m ∧ i = .int .i64 j ∧ Below w8.heap.size w8 wr) (fun i _ => m - (intOf i).toNat)
              case atStart => exact ⟨0, Nat.zero_le _, rfl, Hbj.out⟩
              case round =>
                obtain ⟨i, hii, rfl, hbi⟩ := hrel
                have Hbi := Lib.hid hbi
                clear hbi
                by_cases hit : i < m
                · obtain ⟨wi, rfl⟩ : ∃ wi : World, wi = wr := ⟨_, rfl⟩
                  obtain rfl := Hja.out (by omega)
                  go_wp2_with fail
                  go_loopw [20] (fun i wr => ∃ q : Nat, q ≤ m ∧ i = .int .i64 q ∧ Below wi.heap.size wi wr) (fun i _ => m - (intOf i).toNat)
                  case atStart => exact ⟨0, Nat.zero_le _, rfl, Below.refl _ _⟩
                  case round =>
                    obtain ⟨q, hq, rfl, hbq⟩ := hrel
                    have Hbq := Lib.hid hbq
                    clear hbq
                    by_cases hqt : q < m
                    · have hi0 : (0 : Int) ≤ (i : Int) := by omega
                      have hi1 : (i : Int) < (m : Int) := by omega
                      have hq0 : (0 : Int) ≤ (q : Int) := by omega
                      have hq1 : (q : Int) < (m : Int) := by omega
                      have cq := cell_kept (below_join Hbi.out Hbq.out) (Hjc.out q hqt)
                      have cx := cell_kept (below_join Hbi.out Hbq.out) (Hjc.out i hit)
                      have hy := atL_lt hs8 q
                      have hx := atL_lt hs8 i
                      by_cases hne : i = q
                      · subst hne
                        have hI : (((i : Nat) : Int) != ((i : Nat) : Int)) = false := by simp
                        go_wp2_with fail
                        go_quiet (fail)
                        go_wp2_with fail
                        go_roundw
                        case rel => exact ⟨i + 1, by omega, by go_num, below_drewN Hbq.out _⟩
                        case measure => simp [intOf]; omega
                      · have hI : (((i : Nat) : Int) != ((q : Nat) : Int)) = true := by rw [bne_iff_ne]; omega
                        have Hap := Lib.hid (high_apart Hhs.out (i := i) (k := q) (by rw [Hm.out]; exact hit) (by rw [Hm.out]; exact hqt) hne)
                        obtain ⟨y, hye⟩ : ∃ y, atL hs8 q = y := ⟨_, rfl⟩
                        obtain ⟨x, hxe⟩ : ∃ x, atL hs8 i = x := ⟨_, rfl⟩
                        rw [hye] at cq hy Hap
                        rw [hxe] at cx hx Hap
                        clear hye hxe hne
                        go_wp2_with fail
                        go_region_held3 (fun w' => w'.cell? ⟨jb, jo + i, none⟩ = some (.int .u64 ((x : Nat) : Int)) ∧ w'.cell? ⟨jb, jo + q, none⟩ = some (.int .u64 ((y : Nat) : Int)) ∧ Below wi.heap.size wi w')
                          (first
                            | (go_split_ands; refine ⟨?_, ?_, ?_⟩ <;> first | assumption | exact Hbq.out.drew | (simp; assumption)))
                          (first
                            | (go_at_call 13; refine (below_any x y _ hx hy).mono ?_; rintro e w1 ⟨rfl, rfl⟩; rw [Hap.out]))
                        go_wp2_with fail
                        go_roundw
                        case rel => exact ⟨q + 1, by omega, by go_num, by go_split_ands; assumption⟩
                        case measure => simp [intOf]; omega
                    · go_wp2_with fail
                      go_roundw
                      case rel => exact ⟨i + 1, by omega, by go_num, below_join Hbi.out Hbq.out⟩
                      case measure => simp [intOf]; omega
                · go_wp2_with fail
                  go_ret
                  exact ⟨rfl, below_join B8.out Hbi.out⟩
  · have B7 := Lib.hid B6.out
    obtain ⟨wz, rfl⟩ : ∃ wz : World, wz = w6 := ⟨_, rfl⟩
    go_wp2_with fail
    go_loopw [13, 14] (fun v i wr => ∃ k : Nat, k ≤ n ∧ k ≤ 100 ∧ i = .int .i64 k ∧ wr.ownsRow wz.heap.size 23 1 v k (valsL (l.take k)) ∧ Below wz.heap.size wz wr) (fun _ i _ => n - (intOf i).toNat)
    case atStart => exact ⟨0, Nat.zero_le _, Nat.zero_le _, rfl, World.ownsRow_nil _ _ _ _, Below.refl _ _⟩
    case round =>
      obtain ⟨k, hk, hk2, rfl, hown, hbw⟩ := hrel
      have Hown := Lib.hid hown
      have Hbw := Lib.hid hbw
      clear hown hbw
      by_cases hlt : k < n ∧ k < 100
      · obtain ⟨hlt, hlt2⟩ := hlt
        obtain rfl := Hao.out (by omega)
        have hkl : k < l.length := by have := Hn.out; omega
        have ck := cell_kept (below_join B7.out Hbw.out) (Hc.out k hlt)
        have hax : atL l k = (l[k]'hkl).1 := by rw [atL, List.getD_eq_getElem?_getD, List.getElem?_eq_getElem hkl]; rfl
        have Htk : Hid (valsL (l.take (k + 1)) = valsL (l.take k) ++ [.int .u64 ((atL l k : Nat) : Int)]) := by
          show _ = _
          rw [hax, List.take_succ_eq_append_getElem hkl, valsL, List.map_append]; rfl
        have hi0 : (0 : Int) ≤ (k : Int) := by omega
        have hi1 : (k : Int) < (n : Int) := by omega
        have hi2 : (k : Int) < 100 := by omega
        obtain ⟨x, hx⟩ : ∃ x, atL l k = x := ⟨_, rfl⟩
        rw [hx] at ck
        have Hx := Lib.hid hx
        clear hx hax
        go_wp2_with (at_builtin; refine wpList_append_own _ rfl _ _ 34 rfl wz.heap.size 23 i0 (.int .u64 0) 1 8 Tryd.underlying34 hi hz0 hz1 hz2 rfl (by decide) _ _ _ rfl (Hown.out.alloc _) ⟨wr.heap.size, 0, none⟩ 1 1 [.int .u64 x] rfl rfl (one_cellL _ _ _) (one_listL _ rfl) ?d3 ?d4 ?d5 ?_)
        case d3 => unfold maxLen; omega
        case d4 => omega
        case d5 => exact Nat.le_trans Hbw.out.size (by simp)
        intro v3 w3 hown3 hgrow3 _
        have B3 := Lib.hid ((Hbw.out.alloc Hbw.out.size _).grown hgrow3 (Nat.le_trans Hbw.out.size (by simp)) (fun q hq => (Hown.out.lt q hq).1))
        have Ho3 := Lib.hid hown3
        clear hown3 hgrow3
        go_wp2_with fail
        go_roundw
        case rel => exact ⟨k + 1, by omega, by omega, by go_num, by rw [Htk.out, Hx.out]; exact Ho3.out, B3.out⟩
        case measure => simp [intOf]; omega
      · obtain ⟨ls, hls⟩ : ∃ ls, l.take k = ls := ⟨_, rfl⟩
        have hll : ls.length = k := by rw [← hls, List.length_take]; have := Hn.out; omega
        have h1 := Hown.out
        rw [hls] at h1
        have Hin := Lib.hid (Labs.of_own (own_len h1 hll))
        have Hll := Lib.hid hll
        have hstop : (n : Int) ≤ (k : Int) ∨ ((k : Int) < (n : Int) ∧ (100 : Int) ≤ (k : Int)) := by omega
        have Bq := Lib.hid (below_join B7.out Hbw.out)
        clear hls hll h1 Hown
        rcases hstop with hs1 | ⟨hs1, hs2⟩
        all_goals
          go_wp2_with fail
          refine (highest_any _ ls _ Hin.out (by rw [Hll.out]; omega)).mono ?_
          rintro e w8 ⟨hv8, hs8, rfl, hhs, hown8, hb8⟩
          have B8 := Lib.hid (below_join Bq.out hb8)
          have Hhs := Lib.hid hhs
          obtain ⟨m, hm⟩ : ∃ m, hs8.length = m := ⟨_, rfl⟩
          have hm100 : m ≤ k := by
            have h2 := congrArg List.length hhs
            rw [List.length_map] at h2
            have h3 := hiProg_len (atL ls) ls.length
            rw [← hm, h2]
            have := Hll.out
            omega
          obtain ⟨ia, ic, ib, io, rfl, hia, _, hic⟩ := (Hin.out.kept hb8).at
          obtain ⟨ja, jc, jb, jo, rfl, hja, _, hjc⟩ := (Labs.of_own hown8).at
          rw [hm] at hja hjc ⊢
          rw [Hll.out] at hia hic ⊢
          have Hm := Lib.hid hm
          have Hia := Lib.hid hia
          have Hic := Lib.hid hic
          have Hja := Lib.hid hja
          have Hjc := Lib.hid hjc
          clear hb8 hhs hown8 hm hia hic hja hjc
          go_wp2_with fail
          go_loopw [16] (fun i wr => ∃ j : Nat, j ≤ k ∧ i = .int .i64 j ∧ Below w8.heap.size w8 wr) (fun i _ => k - (intOf i).toNat)
          case atStart => exact ⟨0, Nat.zero_le _, rfl, Below.refl _ _⟩
          case round =>
            obtain ⟨j, hj, rfl, hbj⟩ := hrel
            have Hbj := Lib.hid hbj
            clear hbj
            by_cases hjt : j < k
            · obtain ⟨wi, rfl⟩ : ∃ wi : World, wi = wr := ⟨_, rfl⟩
              obtain ⟨x, hx⟩ : ∃ x, atL ls j = x := ⟨_, rfl⟩
              have Hcov := Lib.hid (high_cover Hhs.out (i := j) (by rw [Hll.out]; exact hjt))
              rw [hx, Hm.out] at Hcov
              have hxl : x < 18446744073709551616 := by rw [← hx]; exact atL_lt ls j
              obtain rfl := Hia.out (by omega)
              have ci := Hic.out j hjt
              rw [hx] at ci
              have Ci := Lib.hid (cell_kept Hbj.out ci)
              clear ci hx
              go_wp2_with fail
              go_loopw [17, 18] (fun v i wr => ∃ q : Nat, q ≤ m ∧ i = .int .i64 q ∧ v = .bool (anyTo hs8 x q) ∧ Below wi.heap.size wi wr) (fun _ i _ => m - (intOf i).toNat)
              case atStart => exact ⟨0, Nat.zero_le _, rfl, rfl, Below.refl _ _⟩
              case round =>
                obtain ⟨q, hq, rfl, rfl, hbq⟩ := hrel
                have Hbq := Lib.hid hbq
                clear hbq
                by_cases hqt : q < m
                · have hql : q < hs8.length := by rw [Hm.out]; exact hqt
                  have Hsu := Lib.hid (anyTo_succ (x := x) hql)
                  have hi0 : (0 : Int) ≤ (j : Int) := by omega
                  have hi1 : (j : Int) < (k : Int) := by omega
                  have hq0 : (0 : Int) ≤ (q : Int) := by omega
                  have hq1 : (q : Int) < (m : Int) := by omega
                  obtain rfl := Hja.out (by omega)
                  have cq := cell_kept (below_join Hbj.out Hbq.out) (Hjc.out q hqt)
                  have cx := cell_kept Hbq.out Ci.out
                  have hy := atL_lt hs8 q
                  obtain ⟨y, hye⟩ : ∃ y, atL hs8 q = y := ⟨_, rfl⟩
                  rw [hye] at cq hy Hsu
                  clear hye
                  cases hany : anyTo hs8 x q with
                  | true =>
                    have Hs2 : Hid (anyTo hs8 x (q + 1) = true) := by show _ = _; rw [Hsu.out, hany]; rfl
                    clear hany
                    go_wp2_with fail
                    go_quiet (fail)
                    go_wp2_with fail
                    go_roundw
                    case rel => exact ⟨q + 1, by omega, by go_num, by rw [Hs2.out], below_drewN Hbq.out _⟩
                    case measure => simp [intOf]; omega
                  | false =>
                    have Hs2 : Hid (anyTo hs8 x (q + 1) = belowN x y) := by show _ = _; rw [Hsu.out, hany]; rfl
                    clear hany
                    go_wp2_with fail
                    go_region_held3 (fun w' => w'.cell? ⟨ib, io + j, none⟩ = some (.int .u64 ((x : Nat) : Int)) ∧ w'.cell? ⟨jb, jo + q, none⟩ = some (.int .u64 ((y : Nat) : Int)) ∧ Below wi.heap.size wi w')
                      (first
                        | (go_split_ands; refine ⟨?_, ?_, ?_⟩ <;> first | assumption | exact Hbq.out.drew | (simp; assumption)))
                      (first
                        | (go_at_call 13; refine (below_any x y _ hxl hy).mono ?_; rintro e w1 ⟨rfl, rfl⟩))
                    go_wp2_with fail
                    go_roundw
                    case rel => exact ⟨q + 1, by omega, by go_num, by rw [Hs2.out], by go_split_ands; assumption⟩
                    case measure => simp [intOf]; omega
                · obtain rfl : q = m := by omega
                  rw [Hcov.out]
                  go_wp2_with fail
                  go_roundw
                  case rel => exact ⟨j + 1, by omega, by go_num, below_join Hbj.out Hbq.out⟩
                  case measure => simp [intOf]; omega
            · obtain ⟨wj, rfl⟩ : ∃ wj : World, wj = wr := ⟨_, rfl⟩
              go_wp2_with fail
              go_loopw [19] (fun i wr => ∃ j : Nat, j ≤ m ∧ i = .int .i64 j ∧ Below w8.heap.size w8 wr) (fun i _ => m - (intOf i).toNat)
              case atStart => exact ⟨0, Nat.zero_le _, rfl, Hbj.out⟩
              case round =>
                obtain ⟨i, hii, rfl, hbi⟩ := hrel
                have Hbi := Lib.hid hbi
                clear hbi
                by_cases hit : i < m
                · obtain ⟨wi, rfl⟩ : ∃ wi : World, wi = wr := ⟨_, rfl⟩
                  obtain rfl := Hja.out (by omega)
                  go_wp2_with fail
                  go_loopw [20] (fun i wr => ∃ q : Nat, q ≤ m ∧ i = .int .i64 q ∧ Below wi.heap.size wi wr) (fun i _ => m - (intOf i).toNat)
                  case atStart => exact ⟨0, Nat.zero_le _, rfl, Below.refl _ _⟩
                  case round =>
                    obtain ⟨q, hq, rfl, hbq⟩ := hrel
                    have Hbq := Lib.hid hbq
                    clear hbq
                    by_cases hqt : q < m
                    · have hi0 : (0 : Int) ≤ (i : Int) := by omega
                      have hi1 : (i : Int) < (m : Int) := by omega
                      have hq0 : (0 : Int) ≤ (q : Int) := by omega
                      have hq1 : (q : Int) < (m : Int) := by omega
                      have cq := cell_kept (below_join Hbi.out Hbq.out) (Hjc.out q hqt)
                      have cx := cell_kept (below_join Hbi.out Hbq.out) (Hjc.out i hit)
                      have hy := atL_lt hs8 q
                      have hx := atL_lt hs8 i
                      by_cases hne : i = q
                      · subst hne
                        have hI : (((i : Nat) : Int) != ((i : Nat) : Int)) = false := by simp
                        go_wp2_with fail
                        go_quiet (fail)
                        go_wp2_with fail
                        go_roundw
                        case rel => exact ⟨i + 1, by omega, by go_num, below_drewN Hbq.out _⟩
                        case measure => simp [intOf]; omega
                      · have hI : (((i : Nat) : Int) != ((q : Nat) : Int)) = true := by rw [bne_iff_ne]; omega
                        have Hap := Lib.hid (high_apart Hhs.out (i := i) (k := q) (by rw [Hm.out]; exact hit) (by rw [Hm.out]; exact hqt) hne)
                        obtain ⟨y, hye⟩ : ∃ y, atL hs8 q = y := ⟨_, rfl⟩
                        obtain ⟨x, hxe⟩ : ∃ x, atL hs8 i = x := ⟨_, rfl⟩
                        rw [hye] at cq hy Hap
                        rw [hxe] at cx hx Hap
                        clear hye hxe hne
                        go_wp2_with fail
                        go_region_held3 (fun w' => w'.cell? ⟨jb, jo + i, none⟩ = some (.int .u64 ((x : Nat) : Int)) ∧ w'.cell? ⟨jb, jo + q, none⟩ = some (.int .u64 ((y : Nat) : Int)) ∧ Below wi.heap.size wi w')
                          (first
                            | (go_split_ands; refine ⟨?_, ?_, ?_⟩ <;> first | assumption | exact Hbq.out.drew | (simp; assumption)))
                          (first
                            | (go_at_call 13; refine (below_any x y _ hx hy).mono ?_; rintro e w1 ⟨rfl, rfl⟩; rw [Hap.out]))
                        go_wp2_with fail
                        go_roundw
                        case rel => exact ⟨q + 1, by omega, by go_num, by go_split_ands; assumption⟩
                        case measure => simp [intOf]; omega
                    · go_wp2_with fail
                      go_roundw
                      case rel => exact ⟨i + 1, by omega, by go_num, below_join Hbi.out Hbq.out⟩
                      case measure => simp [intOf]; omega
                · go_wp2_with fail
                  go_ret
                  exact ⟨rfl, below_join B8.out Hbi.out⟩
end Go.Proofs.YtgodmfjcccakbaaDoor
