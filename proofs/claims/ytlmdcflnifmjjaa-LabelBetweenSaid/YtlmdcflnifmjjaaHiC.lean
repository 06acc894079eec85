import Derived.Test.YtlmdcflnifmjjaaHiB
import Derived.Test.YtlmdcflnifmjjaaSetC
namespace Go.Proofs.Ytlmdcflnifmjjaa
open Go.RowKit Go.Shelf Go.Sort

/-- is the i-th high, as far as the first m labels tell? -/
def isHiP (f : Nat → Nat) (i m : Nat) : Bool := (List.range m).all fun k => !((f k != f i && belowN (f i) (f k)) || (decide (k < i) && f k == f i))
theorem isHiP_succ (f : Nat → Nat) (i m : Nat) : isHiP f i (m + 1) = (isHiP f i m && !((f m != f i && belowN (f i) (f m)) || (decide (m < i) && f m == f i))) := by
  rw [isHiP, List.range_succ, List.all_append]
  simp [isHiP]
theorem hiTo_succ (f : Nat → Nat) (n m : Nat) : hiTo f n (m + 1) = hiTo f n m ++ (if isHiP f m n then [f m] else []) := by
  have e : isHiP f m n = isHi f n m := rfl
  rw [hiTo, List.range_succ, List.filter_append, List.map_append, e, hiTo]
  congr 1
  cases h : isHi f n m <;> simp [h]
theorem Labs.at {w : World} {v : Value} {ls : List L64} (hl : Labs w v ls) : ∃ ao cap b o, v = .slice ao ls.length cap ∧ (0 < ls.length → ao = some ⟨b, o, none⟩) ∧ ls.length ≤ maxLen ∧
    ∀ i : Nat, i < ls.length → w.cell? ⟨b, o + i, none⟩ = some (.int .u64 ((atL ls i : Nat) : Int)) := by
  obtain ⟨ao, cap, b, o, h1, h2, h3, h4⟩ := Vec.form hl
  have hvl : (valsL ls).length = ls.length := by simp [valsL]
  rw [hvl] at h1 h2 h3
  refine ⟨ao, cap, b, o, h1, h2, h3, fun i hi => ?_⟩
  rw [h4 i (by rw [hvl]; exact hi)]
  rw [atL, List.getD_eq_getElem?_getD, List.getElem?_eq_getElem hi]
  simp [valsL, encL]

set_option maxHeartbeats 16000000 in
set_option maxRecDepth 100000 in
theorem refHighest_any (u : Value) (ls : List L64) (w : World) (hu : Labs w u ls) (hlen : ls.length ≤ 1000) :
    Calls Try.prog 5 #[u] w (HiPost w ls) := by
  obtain ⟨i0, hi, hz0, hz1, hz2⟩ := info_parts Try.info25
  obtain ⟨ao, cap, b, o, rfl, hao, _, hc⟩ := hu.at
  obtain ⟨n, hn⟩ : ∃ n, ls.length = n := ⟨_, rfl⟩
  have Hn := Lib.hid hn
  rw [hn] at hao hlen hc ⊢
  have Hao := Lib.hid hao
  have Hc := Lib.hid hc
  clear hu hao hc hn
  go_enter Try.func5, Try.ntmps5
  go_wp2_with fail
  go_loopw [3, 4] (fun v i wr => ∃ (k : Nat) (hs : List L64), k ≤ n ∧ i = .int .i64 k ∧ Hid (hs.map Subtype.val = hiTo (atL ls) n k) ∧ hs.length ≤ k ∧ wr.ownsRow w.heap.size 25 1 v hs.length (valsL hs) ∧ Below w.heap.size w wr) (fun _ i _ => n - (intOf i).toNat)
  case atStart => exact ⟨0, [], Nat.zero_le _, rfl, rfl, Nat.le_refl _, World.ownsRow_nil _ _ _ _, Below.refl _ _⟩
  case round =>
    obtain ⟨i, hs, hik, rfl, Hhs, hhl, hown, hbw⟩ := hrel
    have Hown := Lib.hid hown
    have Hbw := Lib.hid hbw
    clear hown hbw
    by_cases hlt : i < n
    · obtain rfl := Hao.out (by omega)
      have ci := Hc.out i hlt
      have hx := atL_lt ls i
      obtain ⟨x, hxe⟩ : ∃ x, atL ls i = x := ⟨_, rfl⟩
      have Hx := Lib.hid hxe
      rw [hxe] at ci hx
      have Ci := Lib.hid ci
      have hi0 : (0 : Int) ≤ (i : Int) := by omega
      have hi1 : (i : Int) < (n : Int) := by omega
      clear hxe ci
      obtain ⟨wo, rfl⟩ : ∃ wo : World, wo = wr := ⟨_, rfl⟩
      go_wp2_with fail
      go_loopw [5, 6] (fun h k wr => ∃ m : Nat, m ≤ n ∧ k = .int .i64 m ∧ h = .bool (isHiP (atL ls) i m) ∧ Below wo.heap.size wo wr) (fun _ k _ => n - (intOf k).toNat)
      case atStart => exact ⟨0, Nat.zero_le _, rfl, rfl, Below.refl _ _⟩
      case round =>
        obtain ⟨m, hm, rfl, rfl, hb2⟩ := hrel
        have Hb2 := Lib.hid hb2
        have Hbb := Lib.hid (below_join Hbw.out hb2)
        clear hb2
        have hst := isHiP_succ (atL ls) i m
        rw [Hx.out] at hst
        obtain ⟨B, hB⟩ : ∃ B, isHiP (atL ls) i m = B := ⟨_, rfl⟩
        have HB := Lib.hid hB
        rw [hB] at hst ⊢
        clear hB
        by_cases hltm : m < n
        · have cm := cell_kept Hbb.out (Hc.out m hltm)
          have ci := cell_kept Hbb.out Ci.out
          have hy := atL_lt ls m
          obtain ⟨y, hye⟩ : ∃ y, atL ls m = y := ⟨_, rfl⟩
          have Hy := Lib.hid hye
          rw [hye] at cm hy hst
          have hm0 : (0 : Int) ≤ (m : Int) := by omega
          have hm1 : (m : Int) < (n : Int) := by omega
          have hBe := Hbb.out
          have HBe := Lib.hid hBe
          clear hye hBe
          by_cases hne : y = x
          · subst hne
            have h1 : (y != y) = false := by simp
            have h2 : (y == y) = true := by simp
            rw [h1, h2] at hst
            have hI : (((y : Nat) : Int) != ((y : Nat) : Int)) = false := by simp
            by_cases hmi : m < i
            · have Hst : Hid (isHiP (atL ls) i (m + 1) = false) := by show _ = _; rw [hst]; simp [hmi]
              have hmi' : (m : Int) < (i : Int) := by omega
              clear hst h1 h2
              go_wp2_with fail
              go_quiet (fail)
              go_wp2_with fail
              go_roundw
              case rel => exact ⟨m + 1, by omega, by go_num, by rw [Hst.out], below_drewN Hb2.out _⟩
              case measure => simp [intOf]; omega
            · have Hst : Hid (isHiP (atL ls) i (m + 1) = B) := by show _ = _; rw [hst]; simp [hmi]
              have hmi' : decide ((m : Int) < (i : Int)) = false := by simp; omega
              clear hst h1 h2
              go_wp2_with fail
              go_quiet (fail)
              go_wp2_with fail
              go_roundw
              case rel => exact ⟨m + 1, by omega, by go_num, by rw [Hst.out], below_drewN Hb2.out _⟩
              case measure => simp [intOf]; omega
          · have hI : (((y : Nat) : Int) != ((x : Nat) : Int)) = true := by rw [bne_iff_ne]; omega
            have hE : (((y : Nat) : Int) == ((x : Nat) : Int)) = false := by rw [beq_eq_false_iff_ne]; omega
            have h1 : (y != x) = true := by rw [bne_iff_ne]; exact hne
            have h2 : (y == x) = false := by rw [beq_eq_false_iff_ne]; exact hne
            rw [h1, h2] at hst
            obtain ⟨bl, hbl⟩ : ∃ t, belowN x y = t := ⟨_, rfl⟩
            have Hbl := Lib.hid hbl
            rw [hbl] at hst
            have hcall : ∀ W, Calls Try.prog 12 #[.int .u64 ((x : Nat) : Int), .int .u64 ((y : Nat) : Int)] W fun e w' => e = .returned (.bool bl) ∧ Below W.heap.size W w' := fun W => by
              rw [← hbl]; exact refBelow_any x y W hx hy
            have Hcall := Lib.hid hcall
            clear hbl hcall hne
            cases bl
            · have Hst : Hid (isHiP (atL ls) i (m + 1) = B) := by show _ = _; rw [hst]; simp
              clear hst h1 h2
              by_cases hmi : (m : Int) < (i : Int)
              · go_wp2_with fail
                go_region_held3 (fun w' => w'.cell? ⟨b, o + m, none⟩ = some (.int .u64 ((y : Nat) : Int)) ∧ w'.cell? ⟨b, o + i, none⟩ = some (.int .u64 ((x : Nat) : Int)) ∧ Below wo.heap.size wo w')
                  (first
                    | (go_split_ands; refine ⟨?_, ?_, ?_⟩ <;> first | assumption | exact Hb2.out.drew | exact cell_kept hc1 (by assumption) | exact below_join (by assumption) hc1 | (simp; assumption)))
                  (first
                    | (go_at_call 12; refine (Hcall.out _).mono ?_; rintro e w1 ⟨rfl, hc1⟩))
                all_goals
                  go_wp2_with fail
                  go_roundw
                  case rel => exact ⟨m + 1, by omega, by go_num, by rw [Hst.out], by go_split_ands; assumption⟩
                  case measure => simp [intOf]; omega
              · have hmiN : ¬ m < i := by omega
                have hmiP : (m < i) = False := by simp; omega
                have hmiQ : ((m : Int) < (i : Int)) = False := by simp; omega
                clear hmi hmiN
                go_wp2_with fail
                refine wp_region_held_drew (S := fun w' => w'.cell? ⟨b, o + m, none⟩ = some (.int .u64 ((y : Nat) : Int)) ∧ w'.cell? ⟨b, o + i, none⟩ = some (.int .u64 ((x : Nat) : Int)) ∧ Below wo.heap.size wo w') (by kernel_rfl) ?_ (fun hHeld => ?_)
                · exact ⟨by simp; assumption, by simp; assumption, Hb2.out.drew⟩
                refine' wpAnyH_take (i := 0) (oi := { dst := some 19, op := Op.move (Operand.tmp 0), type := 23, pos := "ref.go:86", after := #[], guard := none }) (v := _) rfl (by kernel_rfl) (by kernel_rfl) (by kernel_rfl) (fun _ _ _ h => h) (Or.inl ⟨?wta0, ?hya0⟩) (by assumption) ?resta0
                case wta0 => rfl
                case hya0 => (intro w hSw; (try dsimp only at hSw); go_simp; try (with_reducible rfl))
                try simp only [Act.put, List.setIfInBounds_toArray, List.set_cons_zero, List.set_cons_succ]
                refine' wpAnyH_take (i := 1) (oi := { dst := some 20, op := Op.move (Operand.tmp 6), type := 3, pos := "ref.go:86", after := #[], guard := none }) (v := _) rfl (by kernel_rfl) (by kernel_rfl) (by kernel_rfl) (fun _ _ _ h => h) (Or.inl ⟨?wta1, ?hya1⟩) (by assumption) ?resta1
                case wta1 => rfl
                case hya1 => (intro w hSw; (try dsimp only at hSw); go_simp; try (with_reducible rfl))
                try simp only [Act.put, List.setIfInBounds_toArray, List.set_cons_zero, List.set_cons_succ]
                refine' wpAnyH_take (i := 2) (oi := { dst := some 21, op := Op.indexAddr 23 (Operand.tmp 19) (Operand.tmp 20), type := 0, pos := "ref.go:86", after := #[{ on := 0, ground := Ground.data }, { on := 1, ground := Ground.data }], guard := none }) (v := _) rfl (by kernel_rfl) (by kernel_rfl) (by kernel_rfl) (fun _ _ _ h => h) (Or.inl ⟨?wta2, ?hya2⟩) (by assumption) ?resta2
                case wta2 => rfl
                case hya2 => (intro w hSw; (try dsimp only at hSw); go_simp; try (with_reducible rfl))
                try simp only [Act.put, List.setIfInBounds_toArray, List.set_cons_zero, List.set_cons_succ]
                refine' wpAnyH_take (i := 3) (oi := { dst := some 22, op := Op.load 25 (Operand.tmp 21), type := 25, pos := "ref.go:86", after := #[{ on := 2, ground := Ground.data }], guard := none }) (v := _) rfl (by kernel_rfl) (by kernel_rfl) (by kernel_rfl) (fun _ _ _ h => h) (Or.inl ⟨?wta3, ?hya3⟩) (by assumption) ?resta3
                case wta3 => rfl
                case hya3 => (intro w hSw; (try dsimp only at hSw); go_simp; try (with_reducible rfl))
                try simp only [Act.put, List.setIfInBounds_toArray, List.set_cons_zero, List.set_cons_succ]
                refine' wpAnyH_take (i := 4) (oi := { dst := some 23, op := Op.move (Operand.tmp 0), type := 23, pos := "ref.go:86", after := #[], guard := none }) (v := _) rfl (by kernel_rfl) (by kernel_rfl) (by kernel_rfl) (fun _ _ _ h => h) (Or.inl ⟨?wta4, ?hya4⟩) (by assumption) ?resta4
                case wta4 => rfl
                case hya4 => (intro w hSw; (try dsimp only at hSw); go_simp; try (with_reducible rfl))
                try simp only [Act.put, List.setIfInBounds_toArray, List.set_cons_zero, List.set_cons_succ]
                refine' wpAnyH_take (i := 5) (oi := { dst := some 24, op := Op.move (Operand.tmp 4), type := 3, pos := "ref.go:86", after := #[], guard := none }) (v := _) rfl (by kernel_rfl) (by kernel_rfl) (by kernel_rfl) (fun _ _ _ h => h) (Or.inl ⟨?wta5, ?hya5⟩) (by assumption) ?resta5
                case wta5 => rfl
                case hya5 => (intro w hSw; (try dsimp only at hSw); go_simp; try (with_reducible rfl))
                try simp only [Act.put, List.setIfInBounds_toArray, List.set_cons_zero, List.set_cons_succ]
                refine' wpAnyH_take (i := 6) (oi := { dst := some 25, op := Op.indexAddr 23 (Operand.tmp 23) (Operand.tmp 24), type := 0, pos := "ref.go:86", after := #[{ on := 4, ground := Ground.data }, { on := 5, ground := Ground.data }], guard := none }) (v := _) rfl (by kernel_rfl) (by kernel_rfl) (by kernel_rfl) (fun _ _ _ h => h) (Or.inl ⟨?wta6, ?hya6⟩) (by assumption) ?resta6
                case wta6 => rfl
                case hya6 => (intro w hSw; (try dsimp only at hSw); go_simp; try (with_reducible rfl))
                try simp only [Act.put, List.setIfInBounds_toArray, List.set_cons_zero, List.set_cons_succ]
                refine' wpAnyH_take (i := 7) (oi := { dst := some 26, op := Op.load 25 (Operand.tmp 25), type := 25, pos := "ref.go:86", after := #[{ on := 6, ground := Ground.data }], guard := none }) (v := _) rfl (by kernel_rfl) (by kernel_rfl) (by kernel_rfl) (fun _ _ _ h => h) (Or.inl ⟨?wta7, ?hya7⟩) (by assumption) ?resta7
                case wta7 => rfl
                case hya7 => (intro w hSw; (try dsimp only at hSw); go_simp; try (with_reducible rfl))
                try simp only [Act.put, List.setIfInBounds_toArray, List.set_cons_zero, List.set_cons_succ]
                refine' wpAnyH_take (i := 8) (oi := { dst := some 27, op := Op.binOp BinOp.neq 25 (Operand.tmp 22) (Operand.tmp 26) 25, type := 4, pos := "ref.go:86", after := #[{ on := 3, ground := Ground.data }, { on := 7, ground := Ground.data }], guard := none }) (v := _) rfl (by kernel_rfl) (by kernel_rfl) (by kernel_rfl) (fun _ _ _ h => h) (Or.inl ⟨?wta8, ?hya8⟩) (by assumption) ?resta8
                case wta8 => rfl
                case hya8 => (intro w hSw; (try dsimp only at hSw); go_simp; try (with_reducible rfl))
                try simp only [Act.put, List.setIfInBounds_toArray, List.set_cons_zero, List.set_cons_succ]
                refine' wpAnyH_take (i := 9) (oi := { dst := some 28, op := Op.move (Operand.tmp 27), type := 4, pos := "ref.go:86", after := #[{ on := 8, ground := Ground.data }], guard := none }) (v := _) rfl (by kernel_rfl) (by kernel_rfl) (by kernel_rfl) (fun _ _ _ h => h) (Or.inl ⟨?wta9, ?hya9⟩) (by assumption) ?resta9
                case wta9 => rfl
                case hya9 => (intro w hSw; (try dsimp only at hSw); go_simp; try (with_reducible rfl))
                try simp only [Act.put, List.setIfInBounds_toArray, List.set_cons_zero, List.set_cons_succ]
                refine' wpAnyH_take (i := 10) (oi := { dst := some 29, op := Op.move (Operand.tmp 0), type := 23, pos := "ref.go:86", after := #[{ on := 9, ground := Ground.guard }], guard := some (9, true) }) (v := _) rfl (by kernel_rfl) (by kernel_rfl) (by kernel_rfl) (fun _ _ _ h => h) (Or.inl ⟨?wta10, ?hya10⟩) (by assumption) ?resta10
                case wta10 => rfl
                case hya10 => (intro w hSw; (try dsimp only at hSw); go_simp; try (with_reducible rfl))
                try simp only [Act.put, List.setIfInBounds_toArray, List.set_cons_zero, List.set_cons_succ]
                refine' wpAnyH_take (i := 11) (oi := { dst := some 30, op := Op.move (Operand.tmp 4), type := 3, pos := "ref.go:86", after := #[{ on := 9, ground := Ground.guard }], guard := some (9, true) }) (v := _) rfl (by kernel_rfl) (by kernel_rfl) (by kernel_rfl) (fun _ _ _ h => h) (Or.inl ⟨?wta11, ?hya11⟩) (by assumption) ?resta11
                case wta11 => rfl
                case hya11 => (intro w hSw; (try dsimp only at hSw); go_simp; try (with_reducible rfl))
                try simp only [Act.put, List.setIfInBounds_toArray, List.set_cons_zero, List.set_cons_succ]
                refine' wpAnyH_take (i := 12) (oi := { dst := some 31, op := Op.indexAddr 23 (Operand.tmp 29) (Operand.tmp 30), type := 0, pos := "ref.go:86", after := #[{ on := 10, ground := Ground.data }, { on := 11, ground := Ground.data }, { on := 9, ground := Ground.guard }], guard := some (9, true) }) (v := _) rfl (by kernel_rfl) (by kernel_rfl) (by kernel_rfl) (fun _ _ _ h => h) (Or.inl ⟨?wta12, ?hya12⟩) (by assumption) ?resta12
                case wta12 => rfl
                case hya12 => (intro w hSw; (try dsimp only at hSw); go_simp; try (with_reducible rfl))
                try simp only [Act.put, List.setIfInBounds_toArray, List.set_cons_zero, List.set_cons_succ]
                refine' wpAnyH_take (i := 13) (oi := { dst := some 32, op := Op.load 25 (Operand.tmp 31), type := 25, pos := "ref.go:86", after := #[{ on := 12, ground := Ground.data }, { on := 9, ground := Ground.guard }], guard := some (9, true) }) (v := _) rfl (by kernel_rfl) (by kernel_rfl) (by kernel_rfl) (fun _ _ _ h => h) (Or.inl ⟨?wta13, ?hya13⟩) (by assumption) ?resta13
                case wta13 => rfl
                case hya13 => (intro w hSw; (try dsimp only at hSw); go_simp; try (with_reducible rfl))
                try simp only [Act.put, List.setIfInBounds_toArray, List.set_cons_zero, List.set_cons_succ]
                refine' wpAnyH_take (i := 14) (oi := { dst := some 33, op := Op.move (Operand.tmp 0), type := 23, pos := "ref.go:86", after := #[{ on := 9, ground := Ground.guard }], guard := some (9, true) }) (v := _) rfl (by kernel_rfl) (by kernel_rfl) (by kernel_rfl) (fun _ _ _ h => h) (Or.inl ⟨?wta14, ?hya14⟩) (by assumption) ?resta14
                case wta14 => rfl
                case hya14 => (intro w hSw; (try dsimp only at hSw); go_simp; try (with_reducible rfl))
                try simp only [Act.put, List.setIfInBounds_toArray, List.set_cons_zero, List.set_cons_succ]
                refine' wpAnyH_take (i := 15) (oi := { dst := some 34, op := Op.move (Operand.tmp 6), type := 3, pos := "ref.go:86", after := #[{ on := 9, ground := Ground.guard }], guard := some (9, true) }) (v := _) rfl (by kernel_rfl) (by kernel_rfl) (by kernel_rfl) (fun _ _ _ h => h) (Or.inl ⟨?wta15, ?hya15⟩) (by assumption) ?resta15
                case wta15 => rfl
                case hya15 => (intro w hSw; (try dsimp only at hSw); go_simp; try (with_reducible rfl))
                try simp only [Act.put, List.setIfInBounds_toArray, List.set_cons_zero, List.set_cons_succ]
                refine' wpAnyH_take (i := 16) (oi := { dst := some 35, op := Op.indexAddr 23 (Operand.tmp 33) (Operand.tmp 34), type := 0, pos := "ref.go:86", after := #[{ on := 14, ground := Ground.data }, { on := 15, ground := Ground.data }, { on := 9, ground := Ground.guard }], guard := some (9, true) }) (v := _) rfl (by kernel_rfl) (by kernel_rfl) (by kernel_rfl) (fun _ _ _ h => h) (Or.inl ⟨?wta16, ?hya16⟩) (by assumption) ?resta16
                case wta16 => rfl
                case hya16 => (intro w hSw; (try dsimp only at hSw); go_simp; try (with_reducible rfl))
                try simp only [Act.put, List.setIfInBounds_toArray, List.set_cons_zero, List.set_cons_succ]
                refine' wpAnyH_take (i := 17) (oi := { dst := some 36, op := Op.load 25 (Operand.tmp 35), type := 25, pos := "ref.go:86", after := #[{ on := 16, ground := Ground.data }, { on := 9, ground := Ground.guard }], guard := some (9, true) }) (v := _) rfl (by kernel_rfl) (by kernel_rfl) (by kernel_rfl) (fun _ _ _ h => h) (Or.inl ⟨?wta17, ?hya17⟩) (by assumption) ?resta17
                case wta17 => rfl
                case hya17 => (intro w hSw; (try dsimp only at hSw); go_simp; try (with_reducible rfl))
                try simp only [Act.put, List.setIfInBounds_toArray, List.set_cons_zero, List.set_cons_succ]
                refine wpAnyH_ready (rs := [18]) (by kernel_rfl) (by simp) ?_
                refine AllReadyH.cons (o := { dst := some 37, op := Op.call { callee := Callee.value (Operand.func 12), args := #[Operand.tmp 32, Operand.tmp 36], argTypes := #[25, 25] }, type := 4, pos := "ref.go:86", after := #[{ on := 13, ground := Ground.data }, { on := 17, ground := Ground.data }, { on := 9, ground := Ground.chain }, { on := 9, ground := Ground.guard }], guard := some (9, true) }) rfl (fun K hK => ?_) AllReadyH.nil
                go_simp
                refine (Hcall.out _).mono ?_
                rintro e w1 ⟨rfl, hc1⟩
                go_wp2_with fail
                refine hK.out _ _ ?_ (fun hHeld2 => ?_)
                · exact ⟨cell_kept hc1 hHeld.1, cell_kept hc1 hHeld.2.1, below_join hHeld.2.2 hc1⟩
                clear hK K
                try simp only [Act.put, List.setIfInBounds_toArray, List.set_cons_zero, List.set_cons_succ]
                refine' wpAnyH_take (i := 19) (oi := { dst := some 38, op := Op.pick (Operand.tmp 28) (Operand.tmp 37) (Operand.const (Value.bool false)), type := 4, pos := "ref.go:86", after := #[{ on := 9, ground := Ground.data }, { on := 18, ground := Ground.data }], guard := none }) (v := _) rfl (by kernel_rfl) (by kernel_rfl) (by kernel_rfl) (fun _ _ _ h => h) (Or.inl ⟨?wta19, ?hya19⟩) (by assumption) ?resta19
                case wta19 => rfl
                case hya19 => (intro w hSw; (try dsimp only at hSw); go_simp; try (with_reducible rfl))
                try simp only [Act.put, List.setIfInBounds_toArray, List.set_cons_zero, List.set_cons_succ]
                refine' wpAnyH_take (i := 20) (oi := { dst := some 39, op := Op.move (Operand.tmp 38), type := 4, pos := "ref.go:86", after := #[{ on := 19, ground := Ground.data }, { on := 18, ground := Ground.chain }], guard := none }) (v := _) rfl (by kernel_rfl) (by kernel_rfl) (by kernel_rfl) (fun _ _ _ h => h) (Or.inl ⟨?wta20, ?hya20⟩) (by assumption) ?resta20
                case wta20 => rfl
                case hya20 => (intro w hSw; (try dsimp only at hSw); go_simp; try (with_reducible rfl))
                try simp only [Act.put, List.setIfInBounds_toArray, List.set_cons_zero, List.set_cons_succ]
                refine' wpAnyH_take (i := 21) (oi := { dst := some 40, op := Op.move (Operand.tmp 6), type := 3, pos := "ref.go:86", after := #[{ on := 20, ground := Ground.guard }], guard := some (20, false) }) (v := _) rfl (by kernel_rfl) (by kernel_rfl) (by kernel_rfl) (fun _ _ _ h => h) (Or.inl ⟨?wta21, ?hya21⟩) (by assumption) ?resta21
                case wta21 => rfl
                case hya21 => (intro w hSw; (try dsimp only at hSw); go_simp; try (with_reducible rfl))
                try simp only [Act.put, List.setIfInBounds_toArray, List.set_cons_zero, List.set_cons_succ]
                refine' wpAnyH_take (i := 22) (oi := { dst := some 41, op := Op.move (Operand.tmp 4), type := 3, pos := "ref.go:86", after := #[{ on := 20, ground := Ground.guard }], guard := some (20, false) }) (v := _) rfl (by kernel_rfl) (by kernel_rfl) (by kernel_rfl) (fun _ _ _ h => h) (Or.inl ⟨?wta22, ?hya22⟩) (by assumption) ?resta22
                case wta22 => rfl
                case hya22 => (intro w hSw; (try dsimp only at hSw); go_simp; try (with_reducible rfl))
                try simp only [Act.put, List.setIfInBounds_toArray, List.set_cons_zero, List.set_cons_succ]
                refine' wpAnyH_take (i := 23) (oi := { dst := some 42, op := Op.binOp BinOp.lss 3 (Operand.tmp 40) (Operand.tmp 41) 3, type := 4, pos := "ref.go:86", after := #[{ on := 21, ground := Ground.data }, { on := 22, ground := Ground.data }, { on := 20, ground := Ground.guard }], guard := some (20, false) }) (v := _) rfl (by kernel_rfl) (by kernel_rfl) (by kernel_rfl) (fun _ _ _ h => h) (Or.inl ⟨?wta23, ?hya23⟩) (by assumption) ?resta23
                case wta23 => rfl
                case hya23 => (intro w hSw; (try dsimp only at hSw); go_simp; try (with_reducible rfl))
                try simp only [Act.put, List.setIfInBounds_toArray, List.set_cons_zero, List.set_cons_succ]
                refine' wpAnyH_take (i := 24) (oi := { dst := some 43, op := Op.move (Operand.tmp 42), type := 4, pos := "ref.go:86", after := #[{ on := 23, ground := Ground.data }, { on := 20, ground := Ground.chain }, { on := 20, ground := Ground.guard }], guard := some (20, false) }) (v := _) rfl (by kernel_rfl) (by kernel_rfl) (by kernel_rfl) (fun _ _ _ h => h) (Or.inl ⟨?wta24, ?hya24⟩) (by assumption) ?resta24
                case wta24 => rfl
                case hya24 => (intro w hSw; (try dsimp only at hSw); go_simp; try (with_reducible rfl))
                try simp only [Act.put, List.setIfInBounds_toArray, List.set_cons_zero, List.set_cons_succ]
                refine' wpAnyH_take (i := 25) (oi := { dst := some 44, op := Op.move (Operand.tmp 0), type := 23, pos := "ref.go:86", after := #[{ on := 24, ground := Ground.guard }], guard := some (24, true) }) (v := undef) rfl (by kernel_rfl) (by kernel_rfl) (by kernel_rfl) (fun _ _ _ h => h) (Or.inr ⟨?wta25, rfl⟩) (by assumption) ?resta25
                case wta25 => rfl
                try simp only [Act.put, List.setIfInBounds_toArray, List.set_cons_zero, List.set_cons_succ]
                refine' wpAnyH_take (i := 26) (oi := { dst := some 45, op := Op.move (Operand.tmp 6), type := 3, pos := "ref.go:86", after := #[{ on := 24, ground := Ground.guard }], guard := some (24, true) }) (v := undef) rfl (by kernel_rfl) (by kernel_rfl) (by kernel_rfl) (fun _ _ _ h => h) (Or.inr ⟨?wta26, rfl⟩) (by assumption) ?resta26
                case wta26 => rfl
                try simp only [Act.put, List.setIfInBounds_toArray, List.set_cons_zero, List.set_cons_succ]
                refine' wpAnyH_take (i := 27) (oi := { dst := some 46, op := Op.indexAddr 23 (Operand.tmp 44) (Operand.tmp 45), type := 0, pos := "ref.go:86", after := #[{ on := 25, ground := Ground.data }, { on := 26, ground := Ground.data }, { on := 24, ground := Ground.guard }], guard := some (24, true) }) (v := undef) rfl (by kernel_rfl) (by kernel_rfl) (by kernel_rfl) (fun _ _ _ h => h) (Or.inr ⟨?wta27, rfl⟩) (by assumption) ?resta27
                case wta27 => rfl
                try simp only [Act.put, List.setIfInBounds_toArray, List.set_cons_zero, List.set_cons_succ]
                refine' wpAnyH_take (i := 28) (oi := { dst := some 47, op := Op.load 25 (Operand.tmp 46), type := 25, pos := "ref.go:86", after := #[{ on := 27, ground := Ground.data }, { on := 24, ground := Ground.guard }], guard := some (24, true) }) (v := undef) rfl (by kernel_rfl) (by kernel_rfl) (by kernel_rfl) (fun _ _ _ h => h) (Or.inr ⟨?wta28, rfl⟩) (by assumption) ?resta28
                case wta28 => rfl
                try simp only [Act.put, List.setIfInBounds_toArray, List.set_cons_zero, List.set_cons_succ]
                refine' wpAnyH_take (i := 29) (oi := { dst := some 48, op := Op.move (Operand.tmp 0), type := 23, pos := "ref.go:86", after := #[{ on := 24, ground := Ground.guard }], guard := some (24, true) }) (v := undef) rfl (by kernel_rfl) (by kernel_rfl) (by kernel_rfl) (fun _ _ _ h => h) (Or.inr ⟨?wta29, rfl⟩) (by assumption) ?resta29
                case wta29 => rfl
                try simp only [Act.put, List.setIfInBounds_toArray, List.set_cons_zero, List.set_cons_succ]
                refine' wpAnyH_take (i := 30) (oi := { dst := some 49, op := Op.move (Operand.tmp 4), type := 3, pos := "ref.go:86", after := #[{ on := 24, ground := Ground.guard }], guard := some (24, true) }) (v := undef) rfl (by kernel_rfl) (by kernel_rfl) (by kernel_rfl) (fun _ _ _ h => h) (Or.inr ⟨?wta30, rfl⟩) (by assumption) ?resta30
                case wta30 => rfl
                try simp only [Act.put, List.setIfInBounds_toArray, List.set_cons_zero, List.set_cons_succ]
                refine' wpAnyH_take (i := 31) (oi := { dst := some 50, op := Op.indexAddr 23 (Operand.tmp 48) (Operand.tmp 49), type := 0, pos := "ref.go:86", after := #[{ on := 29, ground := Ground.data }, { on := 30, ground := Ground.data }, { on := 24, ground := Ground.guard }], guard := some (24, true) }) (v := undef) rfl (by kernel_rfl) (by kernel_rfl) (by kernel_rfl) (fun _ _ _ h => h) (Or.inr ⟨?wta31, rfl⟩) (by assumption) ?resta31
                case wta31 => rfl
                try simp only [Act.put, List.setIfInBounds_toArray, List.set_cons_zero, List.set_cons_succ]
                refine' wpAnyH_take (i := 32) (oi := { dst := some 51, op := Op.load 25 (Operand.tmp 50), type := 25, pos := "ref.go:86", after := #[{ on := 31, ground := Ground.data }, { on := 24, ground := Ground.guard }], guard := some (24, true) }) (v := undef) rfl (by kernel_rfl) (by kernel_rfl) (by kernel_rfl) (fun _ _ _ h => h) (Or.inr ⟨?wta32, rfl⟩) (by assumption) ?resta32
                case wta32 => rfl
                try simp only [Act.put, List.setIfInBounds_toArray, List.set_cons_zero, List.set_cons_succ]
                refine' wpAnyH_take (i := 33) (oi := { dst := some 52, op := Op.binOp BinOp.eql 25 (Operand.tmp 47) (Operand.tmp 51) 25, type := 4, pos := "ref.go:86", after := #[{ on := 28, ground := Ground.data }, { on := 32, ground := Ground.data }, { on := 24, ground := Ground.guard }], guard := some (24, true) }) (v := undef) rfl (by kernel_rfl) (by kernel_rfl) (by kernel_rfl) (fun _ _ _ h => h) (Or.inr ⟨?wta33, rfl⟩) (by assumption) ?resta33
                case wta33 => rfl
                try simp only [Act.put, List.setIfInBounds_toArray, List.set_cons_zero, List.set_cons_succ]
                refine' wpAnyH_take (i := 34) (oi := { dst := some 53, op := Op.pick (Operand.tmp 43) (Operand.tmp 52) (Operand.const (Value.bool false)), type := 4, pos := "ref.go:86", after := #[{ on := 24, ground := Ground.data }, { on := 33, ground := Ground.data }, { on := 20, ground := Ground.guard }], guard := some (20, false) }) (v := _) rfl (by kernel_rfl) (by kernel_rfl) (by kernel_rfl) (fun _ _ _ h => h) (Or.inl ⟨?wta34, ?hya34⟩) (by assumption) ?resta34
                case wta34 => rfl
                case hya34 => (intro w hSw; (try dsimp only at hSw); go_simp; try (with_reducible rfl))
                try simp only [Act.put, List.setIfInBounds_toArray, List.set_cons_zero, List.set_cons_succ]
                refine' wpAnyH_take (i := 35) (oi := { dst := some 54, op := Op.pick (Operand.tmp 39) (Operand.const (Value.bool true)) (Operand.tmp 53), type := 4, pos := "ref.go:86", after := #[{ on := 20, ground := Ground.data }, { on := 34, ground := Ground.data }], guard := none }) (v := _) rfl (by kernel_rfl) (by kernel_rfl) (by kernel_rfl) (fun _ _ _ h => h) (Or.inl ⟨?wta35, ?hya35⟩) (by assumption) ?resta35
                case wta35 => rfl
                case hya35 => (intro w hSw; (try dsimp only at hSw); go_simp; try (with_reducible rfl))
                try simp only [Act.put, List.setIfInBounds_toArray, List.set_cons_zero, List.set_cons_succ]
                refine wpAnyH_done (by kernel_rfl) ?_ _
                go_wp2_with fail
                go_roundw
                case rel => exact ⟨m + 1, by omega, by go_num, by rw [Hst.out], hHeld2.2.2⟩
                case measure => simp [intOf]; omega
            · have Hst : Hid (isHiP (atL ls) i (m + 1) = false) := by show _ = _; rw [hst]; simp
              clear hst h1 h2
              go_wp2_with fail
              refine wp_region_held_drew (S := fun w' => w'.cell? ⟨b, o + m, none⟩ = some (.int .u64 ((y : Nat) : Int)) ∧ w'.cell? ⟨b, o + i, none⟩ = some (.int .u64 ((x : Nat) : Int)) ∧ Below wo.heap.size wo w') (by kernel_rfl) ?_ (fun hHeld => ?_)
              · exact ⟨by simp; assumption, by simp; assumption, Hb2.out.drew⟩
              refine' wpAnyH_take (i := 0) (oi := { dst := some 19, op := Op.move (Operand.tmp 0), type := 23, pos := "ref.go:86", after := #[], guard := none }) (v := _) rfl (by kernel_rfl) (by kernel_rfl) (by kernel_rfl) (fun _ _ _ h => h) (Or.inl ⟨?wtb0, ?hyb0⟩) (by assumption) ?restb0
              case wtb0 => rfl
              case hyb0 => (intro w hSw; (try dsimp only at hSw); go_simp; try (with_reducible rfl))
              try simp only [Act.put, List.setIfInBounds_toArray, List.set_cons_zero, List.set_cons_succ]
              refine' wpAnyH_take (i := 1) (oi := { dst := some 20, op := Op.move (Operand.tmp 6), type := 3, pos := "ref.go:86", after := #[], guard := none }) (v := _) rfl (by kernel_rfl) (by kernel_rfl) (by kernel_rfl) (fun _ _ _ h => h) (Or.inl ⟨?wtb1, ?hyb1⟩) (by assumption) ?restb1
              case wtb1 => rfl
              case hyb1 => (intro w hSw; (try dsimp only at hSw); go_simp; try (with_reducible rfl))
              try simp only [Act.put, List.setIfInBounds_toArray, List.set_cons_zero, List.set_cons_succ]
              refine' wpAnyH_take (i := 2) (oi := { dst := some 21, op := Op.indexAddr 23 (Operand.tmp 19) (Operand.tmp 20), type := 0, pos := "ref.go:86", after := #[{ on := 0, ground := Ground.data }, { on := 1, ground := Ground.data }], guard := none }) (v := _) rfl (by kernel_rfl) (by kernel_rfl) (by kernel_rfl) (fun _ _ _ h => h) (Or.inl ⟨?wtb2, ?hyb2⟩) (by assumption) ?restb2
              case wtb2 => rfl
              case hyb2 => (intro w hSw; (try dsimp only at hSw); go_simp; try (with_reducible rfl))
              try simp only [Act.put, List.setIfInBounds_toArray, List.set_cons_zero, List.set_cons_succ]
              refine' wpAnyH_take (i := 3) (oi := { dst := some 22, op := Op.load 25 (Operand.tmp 21), type := 25, pos := "ref.go:86", after := #[{ on := 2, ground := Ground.data }], guard := none }) (v := _) rfl (by kernel_rfl) (by kernel_rfl) (by kernel_rfl) (fun _ _ _ h => h) (Or.inl ⟨?wtb3, ?hyb3⟩) (by assumption) ?restb3
              case wtb3 => rfl
              case hyb3 => (intro w hSw; (try dsimp only at hSw); go_simp; try (with_reducible rfl))
              try simp only [Act.put, List.setIfInBounds_toArray, List.set_cons_zero, List.set_cons_succ]
              refine' wpAnyH_take (i := 4) (oi := { dst := some 23, op := Op.move (Operand.tmp 0), type := 23, pos := "ref.go:86", after := #[], guard := none }) (v := _) rfl (by kernel_rfl) (by kernel_rfl) (by kernel_rfl) (fun _ _ _ h => h) (Or.inl ⟨?wtb4, ?hyb4⟩) (by assumption) ?restb4
              case wtb4 => rfl
              case hyb4 => (intro w hSw; (try dsimp only at hSw); go_simp; try (with_reducible rfl))
              try simp only [Act.put, List.setIfInBounds_toArray, List.set_cons_zero, List.set_cons_succ]
              refine' wpAnyH_take (i := 5) (oi := { dst := some 24, op := Op.move (Operand.tmp 4), type := 3, pos := "ref.go:86", after := #[], guard := none }) (v := _) rfl (by kernel_rfl) (by kernel_rfl) (by kernel_rfl) (fun _ _ _ h => h) (Or.inl ⟨?wtb5, ?hyb5⟩) (by assumption) ?restb5
              case wtb5 => rfl
              case hyb5 => (intro w hSw; (try dsimp only at hSw); go_simp; try (with_reducible rfl))
              try simp only [Act.put, List.setIfInBounds_toArray, List.set_cons_zero, List.set_cons_succ]
              refine' wpAnyH_take (i := 6) (oi := { dst := some 25, op := Op.indexAddr 23 (Operand.tmp 23) (Operand.tmp 24), type := 0, pos := "ref.go:86", after := #[{ on := 4, ground := Ground.data }, { on := 5, ground := Ground.data }], guard := none }) (v := _) rfl (by kernel_rfl) (by kernel_rfl) (by kernel_rfl) (fun _ _ _ h => h) (Or.inl ⟨?wtb6, ?hyb6⟩) (by assumption) ?restb6
              case wtb6 => rfl
              case hyb6 => (intro w hSw; (try dsimp only at hSw); go_simp; try (with_reducible rfl))
              try simp only [Act.put, List.setIfInBounds_toArray, List.set_cons_zero, List.set_cons_succ]
              refine' wpAnyH_take (i := 7) (oi := { dst := some 26, op := Op.load 25 (Operand.tmp 25), type := 25, pos := "ref.go:86", after := #[{ on := 6, ground := Ground.data }], guard := none }) (v := _) rfl (by kernel_rfl) (by kernel_rfl) (by kernel_rfl) (fun _ _ _ h => h) (Or.inl ⟨?wtb7, ?hyb7⟩) (by assumption) ?restb7
              case wtb7 => rfl
              case hyb7 => (intro w hSw; (try dsimp only at hSw); go_simp; try (with_reducible rfl))
              try simp only [Act.put, List.setIfInBounds_toArray, List.set_cons_zero, List.set_cons_succ]
              refine' wpAnyH_take (i := 8) (oi := { dst := some 27, op := Op.binOp BinOp.neq 25 (Operand.tmp 22) (Operand.tmp 26) 25, type := 4, pos := "ref.go:86", after := #[{ on := 3, ground := Ground.data }, { on := 7, ground := Ground.data }], guard := none }) (v := _) rfl (by kernel_rfl) (by kernel_rfl) (by kernel_rfl) (fun _ _ _ h => h) (Or.inl ⟨?wtb8, ?hyb8⟩) (by assumption) ?restb8
              case wtb8 => rfl
              case hyb8 => (intro w hSw; (try dsimp only at hSw); go_simp; try (with_reducible rfl))
              try simp only [Act.put, List.setIfInBounds_toArray, List.set_cons_zero, List.set_cons_succ]
              refine' wpAnyH_take (i := 9) (oi := { dst := some 28, op := Op.move (Operand.tmp 27), type := 4, pos := "ref.go:86", after := #[{ on := 8, ground := Ground.data }], guard := none }) (v := _) rfl (by kernel_rfl) (by kernel_rfl) (by kernel_rfl) (fun _ _ _ h => h) (Or.inl ⟨?wtb9, ?hyb9⟩) (by assumption) ?restb9
              case wtb9 => rfl
              case hyb9 => (intro w hSw; (try dsimp only at hSw); go_simp; try (with_reducible rfl))
              try simp only [Act.put, List.setIfInBounds_toArray, List.set_cons_zero, List.set_cons_succ]
              refine' wpAnyH_take (i := 10) (oi := { dst := some 29, op := Op.move (Operand.tmp 0), type := 23, pos := "ref.go:86", after := #[{ on := 9, ground := Ground.guard }], guard := some (9, true) }) (v := _) rfl (by kernel_rfl) (by kernel_rfl) (by kernel_rfl) (fun _ _ _ h => h) (Or.inl ⟨?wtb10, ?hyb10⟩) (by assumption) ?restb10
              case wtb10 => rfl
              case hyb10 => (intro w hSw; (try dsimp only at hSw); go_simp; try (with_reducible rfl))
              try simp only [Act.put, List.setIfInBounds_toArray, List.set_cons_zero, List.set_cons_succ]
              refine' wpAnyH_take (i := 11) (oi := { dst := some 30, op := Op.move (Operand.tmp 4), type := 3, pos := "ref.go:86", after := #[{ on := 9, ground := Ground.guard }], guard := some (9, true) }) (v := _) rfl (by kernel_rfl) (by kernel_rfl) (by kernel_rfl) (fun _ _ _ h => h) (Or.inl ⟨?wtb11, ?hyb11⟩) (by assumption) ?restb11
              case wtb11 => rfl
              case hyb11 => (intro w hSw; (try dsimp only at hSw); go_simp; try (with_reducible rfl))
              try simp only [Act.put, List.setIfInBounds_toArray, List.set_cons_zero, List.set_cons_succ]
              refine' wpAnyH_take (i := 12) (oi := { dst := some 31, op := Op.indexAddr 23 (Operand.tmp 29) (Operand.tmp 30), type := 0, pos := "ref.go:86", after := #[{ on := 10, ground := Ground.data }, { on := 11, ground := Ground.data }, { on := 9, ground := Ground.guard }], guard := some (9, true) }) (v := _) rfl (by kernel_rfl) (by kernel_rfl) (by kernel_rfl) (fun _ _ _ h => h) (Or.inl ⟨?wtb12, ?hyb12⟩) (by assumption) ?restb12
              case wtb12 => rfl
              case hyb12 => (intro w hSw; (try dsimp only at hSw); go_simp; try (with_reducible rfl))
              try simp only [Act.put, List.setIfInBounds_toArray, List.set_cons_zero, List.set_cons_succ]
              refine' wpAnyH_take (i := 13) (oi := { dst := some 32, op := Op.load 25 (Operand.tmp 31), type := 25, pos := "ref.go:86", after := #[{ on := 12, ground := Ground.data }, { on := 9, ground := Ground.guard }], guard := some (9, true) }) (v := _) rfl (by kernel_rfl) (by kernel_rfl) (by kernel_rfl) (fun _ _ _ h => h) (Or.inl ⟨?wtb13, ?hyb13⟩) (by assumption) ?restb13
              case wtb13 => rfl
              case hyb13 => (intro w hSw; (try dsimp only at hSw); go_simp; try (with_reducible rfl))
              try simp only [Act.put, List.setIfInBounds_toArray, List.set_cons_zero, List.set_cons_succ]
              refine' wpAnyH_take (i := 14) (oi := { dst := some 33, op := Op.move (Operand.tmp 0), type := 23, pos := "ref.go:86", after := #[{ on := 9, ground := Ground.guard }], guard := some (9, true) }) (v := _) rfl (by kernel_rfl) (by kernel_rfl) (by kernel_rfl) (fun _ _ _ h => h) (Or.inl ⟨?wtb14, ?hyb14⟩) (by assumption) ?restb14
              case wtb14 => rfl
              case hyb14 => (intro w hSw; (try dsimp only at hSw); go_simp; try (with_reducible rfl))
              try simp only [Act.put, List.setIfInBounds_toArray, List.set_cons_zero, List.set_cons_succ]
              refine' wpAnyH_take (i := 15) (oi := { dst := some 34, op := Op.move (Operand.tmp 6), type := 3, pos := "ref.go:86", after := #[{ on := 9, ground := Ground.guard }], guard := some (9, true) }) (v := _) rfl (by kernel_rfl) (by kernel_rfl) (by kernel_rfl) (fun _ _ _ h => h) (Or.inl ⟨?wtb15, ?hyb15⟩) (by assumption) ?restb15
              case wtb15 => rfl
              case hyb15 => (intro w hSw; (try dsimp only at hSw); go_simp; try (with_reducible rfl))
              try simp only [Act.put, List.setIfInBounds_toArray, List.set_cons_zero, List.set_cons_succ]
              refine' wpAnyH_take (i := 16) (oi := { dst := some 35, op := Op.indexAddr 23 (Operand.tmp 33) (Operand.tmp 34), type := 0, pos := "ref.go:86", after := #[{ on := 14, ground := Ground.data }, { on := 15, ground := Ground.data }, { on := 9, ground := Ground.guard }], guard := some (9, true) }) (v := _) rfl (by kernel_rfl) (by kernel_rfl) (by kernel_rfl) (fun _ _ _ h => h) (Or.inl ⟨?wtb16, ?hyb16⟩) (by assumption) ?restb16
              case wtb16 => rfl
              case hyb16 => (intro w hSw; (try dsimp only at hSw); go_simp; try (with_reducible rfl))
              try simp only [Act.put, List.setIfInBounds_toArray, List.set_cons_zero, List.set_cons_succ]
              refine' wpAnyH_take (i := 17) (oi := { dst := some 36, op := Op.load 25 (Operand.tmp 35), type := 25, pos := "ref.go:86", after := #[{ on := 16, ground := Ground.data }, { on := 9, ground := Ground.guard }], guard := some (9, true) }) (v := _) rfl (by kernel_rfl) (by kernel_rfl) (by kernel_rfl) (fun _ _ _ h => h) (Or.inl ⟨?wtb17, ?hyb17⟩) (by assumption) ?restb17
              case wtb17 => rfl
              case hyb17 => (intro w hSw; (try dsimp only at hSw); go_simp; try (with_reducible rfl))
              try simp only [Act.put, List.setIfInBounds_toArray, List.set_cons_zero, List.set_cons_succ]
              refine wpAnyH_ready (rs := [18]) (by kernel_rfl) (by simp) ?_
              refine AllReadyH.cons (o := { dst := some 37, op := Op.call { callee := Callee.value (Operand.func 12), args := #[Operand.tmp 32, Operand.tmp 36], argTypes := #[25, 25] }, type := 4, pos := "ref.go:86", after := #[{ on := 13, ground := Ground.data }, { on := 17, ground := Ground.data }, { on := 9, ground := Ground.chain }, { on := 9, ground := Ground.guard }], guard := some (9, true) }) rfl (fun K hK => ?_) AllReadyH.nil
              go_simp
              refine (Hcall.out _).mono ?_
              rintro e w1 ⟨rfl, hc1⟩
              go_wp2_with fail
              refine hK.out _ _ ?_ (fun hHeld2 => ?_)
              · exact ⟨cell_kept hc1 hHeld.1, cell_kept hc1 hHeld.2.1, below_join hHeld.2.2 hc1⟩
              clear hK K
              try simp only [Act.put, List.setIfInBounds_toArray, List.set_cons_zero, List.set_cons_succ]
              refine' wpAnyH_take (i := 19) (oi := { dst := some 38, op := Op.pick (Operand.tmp 28) (Operand.tmp 37) (Operand.const (Value.bool false)), type := 4, pos := "ref.go:86", after := #[{ on := 9, ground := Ground.data }, { on := 18, ground := Ground.data }], guard := none }) (v := _) rfl (by kernel_rfl) (by kernel_rfl) (by kernel_rfl) (fun _ _ _ h => h) (Or.inl ⟨?wtb19, ?hyb19⟩) (by assumption) ?restb19
              case wtb19 => rfl
              case hyb19 => (intro w hSw; (try dsimp only at hSw); go_simp; try (with_reducible rfl))
              try simp only [Act.put, List.setIfInBounds_toArray, List.set_cons_zero, List.set_cons_succ]
              refine' wpAnyH_take (i := 20) (oi := { dst := some 39, op := Op.move (Operand.tmp 38), type := 4, pos := "ref.go:86", after := #[{ on := 19, ground := Ground.data }, { on := 18, ground := Ground.chain }], guard := none }) (v := _) rfl (by kernel_rfl) (by kernel_rfl) (by kernel_rfl) (fun _ _ _ h => h) (Or.inl ⟨?wtb20, ?hyb20⟩) (by assumption) ?restb20
              case wtb20 => rfl
              case hyb20 => (intro w hSw; (try dsimp only at hSw); go_simp; try (with_reducible rfl))
              try simp only [Act.put, List.setIfInBounds_toArray, List.set_cons_zero, List.set_cons_succ]
              refine' wpAnyH_take (i := 21) (oi := { dst := some 40, op := Op.move (Operand.tmp 6), type := 3, pos := "ref.go:86", after := #[{ on := 20, ground := Ground.guard }], guard := some (20, false) }) (v := undef) rfl (by kernel_rfl) (by kernel_rfl) (by kernel_rfl) (fun _ _ _ h => h) (Or.inr ⟨?wtb21, rfl⟩) (by assumption) ?restb21
              case wtb21 => rfl
              try simp only [Act.put, List.setIfInBounds_toArray, List.set_cons_zero, List.set_cons_succ]
              refine' wpAnyH_take (i := 22) (oi := { dst := some 41, op := Op.move (Operand.tmp 4), type := 3, pos := "ref.go:86", after := #[{ on := 20, ground := Ground.guard }], guard := some (20, false) }) (v := undef) rfl (by kernel_rfl) (by kernel_rfl) (by kernel_rfl) (fun _ _ _ h => h) (Or.inr ⟨?wtb22, rfl⟩) (by assumption) ?restb22
              case wtb22 => rfl
              try simp only [Act.put, List.setIfInBounds_toArray, List.set_cons_zero, List.set_cons_succ]
              refine' wpAnyH_take (i := 23) (oi := { dst := some 42, op := Op.binOp BinOp.lss 3 (Operand.tmp 40) (Operand.tmp 41) 3, type := 4, pos := "ref.go:86", after := #[{ on := 21, ground := Ground.data }, { on := 22, ground := Ground.data }, { on := 20, ground := Ground.guard }], guard := some (20, false) }) (v := undef) rfl (by kernel_rfl) (by kernel_rfl) (by kernel_rfl) (fun _ _ _ h => h) (Or.inr ⟨?wtb23, rfl⟩) (by assumption) ?restb23
              case wtb23 => rfl
              try simp only [Act.put, List.setIfInBounds_toArray, List.set_cons_zero, List.set_cons_succ]
              refine' wpAnyH_take (i := 24) (oi := { dst := some 43, op := Op.move (Operand.tmp 42), type := 4, pos := "ref.go:86", after := #[{ on := 23, ground := Ground.data }, { on := 20, ground := Ground.chain }, { on := 20, ground := Ground.guard }], guard := some (20, false) }) (v := undef) rfl (by kernel_rfl) (by kernel_rfl) (by kernel_rfl) (fun _ _ _ h => h) (Or.inr ⟨?wtb24, rfl⟩) (by assumption) ?restb24
              case wtb24 => rfl
              try simp only [Act.put, List.setIfInBounds_toArray, List.set_cons_zero, List.set_cons_succ]
              refine' wpAnyH_take (i := 25) (oi := { dst := some 44, op := Op.move (Operand.tmp 0), type := 23, pos := "ref.go:86", after := #[{ on := 24, ground := Ground.guard }], guard := some (24, true) }) (v := undef) rfl (by kernel_rfl) (by kernel_rfl) (by kernel_rfl) (fun _ _ _ h => h) (Or.inr ⟨?wtb25, rfl⟩) (by assumption) ?restb25
              case wtb25 => rfl
              try simp only [Act.put, List.setIfInBounds_toArray, List.set_cons_zero, List.set_cons_succ]
              refine' wpAnyH_take (i := 26) (oi := { dst := some 45, op := Op.move (Operand.tmp 6), type := 3, pos := "ref.go:86", after := #[{ on := 24, ground := Ground.guard }], guard := some (24, true) }) (v := undef) rfl (by kernel_rfl) (by kernel_rfl) (by kernel_rfl) (fun _ _ _ h => h) (Or.inr ⟨?wtb26, rfl⟩) (by assumption) ?restb26
              case wtb26 => rfl
              try simp only [Act.put, List.setIfInBounds_toArray, List.set_cons_zero, List.set_cons_succ]
              refine' wpAnyH_take (i := 27) (oi := { dst := some 46, op := Op.indexAddr 23 (Operand.tmp 44) (Operand.tmp 45), type := 0, pos := "ref.go:86", after := #[{ on := 25, ground := Ground.data }, { on := 26, ground := Ground.data }, { on := 24, ground := Ground.guard }], guard := some (24, true) }) (v := undef) rfl (by kernel_rfl) (by kernel_rfl) (by kernel_rfl) (fun _ _ _ h => h) (Or.inr ⟨?wtb27, rfl⟩) (by assumption) ?restb27
              case wtb27 => rfl
              try simp only [Act.put, List.setIfInBounds_toArray, List.set_cons_zero, List.set_cons_succ]
              refine' wpAnyH_take (i := 28) (oi := { dst := some 47, op := Op.load 25 (Operand.tmp 46), type := 25, pos := "ref.go:86", after := #[{ on := 27, ground := Ground.data }, { on := 24, ground := Ground.guard }], guard := some (24, true) }) (v := undef) rfl (by kernel_rfl) (by kernel_rfl) (by kernel_rfl) (fun _ _ _ h => h) (Or.inr ⟨?wtb28, rfl⟩) (by assumption) ?restb28
              case wtb28 => rfl
              try simp only [Act.put, List.setIfInBounds_toArray, List.set_cons_zero, List.set_cons_succ]
              refine' wpAnyH_take (i := 29) (oi := { dst := some 48, op := Op.move (Operand.tmp 0), type := 23, pos := "ref.go:86", after := #[{ on := 24, ground := Ground.guard }], guard := some (24, true) }) (v := undef) rfl (by kernel_rfl) (by kernel_rfl) (by kernel_rfl) (fun _ _ _ h => h) (Or.inr ⟨?wtb29, rfl⟩) (by assumption) ?restb29
              case wtb29 => rfl
              try simp only [Act.put, List.setIfInBounds_toArray, List.set_cons_zero, List.set_cons_succ]
              refine' wpAnyH_take (i := 30) (oi := { dst := some 49, op := Op.move (Operand.tmp 4), type := 3, pos := "ref.go:86", after := #[{ on := 24, ground := Ground.guard }], guard := some (24, true) }) (v := undef) rfl (by kernel_rfl) (by kernel_rfl) (by kernel_rfl) (fun _ _ _ h => h) (Or.inr ⟨?wtb30, rfl⟩) (by assumption) ?restb30
              case wtb30 => rfl
              try simp only [Act.put, List.setIfInBounds_toArray, List.set_cons_zero, List.set_cons_succ]
              refine' wpAnyH_take (i := 31) (oi := { dst := some 50, op := Op.indexAddr 23 (Operand.tmp 48) (Operand.tmp 49), type := 0, pos := "ref.go:86", after := #[{ on := 29, ground := Ground.data }, { on := 30, ground := Ground.data }, { on := 24, ground := Ground.guard }], guard := some (24, true) }) (v := undef) rfl (by kernel_rfl) (by kernel_rfl) (by kernel_rfl) (fun _ _ _ h => h) (Or.inr ⟨?wtb31, rfl⟩) (by assumption) ?restb31
              case wtb31 => rfl
              try simp only [Act.put, List.setIfInBounds_toArray, List.set_cons_zero, List.set_cons_succ]
              refine' wpAnyH_take (i := 32) (oi := { dst := some 51, op := Op.load 25 (Operand.tmp 50), type := 25, pos := "ref.go:86", after := #[{ on := 31, ground := Ground.data }, { on := 24, ground := Ground.guard }], guard := some (24, true) }) (v := undef) rfl (by kernel_rfl) (by kernel_rfl) (by kernel_rfl) (fun _ _ _ h => h) (Or.inr ⟨?wtb32, rfl⟩) (by assumption) ?restb32
              case wtb32 => rfl
              try simp only [Act.put, List.setIfInBounds_toArray, List.set_cons_zero, List.set_cons_succ]
              refine' wpAnyH_take (i := 33) (oi := { dst := some 52, op := Op.binOp BinOp.eql 25 (Operand.tmp 47) (Operand.tmp 51) 25, type := 4, pos := "ref.go:86", after := #[{ on := 28, ground := Ground.data }, { on := 32, ground := Ground.data }, { on := 24, ground := Ground.guard }], guard := some (24, true) }) (v := undef) rfl (by kernel_rfl) (by kernel_rfl) (by kernel_rfl) (fun _ _ _ h => h) (Or.inr ⟨?wtb33, rfl⟩) (by assumption) ?restb33
              case wtb33 => rfl
              try simp only [Act.put, List.setIfInBounds_toArray, List.set_cons_zero, List.set_cons_succ]
              refine' wpAnyH_take (i := 34) (oi := { dst := some 53, op := Op.pick (Operand.tmp 43) (Operand.tmp 52) (Operand.const (Value.bool false)), type := 4, pos := "ref.go:86", after := #[{ on := 24, ground := Ground.data }, { on := 33, ground := Ground.data }, { on := 20, ground := Ground.guard }], guard := some (20, false) }) (v := undef) rfl (by kernel_rfl) (by kernel_rfl) (by kernel_rfl) (fun _ _ _ h => h) (Or.inr ⟨?wtb34, rfl⟩) (by assumption) ?restb34
              case wtb34 => rfl
              try simp only [Act.put, List.setIfInBounds_toArray, List.set_cons_zero, List.set_cons_succ]
              refine' wpAnyH_take (i := 35) (oi := { dst := some 54, op := Op.pick (Operand.tmp 39) (Operand.const (Value.bool true)) (Operand.tmp 53), type := 4, pos := "ref.go:86", after := #[{ on := 20, ground := Ground.data }, { on := 34, ground := Ground.data }], guard := none }) (v := _) rfl (by kernel_rfl) (by kernel_rfl) (by kernel_rfl) (fun _ _ _ h => h) (Or.inl ⟨?wtb35, ?hyb35⟩) (by assumption) ?restb35
              case wtb35 => rfl
              case hyb35 => (intro w hSw; (try dsimp only at hSw); go_simp; try (with_reducible rfl))
              try simp only [Act.put, List.setIfInBounds_toArray, List.set_cons_zero, List.set_cons_succ]
              refine wpAnyH_done (by kernel_rfl) ?_ _
              go_wp2_with fail
              go_roundw
              case rel => exact ⟨m + 1, by omega, by go_num, by rw [Hst.out], hHeld2.2.2⟩
              case measure => simp [intOf]; omega
        · obtain rfl : m = n := by omega
          have Hto := Lib.hid (hiTo_succ (atL ls) m i)
          have hto := Hto.out
          rw [HB.out, Hx.out] at hto
          have Hto2 := Lib.hid hto
          have Hown2 := Lib.hid (own_kept Hown.out Hb2.out)
          have ci2 := cell_kept Hbb.out Ci.out
          clear hst hto
          cases B
          · go_wp2_with fail
            go_roundw
            case rel => exact ⟨i + 1, hs, by omega, by go_num, by show _ = _; rw [Hto2.out, Hhs.out]; simp, by omega, Hown2.out, Hbb.out⟩
            case measure => simp [intOf]; omega
          · obtain ⟨l, hl⟩ : ∃ l, hs.length = l := ⟨_, rfl⟩
            have Hl := Lib.hid hl
            have Hown3 := Lib.hid (show wr.ownsRow w.heap.size 25 1 u3 l (valsL hs) by rw [← hl]; exact Hown2.out)
            rw [hl] at hhl
            clear hl
            go_wp2_with (at_builtin; refine wpList_append_own _ rfl _ _ 23 rfl w.heap.size 25 i0 (.int .u64 0) 1 8 Try.underlying23 hi hz0 hz1 hz2 rfl (by decide) _ _ _ rfl (Hown3.out.alloc _) ⟨wr.heap.size, 0, none⟩ 1 1 [.int .u64 x] rfl rfl (one_cellL _ _ _) (one_listL _ rfl) ?d3 ?d4 ?d5 ?_)
            case d3 => unfold maxLen; omega
            case d4 => omega
            case d5 => exact Nat.le_trans Hbb.out.size (by simp)
            intro v3 w3 hown3 hgrow3 _
            have B3 := Lib.hid ((Hbb.out.alloc Hbb.out.size _).grown hgrow3 (Nat.le_trans Hbb.out.size (by simp)) (fun q hq => (Hown3.out.lt q hq).1))
            have Ho3 := Lib.hid hown3
            clear hown3 hgrow3
            go_wp2_with fail
            go_roundw
            case rel =>
              refine ⟨i + 1, hs ++ [⟨x, hx⟩], by omega, by go_num, ?_, by rw [List.length_append, Hl.out]; simp; omega, ?_, B3.out⟩
              · show _ = _
                rw [Hto2.out, List.map_append, Hhs.out]; simp
              · have e : valsL (hs ++ [⟨x, hx⟩]) = valsL hs ++ [.int .u64 (x : Int)] := by simp [valsL, encL]
                rw [e, List.length_append, Hl.out]
                exact Ho3.out
            case measure => simp [intOf]; omega
    · obtain rfl : i = n := by omega
      go_wp2_with fail
      go_ret
      exact ⟨_, hs, rfl, by rw [Hhs.out, Hn.out, ← hi_same], Hown.out, Hbw.out⟩
end Go.Proofs.Ytlmdcflnifmjjaa
