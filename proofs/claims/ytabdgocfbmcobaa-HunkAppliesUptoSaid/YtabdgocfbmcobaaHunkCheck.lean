/- Own work: the program's Check. -/
import Derived.Test.YtabdgocfbmcobaaHunkRefC
import Derived.WalkMore
namespace Go.Proofs.Ytabdgocfbmcobaa
open Go.RowKit

set_option maxRecDepth 100000 in
set_option maxHeartbeats 16000000 in
theorem check_any (v : Value) (l : List HunkV) (w : World) (hv : Hks w v l) (hf : ∀ m ∈ l, m.Fit) (hl : l.length * 56 ≤ 140737488355328) :
    Calls Try.prog 12 #[v] w fun e w' => e = .returned (.tuple #[.int .i64 ((chkL (l.map HunkV.txt)).1 : Int), .int .i64 ((chkL (l.map HunkV.txt)).2 : Int)]) ∧ Below w.heap.size w w' := by
  obtain ⟨ao, cap, b, o, rfl, hao, hm, hc⟩ := hv
  obtain ⟨n, hn⟩ : ∃ n, l.length = n := ⟨_, rfl⟩
  have Hn := Lib.hid hn
  have HL : Hid ((l.map HunkV.txt).length = n) := by show _ = _; rw [List.length_map, hn]
  rw [hn] at hao hm hl ⊢
  have Hao := Lib.hid hao
  have Hc := Lib.hid hc
  have Hf := Lib.hid hf
  obtain ⟨L, hL⟩ : ∃ L, l.map HunkV.txt = L := ⟨_, rfl⟩
  have HLe := Lib.hid hL
  have HG : Hid (∀ (k : Nat) (h : k < l.length), okAt L k = (headOk (behindL L k) (l[k]'h).at_ ((l[k]'h).old.length + (l[k]'h).new.length) && fineL (l[k]'h).old && fineL (l[k]'h).new)) := by
    intro k h
    subst hL
    rw [okAt_get (by rw [List.length_map]; exact h), ← ok_head, txt_get h]
  rw [hL] at HL ⊢
  clear hao hc hn hf hL
  unfold maxLen at hm
  go_enter Try.func12, Try.ntmps12
  go_wp2_with fail
  go_step3
  go_wp2_with fail
  go_step3
  go_wp2_with fail
  go_loopw [4, 5] (fun i bv wr => ∃ k : Nat, k ≤ n ∧ i = .int .i64 k ∧ bv = .int .i64 (behindL L k) ∧ Hid (∀ j, j < k → okAt L j = true) ∧ Hid (Below w.heap.size w wr)) (fun i _ _ => n - (intOf i).toNat)
  case atStart => exact ⟨0, Nat.zero_le _, rfl, rfl, (fun j h => absurd h (by omega)), Below.refl _ _⟩
  case round =>
    obtain ⟨k, hk, rfl, rfl, HO, HB⟩ := hrel
    by_cases hlt : k < n
    · have hkl : k < l.length := by have := Hn.out; omega
      obtain rfl := Hao.out (by omega)
      obtain ⟨c0, c1, c2, t1, t2⟩ := Hc.out k hkl
      have HGk := Lib.hid (HG.out k hkl)
      have HF := Lib.hid (Hf.out _ (List.getElem_mem hkl))
      have HNx : Hid (behindL L (k + 1) = (l[k]'hkl).at_ + (l[k]'hkl).old.length) := by
        show _ = _
        rw [behind_succ (by have := HL.out; omega)]
        simp only [← HLe.out, List.getElem_map, HunkV.txt]
      obtain ⟨x, hx⟩ : ∃ x, l[k]'hkl = x := ⟨_, rfl⟩
      rw [hx] at c0 c1 c2 t1 t2 HGk HF HNx
      obtain ⟨x1, x2, x3, x4, x5⟩ := x
      dsimp only at c0 c1 c2 t1 t2 HGk HNx
      have T1 := Lib.hid t1
      have T2 := Lib.hid t2
      obtain ⟨o1, p1, e1⟩ := t1.lenForm
      obtain ⟨o2, p2, e2⟩ := t2.lenForm
      subst e1 e2
      obtain ⟨on, hon⟩ : ∃ on, x4.length = on := ⟨_, rfl⟩
      obtain ⟨nn, hnn⟩ : ∃ nn, x5.length = nn := ⟨_, rfl⟩
      have Hon := Lib.hid hon
      have Hnn := Lib.hid hnn
      rw [hon] at c1 HGk HNx T1
      rw [hnn] at c2 HGk T2
      have hlo : on * 16 ≤ 140737488351232 := by have := HF.out.lo; simp only at this; omega
      have hln : nn * 16 ≤ 140737488351232 := by have := HF.out.ln; simp only at this; omega
      clear hx t1 t2 hon hnn
      have c0 := cell_kept HB.out c0
      have c1 := cell_kept HB.out c1
      have c2 := cell_kept HB.out c2
      have ki0 : (0 : Int) ≤ (k : Int) := by omega
      have ki1 : (k : Int) < (n : Int) := by omega
      have hra := heap_alloc_new wr (.cells #[.int .i64 x1, .slice o1 on p1, .slice o2 nn p2] 43)
      have hal : Below wr.heap.size wr (wr.alloc (.cells #[.int .i64 x1, .slice o1 on p1, .slice o2 nn p2] 43)) := (Below.refl _ _).alloc (Nat.le_refl _) _
      have HB3 := Lib.hid (HB.out.trans (hal.mono HB.out.size))
      go_upto_region 5 with fail
      obtain ⟨w3, hw3⟩ : ∃ w3, wr.alloc (.cells #[.int .i64 x1, .slice o1 on p1, .slice o2 nn p2] 43) = w3 := ⟨_, rfl⟩
      rw [hw3] at hra HB3 ⊢
      obtain ⟨A, hA⟩ : ∃ A, wr.heap.size = A := ⟨_, rfl⟩
      rw [hA] at hra ⊢
      clear c0 c1 c2 hw3 hal hA
      have a0 : w3.cell? ⟨A, 0, none⟩ = some (.int .i64 x1) := cell_of_row _ _ 0 _ _ _ hra
      have a1 : w3.cell? ⟨A, 1, none⟩ = some (.slice o1 on p1) := cell_of_row _ _ 1 _ _ _ hra
      have a2 : w3.cell? ⟨A, 2, none⟩ = some (.slice o2 nn p2) := cell_of_row _ _ 2 _ _ _ hra
      clear hra
      have HBg := Lib.hid (behind_ge HO.out (by have := HL.out; omega)).1
      obtain ⟨bh, hbh⟩ : ∃ bh, behindL L k = bh := ⟨_, rfl⟩
      rw [hbh] at HGk HBg ⊢
      obtain ⟨hd, hhd⟩ : ∃ hd, headOk bh x1 (on + nn) = hd := ⟨_, rfl⟩
      have HH : Hid (hd = true ↔ bh < x1 ∧ x1 ≤ 2147483647 ∧ 0 < on + nn) := by
        show _ ↔ _
        rw [← hhd]
        simp only [headOk, Bool.and_eq_true, decide_eq_true_eq, and_assoc]
      rw [hhd] at HGk
      clear hbh hhd
      go_cut [41] from 21 to 41 (fun c wx => c = .bool (!hd) ∧ wx = w3)
      case first =>
        have HV : Hid (∀ c : Bool, (c = true ↔ bh < x1 ∧ x1 ≤ 2147483647 ∧ 0 < on + nn) → hd = c) := by
          intro c hc
          rw [Bool.eq_iff_iff, hc, HH.out]
        by_cases hA : x1 ≤ bh
        · have HW := Lib.hid (HV.out false (by simp; omega))
          go_wp2_with fail
          go_meet
          exact ⟨by rw [HW.out]; rfl, rfl⟩
        · by_cases hC : 2147483647 < x1
          · have HW := Lib.hid (HV.out false (by simp; omega))
            go_wp2_with fail
            go_meet
            exact ⟨by rw [HW.out]; rfl, rfl⟩
          · by_cases hD : on = 0
            · have d1 : ((on : Int) == 0) = true := by simp; omega
              by_cases hE : nn = 0
              · have HW := Lib.hid (HV.out false (by simp; omega))
                have d2 : ((nn : Int) == 0) = true := by simp; omega
                clear hD hE
                go_wp2_with fail
                go_meet
                exact ⟨by rw [HW.out]; rfl, rfl⟩
              · have HW := Lib.hid (HV.out true (by simp; omega))
                have d2 : ((nn : Int) == 0) = false := by simp; omega
                clear hD hE
                go_wp2_with fail
                go_meet
                exact ⟨by rw [HW.out]; rfl, rfl⟩
            · have HW := Lib.hid (HV.out true (by simp; omega))
              have d1 : ((on : Int) == 0) = false := by simp; omega
              clear hD
              go_wp2_with fail
              go_meet
              exact ⟨by rw [HW.out]; rfl, rfl⟩
      case rest =>
        obtain ⟨rfl, hwx⟩ := hcut
        obtain rfl : w3 = wc := hwx.symm
        clear hwx
        cases hd with
        | false =>
          have HE := Lib.hid (chk_bad (l := L) (k := k) (by have := HL.out; omega) HO.out (by rw [HGk.out]; rfl))
          go_wp2_with fail
          go_ret2
          rw [HE.out]
          exact ⟨rfl, HB3.out⟩
        | true =>
          obtain ⟨h1, h2, h3⟩ := HH.out.1 rfl
          have HNy := Lib.hid (HNx.out.symm)
          have hra := heap_alloc_new w3 (.cells #[.slice o1 on p1, .slice o2 nn p2] 23)
          have hal : Below w3.heap.size w3 (w3.alloc (.cells #[.slice o1 on p1, .slice o2 nn p2] 23)) := (Below.refl _ _).alloc (Nat.le_refl _) _
          have HB4 := Lib.hid (HB3.out.trans (hal.mono HB3.out.size))
          have HAL := Lib.hid hal
          go_upto_block 2 with fail
          obtain ⟨w4, hw4⟩ : ∃ w4, w3.alloc (.cells #[.slice o1 on p1, .slice o2 nn p2] 23) = w4 := ⟨_, rfl⟩
          rw [hw4] at hra HB4 HAL ⊢
          obtain ⟨A4, hA4⟩ : ∃ A4, w3.heap.size = A4 := ⟨_, rfl⟩
          have HAL2 : Hid (∀ {q z : Nat} {y : Value}, w3.cell? ⟨q, z, none⟩ = some y → w4.cell? ⟨q, z, none⟩ = some y) := fun h => cell_kept HAL.out h
          rw [hA4] at hra ⊢
          have a0 := HAL2.out a0
          have a1 := HAL2.out a1
          clear hw4 hA4 hal a2 HAL HAL2
          have HRA := Lib.hid hra
          clear hra
          go_wp2_with fail
          go_loopw [48] (fun iv wq => ∃ i : Nat, i ≤ 2 ∧ iv = .int .i64 i ∧ w4 = wq ∧ Hid ((1 ≤ i → fineL x4 = true) ∧ (2 ≤ i → fineL x5 = true))) (fun iv _ => 2 - (intOf iv).toNat)
          case atStart => exact ⟨0, Nat.zero_le _, rfl, rfl, (fun h => absurd h (by omega)), fun h => absurd h (by omega)⟩
          case round =>
            obtain ⟨i, hi, rfl, rfl, HI⟩ := hrel
            by_cases hi2 : i < 2
            · obtain ⟨y, oy, ny, py, hcell, HTy, HSz, HFl, HNe, hny, hny16⟩ : ∃ (y : List ByteArray) (oy : Option Addr) (ny py : Nat), w4.cell? ⟨A4, i, none⟩ = some (.slice oy ny py) ∧ Hid (Texts w (.slice oy ny py) y) ∧ Hid (∀ s ∈ y, s.size ≤ maxLen) ∧ Hid (fineL y = false → okAt L k = false) ∧ Hid (fineL y = true → (1 ≤ i + 1 → fineL x4 = true) ∧ (2 ≤ i + 1 → fineL x5 = true)) ∧ Hid (y.length = ny) ∧ ny * 16 ≤ 140737488351232 := by
                by_cases h0 : i = 0
                · subst h0
                  exact ⟨x4, o1, on, p1, cell_of_row _ _ 0 _ _ _ HRA.out, T1, HF.out.so, fun h => by rw [HGk.out, h]; simp, fun h => ⟨fun _ => h, fun h => absurd h (by omega)⟩, Hon, hlo⟩
                · obtain rfl : i = 1 := by omega
                  exact ⟨x5, o2, nn, p2, cell_of_row _ _ 1 _ _ _ HRA.out, T2, HF.out.sn, fun h => by rw [HGk.out, h]; simp, fun h => ⟨fun _ => HI.out.1 (by omega), fun _ => h⟩, Hnn, hln⟩
              obtain ⟨_, _, b1, of1, e1, ho1, hom1, hoc1⟩ := HTy.out.form
              have Hoc1 := Lib.hid hoc1
              have Ho1 : Hid (0 < ny → oy = some ⟨b1, of1, none⟩) := by
                intro h
                have h2 := ho1 (by have := hny.out; omega)
                cases e1
                exact h2
              clear e1 ho1 hoc1 hom1
              have ii0 : (0 : Int) ≤ (i : Int) := by omega
              have ii1 : (i : Int) < 2 := by omega
              go_wp2_with fail
              go_loopw [54] (fun jv wq => ∃ j : Nat, j ≤ ny ∧ jv = .int .i64 j ∧ w4 = wq ∧ Hid (∀ (t : Nat) (ht : t < y.length), t < j → isText (y[t]'ht) = true)) (fun jv _ => ny - (intOf jv).toNat)
              case atStart => exact ⟨0, Nat.zero_le _, rfl, rfl, (fun t ht h => absurd h (by omega))⟩
              case round =>
                obtain ⟨j, hj, rfl, rfl, HJ⟩ := hrel
                by_cases hjl : j < ny
                · have hjx : j < y.length := by have := hny.out; omega
                  obtain rfl := Ho1.out (by omega)
                  have d1 := cell_kept HB4.out (Hoc1.out j hjx)
                  have hsz : (y[j]'hjx).size ≤ maxLen := HSz.out _ (List.getElem_mem hjx)
                  have HX : Hid (isText (y[j]'hjx) = false → fineL y = false) := fun h => fine_at hjx h
                  have HY : Hid (isText (y[j]'hjx) = true → ∀ (t : Nat) (ht : t < y.length), t < j + 1 → isText (y[t]'ht) = true) := by
                    intro h t ht hti
                    by_cases e : t = j
                    · subst e; exact h
                    · exact HJ.out t ht (by omega)
                  obtain ⟨z, hz⟩ : ∃ z, y[j]'hjx = z := ⟨_, rfl⟩
                  rw [hz] at d1 hsz HX HY
                  have Hsz := Lib.hid hsz
                  have jj0 : (0 : Int) ≤ (j : Int) := by omega
                  have jj1 : (j : Int) < (ny : Int) := by omega
                  clear hz hsz
                  go_wp2_with fail
                  refine (text_any z _ Hsz.out).mono ?_
                  rintro e w' ⟨rfl, rfl⟩
                  cases hty : isText z with
                  | false =>
                    have HE := Lib.hid (chk_bad (l := L) (k := k) (by have := HL.out; omega) HO.out (HFl.out (HX.out hty)))
                    go_wp2_with fail
                    rw [Exit.noGoto_ret]
                    go_ret2
                    rw [HE.out]
                    exact ⟨rfl, HB4.out⟩
                  | true =>
                    have HZ := Lib.hid (HY.out hty)
                    go_wp2_with fail
                    go_roundw
                    case rel => exact ⟨j + 1, by omega, by go_num, trivial, HZ⟩
                    case measure => simp [intOf]; omega
                · obtain rfl : j = ny := by omega
                  have HZ := Lib.hid (HNe.out (fine_all fun t ht => HJ.out t ht (by have := hny.out; omega)))
                  go_wp2_with fail
                  go_roundw
                  case rel => exact ⟨i + 1, by omega, by go_num, trivial, HZ⟩
                  case measure => simp [intOf]; omega
            · obtain rfl : i = 2 := by omega
              have HOk : Hid (okAt L k = true) := by show _ = _; rw [HGk.out, HI.out.1 (by omega), HI.out.2 (by omega)]; rfl
              go_wp2_with fail
              go_roundw
              case rel =>
                refine ⟨k + 1, by omega, by go_num, ?_, fun j hj => ?_, HB4⟩
                · rw [HNx.out]
                  have := HBg.out
                  unfold wrap64
                  go_num
                · by_cases e : j = k
                  · subst e
                    exact HOk.out
                  · exact HO.out j (by omega)
              case measure => simp [intOf]; omega
    · obtain rfl : k = n := by omega
      have HE := Lib.hid (chk_ok (l := L) fun j hj => HO.out j (by have := HL.out; omega))
      go_wp2_with fail
      rw [Exit.noGoto_ret]
      go_ret2
      rw [HE.out]
      exact ⟨rfl, HB.out⟩
end Go.Proofs.Ytabdgocfbmcobaa
