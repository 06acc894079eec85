/- Own work: the program's Apply. -/
import Derived.Test.YtabdgocfbmcobaaHunkApM
import Derived.Test.YtabdgocfbmcobaaHunkCopy
import Derived.Test.YtabdgocfbmcobaaHunkFits
import Derived.Test.YtabdgocfbmcobaaHunkSizes
import Derived.Test.YtabdgocfbmcobaaHunkInv
namespace Go.Proofs.Ytabdgocfbmcobaa
open Go.RowKit

def blanks (N : Nat) : Array Value := madeCells (Value.string ⟨#[]⟩).cells N
theorem run_makeT (N : Nat) (hn : N ≤ 1073741824) (z : Int) (hz : z = (N : Int)) (w : World) : (Instr.makeSlice 23 (.int .i64 z) (.int .i64 z)).run Try.prog w = .ok (.slice (some ⟨w.heap.size, 0, none⟩) N N) (w.alloc (.cells (blanks N) 9)) := by
  subst hz
  obtain ⟨i0, hi, hz0, hz1, hz2⟩ := info_parts Try.info9
  have := run_make (P := Try.prog) w 23 9 i0 (.string ⟨#[]⟩) Try.underlying23 hi hz0 .i64 .i64 (N : Int) (N : Int) (by omega) (Int.le_refl _) (by rw [hz2]; omega) (by omega)
  rw [hz1] at this
  simp only [Int.toNat_natCast, Nat.mul_one] at this
  exact this
theorem blanks_list (N : Nat) : blanks N = ((List.replicate N (⟨#[]⟩ : ByteArray)).map Value.string).toArray := by
  apply Array.ext_getElem?
  intro i
  by_cases hi : i < N
  · simp [blanks, madeCells, hi, Value.cells, Nat.mod_one]
  · rw [Array.getElem?_eq_none (by simp [blanks, madeCells]; omega), Array.getElem?_eq_none (by simp; omega)]
theorem rowT_new (w : World) (N : Nat) : RowT (w.alloc (.cells (blanks N) 9)) w.heap.size (List.replicate N ⟨#[]⟩) := by
  unfold RowT
  rw [← blanks_list]
  exact heap_alloc_new w _
theorem rowT_own {w : World} {B g : Nat} {X : List ByteArray} (h : RowT w g X) (hB : B ≤ g) (hn : X.length ≤ 1073741824) : OwnT w B (.slice (some ⟨g, 0, none⟩) X.length X.length) X := by
  refine ⟨by simp, .inr ⟨g, X.length, _, rfl, hB, h, Nat.le_refl _, by unfold maxLen; omega, by simp, ?_⟩⟩
  rw [List.take_of_length_le (by simp)]

set_option maxRecDepth 100000 in
set_option maxHeartbeats 16000000 in
theorem apply_any (u v : Value) (l : List HunkV) (a : List ByteArray) (w : World) (hu : Texts w u a) (hfu : SliceForm u) (hv : Hks w v l) (hf : ∀ m ∈ l, m.Fit) (hl : l.length * 56 ≤ 140737488355328) (ha : a.length ≤ 1048576) (hb : sumN (l.map HunkV.txt) ≤ 1048576) :
    Calls Try.prog 18 #[u, v] w fun e w' => ∃ r, e = .returned (.tuple #[r, .int .i64 (((fitsL a (l.map HunkV.txt)).2 : Nat) : Int)]) ∧ ((fitsL a (l.map HunkV.txt)).2 ≠ 0 → r = .slice none 0 0) ∧ ((fitsL a (l.map HunkV.txt)).2 = 0 → OwnT w' w.heap.size r (appL a (l.map HunkV.txt))) ∧ Below w.heap.size w w' := by
  have HFt := Lib.hid (fits_any v u l a w hv hf hl hu (by omega))
  have Hv := Lib.hid hv
  have Hu := Lib.hid hu
  have Hfu := Lib.hid hfu
  obtain ⟨ao, cap, b, o, rfl, hao, hm, hc⟩ := hv
  obtain ⟨uo, uc, rfl⟩ := hu.lenForm
  obtain ⟨n, hn⟩ : ∃ n, l.length = n := ⟨_, rfl⟩
  obtain ⟨t, ht⟩ : ∃ t, a.length = t := ⟨_, rfl⟩
  have Hn := Lib.hid hn
  have Ht := Lib.hid ht
  rw [hn] at hao hm hl HFt Hv ⊢
  rw [ht] at HFt Hu Hfu ha ⊢
  have Hao := Lib.hid hao
  have Hc := Lib.hid hc
  have Hf := Lib.hid hf
  have HLn : Hid ((l.map HunkV.txt).length = n) := by show _ = _; rw [List.length_map, hn]
  have HSm : Hid (∀ w1, Hks w1 (.slice ao n cap) l → Calls Try.prog 36 #[.slice ao n cap] w1 fun e w' => e = .returned (.tuple #[.int .i64 (olds (l.map HunkV.txt)), .int .i64 (news (l.map HunkV.txt))]) ∧ Below w1.heap.size w1 w') := fun w1 h => sums_any _ l w1 h
  obtain ⟨L, hL⟩ : ∃ L, l.map HunkV.txt = L := ⟨_, rfl⟩
  have HLe := Lib.hid hL
  have HLk : Hid (∀ (k : Nat) (h1 : k < L.length) (h2 : k < l.length), L[k]'h1 = (l[k]'h2).txt) := by intro k h1 h2; subst hL; simp
  rw [hL] at HLn HFt HSm hb ⊢
  have hcap : t ≤ uc := (Hu.out.cap).2
  clear hao hc hn hf hL hu hfu ht
  unfold maxLen at hm
  go_enter Try.func18, Try.ntmps18
  go_wp2_with fail
  refine HFt.out.mono ?_
  rintro e w1 ⟨rfl, hb1⟩
  have B1 := Lib.hid hb1
  clear hb1 HFt
  by_cases hE : (fitsL a L).2 = 0
  rotate_left
  · obtain ⟨p1, p2, hp⟩ : ∃ p1 p2, fitsL a L = (p1, p2) := ⟨_, _, rfl⟩
    have HP := Lib.hid hp
    rw [hp] at hE ⊢
    have q1 : ((p2 : Int) != 0) = true := by rw [bne_iff_ne]; simp only at hE; omega
    have HE := Lib.hid hE
    clear hE hp
    go_wp2_with fail
    go_ret2
    rw [HP.out]
    exact ⟨_, rfl, fun _ => rfl, fun h => absurd h HE.out, B1.out⟩
  · obtain ⟨hz1, _, _, _⟩ := fits_zero hE
    have HFF := Lib.hid (fits_all hE)
    have HE := Lib.hid hE
    rw [hz1]
    have hlen := appF_len (fits_all hE)
    have ho1 : olds L = (sumO L : Int) := sumI_eq _ (by show sumO L ≤ _; rw [Ht.out] at hlen; omega)
    have hn1 : news L = (sumN L : Int) := sumI_eq _ (by show sumN L ≤ _; omega)
    obtain ⟨N, hN⟩ : ∃ N, (appL a L).length = N := ⟨_, rfl⟩
    have HN := Lib.hid hN
    have hN2 : N + sumO L = t + sumN L := by have h := hlen.1; rw [Ht.out] at h; simp only [appL] at hN; omega
    have hN3 : N ≤ 2097152 := by omega
    obtain ⟨so, hso⟩ : ∃ so, sumO L = so := ⟨_, rfl⟩
    obtain ⟨sn, hsn⟩ : ∃ sn, sumN L = sn := ⟨_, rfl⟩
    rw [hso] at ho1 hN2
    rw [hsn] at hn1 hN2 hb
    have hso2 : so ≤ t := by have h := hlen.2; rw [Ht.out, hso] at h; omega
    clear hE hz1 hlen hN hso hsn
    go_wp2_with fail
    refine (HSm.out w1 (Hv.out.kept B1.out)).mono ?_
    rintro e w2 ⟨rfl, hb2⟩
    rw [ho1, hn1]
    have B2 := Lib.hid (below_join B1.out hb2)
    clear hb2 HSm ho1 hn1
    have hmk := fun W => run_makeT N (by omega) ((t : Int) - (so : Int) + (sn : Int)) (by omega) W
    have HR0 := Lib.hid (rowT_new w2 N)
    have hal : Below w2.heap.size w2 (w2.alloc (.cells (blanks N) 9)) := (Below.refl _ _).alloc (Nat.le_refl _) _
    have B3 := Lib.hid (below_join B2.out hal)
    have HBs := Lib.hid B2.out.size
    clear hal
    go_wp2_with fail
    obtain ⟨w3, hw3⟩ : ∃ w3, w2.alloc (.cells (blanks N) 9) = w3 := ⟨_, rfl⟩
    rw [hw3] at HR0 B3 ⊢
    obtain ⟨g, hg⟩ : ∃ g, w2.heap.size = g := ⟨_, rfl⟩
    rw [hg] at HR0 HBs ⊢
    clear hw3 hg hmk
    go_loopw [11, 12, 38] (fun fv tv kv wr => ∃ (k p : Nat) (X : List ByteArray), k ≤ n ∧ kv = .int .i64 (k : Int) ∧ fv = .int .i64 ((behN L k : Nat) : Int) ∧ tv = .int .i64 (p : Int) ∧ Hid (X.length = N) ∧ p ≤ N ∧ Hid (X.take p ++ appF a (behN L k) (L.drop k) = appL a L) ∧ Hid (FitsF a (behN L k) (L.drop k)) ∧ Hid (RowT wr g X) ∧ Hid (Below w.heap.size w wr)) (fun _ _ kv _ => n - (intOf kv).toNat)
    case atStart => exact ⟨0, 0, _, Nat.zero_le _, rfl, rfl, rfl, List.length_replicate, Nat.zero_le _, rfl, HFF.out, HR0.out, B3.out⟩
    case round =>
      obtain ⟨k, p, X, hk, rfl, rfl, rfl, HX, hp, HA, HFi, HR, HB⟩ := hrel
      by_cases hlt : k < n
      · have hkl : k < l.length := by have := Hn.out; omega
        have hkL : k < L.length := by have := HLn.out; omega
        obtain rfl := Hao.out (by omega)
        obtain ⟨c0, c1, c2, t1, t2⟩ := Hc.out k hkl
        have HF := Lib.hid (Hf.out _ (List.getElem_mem hkl))
        have HD : Hid (L.drop k = (l[k]'hkl).txt :: L.drop (k + 1)) := by show _ = _; rw [List.drop_eq_getElem_cons hkL, HLk.out k hkL hkl]
        have HBn : Hid (behN L (k + 1) = (l[k]'hkl).at_.toNat + (l[k]'hkl).old.length) := by
          show _ = _
          rw [behN_succ hkL, HLk.out k hkL hkl]
          rfl
        obtain ⟨x, hx⟩ : ∃ x, l[k]'hkl = x := ⟨_, rfl⟩
        rw [hx] at c0 c1 c2 t1 t2 HF HD HBn
        obtain ⟨x1, x2, x3, x4, x5⟩ := x
        rw [HD.out] at HA HFi
        obtain ⟨g0, g1, g2, _, g4, _, _, _, g5, _⟩ := HFi.out
        dsimp only [HunkV.txt] at c0 c1 c2 t1 t2 g0 g1 g2 g4 g5 HBn
        obtain ⟨an, rfl⟩ : ∃ an : Nat, x1 = an := ⟨x1.toNat, by omega⟩
        rw [Int.toNat_natCast] at g2 g4 g5 HBn
        have HF5 := Lib.hid g5
        have T2 := Lib.hid t2
        obtain ⟨o1, p1, rfl⟩ := t1.lenForm
        obtain ⟨o2, p2, rfl⟩ := t2.lenForm
        obtain ⟨on, hon⟩ : ∃ on, x4.length = on := ⟨_, rfl⟩
        obtain ⟨nn, hnn⟩ : ∃ nn, x5.length = nn := ⟨_, rfl⟩
        have Hon := Lib.hid hon
        have Hnn := Lib.hid hnn
        rw [hon] at c1 g4 HF5 HBn
        rw [hnn] at c2 T2
        rw [Ht.out] at g4
        obtain ⟨i, hi⟩ : ∃ i, behN L k = i := ⟨_, rfl⟩
        rw [hi] at HA g2 ⊢
        have HA2 : Hid (X.take p ++ (a.drop i).take (an - i) ++ x5 ++ appF a (an + on) (L.drop (k + 1)) = appL a L) := by
          show _ = _
          rw [← HA.out, ← Hon.out]
          simp [appF, HunkV.txt]
        have hpl : ((a.drop i).take (an - i)).length = an - i := by rw [List.length_take, List.length_drop, Ht.out]; omega
        have hlN : p + (an - i) + nn ≤ N := by
          have h := congrArg List.length HA2.out
          rw [List.length_append, List.length_append, List.length_append, hpl, List.length_take, HN.out, HX.out, hnn] at h
          omega
        obtain ⟨P, hP⟩ : ∃ P, (a.drop i).take (an - i) = P := ⟨_, rfl⟩
        have HTP := Lib.hid (texts_sub Hu.out i an g2 (by omega))
        rw [hP] at HA2 hpl HTP
        have HX1 : Hid ((putL X p P).take (p + (an - i)) = X.take p ++ P) := by show _ = _; rw [← hpl]; exact putL_take (by rw [HX.out]; omega)
        have HX1l : Hid ((putL X p P).length = N) := by show _ = _; rw [putL_len (by rw [HX.out]; omega)]; exact HX.out
        have HX2 : Hid ((putL (putL X p P) (p + (an - i)) x5).take (p + (an - i) + nn) = X.take p ++ P ++ x5) := by
          show _ = _
          rw [← hnn, putL_take (by rw [HX1l.out]; omega), HX1.out]
        have HX2l : Hid ((putL (putL X p P) (p + (an - i)) x5).length = N) := by show _ = _; rw [putL_len (by rw [HX1l.out]; omega)]; exact HX1l.out
        have HC := Lib.hid (And.intro c0 (And.intro c1 c2))
        clear hx t1 t2 hon hi hP g0 g5 hnn
        have c0 := cell_kept HB.out c0
        have c1 := cell_kept HB.out c1
        have c2 := cell_kept HB.out c2
        have ki0 : (0 : Int) ≤ (k : Int) := by omega
        have ki1 : (k : Int) < (n : Int) := by omega
        have hra := heap_alloc_new wr (.cells #[.int .i64 (an : Int), .slice o1 on p1, .slice o2 nn p2] 43)
        have hal : Below wr.heap.size wr (wr.alloc (.cells #[.int .i64 (an : Int), .slice o1 on p1, .slice o2 nn p2] 43)) := (Below.refl _ _).alloc (Nat.le_refl _) _
        have HB4 := Lib.hid (HB.out.trans (hal.mono HB.out.size))
        have HR4 := Lib.hid (row_kept hal HR.out)
        have hgl := lt_of_block HR.out
        go_upto_region 10 with fail
        obtain ⟨w4, hw4⟩ : ∃ w4, wr.alloc (.cells #[.int .i64 (an : Int), .slice o1 on p1, .slice o2 nn p2] 43) = w4 := ⟨_, rfl⟩
        rw [hw4] at hra HB4 HR4 ⊢
        obtain ⟨A, hA⟩ : ∃ A, wr.heap.size = A := ⟨_, rfl⟩
        rw [hA] at hra hgl ⊢
        clear c0 c1 c2 hw4 hal hA
        have a0 : w4.cell? ⟨A, 0, none⟩ = some (.int .i64 (an : Int)) := cell_of_row _ _ 0 _ _ _ hra
        have a1 : w4.cell? ⟨A, 1, none⟩ = some (.slice o1 on p1) := cell_of_row _ _ 1 _ _ _ hra
        have a2 : w4.cell? ⟨A, 2, none⟩ = some (.slice o2 nn p2) := cell_of_row _ _ 2 _ _ _ hra
        clear hra
        have hgA : (some g) ≠ some A := fun e => by have := Option.some.inj e; omega
        have hs1 := run_sub uo t uc i an g2 (by omega)
        have hs2 := run_sub2 (some ⟨g, 0, none⟩) N N p hp
        have hw4s := HB4.out.size
        have HTP4 := Lib.hid (HTP.out.kept HB4.out)
        go_region_held3 (fun w' => w'.cell? ⟨A, 0, none⟩ = some (.int .i64 (an : Int)) ∧ w'.cell? ⟨A, 1, none⟩ = some (.slice o1 on p1) ∧ w'.cell? ⟨A, 2, none⟩ = some (.slice o2 nn p2) ∧ Below w.heap.size w w')
          (first | exact ⟨a0, a1, a2, HB4.out⟩ | exact ⟨a0, a1, a2, HB4.out.drew⟩ | exact ⟨b0, b1, b2, b3⟩)
          (first
            | (refine step_copy_texts (w := w4.drew) rfl _ _ rfl g p N rfl _ P rfl (HTP4.out.kept (Below.refl _ _).drew) X HX.out HR4.out (by omega) ?_; (intro w5 hr5 hg5); have b0 := cell_stays (show w4.drew.cell? _ = _ from a0) hg5 hgA; have b1 := cell_stays (show w4.drew.cell? _ = _ from a1) hg5 hgA; have b2 := cell_stays (show w4.drew.cell? _ = _ from a2) hg5 hgA; have b3 : Below w.heap.size w w5 := HB4.out.drew.grown hg5 hw4s (fun q hq => by cases hq; exact HBs.out)))
        obtain ⟨q, hq⟩ : ∃ q, p + (an - i) = q := ⟨_, rfl⟩
        have hwq : IntKind.i64.wrap ((p : Int) + ((an - i : Nat) : Int)) = (q : Int) := by
          rw [IntKind.wrap_i64]
          omega
        rw [hwq]
        rw [hq] at HX1 HX2 HX2l hlN
        have hs3 := run_sub2 (some ⟨g, 0, none⟩) N N q (by omega)
        have B35 := Lib.hid b3
        have HR5 := Lib.hid hr5
        have hw5s := b3.size
        have T25 := Lib.hid (T2.out.kept b3)
        clear a0 a1 a2 hg5 hs1 hs2 hwq hr5 hpl
        go_wp2_with fail
        go_region_held3 (fun w' => w'.cell? ⟨A, 0, none⟩ = some (.int .i64 (an : Int)) ∧ w'.cell? ⟨A, 1, none⟩ = some (.slice o1 on p1) ∧ w'.cell? ⟨A, 2, none⟩ = some (.slice o2 nn p2) ∧ Below w.heap.size w w')
          (first | exact ⟨b0, b1, b2, B35.out⟩ | exact ⟨b0, b1, b2, B35.out.drew⟩ | exact ⟨d0, d1, d2, d3⟩)
          (first
            | (refine step_copy_texts (w := w5.drew) rfl _ _ rfl g q N rfl (.slice o2 nn p2) x5 rfl (T25.out.kept (Below.refl _ _).drew) (putL X p P) HX1l.out HR5.out (by rw [Hnn.out]; omega) ?_; (intro w6 hr6 hg6); have d0 := cell_stays (show w5.drew.cell? _ = _ from b0) hg6 hgA; have d1 := cell_stays (show w5.drew.cell? _ = _ from b1) hg6 hgA; have d2 := cell_stays (show w5.drew.cell? _ = _ from b2) hg6 hgA; have d3 : Below w.heap.size w w6 := B35.out.drew.grown hg6 hw5s (fun q hq => by cases hq; exact HBs.out)))
        rw [Hnn.out]
        have hwq : IntKind.i64.wrap ((q : Int) + (nn : Int)) = ((q + nn : Nat) : Int) := by
          rw [IntKind.wrap_i64]
          omega
        rw [hwq]
        have HR6 := Lib.hid hr6
        have HB6 := Lib.hid d3
        have HA6 : Hid ((putL (putL X p P) q x5).take (q + nn) ++ appF a (an + on) (L.drop (k + 1)) = appL a L) := by show _ = _; rw [HX2.out]; exact HA2.out
        clear b0 b1 b2 b3 hg6 hwq hr6 d2
        go_wp2_with fail
        go_roundw
        case rel => exact ⟨k + 1, q + nn, putL (putL X p P) q x5, by omega, by go_num, by rw [HBn.out]; go_num, by go_num, HX2l, hlN, by rw [HBn.out]; exact HA6, by rw [HBn.out]; exact HF5, HR6, HB6⟩
        case measure => simp [intOf]; omega
      · obtain rfl : k = n := by omega
        have HD : Hid (L.drop k = []) := List.drop_eq_nil_of_le (by rw [HLn.out]; exact Nat.le_refl _)
        rw [HD.out] at HA HFi
        obtain ⟨i, hi⟩ : ∃ i, behN L k = i := ⟨_, rfl⟩
        rw [hi] at HA HFi ⊢
        have hit : i ≤ t := by have h : i ≤ a.length := HFi.out; rw [Ht.out] at h; exact h
        have hlN : p + (a.drop i).length = N := by
          have h := congrArg List.length HA.out
          rw [appF, List.length_append, List.length_take, HN.out, HX.out] at h
          omega
        have HTs : Hid (Texts w (subV uo uc i t) (a.drop i)) := by
          have h := texts_sub Hu.out i t hit (Nat.le_refl _)
          rw [List.take_of_length_le (by rw [List.length_drop, Ht.out]; exact Nat.le_refl _)] at h
          exact h
        have HTr := Lib.hid (HTs.out.kept HB.out)
        have HXe : Hid (putL X p (a.drop i) = appL a L) := by
          show _ = _
          rw [← HA.out, appF]
          have h1 := putL_take (X := X) (l := a.drop i) (p := p) (by rw [HX.out]; omega)
          have h2 := putL_len (X := X) (l := a.drop i) (p := p) (by rw [HX.out]; omega)
          rw [← h1, List.take_of_length_le (by rw [h2, HX.out]; omega)]
        have hs1 := run_sub2 uo t uc i hit
        have hs2 := run_sub2 (some ⟨g, 0, none⟩) N N p hp
        have hws := HB.out.size
        clear hi
        go_wp2_with fail
        go_region_held3 (fun w' => Below w.heap.size w w')
          (first | exact HB.out | exact HB.out.drew | exact b3)
          (first
            | (refine step_copy_texts (w := wr.drew) rfl _ _ rfl g p N rfl _ (a.drop i) rfl (HTr.out.kept (Below.refl _ _).drew) X HX.out HR.out (by omega) ?_; (intro w5 hr5 hg5); have b3 : Below w.heap.size w w5 := HB.out.drew.grown hg5 hws (fun q hq => by cases hq; exact HBs.out)))
        rw [HXe.out] at hr5
        have HO : Hid (OwnT w5 w.heap.size (.slice (some ⟨g, 0, none⟩) N N) (appL a L)) := by
          have h := rowT_own hr5 HBs.out (by rw [HN.out]; omega)
          rw [HN.out] at h
          exact h
        have B5 := Lib.hid b3
        clear b3 hg5 hs1 hs2 hr5
        go_wp2_with fail
        go_ret2
        rw [HE.out]
        exact ⟨_, rfl, fun h => absurd rfl h, fun _ => HO.out, B5.out⟩

/-- what is told when a patch is undone -/
def undoE (a : List ByteArray) (l : List HunkI) : Nat := if invE l = 0 then (fitsL a (invL l)).2 else invE l
set_option maxRecDepth 100000 in
set_option maxHeartbeats 4000000 in
/-- a patch that undoes nothing is told as Invert tells it; else what undoes is applied -/
theorem undo_any (u v : Value) (l : List HunkV) (a : List ByteArray) (w : World) (hu : Texts w u a) (hfu : SliceForm u) (hv : Hks w v l) (hf : ∀ m ∈ l, m.Fit) (hl : l.length * 56 ≤ 140737488351232) (ha : a.length ≤ 1048576) (hb : sumN (invL (l.map HunkV.txt)) ≤ 1048576) :
    Calls Try.prog 20 #[u, v] w fun e w' => ∃ r, e = .returned (.tuple #[r, .int .i64 ((undoE a (l.map HunkV.txt) : Nat) : Int)]) ∧
      (¬ (invE (l.map HunkV.txt) = 0 ∧ (fitsL a (invL (l.map HunkV.txt))).2 = 0) → r = .slice none 0 0) ∧ ((invE (l.map HunkV.txt) = 0 ∧ (fitsL a (invL (l.map HunkV.txt))).2 = 0) → OwnT w' w.heap.size r (appL a (invL (l.map HunkV.txt)))) ∧ Below w.heap.size w w' := by
  have Hu := Lib.hid hu
  have Hfu := Lib.hid hfu
  have HI := Lib.hid (invert_any v l w hv hf hl)
  obtain ⟨ao, cap, rfl⟩ := hv.lenForm
  obtain ⟨uo, uc, rfl⟩ := hu.lenForm
  have Hf := Lib.hid hf
  obtain ⟨L, hL⟩ : ∃ L, l.map HunkV.txt = L := ⟨_, rfl⟩
  have HLe := Lib.hid hL
  rw [hL] at HI hb ⊢
  clear hu hfu hv hf
  go_enter Try.func20, Try.ntmps20
  go_wp2_with fail
  refine HI.out.mono ?_
  rintro e w1 ⟨r1, rfl, hz1, ho1, hb1⟩
  have B1 := Lib.hid hb1
  clear hb1 HI
  by_cases hE : invE L = 0
  · obtain ⟨hs, ho, _, he⟩ := ho1 hE
    have HK := Lib.hid ho.hks
    have HFi := Lib.hid (fit_inv ho (by rw [he, hL]) Hf.out)
    have hln : hs.length = l.length := by have h := congrArg List.length he; rw [List.length_map, invL, invF_len, ← hL, List.length_map] at h; exact h
    have HA := Lib.hid (apply_any _ r1 hs a w1 (Hu.out.kept B1.out) Hfu.out HK.out HFi.out (by rw [hln]; omega) ha (by rw [he]; exact hb))
    obtain ⟨ro, rc, rfl⟩ := ho.hks.lenForm
    rw [he] at HA
    rw [hE]
    have HEz := Lib.hid hE
    clear hz1 ho1 ho he hln hE hL
    go_wp2_with fail
    refine HA.out.mono ?_
    rintro e w2 ⟨r2, rfl, hz2, ho2, hb2⟩
    have B2 := Lib.hid (below_join B1.out hb2)
    have B1s := Lib.hid B1.out.size
    go_wp2_with fail
    go_ret2
    rw [show undoE a L = (fitsL a (invL L)).2 from if_pos HEz.out]
    exact ⟨_, rfl, fun h => hz2 (fun h2 => h ⟨HEz.out, h2⟩), fun h => (ho2 h.2).base B1s.out, B2.out⟩
  · have hr := hz1 hE
    subst hr
    have q1 : ((invE L : Int) != 0) = true := by rw [bne_iff_ne]; omega
    have HEz := Lib.hid hE
    obtain ⟨y, hy⟩ : ∃ y, invE L = y := ⟨_, rfl⟩
    have Hy := Lib.hid hy
    rw [hy] at q1 ⊢
    clear hz1 ho1 hE hL hy
    go_wp2_with fail
    go_ret2
    rw [show undoE a L = invE L from if_neg HEz.out, Hy.out]
    exact ⟨_, rfl, fun _ => rfl, fun h => absurd (Hy.out.trans h.1) HEz.out, B1.out⟩
end Go.Proofs.Ytabdgocfbmcobaa
