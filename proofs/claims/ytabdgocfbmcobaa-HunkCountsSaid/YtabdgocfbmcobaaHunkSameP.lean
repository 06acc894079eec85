/- Own work: the program's Same: slices.EqualFunc over a closure. -/
import Derived.Test.YtabdgocfbmcobaaHunkSame
import Derived.Test.YtabdgocfbmcobaaHunkEq
import Derived.Deep.CutBlock
import Derived.Deep.CutRange
namespace Go.Proofs.Ytabdgocfbmcobaa
open Go.RowKit

set_option maxRecDepth 100000 in
set_option maxHeartbeats 4000000 in
theorem sameOne_any (x1 y1 : Int) (x2 x3 y2 y3 : Value) (x4 x5 y4 y5 : List ByteArray) (w : World) (t1 : Texts w x2 x4) (t2 : Texts w x3 x5) (s1 : Texts w y2 y4) (s2 : Texts w y3 y5) :
    Calls Try.prog 39 #[.agg #[.int .i64 x1, x2, x3], .agg #[.int .i64 y1, y2, y3]] w fun e w' => e = .returned (.bool (x1 == y1 && decide (x4 = y4) && decide (x5 = y5))) ∧ Below w.heap.size w w' := by
  have hr1 := heap_alloc_new w (.cells #[.int .i64 x1, x2, x3] 43)
  have al : ∀ (W : World) (o : Obj), Below W.heap.size W (W.alloc o) := fun W o => (Below.refl _ _).alloc (Nat.le_refl _) o
  obtain ⟨w1, hw1⟩ : ∃ w1, w.alloc (.cells #[.int .i64 x1, x2, x3] 43) = w1 := ⟨_, rfl⟩
  have b1 := al w (.cells #[.int .i64 x1, x2, x3] 43)
  rw [hw1] at hr1 b1
  have hs1 : w1.heap.size = w.heap.size + 1 := by rw [← hw1]; simp
  have hr2 := heap_alloc_new w1 (.cells #[.int .i64 y1, y2, y3] 43)
  have b2 := al w1 (.cells #[.int .i64 y1, y2, y3] 43)
  have hr1 := row_kept b2 hr1
  rw [hs1] at hr2
  have T1 := Lib.hid (t1.kept (below_join b1 b2))
  have T2 := Lib.hid (t2.kept (below_join b1 b2))
  have U1 := Lib.hid (s1.kept (below_join b1 b2))
  have U2 := Lib.hid (s2.kept (below_join b1 b2))
  have BB := Lib.hid (below_join b1 b2)
  have HW1 := Lib.hid hw1
  obtain ⟨A, hA⟩ : ∃ A, w.heap.size = A := ⟨_, rfl⟩
  have HA := Lib.hid hA
  rw [hA] at hr1 hr2 hs1
  go_enter Try.func39, Try.ntmps39
  clear t1 t2 s1 s2 b1 b2
  go_upto_region 1 with fail
  obtain ⟨w2, hw2⟩ : ∃ w2, w1.alloc (.cells #[.int .i64 y1, y2, y3] 43) = w2 := ⟨_, rfl⟩
  rw [hw2] at hr1 hr2 T1 T2 U1 U2 BB ⊢
  have a0 := cell_of_row _ _ 0 _ _ _ hr1
  have a1 := cell_of_row _ _ 1 _ _ _ hr1
  have a2 := cell_of_row _ _ 2 _ _ _ hr1
  have d0 := cell_of_row _ _ 0 _ _ _ hr2
  have d1 := cell_of_row _ _ 1 _ _ _ hr2
  have d2 := cell_of_row _ _ 2 _ _ _ hr2
  clear hr1 hr2 hw1 hw2 hA hs1
  by_cases h1 : x1 = y1
  · have q1 : (x1 == y1) = true := by simp [h1]
    clear h1
    go_wp2_with fail
    refine (equal_any _ _ x4 y4 _ T1.out U1.out).mono ?_
    rintro e w3 ⟨rfl, q, rfl⟩
    have a2 := cell_kept (below_drewN (Below.refl w2.heap.size w2) q) a2
    have d2 := cell_kept (below_drewN (Below.refl w2.heap.size w2) q) d2
    have T2 := Lib.hid (T2.out.kept (below_drewN (Below.refl w2.heap.size w2) q))
    have U2 := Lib.hid (U2.out.kept (below_drewN (Below.refl w2.heap.size w2) q))
    have BB := Lib.hid (below_drewN BB.out q)
    obtain ⟨w4, hw4⟩ : ∃ w4, w2.drewN q = w4 := ⟨_, rfl⟩
    rw [hw4] at a2 d2 T2 U2 BB ⊢
    clear hw4 a0 a1 d0 d1
    by_cases h2 : x4 = y4
    · have q2 : decide (x4 = y4) = true := by simp [h2]
      rw [q2]
      clear h2
      go_wp2_with fail
      refine (equal_any _ _ x5 y5 _ T2.out U2.out).mono ?_
      rintro e w5 ⟨rfl, q', rfl⟩
      go_wp2_with fail
      go_ret
      exact ⟨retBool (by simp only [q1, q2, Bool.true_and]), below_drewN BB.out _⟩
    · have q2 : decide (x4 = y4) = false := by simp [h2]
      rw [q2]
      clear h2
      go_wp2_with fail
      go_ret
      exact ⟨retBool (by simp only [q1, q2, Bool.false_and, Bool.and_false]), BB.out⟩
  · have q1 : (x1 == y1) = false := by simp [h1]
    clear h1
    go_wp2_with fail
    go_ret
    exact ⟨retBool (by simp only [q1, Bool.false_and]), BB.out⟩

set_option maxRecDepth 100000 in
set_option maxHeartbeats 16000000 in
theorem equalFunc_any (u v : Value) (l m : List HunkV) (w : World) (hu : Hks w u l) (hv : Hks w v m) :
    Calls Try.prog 38 #[u, v, .func (.func 39) #[] #[]] w fun e w' => e = .returned (.bool (sameK l m)) ∧ Below w.heap.size w w' := by
  obtain ⟨uo, uc, ub, uof, rfl, huo, hum, hcu⟩ := hu
  obtain ⟨vo, vc, vb, vof, rfl, hvo, hvm, hcv⟩ := hv
  have Huo := Lib.hid huo
  have Hvo := Lib.hid hvo
  have Hcu := Lib.hid hcu
  have Hcv := Lib.hid hcv
  obtain ⟨n, hn⟩ : ∃ n, l.length = n := ⟨_, rfl⟩
  obtain ⟨n2, hn2⟩ : ∃ n2, m.length = n2 := ⟨_, rfl⟩
  have Hn := Lib.hid hn
  have Hm := Lib.hid hn2
  rw [hn] at hum Huo ⊢
  rw [hn2] at hvm Hvo ⊢
  clear huo hvo hcu hcv
  unfold maxLen at hum hvm
  by_cases hlm : n = n2
  · subst hlm
    clear hn hn2
    go_enter Try.func38, Try.ntmps38
    go_wp2_with fail
    go_loopw [17] (fun y wr => ∃ k : Nat, k ≤ n ∧ y = .int .i64 (k : Int) ∧ Hid (∀ (j : Nat) (h1 : j < l.length) (h2 : j < m.length), j < k → (l[j]'h1).txt = (m[j]'h2).txt) ∧ Hid (Below w.heap.size w wr)) (fun y _ => n - (intOf y).toNat)
    case atStart => exact ⟨0, Nat.zero_le _, rfl, (fun j _ _ h => absurd h (by omega)), Below.refl _ _⟩
    case round =>
      obtain ⟨k, hk, rfl, HA, HB⟩ := hrel
      by_cases hlt : k < n
      · have hkl : k < l.length := by have := Hn.out; omega
        have hkm : k < m.length := by have := Hm.out; omega
        obtain rfl := Huo.out (by omega)
        obtain rfl := Hvo.out (by omega)
        obtain ⟨c0, c1, c2, t1, t2⟩ := Hcu.out k hkl
        obtain ⟨d0, d1, d2, s1, s2⟩ := Hcv.out k hkm
        have HNE : Hid (¬ (l[k]'hkl).txt = (m[k]'hkm).txt → sameK l m = false) := fun h => sameK_at k hkl hkm h
        have HEQ : Hid ((l[k]'hkl).txt = (m[k]'hkm).txt → ∀ (j : Nat) (h1 : j < l.length) (h2 : j < m.length), j < k + 1 → (l[j]'h1).txt = (m[j]'h2).txt) := by
          intro h j h1 h2 hj
          by_cases e : j = k
          · subst e; exact h
          · exact HA.out j h1 h2 (by omega)
        obtain ⟨x, hx⟩ : ∃ x, l[k]'hkl = x := ⟨_, rfl⟩
        obtain ⟨y, hy⟩ : ∃ y, m[k]'hkm = y := ⟨_, rfl⟩
        rw [hx] at c0 c1 c2 t1 t2 HNE HEQ
        rw [hy] at d0 d1 d2 s1 s2 HNE HEQ
        clear hx hy
        obtain ⟨x1, x2, x3, x4, x5⟩ := x
        obtain ⟨y1, y2, y3, y4, y5⟩ := y
        dsimp only at c0 c1 c2 t1 t2 d0 d1 d2 s1 s2
        have T1 := Lib.hid t1
        have T2 := Lib.hid t2
        have U1 := Lib.hid s1
        have U2 := Lib.hid s2
        obtain ⟨o1, p1, rfl⟩ := t1.lenForm
        obtain ⟨o2, p2, rfl⟩ := t2.lenForm
        obtain ⟨o3, p3, rfl⟩ := s1.lenForm
        obtain ⟨o4, p4, rfl⟩ := s2.lenForm
        generalize hl4 : x4.length = n4 at *
        generalize hl5 : x5.length = n5 at *
        generalize hm4 : y4.length = m4 at *
        generalize hm5 : y5.length = m5 at *
        clear hl4 hl5 hm4 hm5
        have c0 := cell_kept HB.out c0
        have c1 := cell_kept HB.out c1
        have c2 := cell_kept HB.out c2
        have d0 := cell_kept HB.out d0
        have d1 := cell_kept HB.out d1
        have d2 := cell_kept HB.out d2
        have ki0 : (0 : Int) ≤ (k : Int) := by omega
        have ki1 : (k : Int) < (n : Int) := by omega
        clear t1 t2 s1 s2
        have al : ∀ (W : World) (o : Obj), Below W.heap.size W (W.alloc o) := fun W o => (Below.refl _ _).alloc (Nat.le_refl _) o
        obtain ⟨w3, hw3⟩ : ∃ w3, wr.alloc (.cells #[.int .i64 x1, .slice o1 n4 p1, .slice o2 n5 p2] 43) = w3 := ⟨_, rfl⟩
        have b3 := al wr (.cells #[.int .i64 x1, .slice o1 n4 p1, .slice o2 n5 p2] 43)
        have hr1 := heap_alloc_new wr (.cells #[.int .i64 x1, .slice o1 n4 p1, .slice o2 n5 p2] 43)
        rw [hw3] at b3 hr1
        have d0 := cell_kept b3 d0
        have d1 := cell_kept b3 d1
        have d2 := cell_kept b3 d2
        have hr2 := heap_alloc_new w3 (.cells #[.int .i64 y1, .slice o3 m4 p3, .slice o4 m5 p4] 43)
        have b4 := al w3 (.cells #[.int .i64 y1, .slice o3 m4 p3, .slice o4 m5 p4] 43)
        have hr1 := row_kept b4 hr1
        have HB3 := Lib.hid (below_join HB.out b3)
        have HB4 := Lib.hid (below_join (below_join HB.out b3) b4)
        obtain ⟨A, hA⟩ : ∃ A, wr.heap.size = A := ⟨_, rfl⟩
        rw [hA] at hr1
        have hs3 : w3.heap.size = A + 1 := by rw [← hw3, ← hA]; simp
        rw [hs3] at hr2
        clear b3 b4 al
        go_upto_region 7 with fail
        obtain ⟨w4, hw4⟩ : ∃ w4, w3.alloc (.cells #[.int .i64 y1, .slice o3 m4 p3, .slice o4 m5 p4] 43) = w4 := ⟨_, rfl⟩
        rw [hw4] at hr1 hr2 HB4 ⊢
        clear hw4 hw3 c0 c1 c2 d0 d1 d2 hA hs3 HB3
        have a0 := cell_of_row _ _ 0 _ _ _ hr1
        have a1 := cell_of_row _ _ 1 _ _ _ hr1
        have a2 := cell_of_row _ _ 2 _ _ _ hr1
        have d0 := cell_of_row _ _ 0 _ _ _ hr2
        have d1 := cell_of_row _ _ 1 _ _ _ hr2
        have d2 := cell_of_row _ _ 2 _ _ _ hr2
        clear hr1 hr2
        go_wp2_with fail
        refine (sameOne_any x1 y1 _ _ _ _ x4 x5 y4 y5 w4 (T1.out.kept HB4.out) (T2.out.kept HB4.out) (U1.out.kept HB4.out) (U2.out.kept HB4.out)).mono ?_
        rintro e w5 ⟨rfl, hb5⟩
        have HB5 := Lib.hid (below_join HB4.out hb5)
        clear hb5 a0 a1 a2 d0 d1 d2
        by_cases hq : x1 = y1 ∧ x4 = y4 ∧ x5 = y5
        · have hq2 : (x1 == y1 && decide (x4 = y4) && decide (x5 = y5)) = true := by simp [hq]
          have HZ := Lib.hid (HEQ.out (by simp [HunkV.txt, hq]))
          rw [hq2]
          clear hq hq2
          go_wp2_with fail
          go_roundw
          case rel => exact ⟨k + 1, by omega, by go_num, HZ, HB5⟩
          case measure => simp [intOf]; omega
        · have hq2 : (x1 == y1 && decide (x4 = y4) && decide (x5 = y5)) = false := by
            rw [Bool.eq_false_iff]
            intro h
            simp at h
            exact hq ⟨h.1.1, h.1.2, h.2⟩
          have HZ := Lib.hid (HNE.out (fun h => hq (by injection h with h1 h2 h3; exact ⟨h1, h2, h3⟩)))
          rw [hq2]
          clear hq hq2
          go_wp2_with fail
          go_ret
          exact ⟨retBool HZ.out.symm, HB5.out⟩
      · obtain rfl : k = n := by omega
        have HZ := Lib.hid (sameK_all (l := l) (m := m) (by rw [Hn.out, Hm.out]) fun j h1 h2 => HA.out j h1 h2 (by have := Hn.out; omega))
        go_wp2_with fail
        go_ret
        exact ⟨retBool HZ.out.symm, HB.out⟩
  · have HZ := Lib.hid (sameK_len (l := l) (m := m) (by omega))
    have q1 : ((n : Int) != (n2 : Int)) = true := by rw [bne_iff_ne]; omega
    clear hn hn2 hlm
    go_enter Try.func38, Try.ntmps38
    go_wp2_with fail
    go_ret
    exact ⟨retBool HZ.out.symm, Below.refl _ _⟩

set_option maxHeartbeats 4000000 in
theorem same_any (u v : Value) (l m : List HunkV) (w : World) (hu : Hks w u l) (hv : Hks w v m) :
    Calls Try.prog 26 #[u, v] w fun e w' => e = .returned (.bool (sameK l m)) ∧ Below w.heap.size w w' := by
  have Hu := Lib.hid hu
  have Hv := Lib.hid hv
  obtain ⟨uo, uc, rfl⟩ := hu.lenForm
  obtain ⟨vo, vc, rfl⟩ := hv.lenForm
  clear hu hv
  go_enter Try.func26, Try.ntmps26
  go_wp2_with fail
  refine (equalFunc_any _ _ l m w Hu.out Hv.out).mono ?_
  rintro e w1 ⟨rfl, hb1⟩
  go_wp2_with fail
  go_ret
  exact ⟨rfl, hb1⟩
end Go.Proofs.Ytabdgocfbmcobaa
