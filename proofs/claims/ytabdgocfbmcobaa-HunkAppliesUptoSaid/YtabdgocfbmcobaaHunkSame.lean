/- Own work: the document's Same. -/
import Derived.Test.YtabdgocfbmcobaaHunkRef1
namespace Go.Proofs.Ytabdgocfbmcobaa
open Go.RowKit

noncomputable def sameK (l m : List HunkV) : Bool := @decide (l.map HunkV.txt = m.map HunkV.txt) (Classical.propDecidable _)
theorem sameK_true {l m : List HunkV} (h : l.map HunkV.txt = m.map HunkV.txt) : sameK l m = true := by unfold sameK; simp [h]
theorem sameK_false {l m : List HunkV} (h : ¬ l.map HunkV.txt = m.map HunkV.txt) : sameK l m = false := by unfold sameK; simp [h]
theorem sameK_len {l m : List HunkV} (h : l.length ≠ m.length) : sameK l m = false := sameK_false fun e => h (by have := congrArg List.length e; simpa using this)
theorem sameK_at {l m : List HunkV} (k : Nat) (h1 : k < l.length) (h2 : k < m.length) (h : ¬ (l[k]'h1).txt = (m[k]'h2).txt) : sameK l m = false := sameK_false fun e => h (by
  have e := congrArg (·[k]?) e
  simp only [List.getElem?_map, List.getElem?_eq_getElem h1, List.getElem?_eq_getElem h2, Option.map_some] at e
  exact Option.some.inj e)
theorem sameK_all {l m : List HunkV} (hl : l.length = m.length) (h : ∀ (k : Nat) (h1 : k < l.length) (h2 : k < m.length), (l[k]'h1).txt = (m[k]'h2).txt) : sameK l m = true := sameK_true (by
  refine List.ext_getElem (by simpa using hl) fun k h1 h2 => ?_
  rw [List.getElem_map, List.getElem_map]
  exact h k (by simpa using h1) (by simpa using h2))

set_option maxRecDepth 100000 in
set_option maxHeartbeats 16000000 in
theorem same08_any (u v : Value) (l m : List HunkV) (w : World) (hu : Hks w u l) (hv : Hks w v m) :
    Calls Try.prog 15 #[u, v] w fun e w' => e = .returned (.bool (sameK l m)) ∧ Below w.heap.size w w' := by
  obtain ⟨uo, uc, ub, uof, rfl, huo, hum, hcu⟩ := hu
  obtain ⟨vo, vc, vb, vof, rfl, hvo, hvm, hcv⟩ := hv
  have Huo := Lib.hid huo
  have Hvo := Lib.hid hvo
  have Hcu := Lib.hid hcu
  have Hcv := Lib.hid hcv
  obtain ⟨n, hn⟩ : ∃ n, l.length = n := ⟨_, rfl⟩
  obtain ⟨n2, hn2⟩ : ∃ n2, m.length = n2 := ⟨_, rfl⟩
  have Hn := Lib.hid hn
  have Hm := Lib.hid hn2
  rw [hn] at hum Huo ⊢
  rw [hn2] at hvm Hvo ⊢
  clear huo hvo hcu hcv
  unfold maxLen at hum hvm
  by_cases hlm : n = n2
  · subst hlm
    clear hn hn2
    go_enter Try.func15, Try.ntmps15
    go_wp2_with fail
    go_loopw [5] (fun y wr => ∃ k : Nat, k ≤ n ∧ y = .int .i64 (k : Int) ∧ Hid (∀ (j : Nat) (h1 : j < l.length) (h2 : j < m.length), j < k → (l[j]'h1).txt = (m[j]'h2).txt) ∧ Hid (Below w.heap.size w wr)) (fun y _ => n - (intOf y).toNat)
    case atStart => exact ⟨0, Nat.zero_le _, rfl, (fun j _ _ h => absurd h (by omega)), Below.refl _ _⟩
    case round =>
      obtain ⟨k, hk, rfl, HA, HB⟩ := hrel
      by_cases hlt : k < n
      · have hkl : k < l.length := by have := Hn.out; omega
        have hkm : k < m.length := by have := Hm.out; omega
        obtain rfl := Huo.out (by omega)
        obtain rfl := Hvo.out (by omega)
        obtain ⟨c0, c1, c2, t1, t2⟩ := Hcu.out k hkl
        obtain ⟨d0, d1, d2, s1, s2⟩ := Hcv.out k hkm
        have HNE : Hid (¬ (l[k]'hkl).txt = (m[k]'hkm).txt → sameK l m = false) := fun h => sameK_at k hkl hkm h
        have HEQ : Hid ((l[k]'hkl).txt = (m[k]'hkm).txt → ∀ (j : Nat) (h1 : j < l.length) (h2 : j < m.length), j < k + 1 → (l[j]'h1).txt = (m[j]'h2).txt) := by
          intro h j h1 h2 hj
          by_cases e : j = k
          · subst e; exact h
          · exact HA.out j h1 h2 (by omega)
        obtain ⟨x, hx⟩ : ∃ x, l[k]'hkl = x := ⟨_, rfl⟩
        obtain ⟨y, hy⟩ : ∃ y, m[k]'hkm = y := ⟨_, rfl⟩
        rw [hx] at c0 c1 c2 t1 t2 HNE HEQ
        rw [hy] at d0 d1 d2 s1 s2 HNE HEQ
        clear hx hy
        obtain ⟨x1, x2, x3, x4, x5⟩ := x
        obtain ⟨y1, y2, y3, y4, y5⟩ := y
        dsimp only at c0 c1 c2 t1 t2 d0 d1 d2 s1 s2
        have T1 : ∀ n, Texts (wr.drewN n) x2 x4 := fun n => t1.kept (below_drewN HB.out n)
        have T2 : ∀ n, Texts (wr.drewN n) x3 x5 := fun n => t2.kept (below_drewN HB.out n)
        have U1 : ∀ n, Texts (wr.drewN n) y2 y4 := fun n => s1.kept (below_drewN HB.out n)
        have U2 : ∀ n, Texts (wr.drewN n) y3 y5 := fun n => s2.kept (below_drewN HB.out n)
        have c0 := cell_kept HB.out c0
        have c1 := cell_kept HB.out c1
        have c2 := cell_kept HB.out c2
        have d0 := cell_kept HB.out d0
        have d1 := cell_kept HB.out d1
        have d2 := cell_kept HB.out d2
        have ki0 : (0 : Int) ≤ (k : Int) := by omega
        have ki1 : (k : Int) < (n : Int) := by omega
        clear t1 t2 s1 s2
        by_cases h1 : x1 = y1
        · have q1 : (x1 != y1) = false := by simp [h1]
          by_cases h2 : x4 = y4
          · have q2 : decide (x4 = y4) = true := by simp [h2]
            by_cases h3 : x5 = y5
            · have q3 : decide (x5 = y5) = true := by simp [h3]
              have HZ := Lib.hid (HEQ.out (by simp [HunkV.txt, h1, h2, h3]))
              clear h1 h2 h3
              go_wp2_with fail
              go_quiet (first | (go_at_call 16; refine Calls.quiet_of (texts08_any _ _ x4 y4 _ ?_ ?_); (exact T1 _); (exact U1 _)) | (go_at_call 16; refine Calls.quiet_of (texts08_any _ _ x5 y5 _ ?_ ?_); (exact T2 _); (exact U2 _)))
              go_wp2_with fail
              go_roundw
              case rel => exact ⟨k + 1, by omega, by go_num, HZ, below_drewN HB.out _⟩
              case measure => simp [intOf]; omega
            · have q3 : decide (x5 = y5) = false := by simp [h3]
              have HZ := Lib.hid (HNE.out (by simp [HunkV.txt, h3]))
              clear h1 h2 h3
              go_wp2_with fail
              go_quiet (first | (go_at_call 16; refine Calls.quiet_of (texts08_any _ _ x4 y4 _ ?_ ?_); (exact T1 _); (exact U1 _)) | (go_at_call 16; refine Calls.quiet_of (texts08_any _ _ x5 y5 _ ?_ ?_); (exact T2 _); (exact U2 _)))
              go_wp2_with fail
              go_ret
              exact ⟨retBool HZ.out.symm, below_drewN HB.out _⟩
          · have q2 : decide (x4 = y4) = false := by simp [h2]
            have HZ := Lib.hid (HNE.out (by simp [HunkV.txt, h2]))
            clear h1 h2
            go_wp2_with fail
            go_quiet (first | (go_at_call 16; refine Calls.quiet_of (texts08_any _ _ x4 y4 _ ?_ ?_); (exact T1 _); (exact U1 _)) | (go_at_call 16; refine Calls.quiet_of (texts08_any _ _ x5 y5 _ ?_ ?_); (exact T2 _); (exact U2 _)))
            go_wp2_with fail
            go_ret
            exact ⟨retBool HZ.out.symm, below_drewN HB.out _⟩
        · have q1 : (x1 != y1) = true := by simp [h1]
          have HZ := Lib.hid (HNE.out (by simp [HunkV.txt, h1]))
          clear h1
          go_wp2_with fail
          go_quiet (fail)
          go_wp2_with fail
          go_ret
          exact ⟨retBool HZ.out.symm, below_drewN HB.out _⟩
      · obtain rfl : k = n := by omega
        have HZ := Lib.hid (sameK_all (l := l) (m := m) (by rw [Hn.out, Hm.out]) fun j h1 h2 => HA.out j h1 h2 (by have := Hn.out; omega))
        go_wp2_with fail
        go_ret
        exact ⟨retBool HZ.out.symm, HB.out⟩
  · have HZ := Lib.hid (sameK_len (l := l) (m := m) (by omega))
    have q1 : ((n : Int) != (n2 : Int)) = true := by rw [bne_iff_ne]; omega
    clear hn hn2 hlm
    go_enter Try.func15, Try.ntmps15
    go_wp2_with fail
    go_ret
    exact ⟨retBool HZ.out.symm, Below.refl _ _⟩
end Go.Proofs.Ytabdgocfbmcobaa
