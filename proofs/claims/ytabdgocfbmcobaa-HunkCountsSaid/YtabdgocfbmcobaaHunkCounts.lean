/- Own work: HunkCounts' walk. -/
import Derived.Test.YtabdgocfbmcobaaHunkTouched
import Derived.Test.YtabdgocfbmcobaaHunkTouchR
import Derived.Test.YtabdgocfbmcobaaHunkSizes
import Derived.Test.YtabdgocfbmcobaaHunkSameP
import Derived.Test.YtabdgocfbmcobaaHunkTwin
namespace Go.Proofs.Ytabdgocfbmcobaa
open Go.RowKit Go.Sort

theorem OwnB.beside {w w' : World} {B g n cap : Nat} {f : Nat → Bool} {r : Option Nat} (h : OwnB w B (.slice (some ⟨g, 0, none⟩) n cap) n f) (hg : w.grownBy w' r) (hne : r ≠ some g) : OwnB w' B (.slice (some ⟨g, 0, none⟩) n cap) n f := by
  refine own_grown h hg ?_
  intro k hk e
  have : g = k := Option.some.inj hk
  subst this
  exact hne e

set_option maxRecDepth 100000 in
set_option maxHeartbeats 16000000 in
theorem counts_walk (u v : Value) (l m : List HunkV) (N : Int) (w : World) (hv : Hks w u l) (hf : ∀ m ∈ l, m.Fit) (hl : l.length * 56 ≤ 140737488351232) (hm : Hks w v m) :
    Calls Try.prog 6 #[u, v, .int .i64 N] w fun e w' => e = .returned (.bool true) ∧ Below w.heap.size w w' := by
  have Hv := Lib.hid hv
  have Hf := Lib.hid hf
  have Hm := Lib.hid hm
  obtain ⟨uo, uc, ub, uof, rfl, huo, hum, hcu⟩ := hv
  have Huo := Lib.hid huo
  have Hcu := Lib.hid hcu
  obtain ⟨vo, vc, rfl⟩ := hm.lenForm
  obtain ⟨n, hn⟩ : ∃ n, l.length = n := ⟨_, rfl⟩
  have Hn := Lib.hid hn
  obtain ⟨n2, hn2⟩ : ∃ n2, m.length = n2 := ⟨_, rfl⟩
  rw [hn] at hl hum Huo Hv ⊢
  rw [hn2] at Hm ⊢
  have hl2 : Hid (l.length * 56 ≤ 140737488355328) := by show _ ≤ _; rw [hn]; omega
  clear hf hm huo hcu hn hn2
  unfold maxLen at hum
  go_enter Try.func6, Try.ntmps6
  go_wp2_with fail
  refine (refSizes_any _ l w Hv.out Hf.out hl2.out).mono ?_
  rintro e w1 ⟨rfl, hb1⟩
  have B1 := Lib.hid hb1
  clear hb1
  go_wp2_with fail
  refine (twin_any _ l w1 (Hv.out.kept B1.out) Hf.out (by rw [Hn.out]; omega)).mono ?_
  rintro e w2 ⟨r2, hs2, rfl, ho2, he2, hb2⟩
  have HO2 := Lib.hid ho2.hks
  have HE2 := Lib.hid he2
  have HF2 := Lib.hid (fit_made ho2 he2 Hf.out)
  have HL2 : Hid (hs2.length * 56 ≤ 140737488355328) := by show _ ≤ _; have h := congrArg List.length he2; rw [List.length_map, List.length_map] at h; rw [h]; exact hl2.out
  have B2 := Lib.hid (below_join B1.out hb2)
  clear ho2 he2 hb2
  go_wp2_with fail
  refine (sizes_any _ hs2 w2 HO2.out HF2.out HL2.out).mono ?_
  rintro e w3 ⟨rfl, hb3⟩
  rw [HE2.out]
  have B3 := Lib.hid (below_join B2.out hb3)
  clear hb3 HO2 HE2 HF2 HL2
  obtain ⟨⟨z1, z2, z3⟩, hz⟩ : ∃ z, sizesL (l.map HunkV.txt) = z := ⟨_, rfl⟩
  rw [hz]
  clear hz
  go_wp2_with fail
  refine (same_any _ _ l m w3 (Hv.out.kept B3.out) (Hm.out.kept B3.out)).mono ?_
  rintro e w4 ⟨rfl, hb4⟩
  have B4 := Lib.hid (below_join B3.out hb4)
  clear hb4
  go_wp2_with fail
  refine (same08_any _ _ l m w4 (Hv.out.kept B4.out) (Hm.out.kept B4.out)).mono ?_
  rintro e w5 ⟨rfl, hb5⟩
  have B5 := Lib.hid (below_join B4.out hb5)
  clear hb5
  obtain ⟨sb, hsb⟩ : ∃ sb, sameK l m = sb := ⟨_, rfl⟩
  rw [hsb]
  have q1 : (sb != sb) = false := by cases sb <;> rfl
  clear hsb
  go_wp2_with fail
  refine (twin_any _ l w5 (Hv.out.kept B5.out) Hf.out (by rw [Hn.out]; omega)).mono ?_
  rintro e w6 ⟨r6, hs6, rfl, ho6, he6, hb6⟩
  have HO6 := Lib.hid ho6.hks
  have HE6 := Lib.hid he6
  have B6 := Lib.hid (below_join B5.out hb6)
  clear ho6 he6 hb6
  go_wp2_with fail
  refine (same_any _ _ l hs6 w6 (Hv.out.kept B6.out) HO6.out).mono ?_
  rintro e w7 ⟨he, hb7⟩
  rw [sameK_true HE6.out.symm] at he
  subst he
  have B7 := Lib.hid (below_join B6.out hb7)
  clear hb7 HO6 HE6 q1
  go_wp2_with fail
  go_loopw [13] (fun i wr => ∃ k : Nat, k ≤ n ∧ i = .int .i64 k ∧ Hid (Below w.heap.size w wr)) (fun i _ => n - (intOf i).toNat)
  case atStart => exact ⟨0, Nat.zero_le _, rfl, B7.out⟩
  case round =>
    obtain ⟨k, hk, rfl, HB⟩ := hrel
    by_cases hlt : k < n
    · have hkl : k < l.length := by have := Hn.out; omega
      obtain rfl := Huo.out (by omega)
      obtain ⟨c0, c1, c2, t1, t2⟩ := Hcu.out k hkl
      have HF := Lib.hid (Hf.out _ (List.getElem_mem hkl))
      obtain ⟨x, hx⟩ : ∃ x, l[k]'hkl = x := ⟨_, rfl⟩
      rw [hx] at c0 c1 c2 t1 t2 HF
      obtain ⟨x1, x2, x3, x4, x5⟩ := x
      dsimp only at c0 c1 c2 t1 t2
      obtain ⟨o1, p1, rfl⟩ := t1.lenForm
      obtain ⟨o2, p2, rfl⟩ := t2.lenForm
      obtain ⟨on, hon⟩ : ∃ on, x4.length = on := ⟨_, rfl⟩
      obtain ⟨nn, hnn⟩ : ∃ nn, x5.length = nn := ⟨_, rfl⟩
      have h4 : on * 16 ≤ 140737488355328 := by have := HF.out.lo; simp only at this; omega
      have h5 : nn * 16 ≤ 140737488355328 := by have := HF.out.ln; simp only at this; omega
      rw [hon] at c1
      rw [hnn] at c2
      clear hx t1 t2 hon hnn HF
      have HC := Lib.hid (And.intro c0 (And.intro c1 c2))
      have c0 := cell_kept HB.out c0
      have c1 := cell_kept HB.out c1
      have c2 := cell_kept HB.out c2
      have ki0 : (0 : Int) ≤ (k : Int) := by omega
      have ki1 : (k : Int) < (n : Int) := by omega
      go_wp2_with fail
      refine (refTouch_any x1 o1 on p1 o2 nn p2 wr h4 h5).mono ?_
      rintro e w8 ⟨rfl, hb8⟩
      have B8 := Lib.hid (below_join HB.out hb8)
      clear hb8
      have c0 := cell_kept B8.out HC.out.1
      have c1 := cell_kept B8.out HC.out.2.1
      have c2 := cell_kept B8.out HC.out.2.2
      go_wp2_with fail
      refine (touch_any x1 o1 on p1 o2 nn p2 w8 h4 h5).mono ?_
      rintro e w9 ⟨rfl, hb9⟩
      have B9 := Lib.hid (below_join B8.out hb9)
      clear hb9 c0 c1 c2
      obtain ⟨y1, hy1⟩ : ∃ y, min on nn = y := ⟨_, rfl⟩
      rw [hy1]
      clear hy1
      obtain ⟨y2, hy2⟩ : ∃ y, on - y1 = y := ⟨_, rfl⟩
      obtain ⟨y3, hy3⟩ : ∃ y, nn - y1 = y := ⟨_, rfl⟩
      rw [hy2, hy3]
      clear hy2 hy3
      go_wp2_with fail
      go_roundw
      case rel => exact ⟨k + 1, by omega, by go_num, B9⟩
      case measure => simp [intOf]; omega
    · obtain rfl : k = n := by omega
      go_wp2_with fail
      refine (refTouched_any _ l N wr (Hv.out.kept HB.out) Hf.out hl2.out).mono ?_
      rintro e w8 ⟨r8, rfl, hz8, ho8, hb8⟩
      have B8 := Lib.hid (below_join HB.out hb8)
      go_wp2_with fail
      refine (touched_any _ l N w8 (Hv.out.kept B8.out) Hf.out hl2.out).mono ?_
      rintro e w9 ⟨r9, rfl, hz9, ho9, hb9⟩
      have B9 := Lib.hid (below_join B8.out hb9)
      go_wp2_with fail
      refine (touched_any _ l N w9 (Hv.out.kept B9.out) Hf.out hl2.out).mono ?_
      rintro e w10 ⟨r10, rfl, hz10, ho10, hb10⟩
      have B10 := Lib.hid (below_join B9.out hb10)
      by_cases hE : touchE (l.map HunkV.txt) N = 0
      · obtain ⟨g1, e1, o1⟩ := ho8 hE
        obtain ⟨g2, e2, o2⟩ := ho9 hE
        obtain ⟨g3, e3, o3⟩ := ho10 hE
        subst e1 e2 e3
        have g1l := World.ownsRow.lt o1 g1 rfl
        have g2l := World.ownsRow.lt o2 g2 rfl
        have g3l := World.ownsRow.lt o3 g3 rfl
        have n12 : g1 ≠ g2 := by omega
        have n32 : g3 ≠ g2 := by omega
        have hg2 : w.heap.size ≤ g2 := by have := B8.out.size; omega
        have HO1 := Lib.hid ((o1.below hb9).below hb10)
        have HO2 := Lib.hid (o2.below hb10)
        have HO3 := Lib.hid o3
        rw [hE]
        obtain ⟨f, hf⟩ : ∃ f, coverB (l.map HunkV.txt) = f := ⟨_, rfl⟩
        rw [hf] at HO1 HO2 HO3
        obtain ⟨t, ht⟩ : ∃ t, N.toNat = t := ⟨_, rfl⟩
        have htb : t ≤ 1048576 := by
          have h := hE
          unfold touchE at h
          split at h
          · omega
          · omega
        rw [ht] at HO1 HO2 HO3 ⊢
        clear hz8 ho8 hb8 hz9 ho9 hb9 hz10 ho10 hb10 hE hf ht o1 o2 o3 g1l g2l g3l
        go_wp2_with fail
        obtain ⟨wo, rfl⟩ : ∃ wo : World, wo = wr := ⟨_, rfl⟩
        go_loopw [26] (fun i wq => ∃ j : Nat, j ≤ t ∧ i = .int .i64 j ∧ Hid (OwnB wq wo.heap.size (.slice (some ⟨g1, 0, none⟩) t t) t f) ∧ Hid (OwnB wq w8.heap.size (.slice (some ⟨g2, 0, none⟩) t t) t (fun x => if x < j then !f x else f x)) ∧ Hid (OwnB wq w9.heap.size (.slice (some ⟨g3, 0, none⟩) t t) t f) ∧ Hid (Below w.heap.size w wq)) (fun i _ => t - (intOf i).toNat)
        case atStart => exact ⟨0, Nat.zero_le _, rfl, HO1.out, HO2.out.same (fun i _ => by rw [if_neg (by omega)]), HO3.out, B10.out⟩
        case round =>
          clear HO1 HO2 HO3
          obtain ⟨j, hj, rfl, HO1, HO2, HO3, HB2⟩ := hrel
          by_cases hjt : j < t
          · have c1 := HO1.out.cell j hjt
            have c2 := HO2.out.cell j hjt
            rw [if_neg (by omega)] at c2
            obtain ⟨b, hb⟩ : ∃ b, f j = b := ⟨_, rfl⟩
            have Hb := Lib.hid hb
            rw [hb] at c1 c2
            have z1 := HO2.out.frozen j
            have q1 : (b != b) = false := by cases b <;> rfl
            have j0 : (0 : Int) ≤ (j : Int) := by omega
            have j1 : (j : Int) < (t : Int) := by omega
            have HG : Hid (∀ q, wr.grownBy ((wr.drewN q).setCell ⟨g2, j, none⟩ (.bool (!b))) (some g2)) := fun q => by
              have h := grown_setCell (wr.drewN q) g2 j (.bool (!b))
              exact ⟨h.os, h.tape, h.output, h.size, h.block⟩
            have HS : Hid (∀ q, OwnB ((wr.drewN q).setCell ⟨g2, j, none⟩ (.bool (!b))) w8.heap.size (.slice (some ⟨g2, 0, none⟩) t t) t (fun x => if x < j + 1 then !f x else f x)) := fun q => by
              refine ((HO2.out.below (below_drewN (Below.refl _ _) q)).set j (!b)).same fun i _ => ?_
              by_cases e : i = j
              · subst e
                rw [if_pos rfl, if_pos (by omega), Hb.out]
              · rw [if_neg e]
                by_cases e2 : i < j
                · rw [if_pos e2, if_pos (by omega)]
                · rw [if_neg e2, if_neg (by omega)]
            clear hb
            go_wp2_with fail
            go_quiet (fail)
            go_wp2_with fail
            go_roundw
            case rel => exact ⟨j + 1, by omega, by go_num, HO1.out.beside (HG.out _) (fun e => n12 (Option.some.inj e).symm), HS.out _, HO3.out.beside (HG.out _) (fun e => n32 (Option.some.inj e).symm), HB2.out.grown (HG.out _) HB2.out.size (fun q hq => by cases hq; exact hg2)⟩
            case measure => simp [intOf]; omega
          · obtain rfl : j = t := by omega
            go_wp2_with fail
            obtain ⟨wp, rfl⟩ : ∃ wp : World, wp = wr := ⟨_, rfl⟩
            go_loopw [27] (fun i wq => ∃ i2 : Nat, i2 ≤ j ∧ i = .int .i64 i2 ∧ Hid (Below wp.heap.size wp wq)) (fun i _ => j - (intOf i).toNat)
            case atStart => exact ⟨0, Nat.zero_le _, rfl, Below.refl _ _⟩
            case round =>
              obtain ⟨i2, hi2, rfl, HB3⟩ := hrel
              by_cases hit : i2 < j
              · have c1 := cell_kept HB3.out (HO1.out.cell i2 hit)
                have c2 := cell_kept HB3.out (HO3.out.cell i2 hit)
                obtain ⟨b, hb⟩ : ∃ b, f i2 = b := ⟨_, rfl⟩
                rw [hb] at c1 c2
                have q1 : (b != b) = false := by cases b <;> rfl
                have j0 : (0 : Int) ≤ (i2 : Int) := by omega
                have j1 : (i2 : Int) < (j : Int) := by omega
                clear hb
                go_wp2_with fail
                go_quiet (fail)
                go_wp2_with fail
                go_roundw
                case rel => exact ⟨i2 + 1, by omega, by go_num, below_drewN HB3.out _⟩
                case measure => simp [intOf]; omega
              · obtain rfl : i2 = j := by omega
                go_wp2_with fail
                go_ret
                exact ⟨rfl, below_join HB2.out HB3.out⟩
      · have e1 := hz8 hE
        have e2 := hz9 hE
        have e3 := hz10 hE
        subst e1 e2 e3
        obtain ⟨te, hte⟩ : ∃ te, touchE (l.map HunkV.txt) N = te := ⟨_, rfl⟩
        rw [hte]
        clear hz8 ho8 hb8 hz9 ho9 hb9 hz10 ho10 hb10 hE hte
        go_wp2_with fail
        go_loopw [26] (fun i wq => i = .int .i64 0 ∧ w10 = wq) (fun _ _ => 0)
        case atStart => exact ⟨rfl, rfl⟩
        case round =>
          obtain ⟨rfl, rfl⟩ := hrel
          go_wp2_with fail
          go_loopw [27] (fun i wq => i = .int .i64 0 ∧ w10 = wq) (fun _ _ => 0)
          case atStart => exact ⟨rfl, rfl⟩
          case round =>
            obtain ⟨rfl, rfl⟩ := hrel
            go_wp2_with fail
            go_ret
            exact ⟨rfl, B10.out⟩
end Go.Proofs.Ytabdgocfbmcobaa
