/- Own work: ViewPuts' walk. -/
import Derived.Test.YtgchcgllpceghaaSeePutRef
import Derived.Test.YtgchcgllpceghaaSeePut
import Derived.Test.YtgchcgllpceghaaSeeLabels
import Derived.Test.YtgchcgllpceghaaSeeRefLab
import Derived.Test.YtgchcgllpceghaaSeeTells
import Derived.Test.YtgchcgllpceghaaLabels
namespace Go.Proofs.Ytgchcgllpceghaa
open Go.RowKit Go.Joins

def putE (l m : List LineV) (c : Nat) : Int := if m.length = (l.filter (LineV.seen c)).length then 0 else 1
def putR (l m : List LineV) (c : Nat) : List LineV := if m.length = (l.filter (LineV.seen c)).length then putL (LineV.seen c) l m else []
theorem putR_len (l m : List LineV) (c : Nat) : (putR l m c).length ≤ l.length := by
  unfold putR
  split
  · rw [putL_len]; exact Nat.le_refl _
  · exact Nat.zero_le _
theorem PutPost.same {w w' : World} {l m : List LineV} {c : Nat} {e : Ending} (h : PutPost w l m c e w') : ∃ v, e = .returned (.tuple #[v, .int .i64 (putE l m c)]) ∧ OwnL w' w.heap.size v (putR l m c) ∧ Below w.heap.size w w' := by
  obtain ⟨hb, ⟨hl, v, rfl, ho⟩ | ⟨hl, rfl⟩⟩ := h
  · exact ⟨v, by rw [putE, if_pos hl], by rw [putR, if_pos hl]; exact ho, hb⟩
  · exact ⟨_, by rw [putE, if_neg hl], by rw [putR, if_neg hl]; exact World.ownsRow_nil _ _ _ _, hb⟩
theorem rise_len : ∀ (o l : List Int), o.Pairwise (· < ·) → (∀ x, x ∈ o → x ∈ l) → o.length ≤ l.length
  | [], _, _, _ => Nat.zero_le _
  | x :: r, l, hp, hm => by
    rw [List.pairwise_cons] at hp
    have hx := hm x (by simp)
    have ih := rise_len r (l.erase x) hp.2 (fun y hy => (List.mem_erase_of_ne (by have := hp.1 y hy; omega)).2 (hm y (by simp [hy])))
    rw [List.length_erase_of_mem hx] at ih
    have : 0 < l.length := List.length_pos_of_mem hx
    rw [List.length_cons]
    omega

set_option maxRecDepth 100000 in
set_option maxHeartbeats 32000000 in
theorem putsLaw_walk (u xv : Value) (l lx : List LineV) (c : Nat) (w : World) (hu : Lns w u l) (hx : Lns w xv lx) (hform : SliceForm u) (hformx : SliceForm xv) (hf : ∀ x ∈ l, x.fine) (hfx : ∀ x ∈ lx, x.fine) (hc : c < 18446744073709551616)
    (hlen : l.length * 40 ≤ 140737488351232) (hlenx : lx.length * 40 ≤ 140737488351232) :
    Calls Try.prog 6 #[u, xv, .int .u64 c] w fun e w' => e = .returned (.bool true) ∧ Below w.heap.size w w' := by
  obtain ⟨i0, hi, hz0, hz1, hz2⟩ := info_parts Try.seenInfo26
  obtain ⟨i1, hi1, hy0, hy1, hy2⟩ := info_parts Try.seenInfo24
  have Hu := Lib.hid hu
  have Hx := Lib.hid hx
  have Hform := Lib.hid hform
  have Hformx := Lib.hid hformx
  obtain ⟨uo, ucap, ub, uof, rfl, _⟩ := hu.form
  obtain ⟨xo, xcap, xb, xof, rfl, _⟩ := hx.form
  have Hf := Lib.hid hf
  have Hfx := Lib.hid hfx
  have Hc := Lib.hid hc
  have Hlen : Hid (l.length * 40 ≤ 140737488355328) := by show _ ≤ _; omega
  have Hlenx : Hid (lx.length * 40 ≤ 140737488355328) := by show _ ≤ _; omega
  obtain ⟨N, hN⟩ : ∃ N, lx.length = N := ⟨_, rfl⟩
  have HN := Lib.hid hN
  obtain ⟨U, hU⟩ : ∃ U, l.length = U := ⟨_, rfl⟩
  have HU := Lib.hid hU
  rw [hN] at Hx Hformx hlenx ⊢
  rw [hU] at Hu Hform hlen ⊢
  have hal : Below w.heap.size w (w.alloc (.cells #[] 26)) := (Below.refl _ _).alloc (Nat.le_refl _) _
  have HAL := Lib.hid hal
  clear hu hx hform hformx hf hfx hc hN hU hal
  go_enter Try.func6, Try.ntmps6
  go_wp2_with (at_builtin; refine wpList_append_lines rfl _ _ rfl w.heap.size _ 0 [] rfl (own_empty4 (heap_alloc_new w _) (Nat.le_refl _)) _ lx rfl (Hx.out.kept HAL.out) Hformx.out (by have := Hlenx.out; omega) (by simp) ?_)
  intro v1 w1 hown1 hg1
  have B1 := Lib.hid (HAL.out.grown hg1 (by simp) (fun q hq => by cases hq; exact Nat.le_refl _))
  try rw [Nat.zero_add, List.nil_append] at hown1
  rw [HN.out] at hown1
  have HO1 := Lib.hid hown1
  have hnew := own_news _ _ _ _ (heap_alloc_new w1 (.cells #[.int .u64 0, .int .i64 7, .int .i64 0, .string ⟨#[]⟩] 26))
  have hs1 := B1.out.size
  clear hown1 hg1
  go_wp2_with (at_builtin; refine wpList_append_own _ rfl _ _ 22 rfl w.heap.size 26 i0 (.agg #[.int .u64 0, .int .i64 0, .int .i64 0, .string ⟨#[]⟩]) 4 40 Try.underlying22 hi hz0 hz1 hz2 rfl (by decide) _ _ _ rfl (HO1.out.alloc _) ⟨w1.heap.size, 0, none⟩ 1 1 [.int .u64 0, .int .i64 7, .int .i64 0, .string ⟨#[]⟩] rfl rfl hnew (by simp [Value.oneCell']) (by unfold maxLen; omega) (by omega) (by simp; omega) ?_)
  intro v2 w2 hown2 hg2 _
  obtain ⟨gi, capi, rfl⟩ := ownsRow_succ hown2
  have B2 := Lib.hid ((B1.out.alloc B1.out.size _).grown hg2 (by simp; omega) (fun q hq => (HO1.out.lt q hq).1))
  have hcapi := (own_cap hown2).1
  have HO2 : Hid (w2.ownsRow w.heap.size 26 4 (.slice (some ⟨gi, 0, none⟩) (N + 1) capi) (N + 1) (flatL (lx ++ [⟨0, 7, 0, ⟨#[]⟩⟩]))) := by
    have e : flatL (lx ++ [⟨0, 7, 0, ⟨#[]⟩⟩]) = flatL lx ++ [.int .u64 0, .int .i64 7, .int .i64 0, .string ⟨#[]⟩] := by simp [flatL, LineV.cells]
    show World.ownsRow _ _ _ _ _ _ _
    rw [e]; exact hown2
  have HIN := Lib.hid (lns_front HO2.out HN.out)
  have hgi := ownsRow_lt HO2.out (k := gi) rfl
  have HGI := Lib.hid hgi
  have c7 : w2.cell? ⟨gi, N * 4 + 1, none⟩ = some (.int .i64 7) := by
    have h := HO2.out.cellAt (N * 4 + 1) (by omega)
    obtain ⟨_, f1, _, _⟩ := flatL_get (lx ++ [⟨0, 7, 0, ⟨#[]⟩⟩]) N (by simp [HN.out])
    rw [h, f1]
    have e := HN.out
    simp [← e]
  have C7 := Lib.hid c7
  clear hown2 hg2 hnew hs1 hgi c7
  have hs := fun W => sl_front gi (N + 1) capi N (by omega) W
  go_wp2_with fail
  clear hs
  obtain ⟨R, hR⟩ : ∃ R, putR l lx c = R := ⟨_, rfl⟩
  obtain ⟨ER, hER⟩ : ∃ e, putE l lx c = e := ⟨_, rfl⟩
  have HRl : Hid (R.length ≤ U) := by show _ ≤ _; rw [← hR, ← HU.out]; exact putR_len _ _ _
  have HR := Lib.hid hR
  have HER := Lib.hid hER
  clear hR hER
  refine (ref06Put_any _ _ l lx c _ (Hu.out.kept B2.out) (Hx.out.kept B2.out) Hf.out Hc.out Hlen.out).mono ?_
  rintro e w3 hp
  obtain ⟨vwant, rfl, hwant, hb3⟩ := hp.same
  rw [HER.out]
  rw [HR.out] at hwant
  clear hp
  have HIN := Lib.hid (HIN.out.kept hb3)
  have B3 := Lib.hid (below_join B2.out hb3)
  have C7 := Lib.hid (cell_kept hb3 C7.out)
  have Owant := Lib.hid (show World.ownsRow _ _ _ _ _ _ _ from hwant)
  have Lwant := Lib.hid (Lies.of hwant)
  have Z3 := Lib.hid hb3.size
  clear hwant hb3
  go_wp2_with fail
  refine (put_any _ _ l lx c _ (Hu.out.kept B3.out) HIN.out Hf.out Hc.out Hform.out Hlen.out).mono ?_
  rintro e w4 hp
  obtain ⟨va, rfl, ha, hb4⟩ := hp.same
  rw [HER.out]
  rw [HR.out] at ha
  clear hp
  have Owant := Lib.hid (own_kept Owant.out hb4)
  have HIN := Lib.hid (HIN.out.kept hb4)
  have B4 := Lib.hid (below_join B3.out hb4)
  have C7 := Lib.hid (cell_kept hb4 C7.out)
  have Oa := Lib.hid (show World.ownsRow _ _ _ _ _ _ _ from ha)
  have La := Lib.hid (Lies.of ha)
  have Z4 := Lib.hid hb4.size
  clear ha hb4
  go_wp2_with fail
  refine (put_any _ _ l lx c _ (Hu.out.kept B4.out) HIN.out Hf.out Hc.out Hform.out Hlen.out).mono ?_
  rintro e w5 hp
  obtain ⟨vb, rfl, hb, hb5⟩ := hp.same
  rw [HER.out]
  rw [HR.out] at hb
  clear hp
  have Owant := Lib.hid (own_kept Owant.out hb5)
  have Oa := Lib.hid (own_kept Oa.out hb5)
  have HIN := Lib.hid (HIN.out.kept hb5)
  have B5 := Lib.hid (below_join B4.out hb5)
  have C7 := Lib.hid (cell_kept hb5 C7.out)
  have Ob := Lib.hid (show World.ownsRow _ _ _ _ _ _ _ from hb)
  have Lb := Lib.hid (Lies.of hb)
  have Z5 := Lib.hid hb5.size
  clear hb hb5
  go_wp2_with fail
  refine (labels_any _ l _ (Hu.out.kept B5.out) Hf.out Hlen.out).mono ?_
  rintro e w6 ⟨vx, nx, outx, rfl, hx, hrx, hb6⟩
  have hlx := Nums.len hx
  have hb := rise_len _ _ hrx.1 (fun i hi => (hrx.2 i).1 hi)
  rw [hlx, List.length_map, HU.out] at hb
  have HLx := Lib.hid hlx
  have HNbx := Lib.hid hb
  have HRx := Lib.hid hrx
  clear hlx hb hrx
  have Owant := Lib.hid (own_kept Owant.out hb6)
  have Oa := Lib.hid (own_kept Oa.out hb6)
  have Ob := Lib.hid (own_kept Ob.out hb6)
  have HIN := Lib.hid (HIN.out.kept hb6)
  have B6 := Lib.hid (below_join B5.out hb6)
  have C7 := Lib.hid (cell_kept hb6 C7.out)
  have Ox := Lib.hid (show World.ownsRow _ _ _ _ _ _ _ from hx)
  have Lx := Lib.hid (Lies.of hx)
  have Z6 := Lib.hid hb6.size
  clear hx hb6
  go_wp2_with fail
  refine (labels_any _ l _ (Hu.out.kept B6.out) Hf.out Hlen.out).mono ?_
  rintro e w7 ⟨vy, ny, outy, rfl, hy, hry, hb7⟩
  have hly := Nums.len hy
  have hb := rise_len _ _ hry.1 (fun i hi => (hry.2 i).1 hi)
  rw [hly, List.length_map, HU.out] at hb
  have HLy := Lib.hid hly
  have HNby := Lib.hid hb
  have HRy := Lib.hid hry
  clear hly hb hry
  have Owant := Lib.hid (own_kept Owant.out hb7)
  have Oa := Lib.hid (own_kept Oa.out hb7)
  have Ob := Lib.hid (own_kept Ob.out hb7)
  have Ox := Lib.hid (own_kept Ox.out hb7)
  have HIN := Lib.hid (HIN.out.kept hb7)
  have B7 := Lib.hid (below_join B6.out hb7)
  have C7 := Lib.hid (cell_kept hb7 C7.out)
  have Oy := Lib.hid (show World.ownsRow _ _ _ _ _ _ _ from hy)
  have Ly := Lib.hid (Lies.of hy)
  have Z7 := Lib.hid hb7.size
  clear hy hb7
  have hne : (ER != ER) = false := by simp
  go_wp2_with fail
  refine (lines06_any _ _ _ _ _ (Lns.of_own Oa.out) (Lns.of_own Owant.out)).mono ?_
  rintro e w8 ⟨rfl, hb8⟩
  rw [decide_eq_true rfl]
  have Owant := Lib.hid (own_kept Owant.out hb8)
  have Oa := Lib.hid (own_kept Oa.out hb8)
  have Ob := Lib.hid (own_kept Ob.out hb8)
  have Ox := Lib.hid (own_kept Ox.out hb8)
  have Oy := Lib.hid (own_kept Oy.out hb8)
  have HIN := Lib.hid (HIN.out.kept hb8)
  have B8 := Lib.hid (below_join B7.out hb8)
  have C7 := Lib.hid (cell_kept hb8 C7.out)
  have Z8 := Lib.hid hb8.size
  clear  hb8
  go_wp2_with fail
  refine (ref06Labels_any _ l _ (Hu.out.kept B8.out) Hlen.out Hf.out).mono ?_
  rintro e w9 ⟨vr, outr, rfl, hvr, hrr, hb9⟩
  have Orr := Lib.hid hvr
  have HRr := Lib.hid hrr
  clear hvr hrr
  have Owant := Lib.hid (own_kept Owant.out hb9)
  have Oa := Lib.hid (own_kept Oa.out hb9)
  have Ob := Lib.hid (own_kept Ob.out hb9)
  have Ox := Lib.hid (own_kept Ox.out hb9)
  have Oy := Lib.hid (own_kept Oy.out hb9)
  have HIN := Lib.hid (HIN.out.kept hb9)
  have B9 := Lib.hid (below_join B8.out hb9)
  have C7 := Lib.hid (cell_kept hb9 C7.out)
  have Z9 := Lib.hid hb9.size
  clear  hb9
  go_wp2_with fail
  refine (sameLabels_any _ _ _ _ _ (Nums.of_own Ox.out) Orr.out).mono ?_
  rintro e w10 ⟨rfl, hb10⟩
  rw [decide_eq_true (HRx.out.one HRr.out)]
  have Owant := Lib.hid (own_kept Owant.out hb10)
  have Oa := Lib.hid (own_kept Oa.out hb10)
  have Ob := Lib.hid (own_kept Ob.out hb10)
  have Ox := Lib.hid (own_kept Ox.out hb10)
  have Oy := Lib.hid (own_kept Oy.out hb10)
  have HIN := Lib.hid (HIN.out.kept hb10)
  have B10 := Lib.hid (below_join B9.out hb10)
  have C7 := Lib.hid (cell_kept hb10 C7.out)
  have Z10 := Lib.hid hb10.size
  clear  hb10
  go_wp2_with fail
  obtain ⟨NA, hNA⟩ : ∃ NA, R.length = NA := ⟨_, rfl⟩
  have HNA := Lib.hid hNA
  obtain ⟨ao, ac, hva, hao⟩ := own_slice Oa.out
  obtain ⟨lo, lc, hvx, hlo⟩ := own_slice Ox.out
  rw [hNA] at hva hao
  have z3 := Z3.out
  have z4 := Z4.out
  have z5 := Z5.out
  have z6 := Z6.out
  have z7 := Z7.out
  have z8 := Z8.out
  have z9 := Z9.out
  have z10 := Z10.out
  have hPit : Pit (fun k => va.ownBlock = some k ∨ vx.ownBlock = some k) w10 w10 [⟨26, 4, va, NA⟩, ⟨24, 1, vx, nx⟩] := by
    refine Pit.start ?_ ?_ ?_
    · intro r hr
      simp only [List.mem_cons, List.not_mem_nil, or_false] at hr
      rcases hr with rfl | rfl
      · have h := Oa.out
        rw [hNA] at h
        exact ⟨_, own_base h (Nat.zero_le _)⟩
      · exact ⟨_, own_base Ox.out (Nat.zero_le _)⟩
    · intro r hr k hk
      simp only [List.mem_cons, List.not_mem_nil, or_false] at hr
      rcases hr with rfl | rfl
      · exact .inl hk
      · exact .inr hk
    · simp only [List.pairwise_cons, List.mem_cons, List.not_mem_nil, or_false, forall_eq, List.Pairwise.nil, and_true, false_implies, implies_true]
      exact fun k h1 h2 => by have := La.out k h1; have := Lx.out k h2; omega
  have hfree : ∀ (v : Value) (a b : Nat), Lies v a b → (b ≤ w3.heap.size ∨ (w4.heap.size ≤ a ∧ b ≤ w5.heap.size) ∨ w6.heap.size ≤ a) →
      ∀ k, v.ownBlock = some k → ¬ (va.ownBlock = some k ∨ vx.ownBlock = some k) := by
    intro v a b hl hab k hk hn
    have h0 := hl k hk
    rcases hn with hn | hn
    · have := La.out k hn; omega
    · have := Lx.out k hn; omega
  have Fb := Lib.hid (hfree vb _ _ Lb.out (by omega))
  have Fy := Lib.hid (hfree vy _ _ Ly.out (by omega))
  have Fw := Lib.hid (hfree vwant _ _ Lwant.out (by omega))
  have Fi := Lib.hid (hfree (.slice (some ⟨gi, 0, none⟩) N capi) 0 w2.heap.size (fun k hk => by cases hk; exact ⟨Nat.zero_le _, HGI.out.2⟩) (by omega))
  have Hmin : Hid (∀ k, (va.ownBlock = some k ∨ vx.ownBlock = some k) → w.heap.size ≤ k) := by
    intro k hn
    have b2 := B2.out.size
    rcases hn with hn | hn
    · have := La.out k hn; omega
    · have := Lx.out k hn; omega
  obtain ⟨S, hS⟩ : ∃ S : Nat → Prop, S = fun k => va.ownBlock = some k ∨ vx.ownBlock = some k := ⟨_, rfl⟩
  rw [← hS] at hPit
  have HFb : Hid (∀ k, vb.ownBlock = some k → ¬ S k) := by rw [hS]; exact Fb.out
  have HFy : Hid (∀ k, vy.ownBlock = some k → ¬ S k) := by rw [hS]; exact Fy.out
  have HFw : Hid (∀ k, vwant.ownBlock = some k → ¬ S k) := by rw [hS]; exact Fw.out
  have HFi : Hid (¬ S gi) := by rw [hS]; exact Fi.out gi rfl
  have HSm : Hid (∀ k, S k → w.heap.size ≤ k) := by rw [hS]; exact Hmin.out
  have HPit := Lib.hid hPit
  have Hao := Lib.hid hao
  have Hlo := Lib.hid hlo
  have HNAU : Hid (NA ≤ U) := by show _ ≤ _; rw [← hNA]; exact HRl.out
  have HNX : Hid (nx ≤ U) := HNbx.out
  have Bs := Lib.hid (Nat.le_trans B9.out.size z10)
  clear hNA hao hlo hPit hfree Fb Fy Fw Fi Hmin hS z3 z4 z5 z6 z7 z8 z9 z10 Z3 Z4 Z5 Z6 Z7 Z8 Z9 Z10 La Lb Lx Ly Lwant B1 B2 B3 B4 B5 B6 B7 B8 B9 HO1 HO2 HGI HAL hne
  subst hva hvx
  go_loopw [18] (fun t wr => ∃ k : Nat, k ≤ NA ∧ t = .int .i64 (k : Int) ∧ Pit S w10 wr [⟨26, 4, .slice ao NA ac, NA⟩, ⟨24, 1, .slice lo nx lc, nx⟩]) (fun t _ => NA - (intOf t).toNat)
  case atStart => exact ⟨0, Nat.zero_le _, rfl, HPit.out⟩
  case round =>
    obtain ⟨k, hk, rfl, hp⟩ := hrel
    have HP := Lib.hid hp
    clear hp
    have hnu := HNAU.out
    by_cases hlt : k < NA
    · obtain ⟨ga, rfl⟩ := Hao.out (by omega)
      obtain ⟨_, xa⟩ := HP.out.own _ (List.Mem.head _)
      have fa := own_frozen xa (k * 4 + 1)
      obtain ⟨ya, ea⟩ := own_some xa (k * 4 + 1) (by show k * 4 + 1 < NA * 4; omega)
      have HQ := Lib.hid (HP.out.set 0 rfl rfl (k * 4 + 1) (.int .i64 (-1)))
      have hi0 : (0 : Int) ≤ (k : Int) := by omega
      have hi1 : (k : Int) < (NA : Int) := by omega
      have hNb : NA < 9223372036854775807 := by omega
      clear xa
      go_wp2_with fail
      have hq := HQ.out
      go_roundw
      case rel => exact ⟨k + 1, by omega, by go_num, hq⟩
      case measure => simp [intOf]; omega
    · obtain rfl : k = NA := by omega
      go_wp2_with fail
      go_loopw [19] (fun t wr => ∃ q : Nat, q ≤ nx ∧ t = .int .i64 (q : Int) ∧ Pit S w10 wr [⟨26, 4, .slice ao k ac, k⟩, ⟨24, 1, .slice lo nx lc, nx⟩]) (fun t _ => nx - (intOf t).toNat)
      case atStart => exact ⟨0, Nat.zero_le _, rfl, HP.out⟩
      case round =>
        obtain ⟨q, hq, rfl, hp⟩ := hrel
        have HP2 := Lib.hid hp
        clear hp
        have hxu := HNX.out
        by_cases hlt2 : q < nx
        · obtain ⟨gl, rfl⟩ := Hlo.out (by omega)
          obtain ⟨_, xh⟩ := HP2.out.own _ (List.Mem.tail _ (List.Mem.head _))
          have fh := own_frozen xh q
          obtain ⟨yh, eh⟩ := own_some xh q (by show q < nx * 1; omega)
          have HQ := Lib.hid (HP2.out.set 1 rfl rfl q (.int .u64 77))
          have hi0 : (0 : Int) ≤ (q : Int) := by omega
          have hi1 : (q : Int) < (nx : Int) := by omega
          have hNb : nx < 9223372036854775807 := by omega
          clear xh
          go_wp2_with fail
          have hq := HQ.out
          go_roundw
          case rel => exact ⟨q + 1, by omega, by go_num, hq⟩
          case measure => simp [intOf]; omega
        · obtain rfl : q = nx := by omega
          go_wp2_with fail
          go_loopw [12, 16, 20] (fun va vl t wr => ∃ m : Nat, m ≤ 70 ∧ t = .int .i64 (m : Int) ∧ Pit S w10 wr [⟨26, 4, va, k + m⟩, ⟨24, 1, vl, q + m⟩]) (fun _ _ t _ => 70 - (intOf t).toNat)
          case atStart => exact ⟨0, Nat.zero_le _, rfl, HP2.out⟩
          case round =>
            obtain ⟨m, hm, rfl, hp⟩ := hrel
            have HP3 := Lib.hid hp
            clear hp
            by_cases hlt3 : m < 70
            · have hm1 : (m : Int) < 70 := by omega
              obtain ⟨xsaa, xaa⟩ : ∃ xs, wr.ownsRow 0 26 4 u12 (k + m) xs := HP3.out.own _ (List.Mem.head _)
              have Xaa := Lib.hid (xaa.alloc (.cells #[.int .u64 0, .int .i64 0, .int .i64 0, .string ⟨#[]⟩] 26))
              have hnew := own_news _ _ _ _ (heap_alloc_new wr (.cells #[.int .u64 0, .int .i64 0, .int .i64 0, .string ⟨#[]⟩] 26))
              have HP3a := Lib.hid (HP3.out.alloc (.cells #[.int .u64 0, .int .i64 0, .int .i64 0, .string ⟨#[]⟩] 26))
              clear xaa
              go_wp2_with (at_builtin; refine wpList_append_own_at _ rfl _ _ 22 rfl 0 26 i0 (.agg #[.int .u64 0, .int .i64 0, .int .i64 0, .string ⟨#[]⟩]) 4 40 Try.underlying22 hi hz0 hz1 hz2 rfl (by decide) _ _ _ rfl Xaa.out ⟨wr.heap.size, 0, none⟩ 1 1 [.int .u64 0, .int .i64 0, .int .i64 0, .string ⟨#[]⟩] rfl rfl hnew (by simp [Value.oneCell']) (by unfold maxLen; omega) (by omega) (Nat.zero_le _) ?_)
              intro naa x1 hoaa hgaa _ haaa
              have HP4 := Lib.hid (show Pit S w10 x1 [⟨26, 4, naa, k + m + 1⟩, ⟨24, 1, u16, q + m⟩] from HP3a.out.grow 0 rfl hoaa hgaa (by rw [World.size_alloc]; exact haaa))
              clear hoaa hgaa haaa hnew
              obtain ⟨xspp, xpp⟩ : ∃ xs, x1.ownsRow 0 24 1 u16 (q + m) xs := HP4.out.own _ (List.Mem.tail _ (List.Mem.head _))
              have Xpp := Lib.hid (xpp.alloc (.cells #[.int .u64 78] 24))
              have hnew := own_news _ _ _ _ (heap_alloc_new x1 (.cells #[.int .u64 78] 24))
              have HP4a := Lib.hid (HP4.out.alloc (.cells #[.int .u64 78] 24))
              clear xpp
              go_wp2_with (at_builtin; refine wpList_append_own_at _ rfl _ _ 45 rfl 0 24 i1 (.int .u64 0) 1 8 Try.underlying45 hi1 hy0 hy1 hy2 rfl (by decide) _ _ _ rfl Xpp.out ⟨x1.heap.size, 0, none⟩ 1 1 [.int .u64 78] rfl rfl hnew (by simp [Value.oneCell']) (by unfold maxLen; omega) (by omega) (Nat.zero_le _) ?_)
              intro npp x2 hopp hgpp _ happ
              have HP5 := Lib.hid (show Pit S w10 x2 [⟨26, 4, naa, k + m + 1⟩, ⟨24, 1, npp, q + m + 1⟩] from HP4a.out.grow 1 rfl hopp hgpp (by rw [World.size_alloc]; exact happ))
              clear hopp hgpp happ hnew
              go_wp2_with fail
              have hq := HP5.out
              go_roundw
              case rel => exact ⟨m + 1, by omega, by go_num, hq⟩
              case measure => simp [intOf]; omega
            · obtain rfl : m = 70 := by omega
              obtain ⟨_, xa⟩ : ∃ xs, wr.ownsRow 0 26 4 u12 (k + 70) xs := HP3.out.own _ (List.Mem.head _)
              obtain ⟨_, xh⟩ : ∃ xs, wr.ownsRow 0 24 1 u16 (q + 70) xs := HP3.out.own _ (List.Mem.tail _ (List.Mem.head _))
              obtain ⟨a1, a2, rfl, _⟩ := own_slice xa
              obtain ⟨h1, h2, rfl, _⟩ := own_slice xh
              have K := Lib.hid HP3.out.kept
              have hK : Below w.heap.size w10 wr := K.out.below HSm.out Bs.out
              have D0 := Lib.hid (B10.out.trans hK)
              have Mb := Lib.hid ((Lns.of_own Ob.out).keptBut K.out (fun b h _ => HFb.out b h))
              have Mw := Lib.hid ((Lns.of_own Owant.out).keptBut K.out (fun b h _ => HFw.out b h))
              have My := Lib.hid (show Nums .u64 wr vy _ from Vec.keptBut (Nums.of_own Oy.out) K.out (fun b h _ => HFy.out b h))
              have Mi := Lib.hid (HIN.out.keptBut K.out (fun b h _ => by cases h; exact HFi.out))
              have C7 := Lib.hid (K.out.cell C7.out HFi.out)
              have Mu := Lib.hid (Hu.out.kept D0.out)
              have Mx := Lib.hid (Hx.out.kept D0.out)
              have e1 : ¬ ((k : Int) + 70 < 70) := by omega
              have e2 : ¬ ((q : Int) + 70 < 70) := by omega
              have e3 : ¬ (k + 70 < 70) := by omega
              have e4 : ¬ (q + 70 < 70) := by omega
              have hcap : (N : Int) + 1 ≤ (capi : Int) := by omega
              have hNb : (N : Int) + 140 ≤ 4000000000000 := by omega
              clear xa xh hK
              go_wp2_with fail
              refine (lines06_any _ _ _ _ _ Mb.out Mw.out).mono ?_
              rintro e y1 ⟨rfl, hb⟩
              rw [decide_eq_true rfl]
              have D1 := Lib.hid (below_join D0.out hb)
              have X1 := Lib.hid hb
              clear hb
              go_wp2_with fail
              refine (ref06Labels_any _ l _ (Mu.out.kept X1.out) Hlen.out Hf.out).mono ?_
              rintro e y2 ⟨vr2, outr2, rfl, hvr, hrr, hb⟩
              have D2 := Lib.hid (below_join D1.out hb)
              have X2 := Lib.hid (below_join X1.out hb)
              have Orr2 := Lib.hid hvr
              have HRr2 := Lib.hid hrr
              clear hb hvr hrr
              go_wp2_with fail
              refine (sameLabels_any _ _ _ _ _ (My.out.kept X2.out) Orr2.out).mono ?_
              rintro e y3 ⟨rfl, hb⟩
              rw [decide_eq_true (HRy.out.one HRr2.out)]
              have D3 := Lib.hid (below_join D2.out hb)
              have X3 := Lib.hid (below_join X2.out hb)
              clear hb
              go_wp2_with fail
              refine (lines06_any _ _ _ _ _ (Mi.out.kept X3.out) (Mx.out.kept X3.out)).mono ?_
              rintro e y4 ⟨rfl, hb⟩
              rw [decide_eq_true rfl]
              have D4 := Lib.hid (below_join D3.out hb)
              have X4 := Lib.hid (below_join X3.out hb)
              have c7 := cell_kept X4.out C7.out
              have hs := fun W => sl_front1 gi N capi N (by omega) W
              have hn0 : (0 : Int) ≤ (N : Int) := by omega
              have hn1 : (N : Int) < (N : Int) + 1 := by omega
              clear hb
              go_wp2_with fail
              clear hs c7
              refine (alike_any _ _ l lx c _ (Mu.out.kept X4.out) (Mx.out.kept X4.out) Hf.out Hfx.out Hc.out Hlen.out Hlenx.out).mono ?_
              rintro e y5 ⟨rfl, hb⟩
              have D5 := Lib.hid (below_join D4.out hb)
              have X5 := Lib.hid (below_join X4.out hb)
              clear hb
              go_wp2_with fail
              refine (ref06Of_any _ l c _ (Mu.out.kept X5.out) Hf.out Hc.out Hlen.out).mono ?_
              rintro e y6 ⟨v6, rfl, ho6, hb⟩
              rw [pickL_lines, pickL_count] at ho6
              have D6 := Lib.hid (below_join D5.out hb)
              have X6 := Lib.hid (below_join X5.out hb)
              have O6 := Lib.hid ho6
              clear hb ho6
              go_wp2_with fail
              refine (ref06Of_any _ lx c _ (Mx.out.kept X6.out) Hfx.out Hc.out Hlenx.out).mono ?_
              rintro e y7 ⟨v7, rfl, ho7, hb⟩
              rw [pickL_lines, pickL_count] at ho7
              have D7 := Lib.hid (below_join D6.out hb)
              have O6 := Lib.hid (own_kept O6.out hb)
              have O7 := Lib.hid ho7
              clear hb ho7
              go_wp2_with fail
              refine (lines06_any _ _ _ _ _ (Lns.of_own O6.out) (Lns.of_own O7.out)).mono ?_
              rintro e y8 ⟨rfl, hb⟩
              have D8 := Lib.hid (below_join D7.out hb)
              clear hb
              go_wp2_with fail
              go_ret
              exact ⟨retBool (by simp), D8.out⟩
end Go.Proofs.Ytgchcgllpceghaa
