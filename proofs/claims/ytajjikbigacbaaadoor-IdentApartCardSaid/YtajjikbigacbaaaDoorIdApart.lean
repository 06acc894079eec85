/- Own work: IdentApart's walk. -/
import Derived.Test.YtajjikbigacbaaaDoorIdAwake
import Derived.Test.YtajjikbigacbaaaDoorIdApartMath
import Derived.Test.YtajjikbigacbaaaDoorIdBits
import Derived.Test.YtajjikbigacbaaaDoorOpenNums
namespace Go.Proofs.YtajjikbigacbaaaDoor
open Go.RowKit Go.Maps

theorem next_last {f : Int → Int} {a : Int} : (nextF f a).2 = 0 → nextU f a a = (nextF f a).1 ∧ (nextF f a).1 = f a + 1 := by
  unfold nextF nextU upd
  split <;> simp
theorem next_full {f : Int → Int} {a : Int} : (nextF f a).2 ≠ 0 → f a = 4611686018427387904 := by
  unfold nextF
  split
  · intro _; assumption
  · simp
theorem next_other {f : Int → Int} {a b : Int} (h : b ≠ a) : nextU f b a = f a := by
  unfold nextU upd
  split
  · rfl
  · exact if_neg (fun (e : a = b) => h e.symm)
theorem next_same {f g : Int → Int} {a : Int} (h : f a = g a) : nextF f a = nextF g a := by
  unfold nextF; rw [h]

theorem Cnt.fine {B : Nat} {w : World} {p : Value} {mb n : Nat} {f : Int → Int} (h : Cnt B w p mb n f) : Fine f := by
  obtain ⟨b, D, _, _, _, _, h5, _⟩ := h
  exact h5

set_option maxHeartbeats 32000000 in
set_option maxRecDepth 100000 in
theorem apart_walk (u v : Value) (l : List LineV) (ks : List Int) (a : Int) (w : World) (hu : Lns w u l) (hok : ∀ x ∈ l, x.ok) (hlen : l.length * 40 ≤ 140737488351232) (hk : Nums .u64 w v ks) (hka : ∀ x ∈ ks, u64 x) (ha : u64 a) (hT : Deb w) (hP : Pow w) :
    Calls Tryd.prog 4 #[u, v, .int .u64 a] w fun e w' => e = .returned (.bool true) ∧ Below w.heap.size w w' := by
  obtain ⟨i0, hi, hz0, hz1, hz2⟩ := info_parts Tryd.info25
  obtain ⟨uo, ucap, ub, uof, rfl, huo, _, huc⟩ := hu.form
  obtain ⟨vo, vcap, vb, vof, rfl, hvo, hvm, hvc⟩ := hk.form
  have Hu := Lib.hid hu
  have Huo := Lib.hid huo
  have Huc := Lib.hid huc
  have Hok := Lib.hid hok
  have Hvo := Lib.hid hvo
  have Hvc := Lib.hid hvc
  have Hka := Lib.hid hka
  have HT := Lib.hid hT
  have HP := Lib.hid hP
  have Ha := Lib.hid ha
  unfold maxLen at hvm
  obtain ⟨n, hn⟩ : ∃ n, l.length = n := ⟨_, rfl⟩
  have Hn := Lib.hid hn
  obtain ⟨m, hm⟩ : ∃ m, ks.length = m := ⟨_, rfl⟩
  have Hm := Lib.hid hm
  rw [hn] at hlen Hu Huo ⊢
  rw [hm] at hvm Hvo ⊢
  clear hu huo huc hok hvo hvc hk hka hT hP ha hn hm
  go_enter Tryd.func4, Tryd.ntmps4
  go_wp2_with fail
  refine (awake_any _ HT.out HP.out).mono ?_
  rintro e w1 ⟨rfl, hb⟩
  have B1 := Lib.hid hb
  clear hb
  go_wp2_with fail
  go_loopw [8, 9] (fun ov i wr => ∃ k c : Nat, k ≤ n ∧ i = .int .i64 k ∧ c ≤ k ∧ Hid (c = (ownL a (l.take k)).length) ∧ wr.ownsRow w1.heap.size 25 4 ov c (flatL (ownL a (l.take k))) ∧ Below w1.heap.size w1 wr) (fun _ i _ => n - (intOf i).toNat)
  case atStart => exact ⟨0, 0, Nat.zero_le _, rfl, Nat.le_refl _, rfl, World.ownsRow_nil _ _ _ _, Below.refl _ _⟩
  case round =>
    obtain ⟨k, c, hk, rfl, hck, HC, hown, hbw⟩ := hrel
    have Hown := Lib.hid hown
    have Hbw := Lib.hid hbw
    have BW := Lib.hid (below_join B1.out hbw)
    clear hown hbw
    by_cases hlt : k < n
    · have hkl : k < l.length := by rw [Hn.out]; exact hlt
      obtain rfl := Huo.out (by omega)
      obtain ⟨c0, c1, c2, c3⟩ := Huc.out k hkl
      have c0 := cell_kept BW.out c0
      have c1 := cell_kept BW.out c1
      have c2 := cell_kept BW.out c2
      have c3 := cell_kept BW.out c3
      have HY := Lib.hid (own_yes (a := a) hkl)
      have HN := Lib.hid (own_no (a := a) hkl)
      obtain ⟨x, hx⟩ : ∃ x, l[k]'hkl = x := ⟨_, rfl⟩
      rw [hx] at c0 c1 c2 c3 HY HN
      obtain ⟨x1, x2, x3, x4⟩ := x
      have hi0 : (0 : Int) ≤ (k : Int) := by omega
      have hi1 : (k : Int) < (n : Int) := by omega
      clear hx
      by_cases hxa : x1 = a
      · subst hxa
        have HZ := Lib.hid (HY.out rfl)
        clear HY HN
        go_wp2_with (at_builtin; refine wpList_append_own _ rfl _ _ 31 rfl w1.heap.size 25 i0 _ 4 40 Tryd.underlying31 hi hz0 hz1 hz2 rfl (by decide) _ _ _ rfl (Hown.out.alloc _) ⟨wr.heap.size, 0, none⟩ 1 1 (LineV.mk x1 x2 x3 x4).cells rfl rfl (four_news wr ⟨x1, x2, x3, x4⟩ _) (cells_plain ⟨x1, x2, x3, x4⟩) ?c3 ?c4 ?c5 ?_)
        case c3 => unfold maxLen; omega
        case c4 => omega
        case c5 => exact Nat.le_trans Hbw.out.size (by simp)
        intro v' w2 hown1 hgrow _
        have Hb1 := Lib.hid ((Hbw.out.alloc Hbw.out.size _).grown hgrow (Nat.le_trans Hbw.out.size (by simp)) (fun q hq => (Hown.out.lt q hq).1))
        have Hown1 := Lib.hid hown1
        clear hown1 hgrow
        go_wp2_with fail
        go_roundw
        case rel => exact ⟨k + 1, c + 1, by omega, by go_num, by omega, by show _ = _; rw [HZ.out, List.length_append, HC.out]; rfl, by rw [HZ.out, flatL_append, flatL_one]; exact Hown1.out, Hb1.out⟩
        case measure => simp [intOf]; omega
      · have HZ := Lib.hid (HN.out hxa)
        clear HY HN
        go_wp2_with fail
        go_roundw
        case rel => exact ⟨k + 1, c, by omega, by go_num, by omega, by show _ = _; rw [HZ.out]; exact HC.out, by rw [HZ.out]; exact Hown.out, Hbw.out⟩
        case measure => simp [intOf]; omega
    · obtain rfl : n = k := by omega
      obtain ⟨wo, rfl⟩ : ∃ wo : World, wo = wr := ⟨_, rfl⟩
      have Hall : Hid (l.take n = l) := List.take_of_length_le (by rw [Hn.out]; exact Nat.le_refl _)
      have hown := Hown.out
      have hc := HC.out
      rw [Hall.out] at hown hc
      rw [hc] at hown
      have hlo := Lns.of_own hown
      obtain ⟨oo, ocap, ob, oof, hfo, hoo, hom, hoc⟩ := hlo.form
      subst hfo
      have Hoo := Lib.hid hoo
      have Hlo := Lib.hid hlo
      have BO := Lib.hid BW.out
      have HC := Lib.hid hc
      rw [← hc] at Hoo Hlo ⊢
      have Hoc := Lib.hid hoc
      clear hlo hoo hom hoc hown hc
      have Hmx := Lib.hid (own_max a l)
      have Hbelow := Lib.hid (fun x (hx : x ∈ ownL a l) => own_below hx)
      have Howk := Lib.hid (fun h => own_ok (l := l) a h)
      have Hoko := Lib.hid (fun x (hx : x ∈ ownL a l) => Hok.out x (own_mem hx).1)
      obtain ⟨ow, how⟩ : ∃ ow, ownL a l = ow := ⟨_, rfl⟩
      rw [how] at Hlo Hoc Hmx Hbelow Howk Hoko HC
      clear how Hown Hbw
      go_wp2_with fail
      refine (idNew_any _ l _ (Hu.out.kept BW.out) Hok.out).mono ?_
      rintro e w3 ⟨hb3, h3⟩
      have B3 := Lib.hid (below_join BW.out hb3)
      have B33 := Lib.hid hb3
      rcases h3 with ⟨hno, rfl⟩ | ⟨hyes, p, mb, rfl, hp⟩
      · clear hb3 hno
        go_wp2_with fail
        go_ret
        exact ⟨rfl, B3.out⟩
      · obtain ⟨bx, rfl⟩ := hp.ptr
        have hxl := hp.lts
        have Hp3 := Lib.hid hp
        have Hyes := Lib.hid (Howk.out hyes)
        have hsz1 := BW.out.size
        have HNum := Lib.hid (show ∀ x ∈ l, numOk x = true by simp only [idsOk, Bool.and_eq_true, List.all_eq_true] at hyes; exact hyes.2)
        clear hb3 hp hyes Howk
        go_wp2_with fail
        refine (idNew_any _ ow _ (Hlo.out.kept B33.out) Hoko.out).mono ?_
        rintro e w4 ⟨hb4, ⟨hno, _⟩ | ⟨_, p, mc, rfl, hq⟩⟩
        · rw [Hyes.out] at hno; cases hno
        obtain ⟨bz, rfl⟩ := hq.ptr
        have hyl := hq.lts
        have B4 := Lib.hid (below_join B3.out hb4)
        have Hlo4 := Lib.hid (below_join B33.out hb4)
        have Hp4 := Lib.hid (Hp3.out.kept hb4)
        have Hq4 := Lib.hid hq
        have hsz3 := B33.out.size
        clear hb4 hq
        go_wp2_with fail
        refine (last_any _ _ _ _ _ a _ Hq4.out Ha.out).mono ?_
        rintro e w' ⟨rfl, rfl⟩
        rw [Hmx.out]
        have Hm0 := Lib.hid (show maxF ow a = maxF l a from Hmx.out)
        obtain ⟨l0, hl0⟩ : ∃ l0, maxF l a = l0 := ⟨_, rfl⟩
        rw [hl0] at Hm0 Hbelow ⊢
        have Hl0 := Lib.hid hl0
        clear hl0 Hmx
        go_wp2_with fail
        go_loopw [13, 14] (fun lv i wr => ∃ (k nx ny : Nat) (f g : Int → Int) (z : Int), k ≤ m ∧ k ≤ 300 ∧ i = .int .i64 k ∧ lv = .int .i64 z ∧ l0 ≤ z ∧ z ≤ 4611686018427387904 ∧ Hid (f a = z) ∧ Hid (g a = z) ∧
          Cnt wo.heap.size wr (.pointer (some ⟨bx, 0, none⟩)) mb nx f ∧ nx ≤ n + k ∧ Cnt w3.heap.size wr (.pointer (some ⟨bz, 0, none⟩)) mc ny g ∧ ny ≤ n + k ∧ Below wo.heap.size wo wr) (fun _ i _ => 300 - (intOf i).toNat)
        case atStart => exact ⟨0, _, _, _, _, l0, Nat.zero_le _, Nat.zero_le _, rfl, rfl, Int.le_refl _, by rw [← Hl0.out]; exact (maxF_range (fun y hy => numOk_iff.1 (HNum.out y hy)) a).2, Hl0.out, Hm0.out, Hp4.out, by rw [Hn.out]; omega, Hq4.out, by rw [← HC.out]; omega, Hlo4.out⟩
        case round =>
          obtain ⟨k, nx, ny, f, g, z, hk1, hk2, rfl, rfl, hz1, hz2, HF, HG, hp, hnx, hq, hny, hbw⟩ := hrel
          have HPx := Lib.hid hp
          have HQy := Lib.hid hq
          have BW := Lib.hid hbw
          have BT := Lib.hid (below_join BO.out hbw)
          clear hp hq hbw
          by_cases hlt : k < m
          rotate_left
          · obtain rfl : k = m := by omega
            go_wp2_with fail
            refine (last_any _ _ _ _ _ a _ HPx.out Ha.out).mono ?_
            rintro e w' ⟨rfl, rfl⟩
            rw [HF.out]
            go_wp2_with fail
            go_ret
            exact ⟨rfl, BT.out⟩
          by_cases hlt2 : k < 300
          rotate_left
          · have h300 : ¬ (k : Int) < 300 := by omega
            go_wp2_with fail
            refine (last_any _ _ _ _ _ a _ HPx.out Ha.out).mono ?_
            rintro e w' ⟨rfl, rfl⟩
            rw [HF.out]
            go_wp2_with fail
            go_ret
            exact ⟨rfl, BT.out⟩
          have hkl : k < ks.length := by rw [Hm.out]; exact hlt
          obtain rfl := Hvo.out (by omega)
          have d0 := cell_kept BT.out (Hvc.out k hkl)
          have Hx := Lib.hid (Hka.out _ (List.getElem_mem hkl))
          obtain ⟨x, hx⟩ : ∃ x, ks[k]'hkl = x := ⟨_, rfl⟩
          rw [hx] at d0 Hx
          have hi0 : (0 : Int) ≤ (k : Int) := by omega
          have hi1 : (k : Int) < (m : Int) := by omega
          have hi2 : (k : Int) < 300 := by omega
          have Hxe := Lib.hid hx
          clear hx
          go_wp2_with fail
          refine (next_any _ _ _ _ _ x _ HPx.out Hx.out (by omega)).mono ?_
          rintro e w6 ⟨rfl, hp6, hg6⟩
          have HP6 := Lib.hid hp6
          have HQ6 := Lib.hid (HQy.out.grown hg6 (fun b hb => by cases hb; omega) (by omega))
          have BW6 := Lib.hid (BW.out.grown hg6 BW.out.size (fun q hq => by cases hq; omega))
          have d0 := cell_kept (below_join BO.out BW6.out) (Hvc.out k hkl)
          rw [Hxe.out] at d0
          clear hp6 hg6
          by_cases hxa : a = x
          rotate_left
          · have Hna := Lib.hid (next_other (f := f) (a := a) (b := x) (fun e => hxa e.symm))
            have hxa' : ¬ x = a := fun e => hxa e.symm
            obtain ⟨⟨r1, r2⟩, hr⟩ : ∃ r, nextF f x = r := ⟨_, rfl⟩
            rw [hr]
            clear hr
            go_wp2_with fail
            go_roundw
            case rel => exact ⟨k + 1, nx + 1, ny, _, g, z, by omega, by omega, by go_num, rfl, hz1, hz2, by show _ = _; rw [Hna.out]; exact HF.out, HG.out, HP6.out, by omega, HQ6.out, by omega, BW6.out⟩
            case measure => simp [intOf]; omega
          subst hxa
          have hnl := Lib.hid (next_last (f := f) (a := a))
          have hnf := Lib.hid (next_full (f := f) (a := a))
          have hns := Lib.hid (next_same (f := g) (g := f) (a := a) (HG.out.trans HF.out.symm))
          have hnl2 := Lib.hid (next_last (f := g) (a := a))
          obtain ⟨⟨r1, r2⟩, hr⟩ : ∃ r, nextF f a = r := ⟨_, rfl⟩
          rw [hr] at hnl hnf hns ⊢
          rw [hns.out] at hnl2
          go_wp2_with fail
          refine (next_any _ _ _ _ _ a _ HQ6.out Ha.out (by omega)).mono ?_
          rintro e w7 ⟨rfl, hq7, hg7⟩
          have HQ7 := Lib.hid hq7
          have HP7 := Lib.hid (HP6.out.grown hg7 (fun b hb => by cases hb; omega) (by omega))
          have BW7 := Lib.hid (BW6.out.grown hg7 BW6.out.size (fun q hq => by cases hq; omega))
          have BT7 := Lib.hid (below_join BO.out BW7.out)
          rw [hns.out]
          clear hq7 hg7 hr
          by_cases h2 : r2 = 0
          · subst h2
            have e1 := (hnl.out rfl).2
            have e0 := Lib.hid (hnl.out rfl).1
            have e2 := Lib.hid (hnl2.out rfl).1
            rw [HF.out] at e1
            subst e1
            have hz3 : z + 1 ≤ 4611686018427387904 := by
              have := (HP7.out.fine a).2
              rw [e0.out] at this
              exact this
            have hz0 := (HPx.out.fine a).1
            rw [HF.out] at hz0
            have hsum : IntKind.i64.wrap (z + 1) = z + 1 := by rw [IntKind.wrap_i64]; omega
            go_wp2_with fail
            go_loop [19] (fun i => ∃ t : Nat, t ≤ c ∧ i = .int .i64 t) (fun i => c - (intOf i).toNat)
            case atStart => exact ⟨0, Nat.zero_le _, rfl⟩
            case round =>
              obtain ⟨t, ht, rfl⟩ := hrel
              by_cases htc : t < c
              · have htl : t < ow.length := by rw [← HC.out]; exact htc
                obtain rfl := Hoo.out (by omega)
                obtain ⟨_, c1, _, _⟩ := Hoc.out t htl
                have c1 := cell_kept BW7.out c1
                have hle := Hbelow.out _ (List.getElem_mem htl)
                obtain ⟨y, hy⟩ : ∃ y, (ow[t]'htl).num = y := ⟨_, rfl⟩
                rw [hy] at c1 hle
                have hne : ¬ y = z + 1 := by omega
                have ht0 : (0 : Int) ≤ (t : Int) := by omega
                have ht1 : (t : Int) < (c : Int) := by omega
                clear hy
                go_wp2_with fail
                exact ⟨⟨t + 1, by omega, by go_num⟩, by simp [intOf]; omega⟩
              · obtain rfl : t = c := by omega
                go_wp2_with fail
                go_roundw
                case rel => exact ⟨k + 1, nx + 1, ny + 1, _, _, z + 1, by omega, by omega, by go_num, rfl, by omega, hz3, e0.out, e2.out, HP7.out, by omega, HQ7.out, by omega, BW7.out⟩
                case measure => simp [intOf]; omega
          · have hfull := hnf.out h2
            rw [HF.out] at hfull
            subst hfull
            go_wp2_with fail
            go_ret
            exact ⟨rfl, BT7.out⟩
end Go.Proofs.YtajjikbigacbaaaDoor
