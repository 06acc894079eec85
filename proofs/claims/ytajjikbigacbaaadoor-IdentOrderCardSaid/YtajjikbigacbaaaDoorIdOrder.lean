/- Own work: IdentOrder's walk. -/
import Derived.Test.YtajjikbigacbaaaDoorIdAwake
import Derived.Test.YtajjikbigacbaaaDoorIdParse
import Derived.Test.YtajjikbigacbaaaDoorIdLines
import Derived.BigRegion
import Derived.Test.YtajjikbigacbaaaDoorRefSortA
import Derived.Test.YtajjikbigacbaaaDoorIdMath
import Derived.Test.YtajjikbigacbaaaDoorParseSame
import Derived.Test.YtajjikbigacbaaaDoorIdText
/- Plain laws: the order of identities is one. -/
namespace Go.Proofs.YtajjikbigacbaaaDoor
open Go.RowKit Go.Sort Go.Shelf

theorem less_self (x : LineV) : lessB x x = false := by rw [lessB_no]; omega
theorem less_anti {x y : LineV} (h : lessB x y = true) : lessB y x = false := by rw [lessB_iff] at h; rw [lessB_no]; omega
theorem less_unlike {x y : LineV} (h : lessB x y = true) : oneId x y = false := by
  rw [lessB_iff] at h
  simp [oneId]
  omega
theorem less_other {x y : LineV} (h : lessB x y = false) (h2 : oneId x y = false) : lessB y x = true := by
  rw [lessB_no] at h
  rw [lessB_iff]
  simp [oneId] at h2
  omega
theorem tw_rev (l : List LineV) : (twV l.reverse).2 = (twV l).2 := by
  have h : (twV l.reverse).2 = false ↔ (twV l).2 = false := by rw [tw_false, tw_false]; exact ((List.reverse_perm l).map LineV.id).nodup_iff
  cases h1 : (twV l).2 with
  | false => exact h.2 h1
  | true =>
    cases h2 : (twV l.reverse).2 with
    | false => rw [h.1 h2] at h1; cases h1
    | true => rfl
theorem stable_pair {l out : List LineV} (h : Stable l out) : out.Pairwise (fun x y => lessB y x = false) ∧ out.Perm l := by
  obtain ⟨os, hp, hs, rfl⟩ := h
  refine ⟨?_, ?_⟩
  · rw [List.pairwise_map]
    refine hs.imp ?_
    intro x y hxy
    rw [pB_f] at hxy
    exact hxy.1
  · have := hp.map Prod.fst
    simpa using this
theorem inj_of_nodup : ∀ {l : List LineV}, (l.map LineV.id).Nodup → ∀ {x y : LineV}, x ∈ l → y ∈ l → x.id = y.id → x = y
  | [], _, _, _, hx, _, _ => by cases hx
  | z :: r, hn, x, y, hx, hy, e => by
    rw [List.map_cons, List.nodup_cons] at hn
    rcases List.mem_cons.1 hx with e1 | h1
    · rcases List.mem_cons.1 hy with e2 | h2
      · rw [e1, e2]
      · exact (hn.1 (List.mem_map.2 ⟨y, h2, by rw [← e, e1]⟩)).elim
    · rcases List.mem_cons.1 hy with e2 | h2
      · exact (hn.1 (List.mem_map.2 ⟨x, h1, by rw [e, e2]⟩)).elim
      · exact inj_of_nodup hn.2 h1 h2 e
theorem order_same {l a b : List LineV} (ha : Stable l a) (hb : Stable l.reverse b) (hd : (twV l).2 = false) : a = b := by
  obtain ⟨a1, a2⟩ := stable_pair ha
  obtain ⟨b1, b2⟩ := stable_pair hb
  have hn := tw_false.1 hd
  refine List.Perm.eq_of_pairwise (le := fun x y => lessB y x = false) (fun x y hx hy h1 h2 => ?_) a1 b1 (a2.trans ((List.reverse_perm l).symm.trans b2.symm))
  have hxl := a2.mem_iff.1 hx
  have hyl := (List.mem_reverse.1 (b2.mem_iff.1 hy))
  rw [lessB_no] at h1 h2
  have e : x.id = y.id := by
    rw [LineV.id, LineV.id]
    have : x.lab = y.lab ∧ x.num = y.num := by omega
    rw [this.1, this.2]
  exact inj_of_nodup hn hxl hyl e
theorem sorted_step {l a : List LineV} (h : Stable l a) {j : Nat} (hj : j + 1 < a.length) : lessB a[j + 1] a[j] = false :=
  List.pairwise_iff_getElem.1 (stable_pair h).1 j (j + 1) (by omega) hj (by omega)
theorem refP_textB {a : Nat} (ha : a < 18446744073709551616) : refP (textB a) = (a, 0) := by
  by_cases h0 : a = 0
  · subst h0
    rfl
  · have hr := text_reads h0 ha rfl
    rcases lab_same (textB a) with ⟨hd, _⟩ | ⟨_, cs, hc, he⟩ | ⟨_, hn, _⟩
    · rw [hd] at hr; exact (reads_dash hr).elim
    · have : cs = listN a := map_dig_inj hc.1.2 hr.1.2 (hc.2.symm.trans hr.2)
      rw [he, this, bits_listN ha]
    · exact absurd ⟨_, hr⟩ hn
theorem idP_idB {a : Nat} {n : Int} (ha : a < 18446744073709551616) (hn : i64 n) : idP (idB a n) = if 1 ≤ n then (a, n, 0) else (0, 0, 4) := by
  have hi : Lib.indexByte (idB a n).data.toList 35 = ((textB a).data.toList.length : Nat) := by rw [idB_list]; exact cut_at (text_no35 ha)
  have h1 : (idB a n).extract 0 (textB a).data.toList.length = textB a := by
    apply ByteArray.ext; apply Array.ext'
    rw [extract_take, idB_list]
    simp
  have h2 : ((idB a n).extract ((textB a).data.toList.length + 1) (idB a n).size).data.toList = Lib.itoa n := by
    rw [extract_drop, idB_list, List.drop_append]
    simp
  obtain ⟨r1, r2⟩ := read_itoa hn
  rw [idP_hit hi, h1, h2, r1, r2, refP_textB ha]
  by_cases h : 1 ≤ n
  · rw [if_pos ⟨rfl, rfl, h⟩, if_pos h]
  · rw [if_neg (fun k => h k.2.2), if_neg h]
theorem idB_size {a : Nat} {n : Int} (ha : a < 18446744073709551616) (hn : i64 n) : (idB a n).size ≤ 222 := by
  have h1 := (textB_size ha).2
  have h2 := itoa_short hn
  rw [← size_list] at h2
  rw [idB, ByteArray.size_append, ByteArray.size_append]
  have : (⟨#[35]⟩ : ByteArray).size = 1 := rfl
  omega
theorem rev_drop {l : List LineV} {k : Nat} (h : k < l.length) : (l.drop k).reverse = (l.drop (k + 1)).reverse ++ [l[k]] := by
  rw [List.drop_eq_getElem_cons h, List.reverse_cons]
end Go.Proofs.YtajjikbigacbaaaDoor
namespace Go.Proofs.YtajjikbigacbaaaDoor
open Go.RowKit Go.Sort Go.Shelf

set_option maxHeartbeats 64000000 in
set_option maxRecDepth 100000 in
theorem order_walk (u : Value) (l : List LineV) (i k : Int) (w : World) (hu : Lns w u l) (hf : SliceForm u) (hok : ∀ x ∈ l, x.ok) (hlen : l.length * 40 ≤ 140737488351232) (hi64 : i64 i) (hk64 : i64 k) (hv : ErrVars w) (hT : Deb w) (hP : Pow w) :
    Calls Tryd.prog 5 #[u, .int .i64 i, .int .i64 k] w fun e w' => e = .returned (.bool true) ∧ Below w.heap.size w w' := by
  obtain ⟨uo, ucap, ub, uof, hu1, huo, hum, huc⟩ := hu.form
  subst hu1
  have Hu := Lib.hid hu
  have Hf := Lib.hid hf
  have Hok := Lib.hid hok
  have Huo := Lib.hid huo
  have Huc := Lib.hid huc
  have Hi64 := Lib.hid hi64
  have Hk64 := Lib.hid hk64
  have HV := Lib.hid hv
  have HT := Lib.hid hT
  have HP := Lib.hid hP
  obtain ⟨i0, hi, hz0, hz1, hz2⟩ := info_parts Tryd.info25
  obtain ⟨n, hn⟩ : ∃ n, l.length = n := ⟨_, rfl⟩
  have Hn := Lib.hid hn
  rw [hn] at hlen Hu Hf Huo ⊢
  clear hu hf hok huo huc hn hum hi64 hk64 hv hT hP
  go_enter Tryd.func5, Tryd.ntmps5
  go_wp2_with fail
  refine (awake_any _ HT.out HP.out).mono ?_
  rintro e w1 ⟨rfl, hb⟩
  have B1 := Lib.hid hb
  clear hb
  go_wp2_with fail
  go_loopw [7, 8] (fun bv j wr => ∃ k c : Nat, k + c = n ∧ j = .int .i64 ((k : Int) - 1) ∧ wr.ownsRow w1.heap.size 25 4 bv c (flatL (l.drop k).reverse) ∧ Below w1.heap.size w1 wr) (fun _ j _ => (intOf j + 1).toNat)
  case atStart => exact ⟨n, 0, rfl, rfl, by rw [List.drop_of_length_le (by rw [Hn.out]; exact Nat.le_refl _)]; exact World.ownsRow_nil _ _ _ _, Below.refl _ _⟩
  case round =>
    obtain ⟨k1, c, hkc, rfl, hown, hbw⟩ := hrel
    have Hown := Lib.hid hown
    have Hbw := Lib.hid hbw
    have BW := Lib.hid (below_join B1.out hbw)
    clear hown hbw
    by_cases hk0 : k1 = 0
    rotate_left
    · obtain ⟨k2, rfl⟩ : ∃ k2, k1 = k2 + 1 := ⟨k1 - 1, by omega⟩
      have hkl : k2 < l.length := by rw [Hn.out]; omega
      obtain rfl := Huo.out (by omega)
      obtain ⟨c0, c1, c2, c3⟩ := Huc.out k2 hkl
      have c0 := cell_kept BW.out c0
      have c1 := cell_kept BW.out c1
      have c2 := cell_kept BW.out c2
      have c3 := cell_kept BW.out c3
      have HR := Lib.hid (rev_drop hkl)
      obtain ⟨x, hx⟩ : ∃ x, l[k2]'hkl = x := ⟨_, rfl⟩
      rw [hx] at c0 c1 c2 c3 HR
      obtain ⟨x1, x2, x3, x4⟩ := x
      have hj : ((k2 + 1 : Nat) : Int) - 1 = (k2 : Int) := by omega
      rw [hj]
      have hi0 : (0 : Int) ≤ (k2 : Int) := by omega
      have hi1 : (k2 : Int) < (n : Int) := by omega
      clear hx
      go_wp2_with (at_builtin; refine wpList_append_own _ rfl _ _ 31 rfl w1.heap.size 25 i0 _ 4 40 Tryd.underlying31 hi hz0 hz1 hz2 rfl (by decide) _ _ _ rfl (Hown.out.alloc _) ⟨wr.heap.size, 0, none⟩ 1 1 (LineV.mk x1 x2 x3 x4).cells rfl rfl (four_news wr ⟨x1, x2, x3, x4⟩ _) (cells_plain ⟨x1, x2, x3, x4⟩) ?c3 ?c4 ?c5 ?_)
      case c3 => unfold maxLen; omega
      case c4 => omega
      case c5 => exact Nat.le_trans Hbw.out.size (by simp)
      intro v' w2 hown1 hgrow _
      have Hb1 := Lib.hid ((Hbw.out.alloc Hbw.out.size _).grown hgrow (Nat.le_trans Hbw.out.size (by simp)) (fun q hq => (Hown.out.lt q hq).1))
      have Hown1 := Lib.hid hown1
      clear hown1 hgrow
      go_wp2_with fail
      go_roundw
      case rel => exact ⟨k2, c + 1, by omega, by go_num, by rw [HR.out, flatL_append, flatL_one]; exact Hown1.out, Hb1.out⟩
      case measure => simp [intOf]
    subst hk0
    obtain rfl : c = n := by omega
    obtain ⟨wo, rfl⟩ : ∃ wo : World, wo = wr := ⟨_, rfl⟩
    have hown := Hown.out
    rw [List.drop_zero] at hown
    have hlr : l.reverse.length = c := by rw [List.length_reverse]; exact Hn.out
    have Hrok := Lib.hid (fun x (hx : x ∈ l.reverse) => Hok.out x (List.mem_reverse.1 hx))
    have hbl := lns_own hown hlr
    obtain ⟨bo, bcap, hbv, _⟩ := own_slice hown
    subst hbv
    have hbf : SliceForm (.slice bo c bcap) := by
      rcases Joins.ownsRow_forms hown with ⟨h1, _⟩ | ⟨g, cap, h1⟩
      · cases h1; exact .inl rfl
      · cases h1; exact .inr ⟨_, _, _, rfl⟩
    have Hbl := Lib.hid hbl
    have Hbf := Lib.hid hbf
    have Htr := Lib.hid (tw_rev l)
    have hlr := Lib.hid hlr
    clear hown hbl hbf Hown Hbw
    go_wp2_with fail
    refine (twice_any _ l _ (Hu.out.kept BW.out) Hok.out).mono ?_
    rintro e w2 ⟨rfl, hb⟩
    have B2 := Lib.hid (below_join BW.out hb)
    have L2 := Lib.hid (Hbl.out.kept hb)
    clear hb
    go_wp2_with fail
    refine (twice_any _ l.reverse _ L2.out Hrok.out).mono ?_
    rintro e w3 ⟨rfl, hb⟩
    have B3 := Lib.hid (below_join B2.out hb)
    have L3 := Lib.hid (L2.out.kept hb)
    rw [Htr.out]
    obtain ⟨tw, htw⟩ : ∃ tw, (twV l).2 = tw := ⟨_, rfl⟩
    rw [htw]
    have Htw := Lib.hid htw
    clear hb htw
    go_wp2_with fail
    refine (sorted_any _ l _ (Hu.out.kept B3.out) Hf.out (by rw [Hn.out]; omega)).mono ?_
    rintro e w4 ⟨v4, a, rfl, ho4, hs4, hb⟩
    rw [Hn.out] at ho4
    have B4 := Lib.hid (below_join B3.out hb)
    have L4 := Lib.hid (L3.out.kept hb)
    have O4 := Lib.hid ho4
    have S4 := Lib.hid hs4
    have HLa := Lib.hid (hs4.length.trans Hn.out)
    clear hb ho4 hs4
    go_wp2_with fail
    refine (sorted_any _ l.reverse _ L4.out Hbf.out (by rw [hlr.out]; omega)).mono ?_
    rintro e w5 ⟨v5, b, rfl, ho5, hs5, hb⟩
    rw [hlr.out] at ho5
    have B5 := Lib.hid (below_join B4.out hb)
    have La5 := Lib.hid ((lns_own O4.out HLa.out).kept hb)
    have HLb := Lib.hid (hs5.length.trans hlr.out)
    have Lb5 := Lib.hid (lns_own ho5 HLb.out)
    have Hsame := Lib.hid (fun h => order_same S4.out hs5 h)
    have Hstep := Lib.hid (fun j (hj : j + 1 < a.length) => sorted_step S4.out hj)
    obtain ⟨ao, ac, hav, hao⟩ := own_slice O4.out
    subst hav
    obtain ⟨bo2, bc2, hbv, _⟩ := own_slice ho5
    subst hbv
    have Hao := Lib.hid hao
    have Hac := Lib.hid (show ∀ (j : Nat) (hj : j < a.length), 0 < c ∧ True from fun j hj => ⟨by rw [← HLa.out]; omega, trivial⟩)
    clear hb ho5 hs5 hao S4 Hac
    go_upto_region 13 with fail
    go_cut [69] from 22 (fun s69 wx => s69 = .bool false ∧ Below w5.heap.size w5 wx)
    case first =>
      cases tw
      · obtain rfl := Hsame.out Htw.out
        go_wp2_with fail
        refine (linesSame_any _ _ a a _ La5.out Lb5.out).mono ?_
        rintro e w6 ⟨rfl, hb⟩
        simp only [decide_true]
        go_wp2_with fail
        go_meet
        case rel => exact ⟨rfl, hb⟩
      · go_wp2_with fail
        go_meet
        case rel => exact ⟨rfl, Below.refl _ _⟩
    case rest =>
      obtain ⟨rfl, hb⟩ := hcut
      have La6 := La5.out.kept hb
      have B6 := Lib.hid (below_join B5.out hb)
      obtain ⟨ao', ac', ab, aof, heq, hao, _, hac⟩ := La6.form
      injection heq with e1 e2 e3
      subst e1
      have Hao := Lib.hid hao
      have Hac := Lib.hid hac
      clear hb e2 e3 hao hac La6
      go_wp2_with fail
      go_loopw [15] (fun i wr => ∃ J : Nat, 1 ≤ J ∧ J ≤ c + 1 ∧ i = .int .i64 J ∧ Below wc.heap.size wc wr) (fun i _ => c + 1 - (intOf i).toNat)
      case atStart => exact ⟨1, Nat.le_refl _, by omega, rfl, Below.refl _ _⟩
      case round =>
        obtain ⟨J, hJ1, hJ2, rfl, hbw⟩ := hrel
        have BJ := Lib.hid hbw
        have BR := Lib.hid (below_join B6.out hbw)
        clear hbw
        by_cases hlt : J < c
        · obtain ⟨m, hm⟩ : ∃ m, J - 1 = m := ⟨_, rfl⟩
          have hJl : J < a.length := by rw [HLa.out]; exact hlt
          have hml : m < a.length := by omega
          obtain rfl := Hao.out (by omega)
          obtain ⟨c0, c1, c2, c3⟩ := Hac.out J hJl
          obtain ⟨d0, d1, d2, d3⟩ := Hac.out m hml
          have c0 := cell_kept BJ.out c0
          have c1 := cell_kept BJ.out c1
          have c2 := cell_kept BJ.out c2
          have c3 := cell_kept BJ.out c3
          have d0 := cell_kept BJ.out d0
          have d1 := cell_kept BJ.out d1
          have d2 := cell_kept BJ.out d2
          have d3 := cell_kept BJ.out d3
          have hst := Hstep.out m (by omega)
          have e : m + 1 = J := by omega
          simp only [e] at hst
          have hle := fun W => less_any (a[J]'hJl) (a[m]'hml) W
          rw [hst] at hle
          obtain ⟨x, hx⟩ : ∃ x, a[J]'hJl = x := ⟨_, rfl⟩
          obtain ⟨y, hy⟩ : ∃ y, a[m]'hml = y := ⟨_, rfl⟩
          rw [hx] at c0 c1 c2 c3 hle
          rw [hy] at d0 d1 d2 d3 hle
          obtain ⟨x1, x2, x3, x4⟩ := x
          obtain ⟨y1, y2, y3, y4⟩ := y
          simp only [LineV.agg] at hle
          have Hle := Lib.hid hle
          have hw1 : IntKind.i64.wrap ((J : Int) - 1) = (m : Int) := by rw [IntKind.wrap_i64]; omega
          have h0 : (0 : Int) ≤ (J : Int) := by omega
          have h1 : (J : Int) < (c : Int) := by omega
          have h2 : (0 : Int) ≤ (m : Int) := by omega
          have h3 : (m : Int) < (c : Int) := by omega
          clear hx hy hle hst e hm
          go_wp2_with fail
          go_region_held3 (fun w' => w'.cell? ⟨ab, aof + J * 4, none⟩ = some (.int .u64 x1) ∧ w'.cell? ⟨ab, aof + J * 4 + 1, none⟩ = some (.int .i64 x2) ∧ w'.cell? ⟨ab, aof + J * 4 + 2, none⟩ = some (.int .i64 x3) ∧ w'.cell? ⟨ab, aof + J * 4 + 3, none⟩ = some (.string x4) ∧
              w'.cell? ⟨ab, aof + m * 4, none⟩ = some (.int .u64 y1) ∧ w'.cell? ⟨ab, aof + m * 4 + 1, none⟩ = some (.int .i64 y2) ∧ w'.cell? ⟨ab, aof + m * 4 + 2, none⟩ = some (.int .i64 y3) ∧ w'.cell? ⟨ab, aof + m * 4 + 3, none⟩ = some (.string y4) ∧ Below wc.heap.size wc w')
            (first
              | (go_split_ands; refine ⟨?_, ?_, ?_, ?_, ?_, ?_, ?_, ?_, ?_⟩ <;> first | assumption | exact BJ.out.drew | exact BJ.out | exact cell_kept hc (by assumption) | exact Below.trans (by assumption) (hc.mono (Below.size (by assumption))) | (simp; assumption)))
            (first
              | (go_at_call 17; refine (Hle.out _).mono ?_; rintro e w9 ⟨rfl, hg⟩; have hc := hg.below; clear hg))
          go_wp2_with fail
          go_roundw
          case rel => exact ⟨J + 1, by omega, by omega, by go_num, by go_split_ands; assumption⟩
          case measure => simp [intOf]; omega
        have hge : ¬ (J : Int) < (c : Int) := by omega
        by_cases hJ0 : c = 0
        · have hJz : (c : Int) = 0 := by omega
          go_wp2_with fail
          go_ret
          exact ⟨rfl, BR.out⟩
        have hJz : ¬ (c : Int) = 0 := by omega
        go_wp2_with fail
        obtain rfl := Huo.out (by omega)
        obtain ⟨SA, A, hSA, hwA, hwA2, htA, hA⟩ := idx_any i c (by omega) (by omega)
        obtain ⟨SB, B, hSB, hwB, hwB2, htB, hB⟩ := idx_any k c (by omega) (by omega)
        have hAl : A < l.length := by rw [Hn.out]; exact hA
        have hBl : B < l.length := by rw [Hn.out]; exact hB
        obtain ⟨a0, a1, a2, a3⟩ := Huc.out A hAl
        obtain ⟨b0, b1, b2, b3⟩ := Huc.out B hBl
        have hxok := Hok.out _ (List.getElem_mem hAl)
        obtain ⟨x, hx⟩ : ∃ x, l[A]'hAl = x := ⟨_, rfl⟩
        obtain ⟨y, hy⟩ : ∃ y, l[B]'hBl = y := ⟨_, rfl⟩
        rw [hx] at a0 a1 a2 a3 hxok
        rw [hy] at b0 b1 b2 b3
        clear hx hy
        obtain ⟨x1, x2, x3, x4⟩ := x
        obtain ⟨y1, y2, y3, y4⟩ := y
        obtain ⟨⟨ha0, ha1⟩, hx2, _⟩ := hxok
        dsimp only at ha0 ha1 hx2
        obtain ⟨xa, rfl⟩ : ∃ xa : Nat, x1 = xa := ⟨x1.toNat, by omega⟩
        have Hxa := Lib.hid (show xa < 18446744073709551616 by omega)
        have Hx2 := Lib.hid hx2
        dsimp only at a0 a1 a2 a3 b0 b1 b2 b3
        have a0 := cell_kept BR.out a0
        have a1 := cell_kept BR.out a1
        have a2 := cell_kept BR.out a2
        have a3 := cell_kept BR.out a3
        have b0 := cell_kept BR.out b0
        have b1 := cell_kept BR.out b1
        have b2 := cell_kept BR.out b2
        have b3 := cell_kept BR.out b3
        have lub : ub < wr.heap.size := World.block_lt_of_cell? wr _ a0
        have hA0 : (0 : Int) ≤ (A : Int) := by omega
        have hA1 : (A : Int) < (c : Int) := by omega
        have hB0 : (0 : Int) ≤ (B : Int) := by omega
        have hB1 : (B : Int) < (c : Int) := by omega
        have mixed := laysIns.mixed
        clear ha0 ha1 hx2
        go_region
        all_goals clear a0 a1 a2 a3 b0 b1 b2 b3 lub
        · have hat := grw_at wr (xa : Int) x2 x3 x4 y1 y2 y3 y4 25 (W := ((wr.alloc (.cells #[.int .u64 (xa : Int), .int .i64 x2, .int .i64 x3, .string x4] 25)).alloc (.cells #[.int .u64 y1, .int .i64 y2, .int .i64 y3, .string y4] 25)).drew) ((Grw.refl _).drewN 1)
          have G0 := Lib.hid (show Grw wr (((wr.alloc (.cells #[.int .u64 (xa : Int), .int .i64 x2, .int .i64 x3, .string x4] 25)).alloc (.cells #[.int .u64 y1, .int .i64 y2, .int .i64 y3, .string y4] 25)).drew) from (((Grw.refl wr).alloc _).alloc _).drewN 1)
          generalize ((wr.alloc (.cells #[.int .u64 (xa : Int), .int .i64 x2, .int .i64 x3, .string x4] 25)).alloc (.cells #[.int .u64 y1, .int .i64 y2, .int .i64 y3, .string y4] 25)).drew = W at hat G0 ⊢
          obtain ⟨⟨c0, c1, c2, c3⟩, d0, d1, d2, d3⟩ := hat
          have BW := Lib.hid (below_join BR.out G0.out.below)
          clear G0
          have hxx : ∀ W, Calls Tryd.prog 17 #[.agg #[.int .u64 (xa : Int), .int .i64 x2, .int .i64 x3, .string x4], .agg #[.int .u64 (xa : Int), .int .i64 x2, .int .i64 x3, .string x4]] W fun e w' => e = .returned (.bool false) ∧ Grw W w' := fun W => by
            have := less_any ⟨xa, x2, x3, x4⟩ ⟨xa, x2, x3, x4⟩ W
            rwa [less_self] at this
          have HXX := Lib.hid hxx
          clear hxx
          obtain ⟨r, hr⟩ : ∃ r, lessB ⟨xa, x2, x3, x4⟩ ⟨y1, y2, y3, y4⟩ = r := ⟨_, rfl⟩
          obtain ⟨q, hq⟩ : ∃ q, lessB ⟨y1, y2, y3, y4⟩ ⟨xa, x2, x3, x4⟩ = q := ⟨_, rfl⟩
          obtain ⟨s, hs⟩ : ∃ s, oneId ⟨xa, x2, x3, x4⟩ ⟨y1, y2, y3, y4⟩ = s := ⟨_, rfl⟩
          have hxy := fun W => less_any ⟨xa, x2, x3, x4⟩ ⟨y1, y2, y3, y4⟩ W
          have hyx := fun W => less_any ⟨y1, y2, y3, y4⟩ ⟨xa, x2, x3, x4⟩ W
          have hsm := fun W => same_any ⟨xa, x2, x3, x4⟩ ⟨y1, y2, y3, y4⟩ W
          simp only [hr, LineV.agg] at hxy
          simp only [hq, LineV.agg] at hyx
          simp only [hs, LineV.agg] at hsm
          have HXY := Lib.hid hxy
          have HYX := Lib.hid hyx
          have HSM := Lib.hid hsm
          have hcase : (r = true ∧ q = false ∧ s = false) ∨ (r = false ∧ s = true) ∨ (r = false ∧ q = true ∧ s = false) := by
            subst hr hq hs
            cases h1 : lessB ⟨xa, x2, x3, x4⟩ ⟨y1, y2, y3, y4⟩ with
            | true => exact .inl ⟨rfl, less_anti h1, less_unlike h1⟩
            | false =>
              cases h2 : oneId ⟨xa, x2, x3, x4⟩ ⟨y1, y2, y3, y4⟩ with
              | true => exact .inr (.inl ⟨rfl, rfl⟩)
              | false => exact .inr (.inr ⟨rfl, less_other h1 h2, rfl⟩)
          clear hxy hyx hsm hr hq hs
          go_upto_region 24 with fail
          go_cut [150] from 22 (fun s150 wx => s150 = .bool false ∧ wx.cell? ⟨wr.heap.size, 0, none⟩ = some (.int .u64 (xa : Int)) ∧ wx.cell? ⟨wr.heap.size, 1, none⟩ = some (.int .i64 x2) ∧ wx.cell? ⟨wr.heap.size, 2, none⟩ = some (.int .i64 x3) ∧ wx.cell? ⟨wr.heap.size, 3, none⟩ = some (.string x4) ∧ Hid (Below w.heap.size w wx))
          case first =>
            clear Hu Hf Hok Huo Huc Hi64 Hk64 HV HT HP hi hz0 hz1 hz2 Hn
            rcases hcase with ⟨rfl, rfl, rfl⟩ | ⟨rfl, rfl⟩ | ⟨rfl, rfl, rfl⟩
            · go_wp2_with fail
              refine (HXX.out _).mono ?_
              rintro e w9 ⟨rfl, hg⟩
              have hc := hg.below
              clear hg
              have c0 := cell_kept hc c0
              have c1 := cell_kept hc c1
              have c2 := cell_kept hc c2
              have c3 := cell_kept hc c3
              have d0 := cell_kept hc d0
              have d1 := cell_kept hc d1
              have d2 := cell_kept hc d2
              have d3 := cell_kept hc d3
              have BW := Lib.hid (below_join BW.out hc)
              clear hc
              go_wp2_with fail
              refine (HXY.out _).mono ?_
              rintro e w9 ⟨rfl, hg⟩
              have hc := hg.below
              clear hg
              have c0 := cell_kept hc c0
              have c1 := cell_kept hc c1
              have c2 := cell_kept hc c2
              have c3 := cell_kept hc c3
              have d0 := cell_kept hc d0
              have d1 := cell_kept hc d1
              have d2 := cell_kept hc d2
              have d3 := cell_kept hc d3
              have BW := Lib.hid (below_join BW.out hc)
              clear hc
              go_wp2_with fail
              refine (HYX.out _).mono ?_
              rintro e w9 ⟨rfl, hg⟩
              have hc := hg.below
              clear hg
              have c0 := cell_kept hc c0
              have c1 := cell_kept hc c1
              have c2 := cell_kept hc c2
              have c3 := cell_kept hc c3
              have d0 := cell_kept hc d0
              have d1 := cell_kept hc d1
              have d2 := cell_kept hc d2
              have d3 := cell_kept hc d3
              have BW := Lib.hid (below_join BW.out hc)
              clear hc
              go_wp2_with fail
              refine (HSM.out _).mono ?_
              rintro e w9 ⟨rfl, hg⟩
              have hc := hg.below
              clear hg
              have c0 := cell_kept hc c0
              have c1 := cell_kept hc c1
              have c2 := cell_kept hc c2
              have c3 := cell_kept hc c3
              have d0 := cell_kept hc d0
              have d1 := cell_kept hc d1
              have d2 := cell_kept hc d2
              have d3 := cell_kept hc d3
              have BW := Lib.hid (below_join BW.out hc)
              clear hc
              go_wp2_with fail
              refine (HXY.out _).mono ?_
              rintro e w9 ⟨rfl, hg⟩
              have hc := hg.below
              clear hg
              have c0 := cell_kept hc c0
              have c1 := cell_kept hc c1
              have c2 := cell_kept hc c2
              have c3 := cell_kept hc c3
              have d0 := cell_kept hc d0
              have d1 := cell_kept hc d1
              have d2 := cell_kept hc d2
              have d3 := cell_kept hc d3
              have BW := Lib.hid (below_join BW.out hc)
              clear hc
              go_wp2_with fail
              refine (HSM.out _).mono ?_
              rintro e w9 ⟨rfl, hg⟩
              have hc := hg.below
              clear hg
              have c0 := cell_kept hc c0
              have c1 := cell_kept hc c1
              have c2 := cell_kept hc c2
              have c3 := cell_kept hc c3
              have d0 := cell_kept hc d0
              have d1 := cell_kept hc d1
              have d2 := cell_kept hc d2
              have d3 := cell_kept hc d3
              have BW := Lib.hid (below_join BW.out hc)
              clear hc
              go_wp2_with fail
              go_meet
              case rel => exact ⟨rfl, c0, c1, c2, c3, BW.out⟩
            · go_wp2_with fail
              refine (HXX.out _).mono ?_
              rintro e w9 ⟨rfl, hg⟩
              have hc := hg.below
              clear hg
              have c0 := cell_kept hc c0
              have c1 := cell_kept hc c1
              have c2 := cell_kept hc c2
              have c3 := cell_kept hc c3
              have d0 := cell_kept hc d0
              have d1 := cell_kept hc d1
              have d2 := cell_kept hc d2
              have d3 := cell_kept hc d3
              have BW := Lib.hid (below_join BW.out hc)
              clear hc
              go_wp2_with fail
              refine (HXY.out _).mono ?_
              rintro e w9 ⟨rfl, hg⟩
              have hc := hg.below
              clear hg
              have c0 := cell_kept hc c0
              have c1 := cell_kept hc c1
              have c2 := cell_kept hc c2
              have c3 := cell_kept hc c3
              have d0 := cell_kept hc d0
              have d1 := cell_kept hc d1
              have d2 := cell_kept hc d2
              have d3 := cell_kept hc d3
              have BW := Lib.hid (below_join BW.out hc)
              clear hc
              go_wp2_with fail
              refine (HSM.out _).mono ?_
              rintro e w9 ⟨rfl, hg⟩
              have hc := hg.below
              clear hg
              have c0 := cell_kept hc c0
              have c1 := cell_kept hc c1
              have c2 := cell_kept hc c2
              have c3 := cell_kept hc c3
              have d0 := cell_kept hc d0
              have d1 := cell_kept hc d1
              have d2 := cell_kept hc d2
              have d3 := cell_kept hc d3
              have BW := Lib.hid (below_join BW.out hc)
              clear hc
              go_wp2_with fail
              refine (HSM.out _).mono ?_
              rintro e w9 ⟨rfl, hg⟩
              have hc := hg.below
              clear hg
              have c0 := cell_kept hc c0
              have c1 := cell_kept hc c1
              have c2 := cell_kept hc c2
              have c3 := cell_kept hc c3
              have d0 := cell_kept hc d0
              have d1 := cell_kept hc d1
              have d2 := cell_kept hc d2
              have d3 := cell_kept hc d3
              have BW := Lib.hid (below_join BW.out hc)
              clear hc
              go_wp2_with fail
              refine (HXY.out _).mono ?_
              rintro e w9 ⟨rfl, hg⟩
              have hc := hg.below
              clear hg
              have c0 := cell_kept hc c0
              have c1 := cell_kept hc c1
              have c2 := cell_kept hc c2
              have c3 := cell_kept hc c3
              have d0 := cell_kept hc d0
              have d1 := cell_kept hc d1
              have d2 := cell_kept hc d2
              have d3 := cell_kept hc d3
              have BW := Lib.hid (below_join BW.out hc)
              clear hc
              go_wp2_with fail
              go_meet
              case rel => exact ⟨rfl, c0, c1, c2, c3, BW.out⟩
            · go_wp2_with fail
              refine (HXX.out _).mono ?_
              rintro e w9 ⟨rfl, hg⟩
              have hc := hg.below
              clear hg
              have c0 := cell_kept hc c0
              have c1 := cell_kept hc c1
              have c2 := cell_kept hc c2
              have c3 := cell_kept hc c3
              have d0 := cell_kept hc d0
              have d1 := cell_kept hc d1
              have d2 := cell_kept hc d2
              have d3 := cell_kept hc d3
              have BW := Lib.hid (below_join BW.out hc)
              clear hc
              go_wp2_with fail
              refine (HXY.out _).mono ?_
              rintro e w9 ⟨rfl, hg⟩
              have hc := hg.below
              clear hg
              have c0 := cell_kept hc c0
              have c1 := cell_kept hc c1
              have c2 := cell_kept hc c2
              have c3 := cell_kept hc c3
              have d0 := cell_kept hc d0
              have d1 := cell_kept hc d1
              have d2 := cell_kept hc d2
              have d3 := cell_kept hc d3
              have BW := Lib.hid (below_join BW.out hc)
              clear hc
              go_wp2_with fail
              refine (HSM.out _).mono ?_
              rintro e w9 ⟨rfl, hg⟩
              have hc := hg.below
              clear hg
              have c0 := cell_kept hc c0
              have c1 := cell_kept hc c1
              have c2 := cell_kept hc c2
              have c3 := cell_kept hc c3
              have d0 := cell_kept hc d0
              have d1 := cell_kept hc d1
              have d2 := cell_kept hc d2
              have d3 := cell_kept hc d3
              have BW := Lib.hid (below_join BW.out hc)
              clear hc
              go_wp2_with fail
              refine (HXY.out _).mono ?_
              rintro e w9 ⟨rfl, hg⟩
              have hc := hg.below
              clear hg
              have c0 := cell_kept hc c0
              have c1 := cell_kept hc c1
              have c2 := cell_kept hc c2
              have c3 := cell_kept hc c3
              have d0 := cell_kept hc d0
              have d1 := cell_kept hc d1
              have d2 := cell_kept hc d2
              have d3 := cell_kept hc d3
              have BW := Lib.hid (below_join BW.out hc)
              clear hc
              go_wp2_with fail
              refine (HYX.out _).mono ?_
              rintro e w9 ⟨rfl, hg⟩
              have hc := hg.below
              clear hg
              have c0 := cell_kept hc c0
              have c1 := cell_kept hc c1
              have c2 := cell_kept hc c2
              have c3 := cell_kept hc c3
              have d0 := cell_kept hc d0
              have d1 := cell_kept hc d1
              have d2 := cell_kept hc d2
              have d3 := cell_kept hc d3
              have BW := Lib.hid (below_join BW.out hc)
              clear hc
              go_wp2_with fail
              refine (HSM.out _).mono ?_
              rintro e w9 ⟨rfl, hg⟩
              have hc := hg.below
              clear hg
              have c0 := cell_kept hc c0
              have c1 := cell_kept hc c1
              have c2 := cell_kept hc c2
              have c3 := cell_kept hc c3
              have d0 := cell_kept hc d0
              have d1 := cell_kept hc d1
              have d2 := cell_kept hc d2
              have d3 := cell_kept hc d3
              have BW := Lib.hid (below_join BW.out hc)
              clear hc
              go_wp2_with fail
              go_meet
              case rel => exact ⟨rfl, c0, c1, c2, c3, BW.out⟩
          case rest =>
            clear c0 c1 c2 c3 d0 d1 d2 d3 BW HXX HXY HYX HSM hcase
            obtain ⟨rfl, c0, c1, c2, c3, BW⟩ := hcut
            go_wp2_with fail
            refine (idText_any xa x2 x3 x4 _ Hxa.out Hx2.out (HT.out.kept BW.out) (HP.out.kept BW.out)).mono ?_
            rintro e w10 ⟨rfl, hb⟩
            have B10 := Lib.hid (below_join BW.out hb)
            have c0 := cell_kept hb c0
            have c1 := cell_kept hb c1
            clear hb
            have Hip := Lib.hid (idP_idB Hxa.out Hx2.out)
            have hsz := idB_size Hxa.out Hx2.out
            obtain ⟨t, ht⟩ : ∃ t, idB xa x2 = t := ⟨_, rfl⟩
            rw [ht] at Hip hsz ⊢
            clear ht
            go_wp2_with fail
            refine (idParse_any t _ (by omega) (HV.out.kept B10.out) (HT.out.kept B10.out) (HP.out.kept B10.out)).mono ?_
            rintro e w11 ⟨rfl, hb⟩
            have B11 := Lib.hid (below_join B10.out hb)
            have c0 := cell_kept hb c0
            have c1 := cell_kept hb c1
            rw [Hip.out]
            clear hb
            by_cases h1 : x2 < 1
            · have hnot : ¬ 1 ≤ x2 := by omega
              rw [if_neg hnot]
              go_wp2_with fail
              go_ret
              exact ⟨rfl, B11.out⟩
            · have hyes : 1 ≤ x2 := by omega
              rw [if_pos hyes]
              go_wp2_with fail
              go_ret
              exact ⟨rfl, B11.out⟩

        · have hat := grw_at wr y1 y2 y3 y4 (xa : Int) x2 x3 x4 25 (W := ((wr.alloc (.cells #[.int .u64 y1, .int .i64 y2, .int .i64 y3, .string y4] 25)).alloc (.cells #[.int .u64 (xa : Int), .int .i64 x2, .int .i64 x3, .string x4] 25)).drew) ((Grw.refl _).drewN 1)
          have G0 := Lib.hid (show Grw wr (((wr.alloc (.cells #[.int .u64 y1, .int .i64 y2, .int .i64 y3, .string y4] 25)).alloc (.cells #[.int .u64 (xa : Int), .int .i64 x2, .int .i64 x3, .string x4] 25)).drew) from (((Grw.refl wr).alloc _).alloc _).drewN 1)
          generalize ((wr.alloc (.cells #[.int .u64 y1, .int .i64 y2, .int .i64 y3, .string y4] 25)).alloc (.cells #[.int .u64 (xa : Int), .int .i64 x2, .int .i64 x3, .string x4] 25)).drew = W at hat G0 ⊢
          obtain ⟨⟨d0, d1, d2, d3⟩, c0, c1, c2, c3⟩ := hat
          have BW := Lib.hid (below_join BR.out G0.out.below)
          clear G0
          have hxx : ∀ W, Calls Tryd.prog 17 #[.agg #[.int .u64 (xa : Int), .int .i64 x2, .int .i64 x3, .string x4], .agg #[.int .u64 (xa : Int), .int .i64 x2, .int .i64 x3, .string x4]] W fun e w' => e = .returned (.bool false) ∧ Grw W w' := fun W => by
            have := less_any ⟨xa, x2, x3, x4⟩ ⟨xa, x2, x3, x4⟩ W
            rwa [less_self] at this
          have HXX := Lib.hid hxx
          clear hxx
          obtain ⟨r, hr⟩ : ∃ r, lessB ⟨xa, x2, x3, x4⟩ ⟨y1, y2, y3, y4⟩ = r := ⟨_, rfl⟩
          obtain ⟨q, hq⟩ : ∃ q, lessB ⟨y1, y2, y3, y4⟩ ⟨xa, x2, x3, x4⟩ = q := ⟨_, rfl⟩
          obtain ⟨s, hs⟩ : ∃ s, oneId ⟨xa, x2, x3, x4⟩ ⟨y1, y2, y3, y4⟩ = s := ⟨_, rfl⟩
          have hxy := fun W => less_any ⟨xa, x2, x3, x4⟩ ⟨y1, y2, y3, y4⟩ W
          have hyx := fun W => less_any ⟨y1, y2, y3, y4⟩ ⟨xa, x2, x3, x4⟩ W
          have hsm := fun W => same_any ⟨xa, x2, x3, x4⟩ ⟨y1, y2, y3, y4⟩ W
          simp only [hr, LineV.agg] at hxy
          simp only [hq, LineV.agg] at hyx
          simp only [hs, LineV.agg] at hsm
          have HXY := Lib.hid hxy
          have HYX := Lib.hid hyx
          have HSM := Lib.hid hsm
          have hcase : (r = true ∧ q = false ∧ s = false) ∨ (r = false ∧ s = true) ∨ (r = false ∧ q = true ∧ s = false) := by
            subst hr hq hs
            cases h1 : lessB ⟨xa, x2, x3, x4⟩ ⟨y1, y2, y3, y4⟩ with
            | true => exact .inl ⟨rfl, less_anti h1, less_unlike h1⟩
            | false =>
              cases h2 : oneId ⟨xa, x2, x3, x4⟩ ⟨y1, y2, y3, y4⟩ with
              | true => exact .inr (.inl ⟨rfl, rfl⟩)
              | false => exact .inr (.inr ⟨rfl, less_other h1 h2, rfl⟩)
          clear hxy hyx hsm hr hq hs
          go_upto_region 24 with fail
          go_cut [150] from 22 (fun s150 wx => s150 = .bool false ∧ wx.cell? ⟨wr.heap.size + 1, 0, none⟩ = some (.int .u64 (xa : Int)) ∧ wx.cell? ⟨wr.heap.size + 1, 1, none⟩ = some (.int .i64 x2) ∧ wx.cell? ⟨wr.heap.size + 1, 2, none⟩ = some (.int .i64 x3) ∧ wx.cell? ⟨wr.heap.size + 1, 3, none⟩ = some (.string x4) ∧ Hid (Below w.heap.size w wx))
          case first =>
            clear Hu Hf Hok Huo Huc Hi64 Hk64 HV HT HP hi hz0 hz1 hz2 Hn
            rcases hcase with ⟨rfl, rfl, rfl⟩ | ⟨rfl, rfl⟩ | ⟨rfl, rfl, rfl⟩
            · go_wp2_with fail
              refine (HXX.out _).mono ?_
              rintro e w9 ⟨rfl, hg⟩
              have hc := hg.below
              clear hg
              have c0 := cell_kept hc c0
              have c1 := cell_kept hc c1
              have c2 := cell_kept hc c2
              have c3 := cell_kept hc c3
              have d0 := cell_kept hc d0
              have d1 := cell_kept hc d1
              have d2 := cell_kept hc d2
              have d3 := cell_kept hc d3
              have BW := Lib.hid (below_join BW.out hc)
              clear hc
              go_wp2_with fail
              refine (HXY.out _).mono ?_
              rintro e w9 ⟨rfl, hg⟩
              have hc := hg.below
              clear hg
              have c0 := cell_kept hc c0
              have c1 := cell_kept hc c1
              have c2 := cell_kept hc c2
              have c3 := cell_kept hc c3
              have d0 := cell_kept hc d0
              have d1 := cell_kept hc d1
              have d2 := cell_kept hc d2
              have d3 := cell_kept hc d3
              have BW := Lib.hid (below_join BW.out hc)
              clear hc
              go_wp2_with fail
              refine (HYX.out _).mono ?_
              rintro e w9 ⟨rfl, hg⟩
              have hc := hg.below
              clear hg
              have c0 := cell_kept hc c0
              have c1 := cell_kept hc c1
              have c2 := cell_kept hc c2
              have c3 := cell_kept hc c3
              have d0 := cell_kept hc d0
              have d1 := cell_kept hc d1
              have d2 := cell_kept hc d2
              have d3 := cell_kept hc d3
              have BW := Lib.hid (below_join BW.out hc)
              clear hc
              go_wp2_with fail
              refine (HSM.out _).mono ?_
              rintro e w9 ⟨rfl, hg⟩
              have hc := hg.below
              clear hg
              have c0 := cell_kept hc c0
              have c1 := cell_kept hc c1
              have c2 := cell_kept hc c2
              have c3 := cell_kept hc c3
              have d0 := cell_kept hc d0
              have d1 := cell_kept hc d1
              have d2 := cell_kept hc d2
              have d3 := cell_kept hc d3
              have BW := Lib.hid (below_join BW.out hc)
              clear hc
              go_wp2_with fail
              refine (HXY.out _).mono ?_
              rintro e w9 ⟨rfl, hg⟩
              have hc := hg.below
              clear hg
              have c0 := cell_kept hc c0
              have c1 := cell_kept hc c1
              have c2 := cell_kept hc c2
              have c3 := cell_kept hc c3
              have d0 := cell_kept hc d0
              have d1 := cell_kept hc d1
              have d2 := cell_kept hc d2
              have d3 := cell_kept hc d3
              have BW := Lib.hid (below_join BW.out hc)
              clear hc
              go_wp2_with fail
              refine (HSM.out _).mono ?_
              rintro e w9 ⟨rfl, hg⟩
              have hc := hg.below
              clear hg
              have c0 := cell_kept hc c0
              have c1 := cell_kept hc c1
              have c2 := cell_kept hc c2
              have c3 := cell_kept hc c3
              have d0 := cell_kept hc d0
              have d1 := cell_kept hc d1
              have d2 := cell_kept hc d2
              have d3 := cell_kept hc d3
              have BW := Lib.hid (below_join BW.out hc)
              clear hc
              go_wp2_with fail
              go_meet
              case rel => exact ⟨rfl, c0, c1, c2, c3, BW.out⟩
            · go_wp2_with fail
              refine (HXX.out _).mono ?_
              rintro e w9 ⟨rfl, hg⟩
              have hc := hg.below
              clear hg
              have c0 := cell_kept hc c0
              have c1 := cell_kept hc c1
              have c2 := cell_kept hc c2
              have c3 := cell_kept hc c3
              have d0 := cell_kept hc d0
              have d1 := cell_kept hc d1
              have d2 := cell_kept hc d2
              have d3 := cell_kept hc d3
              have BW := Lib.hid (below_join BW.out hc)
              clear hc
              go_wp2_with fail
              refine (HXY.out _).mono ?_
              rintro e w9 ⟨rfl, hg⟩
              have hc := hg.below
              clear hg
              have c0 := cell_kept hc c0
              have c1 := cell_kept hc c1
              have c2 := cell_kept hc c2
              have c3 := cell_kept hc c3
              have d0 := cell_kept hc d0
              have d1 := cell_kept hc d1
              have d2 := cell_kept hc d2
              have d3 := cell_kept hc d3
              have BW := Lib.hid (below_join BW.out hc)
              clear hc
              go_wp2_with fail
              refine (HSM.out _).mono ?_
              rintro e w9 ⟨rfl, hg⟩
              have hc := hg.below
              clear hg
              have c0 := cell_kept hc c0
              have c1 := cell_kept hc c1
              have c2 := cell_kept hc c2
              have c3 := cell_kept hc c3
              have d0 := cell_kept hc d0
              have d1 := cell_kept hc d1
              have d2 := cell_kept hc d2
              have d3 := cell_kept hc d3
              have BW := Lib.hid (below_join BW.out hc)
              clear hc
              go_wp2_with fail
              refine (HSM.out _).mono ?_
              rintro e w9 ⟨rfl, hg⟩
              have hc := hg.below
              clear hg
              have c0 := cell_kept hc c0
              have c1 := cell_kept hc c1
              have c2 := cell_kept hc c2
              have c3 := cell_kept hc c3
              have d0 := cell_kept hc d0
              have d1 := cell_kept hc d1
              have d2 := cell_kept hc d2
              have d3 := cell_kept hc d3
              have BW := Lib.hid (below_join BW.out hc)
              clear hc
              go_wp2_with fail
              refine (HXY.out _).mono ?_
              rintro e w9 ⟨rfl, hg⟩
              have hc := hg.below
              clear hg
              have c0 := cell_kept hc c0
              have c1 := cell_kept hc c1
              have c2 := cell_kept hc c2
              have c3 := cell_kept hc c3
              have d0 := cell_kept hc d0
              have d1 := cell_kept hc d1
              have d2 := cell_kept hc d2
              have d3 := cell_kept hc d3
              have BW := Lib.hid (below_join BW.out hc)
              clear hc
              go_wp2_with fail
              go_meet
              case rel => exact ⟨rfl, c0, c1, c2, c3, BW.out⟩
            · go_wp2_with fail
              refine (HXX.out _).mono ?_
              rintro e w9 ⟨rfl, hg⟩
              have hc := hg.below
              clear hg
              have c0 := cell_kept hc c0
              have c1 := cell_kept hc c1
              have c2 := cell_kept hc c2
              have c3 := cell_kept hc c3
              have d0 := cell_kept hc d0
              have d1 := cell_kept hc d1
              have d2 := cell_kept hc d2
              have d3 := cell_kept hc d3
              have BW := Lib.hid (below_join BW.out hc)
              clear hc
              go_wp2_with fail
              refine (HXY.out _).mono ?_
              rintro e w9 ⟨rfl, hg⟩
              have hc := hg.below
              clear hg
              have c0 := cell_kept hc c0
              have c1 := cell_kept hc c1
              have c2 := cell_kept hc c2
              have c3 := cell_kept hc c3
              have d0 := cell_kept hc d0
              have d1 := cell_kept hc d1
              have d2 := cell_kept hc d2
              have d3 := cell_kept hc d3
              have BW := Lib.hid (below_join BW.out hc)
              clear hc
              go_wp2_with fail
              refine (HSM.out _).mono ?_
              rintro e w9 ⟨rfl, hg⟩
              have hc := hg.below
              clear hg
              have c0 := cell_kept hc c0
              have c1 := cell_kept hc c1
              have c2 := cell_kept hc c2
              have c3 := cell_kept hc c3
              have d0 := cell_kept hc d0
              have d1 := cell_kept hc d1
              have d2 := cell_kept hc d2
              have d3 := cell_kept hc d3
              have BW := Lib.hid (below_join BW.out hc)
              clear hc
              go_wp2_with fail
              refine (HXY.out _).mono ?_
              rintro e w9 ⟨rfl, hg⟩
              have hc := hg.below
              clear hg
              have c0 := cell_kept hc c0
              have c1 := cell_kept hc c1
              have c2 := cell_kept hc c2
              have c3 := cell_kept hc c3
              have d0 := cell_kept hc d0
              have d1 := cell_kept hc d1
              have d2 := cell_kept hc d2
              have d3 := cell_kept hc d3
              have BW := Lib.hid (below_join BW.out hc)
              clear hc
              go_wp2_with fail
              refine (HYX.out _).mono ?_
              rintro e w9 ⟨rfl, hg⟩
              have hc := hg.below
              clear hg
              have c0 := cell_kept hc c0
              have c1 := cell_kept hc c1
              have c2 := cell_kept hc c2
              have c3 := cell_kept hc c3
              have d0 := cell_kept hc d0
              have d1 := cell_kept hc d1
              have d2 := cell_kept hc d2
              have d3 := cell_kept hc d3
              have BW := Lib.hid (below_join BW.out hc)
              clear hc
              go_wp2_with fail
              refine (HSM.out _).mono ?_
              rintro e w9 ⟨rfl, hg⟩
              have hc := hg.below
              clear hg
              have c0 := cell_kept hc c0
              have c1 := cell_kept hc c1
              have c2 := cell_kept hc c2
              have c3 := cell_kept hc c3
              have d0 := cell_kept hc d0
              have d1 := cell_kept hc d1
              have d2 := cell_kept hc d2
              have d3 := cell_kept hc d3
              have BW := Lib.hid (below_join BW.out hc)
              clear hc
              go_wp2_with fail
              go_meet
              case rel => exact ⟨rfl, c0, c1, c2, c3, BW.out⟩
          case rest =>
            clear c0 c1 c2 c3 d0 d1 d2 d3 BW HXX HXY HYX HSM hcase
            obtain ⟨rfl, c0, c1, c2, c3, BW⟩ := hcut
            go_wp2_with fail
            refine (idText_any xa x2 x3 x4 _ Hxa.out Hx2.out (HT.out.kept BW.out) (HP.out.kept BW.out)).mono ?_
            rintro e w10 ⟨rfl, hb⟩
            have B10 := Lib.hid (below_join BW.out hb)
            have c0 := cell_kept hb c0
            have c1 := cell_kept hb c1
            clear hb
            have Hip := Lib.hid (idP_idB Hxa.out Hx2.out)
            have hsz := idB_size Hxa.out Hx2.out
            obtain ⟨t, ht⟩ : ∃ t, idB xa x2 = t := ⟨_, rfl⟩
            rw [ht] at Hip hsz ⊢
            clear ht
            go_wp2_with fail
            refine (idParse_any t _ (by omega) (HV.out.kept B10.out) (HT.out.kept B10.out) (HP.out.kept B10.out)).mono ?_
            rintro e w11 ⟨rfl, hb⟩
            have B11 := Lib.hid (below_join B10.out hb)
            have c0 := cell_kept hb c0
            have c1 := cell_kept hb c1
            rw [Hip.out]
            clear hb
            by_cases h1 : x2 < 1
            · have hnot : ¬ 1 ≤ x2 := by omega
              rw [if_neg hnot]
              go_wp2_with fail
              go_ret
              exact ⟨rfl, B11.out⟩
            · have hyes : 1 ≤ x2 := by omega
              rw [if_pos hyes]
              go_wp2_with fail
              go_ret
              exact ⟨rfl, B11.out⟩
end Go.Proofs.YtajjikbigacbaaaDoor
