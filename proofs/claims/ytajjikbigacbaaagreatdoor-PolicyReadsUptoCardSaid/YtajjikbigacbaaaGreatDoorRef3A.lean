/- Own work: scrimref03: Below, Text. -/
import Derived.Test.YtajjikbigacbaaaGreatDoorLabMath
import Derived.Test.YtajjikbigacbaaaGreatDoorLabBase
import Derived.Test.YtajjikbigacbaaaGreatDoorNumE
import Derived.Test.YtajjikbigacbaaaGreatDoorVws
import Derived.Test.YtajjikbigacbaaaGreatDoorTold
import Derived.BigQuiet
import Derived.Test.YtajjikbigacbaaaGreatDoorTz
namespace Go.Proofs.YtajjikbigacbaaaGreatDoor
open Go.RowKit Num

theorem bit_at (a k : Nat) (ha : a < 18446744073709551616) : bits .and .u64 ((a : Int) / 2 ^ k) 1 = if a.testBit k = true then 1 else 0 := by
  have e : (a : Int) / 2 ^ k = ((a / 2 ^ k : Nat) : Int) := by simp
  rw [e, show (1 : Int) = ((1 : Nat) : Int) from rfl, bits_and_u64_nat _ _ (Nat.lt_of_le_of_lt (Nat.div_le_self _ _) ha) (by decide), Nat.and_one_is_mod, Nat.testBit_eq_decide_div_mod_eq]
  have h := Nat.mod_two_eq_zero_or_one (a / 2 ^ k)
  rcases h with h | h <;> simp [h]

set_option maxRecDepth 100000 in
set_option maxHeartbeats 4000000 in
theorem ref3Below_any (a b : Nat) (w : World) (ha : a < 18446744073709551616) (hb : b < 18446744073709551616) :
    Calls Tryz.prog 60 #[.int .u64 (a : Int), .int .u64 (b : Int)] w fun e w' => e = .returned (.bool (belowN a b)) ∧ w = w' := by
  go_enter Tryz.func60, Tryz.ntmps60
  go_wp2
  go_loop [5] (fun i => ∃ k : Nat, k ≤ 64 ∧ i = .int .i64 k ∧ Hid (∀ j, j < k → a.testBit j = true → b.testBit j = true)) (fun i => 64 - (intOf i).toNat)
  case atStart => exact ⟨0, by omega, rfl, fun j hj => absurd hj (Nat.not_lt_zero _)⟩
  case round =>
    obtain ⟨k, hk, rfl, HK⟩ := hrel
    by_cases hlt : k < 64
    · have hA := bit_at a k ha
      have hB := bit_at b k hb
      have hki : (k : Int) < 64 := by omega
      cases hx : a.testBit k with
      | false =>
        rw [hx] at hA
        simp only [Bool.false_eq_true, if_false] at hA
        have HK2 : Hid (∀ j, j < k + 1 → a.testBit j = true → b.testBit j = true) := fun j hj h => by
          by_cases e : j = k
          · subst e; rw [hx] at h; cases h
          · exact HK.out j (by omega) h
        clear hx hB
        go_wp2
        exact ⟨⟨k + 1, by omega, by go_num, HK2⟩, by simp [intOf]; omega⟩
      | true =>
        rw [hx] at hA
        simp only [if_true] at hA
        cases hy : b.testBit k with
        | true =>
          rw [hy] at hB
          simp only [if_true] at hB
          have HK2 : Hid (∀ j, j < k + 1 → a.testBit j = true → b.testBit j = true) := fun j hj h => by
            by_cases e : j = k
            · subst e; exact hy
            · exact HK.out j (by omega) h
          clear hx hy
          go_wp2
          exact ⟨⟨k + 1, by omega, by go_num, HK2⟩, by simp [intOf]; omega⟩
        | false =>
          rw [hy] at hB
          simp only [Bool.false_eq_true, if_false] at hB
          have HN := Lib.hid (belowN_not a b k hx hy)
          clear hx hy
          go_wp2
          go_ret
          exact ⟨retBool HN.out.symm, rfl⟩
    · obtain rfl : k = 64 := by omega
      have HY := Lib.hid ((belowN_iff a b ha).2 HK.out)
      go_wp2
      go_ret
      exact ⟨retBool HY.out.symm, rfl⟩

theorem itoa_nat (k : Nat) : (⟨(Lib.itoa (k : Int)).toArray⟩ : ByteArray) = digB k := by
  rw [Lib.itoa, if_neg (by omega), Int.toNat_natCast]; rfl
theorem nil_append (d : ByteArray) : (⟨#[]⟩ : ByteArray) ++ d = d := by
  apply ByteArray.ext
  simp [ByteArray.data_append]
theorem plusT_none : plusT ((listTo 0 0).map digB) = ⟨#[]⟩ := rfl
theorem plusT_empty {l : List Nat} (h : ∀ c ∈ l, c < 100) : plusT (l.map digB) = ⟨#[]⟩ ↔ l = [] := by
  constructor
  · intro e
    cases l with
    | nil => rfl
    | cons c r =>
      have h1 := (digB_len (h c (by simp))).1
      have h2 : ∀ (r : List ByteArray) (s : ByteArray), s.size ≤ (r.foldl (fun s t => s ++ ⟨#[43]⟩ ++ t) s).size := by
        intro r
        induction r with
        | nil => intro s; exact Nat.le_refl _
        | cons z r ih =>
          intro s
          refine Nat.le_trans ?_ (ih _)
          rw [ByteArray.size_append, ByteArray.size_append]
          omega
      have h3 := h2 (r.map digB) (digB c)
      have h4 : plusT ((c :: r).map digB) = (r.map digB).foldl (fun s t => s ++ ⟨#[43]⟩ ++ t) (digB c) := rfl
      rw [← h4, e] at h3
      have : (⟨#[]⟩ : ByteArray).size = 0 := rfl
      omega
  · rintro rfl; rfl

set_option maxRecDepth 100000 in
set_option maxHeartbeats 8000000 in
theorem ref3Text_any (a : Nat) (w : World) (ha : a < 18446744073709551616) :
    Calls Tryz.prog 104 #[.int .u64 (a : Int)] w fun e w' => e = .returned (.string (textB a)) ∧ Below w.heap.size w w' := by
  have Ha := Lib.hid ha
  go_enter Tryz.func104, Tryz.ntmps104
  go_wp2
  go_loopw [3, 4] (fun s i wr => ∃ k : Nat, k ≤ 64 ∧ i = .int .i64 k ∧ s = .string (plusT ((listTo a k).map digB)) ∧ Below w.heap.size w wr) (fun _ i _ => 64 - (intOf i).toNat)
  case atStart => exact ⟨0, by omega, rfl, rfl, Below.refl _ _⟩
  case round =>
    obtain ⟨k, hk, rfl, rfl, hbw⟩ := hrel
    have BW := Lib.hid hbw
    clear hbw
    by_cases hlt : k < 64
    · have hA := bit_at a k ha
      have hki : (k : Int) < 64 := by omega
      cases hx : a.testBit k with
      | false =>
        rw [hx] at hA
        simp only [Bool.false_eq_true, if_false] at hA
        have HL := Lib.hid (listTo_no hx)
        obtain ⟨t, ht⟩ : ∃ t, plusT ((listTo a k).map digB) = t := ⟨_, rfl⟩
        have Ht := Lib.hid ht
        rw [ht]
        clear hx ht
        go_wp2
        go_roundw
        case rel => exact ⟨k + 1, by omega, by go_num, by rw [HL.out, Ht.out], BW.out⟩
        case measure => simp [intOf]; omega
      | true =>
        rw [hx] at hA
        simp only [if_true] at hA
        have HL := Lib.hid (listTo_yes hx)
        have hle := listTo_len a k
        have hsz := plusT_len ((listTo a k).map digB) (fun x hx => by
          obtain ⟨c, hc, rfl⟩ := List.mem_map.1 hx
          have := (listTo_mem.1 hc).1
          exact (digB_len (by omega)).2)
        rw [List.length_map] at hsz
        have hd := digB_len (n := k) (by omega)
        have hem := plusT_empty (l := listTo a k) (fun c hc => by have := (listTo_mem.1 hc).1; omega)
        have HS := Lib.hid (fun h => plusT_snoc ((listTo a k).map digB) (digB k) h)
        have HN := Lib.hid (itoa_nat k)
        obtain ⟨t, ht⟩ : ∃ t, plusT ((listTo a k).map digB) = t := ⟨_, rfl⟩
        have Ht := Lib.hid ht
        rw [ht] at hsz hem HS ⊢
        obtain ⟨d, hde⟩ : ∃ d, digB k = d := ⟨_, rfl⟩
        rw [hde] at hd HS HN
        have Hd := Lib.hid hde
        clear hx ht hde
        by_cases h0 : listTo a k = []
        · have e0 := hem.2 h0
          subst e0
          have HZ : Hid (plusT ((listTo a (k + 1)).map digB) = ⟨#[]⟩ ++ d) := by
            show _ = _
            rw [HL.out, h0]
            show digB k = _
            rw [Hd.out, nil_append]
          clear hem h0
          go_wp2_with fail
          refine (refNumber_any (k : Int) (by omega) (by omega) _).mono ?_
          rintro e w1 ⟨rfl, hb⟩
          have B1 := Lib.hid (below_join BW.out hb)
          rw [HN.out]
          clear hb
          go_wp2_with fail
          go_roundw
          case rel => exact ⟨k + 1, by omega, by go_num, by rw [HZ.out], B1.out⟩
          case measure => simp [intOf]; omega
        · have HZ : Hid (plusT ((listTo a (k + 1)).map digB) = t ++ ⟨#[43]⟩ ++ d) := by
            show _ = _
            rw [HL.out, List.map_append]
            show plusT ((listTo a k).map digB ++ [digB k]) = _
            rw [Hd.out]
            exact HS.out (fun e => h0 (List.map_eq_nil_iff.1 e))
          have hne : t ≠ ⟨#[]⟩ := fun e => h0 (hem.1 e)
          have hte : t.toList = [] ↔ False := by
            refine ⟨fun e => hne ?_, False.elim⟩
            rw [Lib.toList_data] at e
            exact ByteArray.ext (Array.toList_inj.1 e)
          have htl : t.toList.isEmpty = false := by
            cases hl : t.toList with
            | nil => exact (hte.1 hl).elim
            | cons _ _ => rfl
          have htb : (t.toList == (⟨#[]⟩ : ByteArray).toList) = false := by
            rw [show (⟨#[]⟩ : ByteArray).toList = [] from by rw [Lib.toList_data], beq_eq_false_iff_ne]
            exact fun e => hte.1 e
          have hs2 : (9223372036854775806 < t.size) = False := eq_false (by omega)
          clear hem h0 hne HS
          go_wp2_with fail
          refine (refNumber_any (k : Int) (by omega) (by omega) _).mono ?_
          rintro e w1 ⟨rfl, hb⟩
          have B1 := Lib.hid (below_join BW.out hb)
          rw [HN.out]
          have hs3 : (9223372036854775807 < t.size + 1 + d.size) = False := eq_false (by omega)
          clear hb
          go_wp2_with fail
          go_roundw
          case rel => exact ⟨k + 1, by omega, by go_num, by rw [HZ.out], B1.out⟩
          case measure => simp [intOf]; omega
    · obtain rfl : k = 64 := by omega
      have hem := plusT_empty (l := listTo a 64) (fun c hc => by have := (listTo_mem.1 hc).1; omega)
      have hz := countN_pos' (x := a) ha
      have Hz : Hid (textB a = if a = 0 then ⟨#[45]⟩ else plusT ((listTo a 64).map digB)) := rfl
      by_cases h0 : a = 0
      · subst h0
        have e : plusT ((listTo 0 64).map digB) = ⟨#[]⟩ := by rw [show listTo 0 64 = [] from listN_zero]; rfl
        rw [e]
        clear hem hz e
        go_wp2_with fail
        go_ret
        exact ⟨by rw [Hz.out]; rfl, BW.out⟩
      · rw [if_neg h0] at Hz
        have hne : listTo a 64 ≠ [] := fun e => h0 (hz.1 (by show (listTo a 64).length = 0; rw [e]; rfl))
        obtain ⟨t, ht⟩ : ∃ t, plusT ((listTo a 64).map digB) = t := ⟨_, rfl⟩
        rw [ht] at hem Hz ⊢
        have htb : (t.toList == (⟨#[]⟩ : ByteArray).toList) = false := by
          rw [show (⟨#[]⟩ : ByteArray).toList = [] from by rw [Lib.toList_data], beq_eq_false_iff_ne]
          intro e
          rw [Lib.toList_data] at e
          exact hne (hem.1 (ByteArray.ext (Array.toList_inj.1 e)))
        have htl : t.toList.isEmpty = false := by
          cases hl : t.toList with
          | nil => rw [hl, show (⟨#[]⟩ : ByteArray).toList = [] from by rw [Lib.toList_data]] at htb; cases htb
          | cons _ _ => rfl
        clear hem hz hne ht
        go_wp2_with fail
        go_ret
        exact ⟨by rw [Hz.out]; rfl, BW.out⟩
end Go.Proofs.YtajjikbigacbaaaGreatDoor
/- Own work: scrimref03: Clearance, SameLabels, Same, Names, Erase, Above. -/
namespace Go.Proofs.YtajjikbigacbaaaGreatDoor
open Go.RowKit Go.Maps

theorem find_none_take {vs : List Vw} {s : List UInt8} {k : Nat} (hk : k < vs.length) (h : findV (vs.take k) s = none) (hn : ¬ (vs[k]'hk).key = s) : findV (vs.take (k + 1)) s = none := by
  rw [findV, List.find?_eq_none] at h ⊢
  intro v hv
  rw [List.take_succ_eq_append_getElem hk, List.mem_append] at hv
  rcases hv with hv | hv
  · exact h v hv
  · rw [List.mem_singleton] at hv; rw [hv]; simpa using hn
theorem find_some_at {vs : List Vw} {s : List UInt8} {k : Nat} (hk : k < vs.length) (h : findV (vs.take k) s = none) (hy : (vs[k]'hk).key = s) : findV vs s = some (vs[k]'hk) := by
  have hd := List.drop_eq_getElem_cons hk
  generalize vs[k]'hk = x at hy hd
  have e : findV vs s = findV (vs.take k ++ vs.drop k) s := by rw [List.take_append_drop]
  rw [e, hd]
  rw [findV] at h ⊢
  rw [List.find?_append, h, List.find?_cons_of_pos (by simpa using hy)]
  rfl

set_option maxRecDepth 100000 in
set_option maxHeartbeats 8000000 in
theorem ref3Clearance_any (u : Value) (vs : List Vw) (s : ByteArray) (w : World) (hu : Vws w u vs) :
    Calls Tryz.prog 51 #[u, .string s] w fun e w' => e = .returned (.tuple #[.int .u64 ((clrV vs s.data.toList).1 : Int), .int .i64 (clrV vs s.data.toList).2]) ∧ w = w' := by
  obtain ⟨ao, cap, b, o, rfl, hao, hml, hc⟩ := hu.form
  obtain ⟨n, hn⟩ : ∃ n, vs.length = n := ⟨_, rfl⟩
  unfold maxLen at hml
  have Hn := Lib.hid hn
  rw [hn] at hao hml ⊢
  have Hao := Lib.hid hao
  have Hc := Lib.hid hc
  clear hu hao hc hn
  go_enter Tryz.func51, Tryz.ntmps51
  go_wp2_with fail
  go_loop [6] (fun i => ∃ k : Nat, k ≤ n ∧ i = .int .i64 k ∧ Hid (findV (vs.take k) s.data.toList = none)) (fun i => n - (intOf i).toNat)
  case atStart => exact ⟨0, Nat.zero_le _, rfl, rfl⟩
  case round =>
    obtain ⟨k, hk, rfl, HF⟩ := hrel
    by_cases hlt : k < n
    · have hkl : k < vs.length := by rw [Hn.out]; exact hlt
      obtain rfl := Hao.out (by omega)
      obtain ⟨c0, c1⟩ := Hc.out k hkl
      have HY := Lib.hid (find_some_at hkl HF.out)
      have HN := Lib.hid (find_none_take hkl HF.out)
      obtain ⟨x, hx⟩ : ∃ x, vs[k]'hkl = x := ⟨_, rfl⟩
      rw [hx] at c0 c1 HY HN
      obtain ⟨nm, lab⟩ := x
      dsimp only at c0 c1
      have hi0 : (0 : Int) ≤ (k : Int) := by omega
      have hi1 : (k : Int) < (n : Int) := by omega
      clear hx
      by_cases he : nm = s
      · subst he
        have HZ : Hid (clrV vs nm.data.toList = (lab, 0)) := by
          show _ = _
          rw [clrV, HY.out rfl]
        have hb : (nm.toList == nm.toList) = true := beq_self_eq_true _
        clear HY HN
        go_wp2_with fail
        go_ret2
        exact ⟨by rw [HZ.out]; rfl, rfl⟩
      · have hb : (nm.toList == s.toList) = false := by rw [bytes_eq]; simp [he]
        have HZ := Lib.hid (HN.out (fun e => he (key_inj (a := ⟨nm, lab⟩) (b := ⟨s, 0⟩) e)))
        clear HY HN
        go_wp2_with fail
        exact ⟨⟨k + 1, by omega, by go_num, HZ.out⟩, by simp [intOf]; omega⟩
    · obtain rfl : k = n := by omega
      have HZ : Hid (clrV vs s.data.toList = (0, 160)) := by
        show _ = _
        have h := HF.out
        rw [List.take_of_length_le (by rw [Hn.out]; exact Nat.le_refl _)] at h
        rw [clrV, h]
      go_wp2_with fail
      go_ret2
      exact ⟨by rw [HZ.out]; rfl, rfl⟩
set_option maxRecDepth 100000 in
set_option maxHeartbeats 8000000 in
theorem ref3SameLabels_any (u v : Value) (a b : List Int) (w : World) (hu : Nums .u64 w u a) (hv : Nums .u64 w v b) :
    Calls Tryz.prog 52 #[u, v] w fun e w' => e = .returned (.bool (decide (a = b))) ∧ Below w.heap.size w w' := by
  obtain ⟨ao, ac, ab, aof, rfl, hao, hml, hac⟩ := hu.form
  obtain ⟨bo, bc, bb, bof, rfl, hbo, _, hbc⟩ := hv.form
  unfold maxLen at hml
  by_cases hl : a.length = b.length
  · obtain ⟨n, hn⟩ : ∃ n, a.length = n := ⟨_, rfl⟩
    have Hn := Lib.hid hn
    have Hn' := Lib.hid (hl.symm.trans hn)
    have Hac := Lib.hid hac
    have Hbc := Lib.hid hbc
    rw [hn] at hao hl hml ⊢
    rw [← hl] at hbo ⊢
    have Hao := Lib.hid hao
    have Hbo := Lib.hid hbo
    clear hac hbc hao hbo hu hv hn hl
    go_enter Tryz.func52, Tryz.ntmps52
    go_wp2_with fail
    go_loopw [5] (fun i wr => ∃ k : Nat, k ≤ n ∧ i = .int .i64 k ∧ Hid (a.take k = b.take k) ∧ Below w.heap.size w wr) (fun i _ => n - (intOf i).toNat)
    case atStart => exact ⟨0, Nat.zero_le _, rfl, rfl, Below.refl _ _⟩
    case round =>
      obtain ⟨k, hk, rfl, HT, hbw⟩ := hrel
      have Hbw := Lib.hid hbw
      clear hbw
      by_cases hlt : k < n
      · have hka : k < a.length := by rw [Hn.out]; exact hlt
        have hkb : k < b.length := by rw [Hn'.out]; exact hlt
        obtain rfl := Hao.out (by omega)
        obtain rfl := Hbo.out (by omega)
        have c0 := cell_kept Hbw.out (Hac.out k hka)
        have d0 := cell_kept Hbw.out (Hbc.out k hkb)
        have hi0 : (0 : Int) ≤ (k : Int) := by omega
        have hi1 : (k : Int) < (n : Int) := by omega
        have Hta := Lib.hid (List.take_succ_eq_append_getElem hka)
        have Htb := Lib.hid (List.take_succ_eq_append_getElem hkb)
        have Hne := Lib.hid (show ¬ a[k]'hka = b[k]'hkb → ¬ a = b from fun h e => h (by subst e; rfl))
        obtain ⟨x, hx⟩ : ∃ x, a[k]'hka = x := ⟨_, rfl⟩
        obtain ⟨y, hy⟩ : ∃ y, b[k]'hkb = y := ⟨_, rfl⟩
        rw [hx] at c0 Hta Hne
        rw [hy] at d0 Htb Hne
        clear hx hy
        by_cases e1 : x = y
        · subst e1
          have Hk := Lib.hid (show k + 1 ≤ n from hlt)
          clear Hne
          go_wp2_with fail
          go_big_quiet (fail)
          go_wp2
          go_roundw
          case rel =>
            refine ⟨k + 1, Hk.out, by go_num, ?_, below_drewN Hbw.out _⟩
            show _ = _
            rw [Hta.out, Htb.out, HT.out]
          case measure => have := Hk.out; simp [intOf]; omega
        · have Hno := Lib.hid (Hne.out e1)
          clear Hne
          go_wp2_with fail
          go_big_quiet (fail)
          go_wp2
          go_ret
          exact ⟨retBool (by simp [Hno.out]), below_drewN Hbw.out _⟩
      · obtain rfl : k = n := by omega
        go_wp2_with fail
        go_ret
        have e : a = b := by
          have h := HT.out
          rwa [List.take_of_length_le (by rw [Hn.out]; exact Nat.le_refl _), List.take_of_length_le (by rw [Hn'.out]; exact Nat.le_refl _)] at h
        exact ⟨retBool (by simp [e]), Hbw.out⟩
  · have hne : a ≠ b := fun e => hl (by rw [e])
    have hli : ¬ (a.length : Int) = (b.length : Int) := by omega
    clear hac hbc hao hbo hu hv
    go_enter Tryz.func52, Tryz.ntmps52
    go_wp2_with fail
    go_ret
    exact ⟨retBool (by simp [hne]), Below.refl _ _⟩
end Go.Proofs.YtajjikbigacbaaaGreatDoor
/- Own work: scrimref03: Same, Names, Erase, Above. -/
namespace Go.Proofs.YtajjikbigacbaaaGreatDoor
open Go.RowKit Go.Maps

instance : DecidableEq Vw := fun a b => decidable_of_iff (a.nm = b.nm ∧ a.lab = b.lab) (by cases a; cases b; simp)
theorem vw_eq {x1 y1 : ByteArray} {x2 y2 : Nat} (h : ¬ Vw.mk x1 x2 = Vw.mk y1 y2) (e : x1 = y1) : ¬ x2 = y2 := fun k => h (by rw [e, k])
set_option maxRecDepth 100000 in
set_option maxHeartbeats 8000000 in
theorem ref3Same_any (u v : Value) (a b : List Vw) (w : World) (hu : Vws w u a) (hv : Vws w v b) :
    Calls Tryz.prog 12 #[u, v] w fun e w' => e = .returned (.bool (decide (a = b))) ∧ Below w.heap.size w w' := by
  obtain ⟨ao, ac, ab, aof, rfl, hao, hml, hac⟩ := hu.form
  obtain ⟨bo, bc, bb, bof, rfl, hbo, _, hbc⟩ := hv.form
  unfold maxLen at hml
  by_cases hl : a.length = b.length
  · obtain ⟨n, hn⟩ : ∃ n, a.length = n := ⟨_, rfl⟩
    have Hn := Lib.hid hn
    have Hn' := Lib.hid (hl.symm.trans hn)
    have Hac := Lib.hid hac
    have Hbc := Lib.hid hbc
    rw [hn] at hao hl hml ⊢
    rw [← hl] at hbo ⊢
    have Hao := Lib.hid hao
    have Hbo := Lib.hid hbo
    clear hac hbc hao hbo hu hv hn hl
    go_enter Tryz.func12, Tryz.ntmps12
    go_wp2_with fail
    go_loopw [5] (fun i wr => ∃ k : Nat, k ≤ n ∧ i = .int .i64 k ∧ Hid (a.take k = b.take k) ∧ Below w.heap.size w wr) (fun i _ => n - (intOf i).toNat)
    case atStart => exact ⟨0, Nat.zero_le _, rfl, rfl, Below.refl _ _⟩
    case round =>
      obtain ⟨k, hk, rfl, HT, hbw⟩ := hrel
      have Hbw := Lib.hid hbw
      clear hbw
      by_cases hlt : k < n
      · have hka : k < a.length := by rw [Hn.out]; exact hlt
        have hkb : k < b.length := by rw [Hn'.out]; exact hlt
        obtain rfl := Hao.out (by omega)
        obtain rfl := Hbo.out (by omega)
        obtain ⟨c0, c1⟩ := Hac.out k hka
        obtain ⟨d0, d1⟩ := Hbc.out k hkb
        have c0 := cell_kept Hbw.out c0
        have c1 := cell_kept Hbw.out c1
        have d0 := cell_kept Hbw.out d0
        have d1 := cell_kept Hbw.out d1
        have hi0 : (0 : Int) ≤ (k : Int) := by omega
        have hi1 : (k : Int) < (n : Int) := by omega
        have Hta := Lib.hid (List.take_succ_eq_append_getElem hka)
        have Htb := Lib.hid (List.take_succ_eq_append_getElem hkb)
        have Hne := Lib.hid (show ¬ a[k]'hka = b[k]'hkb → ¬ a = b from fun h e => h (by subst e; rfl))
        obtain ⟨x, hx⟩ : ∃ x, a[k]'hka = x := ⟨_, rfl⟩
        obtain ⟨y, hy⟩ : ∃ y, b[k]'hkb = y := ⟨_, rfl⟩
        rw [hx] at c0 c1 Hta Hne
        rw [hy] at d0 d1 Htb Hne
        clear hx hy
        obtain ⟨x1, x2⟩ := x
        obtain ⟨y1, y2⟩ := y
        dsimp only at c0 c1 d0 d1
        by_cases e1 : x1 = y1
        rotate_left
        · have hb : (x1.toList == y1.toList) = false := by rw [bytes_eq]; simp [e1]
          have Hno := Lib.hid (Hne.out (fun e => e1 (by injection e)))
          clear Hne
          go_wp2_with fail
          go_big_quiet (fail)
          go_wp2
          go_ret
          exact ⟨retBool (by simp [Hno.out]), below_drewN Hbw.out _⟩
        subst e1
        have hb : (x1.toList == x1.toList) = true := beq_self_eq_true _
        by_cases e2 : x2 = y2
        rotate_left
        · have e2' : ¬ (x2 : Int) = (y2 : Int) := by omega
          have Hno := Lib.hid (Hne.out (fun e => e2 (by injection e)))
          clear Hne e2
          go_wp2_with fail
          go_big_quiet (fail)
          go_wp2
          go_ret
          exact ⟨retBool (by simp [Hno.out]), below_drewN Hbw.out _⟩
        subst e2
        have Hk := Lib.hid (show k + 1 ≤ n from hlt)
        clear Hne
        go_wp2_with fail
        go_big_quiet (fail)
        go_wp2
        go_roundw
        case rel =>
          refine ⟨k + 1, Hk.out, by go_num, ?_, below_drewN Hbw.out _⟩
          show _ = _
          rw [Hta.out, Htb.out, HT.out]
        case measure => have := Hk.out; simp [intOf]; omega
      · obtain rfl : k = n := by omega
        go_wp2_with fail
        go_ret
        have e : a = b := by
          have h := HT.out
          rwa [List.take_of_length_le (by rw [Hn.out]; exact Nat.le_refl _), List.take_of_length_le (by rw [Hn'.out]; exact Nat.le_refl _)] at h
        exact ⟨retBool (by simp [e]), Hbw.out⟩
  · have hne : a ≠ b := fun e => hl (by rw [e])
    have hli : ¬ (a.length : Int) = (b.length : Int) := by omega
    clear hac hbc hao hbo hu hv
    go_enter Tryz.func12, Tryz.ntmps12
    go_wp2_with fail
    go_ret
    exact ⟨retBool (by simp [hne]), Below.refl _ _⟩

set_option maxRecDepth 100000 in
set_option maxHeartbeats 8000000 in
theorem ref3Names_any (u : Value) (vs : List Vw) (w : World) (hu : Vws w u vs) (hlen : vs.length ≤ 4294967296) :
    Calls Tryz.prog 55 #[u] w fun e w' => ∃ v, e = .returned v ∧ Texts w' v (vs.map Vw.nm) ∧ Below w.heap.size w w' := by
  obtain ⟨i0, hi, hz0, hz1, hz2⟩ := info_parts Tryz.info9
  obtain ⟨ao, cap, b, o, rfl, hao, hml, hc⟩ := hu.form
  obtain ⟨n, hn⟩ : ∃ n, vs.length = n := ⟨_, rfl⟩
  have Hn := Lib.hid hn
  rw [hn] at hao hlen ⊢
  have Hao := Lib.hid hao
  have Hc := Lib.hid hc
  clear hu hao hc hn hml
  go_enter Tryz.func55, Tryz.ntmps55
  go_wp2_with fail
  go_loopw [3, 4] (fun s i wr => ∃ k : Nat, k ≤ n ∧ i = .int .i64 k ∧ wr.ownsRow w.heap.size 9 1 s k ((((vs.take k).map Vw.nm)).map Value.string) ∧ Below w.heap.size w wr) (fun _ i _ => n - (intOf i).toNat)
  case atStart => exact ⟨0, Nat.zero_le _, rfl, World.ownsRow_nil _ _ _ _, Below.refl _ _⟩
  case round =>
    obtain ⟨k, hk, rfl, hown, hbw⟩ := hrel
    have Hown := Lib.hid hown
    have Hbw := Lib.hid hbw
    clear hown hbw
    by_cases hlt : k < n
    · have hkl : k < vs.length := by rw [Hn.out]; exact hlt
      obtain rfl := Hao.out (by omega)
      obtain ⟨c0, _⟩ := Hc.out k hkl
      have c0 := cell_kept Hbw.out c0
      have HT := Lib.hid (List.take_succ_eq_append_getElem hkl)
      obtain ⟨x, hx⟩ : ∃ x, vs[k]'hkl = x := ⟨_, rfl⟩
      rw [hx] at c0 HT
      obtain ⟨x1, x2⟩ := x
      dsimp only at c0
      have hi0 : (0 : Int) ≤ (k : Int) := by omega
      have hi1 : (k : Int) < (n : Int) := by omega
      clear hx
      go_wp2_with (at_builtin; refine wpList_append_own _ rfl _ _ 40 rfl w.heap.size 9 i0 (.string ⟨#[]⟩) 1 16 Tryz.underlying40 hi hz0 hz1 hz2 rfl (by decide) _ _ _ rfl (Hown.out.alloc _) ⟨wr.heap.size, 0, none⟩ 1 1 [.string x1] rfl rfl (one_cell _ _ _) (one_list _ rfl) ?c3 ?c4 ?c5 ?_)
      case c3 => unfold maxLen; omega
      case c4 => omega
      case c5 => exact Nat.le_trans Hbw.out.size (by simp)
      intro v' w2 hown1 hgrow _
      have Hb1 := Lib.hid ((Hbw.out.alloc Hbw.out.size _).grown hgrow (Nat.le_trans Hbw.out.size (by simp)) (fun q hq => (Hown.out.lt q hq).1))
      have Hown1 := Lib.hid hown1
      clear hown1 hgrow
      go_wp2_with fail
      go_roundw
      case rel => exact ⟨k + 1, by omega, by go_num, by rw [HT.out]; simpa using Hown1.out, Hb1.out⟩
      case measure => simp [intOf]; omega
    · obtain rfl : k = n := by omega
      have HT : Hid (vs.take k = vs) := List.take_of_length_le (by rw [Hn.out]; exact Nat.le_refl _)
      have h := Hown.out
      rw [HT.out] at h
      have HX := Lib.hid (Texts.of_own h)
      clear h
      go_wp2_with fail
      go_ret
      exact ⟨_, rfl, HX.out, Hbw.out⟩
end Go.Proofs.YtajjikbigacbaaaGreatDoor
