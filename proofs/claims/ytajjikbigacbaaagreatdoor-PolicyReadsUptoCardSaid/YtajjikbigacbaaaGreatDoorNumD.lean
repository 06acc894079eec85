import Derived.Test.YtajjikbigacbaaaGreatDoorNumA
namespace Go.Proofs.YtajjikbigacbaaaGreatDoor
open Go.RowKit Num

theorem digB_int (c : UInt8) : isDigB c = true ↔ 48 ≤ (c.toNat : Int) ∧ (c.toNat : Int) ≤ 57 := by
  simp [isDigB]
  omega
theorem minus_pos {s : ByteArray} (h : minusB s.data.toList = true) : 0 < s.size := by
  have hl : s.data.toList.length = s.size := by simp
  cases hd : s.data.toList with
  | nil => rw [hd] at h; cases h
  | cons x l => rw [hd] at hl; simp at hl; omega
theorem minus_is {s : ByteArray} (hp : 0 < s.size) : minusB s.data.toList = (((s[0]'hp).toNat : Int) == 45) := by
  have hl : s.data.toList.length = s.size := by simp
  have e : s.data.toList[0]? = some (s[0]'hp) := List.getElem?_eq_getElem (by omega)
  rw [minusB, e, Bool.eq_iff_iff, beq_iff_eq, beq_iff_eq]
  constructor
  · intro h
    rw [Option.some.inj h]
    rfl
  · intro h
    congr 1
    apply UInt8.toNat.inj
    have : (45 : UInt8).toNat = 45 := rfl
    omega
theorem unsig_get {s : ByteArray} {f k : Nat} {ul : List UInt8} (hu : ul = s.data.toList.drop f) (h : f + k < s.size) : ∃ h' : k < ul.length, ul[k]'h' = s[f + k]'h := by
  subst hu
  have hl : s.data.toList.length = s.size := by simp
  refine ⟨by rw [List.length_drop]; omega, ?_⟩
  rw [List.getElem_drop]
  rfl

theorem valT_zero (ul : List UInt8) (b : Bool) : valL (ul.take 0) b = none := by simp [valL]
theorem valT_lead {ul : List UInt8} {k : Nat} {b : Bool} (hk : 1 ≤ k) (hl : k ≤ ul.length) (h0 : ul[0]? = some 48) (h : b = true ∨ 1 < k) : valL (ul.take k) b = none := by
  have hlen : (ul.take k).length = k := by rw [List.length_take]; omega
  rw [valL, if_neg (by intro e; rw [e] at hlen; simp at hlen; omega), if_pos ⟨by rw [List.getElem?_take, if_pos (by omega)]; exact h0, by rw [hlen]; exact h⟩]
theorem valT_plain {ul : List UInt8} {k : Nat} {b : Bool} (hk : 1 ≤ k) (hl : k ≤ ul.length) (h : ul[0]? = some 48 → b = false ∧ k = 1) :
    valL (ul.take k) b = if b = true then (if natVal (ul.take k) ≤ 9223372036854775808 then some (-(natVal (ul.take k) : Int)) else none)
      else (if natVal (ul.take k) ≤ 9223372036854775807 then some (natVal (ul.take k) : Int) else none) := by
  have hlen : (ul.take k).length = k := by rw [List.length_take]; omega
  rw [valL, if_neg (by intro e; rw [e] at hlen; simp at hlen; omega), if_neg]
  rintro ⟨e0, hm⟩
  rw [List.getElem?_take, if_pos (by omega)] at e0
  obtain ⟨h1, h2⟩ := h e0
  rw [hlen, h1] at hm
  simp at hm
  omega
theorem lead_iff {s : ByteArray} {f : Nat} {ul : List UInt8} (hu : ul = s.data.toList.drop f) (h : f < s.size) : ul[0]? = some 48 ↔ ((s[f]'h).toNat : Int) = 48 := by
  obtain ⟨h1, h2⟩ := unsig_get (k := 0) hu (by omega)
  rw [List.getElem?_eq_getElem h1, h2]
  constructor
  · intro e
    have := Option.some.inj e
    rw [show s[f]'h = 48 from this]
    rfl
  · intro e
    congr 1
    apply UInt8.toNat.inj
    show (s[f]'h).toNat = 48
    omega
theorem take_big {ul : List UInt8} {k : Nat} (h : k < ul.length) (hb : 922337203685477580 < natVal (ul.take k)) : 9223372036854775808 < natVal (ul.take (cnt ul)) ∨ cnt ul ≤ k := by
  by_cases hc : cnt ul ≤ k
  · exact .inr hc
  · left
    have h1 := natVal_take_succ ul k h
    have h2 := natVal_take_le ul (k + 1) (cnt ul - (k + 1))
    rw [show k + 1 + (cnt ul - (k + 1)) = cnt ul from by omega] at h2
    omega
theorem big_none {l ul : List UInt8} {m : Bool} (hm : minusB l = m) (hu : unsig l = ul) (hb : 9223372036854775808 < natVal (ul.take (cnt ul))) : takeL l = none := by
  rw [take_res l hm hu rfl]
  have : valL (ul.take (cnt ul)) m = none := by
    unfold valL
    split
    · rfl
    · split
      · rfl
      · split
        · rw [if_neg (by omega)]
        · rw [if_neg (by omega)]
  rw [this]
  rfl
theorem cnt_gt {ul : List UInt8} {k : Nat} (hall : ∀ (j : Nat) (hj : j < ul.length), j < k → isDigB (ul[j]'hj) = true) (h : k < ul.length) (hd : isDigB (ul[k]'h) = true) : k < cnt ul := by
  by_cases hc : cnt ul ≤ k
  · have hs := cnt_stop ul (by omega)
    by_cases e : cnt ul = k
    · have : isDigB (ul[cnt ul]'(by omega)) = true := by simpa [e] using hd
      rw [this] at hs; cases hs
    · rw [hall _ _ (by omega)] at hs; cases hs
  · omega

theorem first_pos {ul : List UInt8} {k v : Nat} (hv : natVal (ul.take k) = v) (hk : 1 ≤ k) (hl : k ≤ ul.length) (hall : ∀ (j : Nat) (hj : j < ul.length), j < k → isDigB (ul[j]'hj) = true) (h0 : ul[0]? ≠ some 48) : 1 ≤ v := by
  have h1 := natVal_take_succ ul 0 (by omega)
  have h2 := natVal_take_le ul 1 (k - 1)
  rw [show 1 + (k - 1) = k from by omega, hv] at h2
  have h3 := (digB_int _).1 (hall 0 (by omega) (by omega))
  have h4 : (ul[0]'(by omega)).toNat ≠ 48 := fun e => h0 (by
    rw [List.getElem?_eq_getElem (by omega)]
    congr 1
    exact UInt8.toNat.inj e)
  simp [natVal] at h1 h2
  omega
theorem tk_some' {l r : List UInt8} {n m : Int} {b : ByteArray} (h : takeL l = some (n, r)) (hb : b.data.toList = r) (hm : m = n) :
    Ending.returned (.tuple #[.int .i64 m, .string b, .int .i64 0]) = .returned (.tuple #[.int .i64 (takeN l), .string ⟨(takeR l).toArray⟩, .int .i64 (takeE l)]) := by
  subst hm; subst hb
  exact tk_some h

set_option maxRecDepth 100000 in
set_option maxHeartbeats 16000000 in
theorem refTake_true (s : ByteArray) (w : World) (hs : s.size ≤ maxLen) (hp : 0 < s.size) (hm : minusB s.data.toList = true) :
    Calls Tryz.prog 111 #[.string s] w fun e w' => e = .returned (.tuple #[.int .i64 (takeN s.data.toList), .string ⟨(takeR s.data.toList).toArray⟩, .int .i64 (takeE s.data.toList)]) ∧ Below w.heap.size w w' := by
  unfold maxLen at hs
  have hc : (((s[0]'hp).toNat : Int) == 45) = true := by rw [← minus_is hp]; exact hm
  obtain ⟨ul, hul⟩ : ∃ ul, unsig s.data.toList = ul := ⟨_, rfl⟩
  have hud : ul = s.data.toList.drop 1 := by rw [← hul, unsig, hm]; rfl
  have hll : ul.length = s.size - 1 := by rw [hud, List.length_drop]; simp
  have Hll := Lib.hid hll
  have Hud := Lib.hid hud
  have Hul := Lib.hid hul
  have Hm := Lib.hid hm
  clear hm hul hud hll
  go_enter Tryz.func111, Tryz.ntmps111
  go_wp2
  go_loop [6, 8] (fun i m => ∃ k : Nat, 1 + k ≤ s.size ∧ i = .int .i64 ((k : Int) + 1) ∧ m = .int .u64 (natVal (ul.take k) : Int) ∧ natVal (ul.take k) ≤ 9223372036854775809 ∧ (∀ (j : Nat) (hj : j < ul.length), j < k → isDigB (ul[j]'hj) = true)) (fun i _ => s.size - (intOf i).toNat)
  case atStart => exact ⟨0, by omega, rfl, rfl, by simp [natVal], by intro j _ h; omega⟩
  case round =>
    obtain ⟨k, hk, rfl, rfl, hn, hall⟩ := hrel
    have Hall := Lib.hid hall
    clear hall
    obtain ⟨v, hv⟩ : ∃ v : Nat, natVal (ul.take k) = v := ⟨_, rfl⟩
    have Hv := Lib.hid hv
    rw [hv] at hn ⊢
    clear hv
    have hxs : (k + 1 < s.size) ∨ ¬ (k + 1 < s.size) := Decidable.em _
    by_cases hdig : ∃ hlt : k + 1 < s.size, isDigB (s[k + 1]'hlt) = true
    · obtain ⟨hlt, hd⟩ := hdig
      have hd2 := (digB_int _).1 hd
      obtain ⟨hd3, hd4⟩ := hd2
      obtain ⟨hku, hget⟩ := unsig_get (f := 1) (k := k) Hud.out (by omega)
      have hget2 : (ul[k]'hku) = (s[k + 1]'hlt) := by rw [hget]; congr 1; omega
      have hsucc := natVal_take_succ ul k hku
      rw [hget2, Hv.out] at hsucc
      have Hs := Lib.hid hsucc
      have Hd := Lib.hid hd
      have Hg := Lib.hid hget2
      have Hhs := Lib.hid hxs
      clear hd hget hget2 hsucc hxs
      by_cases hbig : 922337203685477580 < v
      · go_wp2
        go_ret3
        have hcg : k < cnt ul := cnt_gt Hall.out hku (by rw [Hg.out]; exact Hd.out)
        have hb := (take_big hku (by rw [Hv.out]; exact hbig)).resolve_right (by omega)
        exact ⟨tk_none (big_none Hm.out Hul.out hb), below_of_eq rfl⟩
      · go_wp2
        go_round
        case rel =>
          refine ⟨k + 1, by omega, by go_num, ?_, ?_, fun j hj hjk => ?_⟩
          · rw [Hs.out]; congr 1; omega
          · rw [Hs.out]; omega
          · by_cases e : j = k
            · subst e
              rw [Hg.out]; exact Hd.out
            · exact Hall.out j hj (by omega)
        case measure => simp [intOf]; omega
    · have hexit : ¬ (k + 1 < s.size) ∨ (∃ hlt : k + 1 < s.size, ((s[k + 1]'hlt).toNat : Int) < 48) ∨ (∃ hlt : k + 1 < s.size, 57 < ((s[k + 1]'hlt).toNat : Int)) := by
        by_cases hlt : k + 1 < s.size
        · have : ¬ isDigB (s[k + 1]'hlt) = true := fun h => hdig ⟨hlt, h⟩
          rw [digB_int] at this
          by_cases h48 : ((s[k + 1]'hlt).toNat : Int) < 48
          · exact .inr (.inl ⟨hlt, h48⟩)
          · exact .inr (.inr ⟨hlt, by omega⟩)
        · exact .inl hlt
      have hkul : k ≤ ul.length := by rw [Hll.out]; omega
      have hcnt : cnt ul = k := by
        refine cnt_eq ul k hkul Hall.out fun hj => ?_
        have hlt : k + 1 < s.size := by have := Hll.out; omega
        obtain ⟨hku, hget⟩ := unsig_get (f := 1) (k := k) Hud.out (by omega)
        have hget2 : (ul[k]'hku) = (s[k + 1]'hlt) := by rw [hget]; congr 1; omega
        rw [hget2]
        cases hd : isDigB (s[k + 1]'hlt) with
        | false => rfl
        | true => exact absurd ⟨hlt, hd⟩ hdig
      have HT := Lib.hid (take_res s.data.toList Hm.out Hul.out hcnt)
      have Hcnt := Lib.hid hcnt
      clear hdig hcnt hxs
      by_cases hk0 : k = 0
      · have e0 : (((k : Int) + 1) == 1) = true := by simp [hk0]
        have HN : Hid (takeL s.data.toList = none) := by rw [hk0, valT_zero] at HT; exact HT.out
        clear hk0
        rcases hexit with hx | ⟨hlt, hx⟩ | ⟨hlt, hx⟩
        all_goals
          go_wp2
          go_ret3
          exact ⟨tk_none HN.out, below_of_eq rfl⟩
      · have e0 : (((k : Int) + 1) == 1) = false := by simp; omega
        have hk1 : 1 ≤ k := by omega
        have hpf : 1 < s.size := by omega
        clear hk0
        by_cases h48 : ((s[1]'hpf).toNat : Int) = 48
        · have e48 : (((s[1]'hpf).toNat : Int) == 48) = true := by simp [h48]
          have H48 := Lib.hid ((lead_iff Hud.out hpf).2 h48)
          clear h48
          have HN : Hid (takeL s.data.toList = none) := by show _ = _; rw [HT.out, valT_lead hk1 hkul H48.out (.inl rfl)]; rfl
          rcases hexit with hx | ⟨hlt, hx⟩ | ⟨hlt, hx⟩
          all_goals
            go_wp2
            all_goals
              go_ret3
              exact ⟨tk_none HN.out, below_of_eq rfl⟩
        · have e48 : (((s[1]'hpf).toNat : Int) == 48) = false := by simp [h48]
          have HV := Lib.hid (valT_plain (b := true) hk1 hkul fun h => absurd ((lead_iff Hud.out hpf).1 h) h48)
          have H0 := Lib.hid (show ul[0]? ≠ some 48 from fun h => h48 ((lead_iff Hud.out hpf).1 h))
          clear h48
          by_cases hr : v ≤ 9223372036854775808
          · have HS : Hid (takeL s.data.toList = some (-(v : Int), ul.drop k)) := by show _ = _; rw [HT.out, HV.out, Hv.out]; simp [hr]
            have hv1 : 1 ≤ v := first_pos Hv.out hk1 hkul Hall.out H0.out
            rcases hexit with hx | ⟨hlt, hx⟩ | ⟨hlt, hx⟩
            all_goals
              go_wp2
              go_quiet (fail)
              go_wp2
              go_ret3
              exact ⟨tk_some' HS.out (by rw [extract_drop, Hud.out, List.drop_drop]; first | done | (congr 1; omega)) (by omega), below_drewN (below_of_eq rfl) _⟩
          · have HN : Hid (takeL s.data.toList = none) := by show _ = _; rw [HT.out, HV.out, Hv.out]; simp [hr]
            rcases hexit with hx | ⟨hlt, hx⟩ | ⟨hlt, hx⟩
            all_goals
              go_wp2
              go_ret3
              exact ⟨tk_none HN.out, below_of_eq rfl⟩

set_option maxRecDepth 100000 in
set_option maxHeartbeats 16000000 in
theorem refTake_false (s : ByteArray) (w : World) (hs : s.size ≤ maxLen) (hp : 0 < s.size) (hm : minusB s.data.toList = false) :
    Calls Tryz.prog 111 #[.string s] w fun e w' => e = .returned (.tuple #[.int .i64 (takeN s.data.toList), .string ⟨(takeR s.data.toList).toArray⟩, .int .i64 (takeE s.data.toList)]) ∧ Below w.heap.size w w' := by
  unfold maxLen at hs
  have hc : (((s[0]'hp).toNat : Int) == 45) = false := by rw [← minus_is hp]; exact hm
  obtain ⟨ul, hul⟩ : ∃ ul, unsig s.data.toList = ul := ⟨_, rfl⟩
  have hud : ul = s.data.toList.drop 0 := by rw [← hul, unsig, hm]; rfl
  have hll : ul.length = s.size - 0 := by rw [hud, List.length_drop]; simp
  have Hll := Lib.hid hll
  have Hud := Lib.hid hud
  have Hul := Lib.hid hul
  have Hm := Lib.hid hm
  clear hm hul hud hll
  go_enter Tryz.func111, Tryz.ntmps111
  go_wp2
  go_loop [6, 8] (fun i m => ∃ k : Nat, 0 + k ≤ s.size ∧ i = .int .i64 ((k : Int)) ∧ m = .int .u64 (natVal (ul.take k) : Int) ∧ natVal (ul.take k) ≤ 9223372036854775809 ∧ (∀ (j : Nat) (hj : j < ul.length), j < k → isDigB (ul[j]'hj) = true)) (fun i _ => s.size - (intOf i).toNat)
  case atStart => exact ⟨0, by omega, rfl, rfl, by simp [natVal], by intro j _ h; omega⟩
  case round =>
    obtain ⟨k, hk, rfl, rfl, hn, hall⟩ := hrel
    have Hall := Lib.hid hall
    clear hall
    obtain ⟨v, hv⟩ : ∃ v : Nat, natVal (ul.take k) = v := ⟨_, rfl⟩
    have Hv := Lib.hid hv
    rw [hv] at hn ⊢
    clear hv
    have hxs : (k < s.size) ∨ ¬ (k < s.size) := Decidable.em _
    by_cases hdig : ∃ hlt : k < s.size, isDigB (s[k]'hlt) = true
    · obtain ⟨hlt, hd⟩ := hdig
      have hd2 := (digB_int _).1 hd
      obtain ⟨hd3, hd4⟩ := hd2
      obtain ⟨hku, hget⟩ := unsig_get (f := 0) (k := k) Hud.out (by omega)
      have hget2 : (ul[k]'hku) = (s[k]'hlt) := by rw [hget]; congr 1; omega
      have hsucc := natVal_take_succ ul k hku
      rw [hget2, Hv.out] at hsucc
      have Hs := Lib.hid hsucc
      have Hd := Lib.hid hd
      have Hg := Lib.hid hget2
      have Hhs := Lib.hid hxs
      clear hd hget hget2 hsucc hxs
      by_cases hbig : 922337203685477580 < v
      · go_wp2
        go_ret3
        have hcg : k < cnt ul := cnt_gt Hall.out hku (by rw [Hg.out]; exact Hd.out)
        have hb := (take_big hku (by rw [Hv.out]; exact hbig)).resolve_right (by omega)
        exact ⟨tk_none (big_none Hm.out Hul.out hb), below_of_eq rfl⟩
      · go_wp2
        go_round
        case rel =>
          refine ⟨k + 1, by omega, by go_num, ?_, ?_, fun j hj hjk => ?_⟩
          · rw [Hs.out]; congr 1; omega
          · rw [Hs.out]; omega
          · by_cases e : j = k
            · subst e
              rw [Hg.out]; exact Hd.out
            · exact Hall.out j hj (by omega)
        case measure => simp [intOf]; omega
    · have hexit : ¬ (k < s.size) ∨ (∃ hlt : k < s.size, ((s[k]'hlt).toNat : Int) < 48) ∨ (∃ hlt : k < s.size, 57 < ((s[k]'hlt).toNat : Int)) := by
        by_cases hlt : k < s.size
        · have : ¬ isDigB (s[k]'hlt) = true := fun h => hdig ⟨hlt, h⟩
          rw [digB_int] at this
          by_cases h48 : ((s[k]'hlt).toNat : Int) < 48
          · exact .inr (.inl ⟨hlt, h48⟩)
          · exact .inr (.inr ⟨hlt, by omega⟩)
        · exact .inl hlt
      have hkul : k ≤ ul.length := by rw [Hll.out]; omega
      have hcnt : cnt ul = k := by
        refine cnt_eq ul k hkul Hall.out fun hj => ?_
        have hlt : k < s.size := by have := Hll.out; omega
        obtain ⟨hku, hget⟩ := unsig_get (f := 0) (k := k) Hud.out (by omega)
        have hget2 : (ul[k]'hku) = (s[k]'hlt) := by rw [hget]; congr 1; omega
        rw [hget2]
        cases hd : isDigB (s[k]'hlt) with
        | false => rfl
        | true => exact absurd ⟨hlt, hd⟩ hdig
      have HT := Lib.hid (take_res s.data.toList Hm.out Hul.out hcnt)
      have Hcnt := Lib.hid hcnt
      clear hdig hcnt hxs
      by_cases hk0 : k = 0
      · have e0 : (((k : Int)) == 0) = true := by simp [hk0]
        have HN : Hid (takeL s.data.toList = none) := by rw [hk0, valT_zero] at HT; exact HT.out
        clear hk0
        rcases hexit with hx | ⟨hlt, hx⟩ | ⟨hlt, hx⟩
        all_goals
          go_wp2
          go_ret3
          exact ⟨tk_none HN.out, below_of_eq rfl⟩
      · have e0 : (((k : Int)) == 0) = false := by simp; omega
        have hk1 : 1 ≤ k := by omega
        have hpf : 0 < s.size := by omega
        clear hk0
        by_cases h48 : ((s[0]'hpf).toNat : Int) = 48
        · have e48 : (((s[0]'hpf).toNat : Int) == 48) = true := by simp [h48]
          have H48 := Lib.hid ((lead_iff Hud.out hpf).2 h48)
          clear h48
          by_cases hk2 : 1 < k
          · have HN : Hid (takeL s.data.toList = none) := by show _ = _; rw [HT.out, valT_lead hk1 hkul H48.out (.inr hk2)]; rfl
            rcases hexit with hx | ⟨hlt, hx⟩ | ⟨hlt, hx⟩
            all_goals
              go_wp2
              go_ret3
              exact ⟨tk_none HN.out, below_of_eq rfl⟩
          · have HV := Lib.hid (valT_plain (b := false) hk1 hkul fun _ => ⟨rfl, by omega⟩)
            have hr : v ≤ 9223372036854775807 := by
              have h1 : k = 0 + 1 := by omega
              have h2 := Hv.out
              rw [h1, natVal_take_succ ul 0 (by omega)] at h2
              have h3 := (ul[0]'(by omega)).toNat_lt
              simp [natVal] at h2
              omega
            have HS : Hid (takeL s.data.toList = some ((v : Int), ul.drop k)) := by show _ = _; rw [HT.out, HV.out, Hv.out]; simp [hr]
            rcases hexit with hx | ⟨hlt, hx⟩ | ⟨hlt, hx⟩
            all_goals
              go_wp2
              go_quiet (fail)
              go_wp2
              go_ret3
              exact ⟨tk_some' HS.out (by rw [extract_drop, Hud.out, List.drop_drop]; first | done | (congr 1; omega)) rfl, below_drewN (below_of_eq rfl) _⟩
        · have e48 : (((s[0]'hpf).toNat : Int) == 48) = false := by simp [h48]
          have HV := Lib.hid (valT_plain (b := false) hk1 hkul fun h => absurd ((lead_iff Hud.out hpf).1 h) h48)
          have H0 := Lib.hid (show ul[0]? ≠ some 48 from fun h => h48 ((lead_iff Hud.out hpf).1 h))
          clear h48
          by_cases hr : v ≤ 9223372036854775807
          · have HS : Hid (takeL s.data.toList = some ((v : Int), ul.drop k)) := by show _ = _; rw [HT.out, HV.out, Hv.out]; simp [hr]
            rcases hexit with hx | ⟨hlt, hx⟩ | ⟨hlt, hx⟩
            all_goals
              go_wp2
              go_quiet (fail)
              go_wp2
              go_ret3
              exact ⟨tk_some' HS.out (by rw [extract_drop, Hud.out, List.drop_drop]; first | done | (congr 1; omega)) rfl, below_drewN (below_of_eq rfl) _⟩
          · have HN : Hid (takeL s.data.toList = none) := by show _ = _; rw [HT.out, HV.out, Hv.out]; simp [hr]
            rcases hexit with hx | ⟨hlt, hx⟩ | ⟨hlt, hx⟩
            all_goals
              go_wp2
              go_ret3
              exact ⟨tk_none HN.out, below_of_eq rfl⟩

theorem refTake_any (s : ByteArray) (w : World) (hs : s.size ≤ maxLen) :
    Calls Tryz.prog 111 #[.string s] w fun e w' => e = .returned (.tuple #[.int .i64 (takeN s.data.toList), .string ⟨(takeR s.data.toList).toArray⟩, .int .i64 (takeE s.data.toList)]) ∧ Below w.heap.size w w' := by
  by_cases hp : 0 < s.size
  · cases hm : minusB s.data.toList
    · exact refTake_false s w hs hp hm
    · exact refTake_true s w hs hp hm
  · obtain rfl : s = ⟨#[]⟩ := by
      cases s with
      | mk d =>
        have : d = #[] := by simpa [ByteArray.size] using hp
        rw [this]
    clear hp
    go_enter Tryz.func111, Tryz.ntmps111
    go_wp2
    go_loop [6, 8] (fun i m => i = .int .i64 0 ∧ m = .int .u64 0) (fun _ _ => 0)
    case atStart => exact ⟨rfl, rfl⟩
    case round =>
      obtain ⟨rfl, rfl⟩ := hrel
      go_wp2
      go_ret3
      exact ⟨tk_none rfl, below_of_eq rfl⟩
end Go.Proofs.YtajjikbigacbaaaGreatDoor
