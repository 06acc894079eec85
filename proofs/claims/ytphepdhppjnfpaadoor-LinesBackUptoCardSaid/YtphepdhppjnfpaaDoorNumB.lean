import Derived.Test.YtphepdhppjnfpaaDoorNumA
namespace Go.Proofs.YtphepdhppjnfpaaDoor
open Go.RowKit Num

def valN (l : List UInt8) (m : Bool) : Int := (valL l m).getD 0
def valOk (l : List UInt8) (m : Bool) : Bool := (valL l m).isSome
theorem retVal {a b : Int} {x y : Bool} (h : a = b) (h' : x = y) : Ending.returned (.tuple #[.int .i64 a, .bool x]) = .returned (.tuple #[.int .i64 b, .bool y]) := by rw [h, h']
theorem bytes_ne (s : ByteArray) (h : 0 < s.size) : s.toList.isEmpty = false ∧ (s.toList = []) = False := by
  have hl : s.toList.length = s.size := by rw [ByteArray.toList_eq]; simp
  constructor
  · rw [List.isEmpty_eq_false_iff]
    intro e
    rw [e] at hl
    simp at hl
    omega
  · rw [eq_iff_iff, iff_false]
    intro e
    rw [e] at hl
    simp at hl
    omega

theorem digB_bounds {c : UInt8} (h : digB c = true) : 48 ≤ c.toNat ∧ c.toNat ≤ 57 := by
  simpa [digB] using h
theorem tdiv_min (c : Nat) (h : 48 ≤ c ∧ c ≤ 57) : (-9223372036854775808 + ((c : Int) - 48)).tdiv 10 = -(((9223372036854775808 - (c - 48)) / 10 : Nat) : Int) := by
  have e : (-9223372036854775808 + ((c : Int) - 48)) = -(((9223372036854775808 - (c - 48) : Nat)) : Int) := by omega
  rw [e, Int.neg_tdiv, Int.tdiv_eq_ediv_of_nonneg (by omega)]
  rfl
theorem val_lead (s : ByteArray) (hp : 0 < s.size) (h : ((s[0]'hp).toNat : Int) = 48) {m : Bool} (hm : m = true ∨ 1 < s.size) : valL s.data.toList m = none := by
  have hl : s.data.toList.length = s.size := by simp
  have e0 : s.data.toList[0]? = some 48 := by
    rw [List.getElem?_eq_getElem (by omega)]
    congr 1
    show s[0]'hp = 48
    apply UInt8.toNat.inj
    simp
    omega
  rw [valL, if_neg (by intro e; rw [e] at hl; simp at hl; omega), if_pos ⟨e0, by rw [hl]; exact hm⟩]
theorem val_plain (s : ByteArray) (hp : 0 < s.size) {m : Bool} (h : ((s[0]'hp).toNat : Int) = 48 → m = false ∧ ¬ 1 < s.size) :
    valL s.data.toList m = if m = true then (if natVal s.data.toList ≤ 9223372036854775808 then some (-(natVal s.data.toList : Int)) else none)
      else (if natVal s.data.toList ≤ 9223372036854775807 then some (natVal s.data.toList : Int) else none) := by
  have hl : s.data.toList.length = s.size := by simp
  rw [valL, if_neg (by intro e; rw [e] at hl; simp at hl; omega), if_neg]
  rintro ⟨e0, hm⟩
  rw [List.getElem?_eq_getElem (by omega)] at e0
  have e1 : s[0]'hp = 48 := Option.some.inj e0
  obtain ⟨h1, h2⟩ := h (by rw [e1]; rfl)
  rw [hl, h1] at hm
  simp at hm
  omega

theorem val_big {l : List UInt8} (m : Bool) (h : valL l m = if m = true then (if natVal l ≤ 9223372036854775808 then some (-(natVal l : Int)) else none) else (if natVal l ≤ 9223372036854775807 then some (natVal l : Int) else none))
    (hb : 9223372036854775808 < natVal l) : valL l m = none := by
  rw [h]
  split
  · rw [if_neg (by omega)]
  · rw [if_neg (by omega)]

set_option maxRecDepth 100000 in
set_option maxHeartbeats 4000000 in
theorem value_any (s : ByteArray) (minus : Bool) (w : World) (hs : s.size ≤ maxLen) (hd : ∀ (j : Nat) (hj : j < s.size), digB (s[j]) = true) :
    Calls Tryd.prog 32 #[.string s, .bool minus] w fun e w' => e = .returned (.tuple #[.int .i64 (valN s.data.toList minus), .bool (valOk s.data.toList minus)]) ∧ Below w.heap.size w w' := by
  unfold maxLen at hs
  have Hd := Lib.hid hd
  clear hd
  by_cases h0 : s.size = 0
  · obtain rfl : s = ⟨#[]⟩ := by
      cases s with
      | mk d => simp [ByteArray.size] at h0; rw [h0]
    clear h0
    go_enter Tryd.func32, Tryd.ntmps32
    go_wp2
    go_ret2
    exact ⟨retVal (by simp [valN, valL]) (by simp [valOk, valL]), Below.refl _ _⟩
  · have hp : 0 < s.size := by omega
    clear h0
    obtain ⟨hE, hE2⟩ := bytes_ne s hp
    have hb : ((s[0]'hp).toNat : Int) < 256 := by have := (s[0]'hp).toNat_lt; omega
    by_cases h48 : ((s[0]'hp).toNat : Int) = 48
    · have H48 := Lib.hid h48
      have e48 : (((s[0]'hp).toNat : Int) == 48) = true := by simp [h48]
      clear h48
      cases minus
      · by_cases h1 : 1 < s.size
        · go_enter Tryd.func32, Tryd.ntmps32
          go_wp2
          go_ret2
          exact ⟨retVal (by rw [valN, val_lead s hp H48.out (.inr h1)]; rfl) (by rw [valOk, val_lead s hp H48.out (.inr h1)]; rfl), Below.refl _ _⟩
        · have Hv := Lib.hid (val_plain s hp (m := false) (fun _ => ⟨rfl, h1⟩))
          go_enter Tryd.func32, Tryd.ntmps32
          go_wp2
          go_loopw [6, 8, 9] (fun n _ _ w' => ∃ k : Nat, k ≤ s.size ∧ w' = w.iter s k ∧ n = .int .i64 (-(natVal (s.data.toList.take k) : Int)) ∧ natVal (s.data.toList.take k) ≤ 9223372036854775808) (fun _ _ _ w' => s.size - w'.iterPos w.heap.size)
          case atStart => exact ⟨0, Nat.zero_le _, rfl, by simp [natVal], by simp [natVal]⟩
          case round =>
            obtain ⟨k, hk, rfl, rfl, hn⟩ := hrel
            by_cases hlt : k < s.size
            · have hdk := Hd.out k hlt
              have hdr := digB_bounds hdk
              have ha : (s[k]'hlt).toNat < 128 := by omega
              have hnx := fun ty => run_next_ascii (P := Tryd.prog) w s k ty hlt ha
              have hsucc := natVal_take_succ s.data.toList k (by simpa using hlt)
              have hsk : (s.data.toList[k]'(by simpa using hlt)) = s[k]'hlt := rfl
              rw [hsk] at hsucc
              have Hs := Lib.hid hsucc
              clear hsucc hsk hdk
              obtain ⟨v, hv⟩ : ∃ v : Nat, natVal (s.data.toList.take k) = v := ⟨_, rfl⟩
              obtain ⟨c, hc⟩ : ∃ c : Nat, (s[k]'hlt).toNat = c := ⟨_, rfl⟩
              have Hvv := Lib.hid hv
              have Hcc := Lib.hid hc
              rw [hv] at hn ⊢
              rw [hc] at hnx hdr
              clear hv hc ha
              have hdiv : (-9223372036854775808 + ((c : Int) - 48)).tdiv 10 = -((9223372036854775808 - (c - 48)) / 10 : Nat) := tdiv_min c hdr
              go_wp2_with fail
              · have hlt' : ((9223372036854775808 - (c - 48) : Nat) : Int) / 10 < (v : Int) := by assumption
                have hbig : 9223372036854775808 < natVal s.data.toList := by
                  have h1 := natVal_take_all s.data.toList (k + 1)
                  have h2 := Hs.out
                  rw [Hvv.out, Hcc.out] at h2
                  omega
                go_ret2
                have hv0 := val_big false Hv.out hbig
                exact ⟨retVal (by rw [valN, hv0]; rfl) (by rw [valOk, hv0]; rfl), below_iter _ _ _⟩
              · have hge' : (v : Int) ≤ ((9223372036854775808 - (c - 48) : Nat) : Int) / 10 := by assumption
                have h2 := Hs.out
                rw [Hvv.out, Hcc.out] at h2
                have H2 := Lib.hid h2
                clear h2
                go_roundw
                case rel => exact ⟨k + 1, by omega, rfl, by (rw [H2.out]; congr 1; omega), by rw [H2.out]; omega⟩
                case measure => simp; omega
            · have hnx := fun ty => run_next_end (P := Tryd.prog) w s k ty hlt
              have hall : s.data.toList.take k = s.data.toList := List.take_of_length_le (by simp; omega)
              rw [hall] at hn ⊢
              clear hall
              obtain ⟨v, hv⟩ : ∃ v : Nat, natVal s.data.toList = v := ⟨_, rfl⟩
              have Hvv := Lib.hid hv
              rw [hv] at hn ⊢
              clear hv
              by_cases hmin : v = 9223372036854775808
              · have emin : ((-(v : Int)) == -9223372036854775808) = true := by simp [hmin]
                have Hm := Lib.hid hmin
                clear hmin
                go_wp2_with fail
                go_ret2
                exact ⟨retVal (by rw [valN, Hv.out, Hvv.out, Hm.out]; rfl) (by rw [valOk, Hv.out, Hvv.out, Hm.out]; rfl), below_iter _ _ _⟩
              · have emin : ((-(v : Int)) == -9223372036854775808) = false := by simp; omega
                go_wp2_with fail
                go_ret2
                exact ⟨retVal (by rw [valN, Hv.out, Hvv.out, if_neg (by decide), if_pos (by omega)]; simp) (by rw [valOk, Hv.out, Hvv.out, if_neg (by decide), if_pos (by omega)]; simp), below_iter _ _ _⟩

      · go_enter Tryd.func32, Tryd.ntmps32
        go_wp2
        go_ret2
        exact ⟨retVal (by rw [valN, val_lead s hp H48.out (.inl rfl)]; rfl) (by rw [valOk, val_lead s hp H48.out (.inl rfl)]; rfl), Below.refl _ _⟩
    · have H48 := Lib.hid h48
      have e48 : (((s[0]'hp).toNat : Int) == 48) = false := by simp [h48]
      have Hv := Lib.hid (val_plain s hp (m := minus) (fun h => absurd h h48))
      clear h48
      go_enter Tryd.func32, Tryd.ntmps32
      go_wp2
      go_loopw [6, 8, 9] (fun n _ _ w' => ∃ k : Nat, k ≤ s.size ∧ w' = w.iter s k ∧ n = .int .i64 (-(natVal (s.data.toList.take k) : Int)) ∧ natVal (s.data.toList.take k) ≤ 9223372036854775808) (fun _ _ _ w' => s.size - w'.iterPos w.heap.size)
      case atStart => exact ⟨0, Nat.zero_le _, rfl, by simp [natVal], by simp [natVal]⟩
      case round =>
        obtain ⟨k, hk, rfl, rfl, hn⟩ := hrel
        by_cases hlt : k < s.size
        · have hdk := Hd.out k hlt
          have hdr := digB_bounds hdk
          have ha : (s[k]'hlt).toNat < 128 := by omega
          have hnx := fun ty => run_next_ascii (P := Tryd.prog) w s k ty hlt ha
          have hsucc := natVal_take_succ s.data.toList k (by simpa using hlt)
          have hsk : (s.data.toList[k]'(by simpa using hlt)) = s[k]'hlt := rfl
          rw [hsk] at hsucc
          have Hs := Lib.hid hsucc
          clear hsucc hsk hdk
          obtain ⟨v, hv⟩ : ∃ v : Nat, natVal (s.data.toList.take k) = v := ⟨_, rfl⟩
          obtain ⟨c, hc⟩ : ∃ c : Nat, (s[k]'hlt).toNat = c := ⟨_, rfl⟩
          have Hvv := Lib.hid hv
          have Hcc := Lib.hid hc
          rw [hv] at hn ⊢
          rw [hc] at hnx hdr
          clear hv hc ha
          have hdiv : (-9223372036854775808 + ((c : Int) - 48)).tdiv 10 = -((9223372036854775808 - (c - 48)) / 10 : Nat) := tdiv_min c hdr
          go_wp2_with fail
          · have hlt' : ((9223372036854775808 - (c - 48) : Nat) : Int) / 10 < (v : Int) := by assumption
            have hbig : 9223372036854775808 < natVal s.data.toList := by
              have h1 := natVal_take_all s.data.toList (k + 1)
              have h2 := Hs.out
              rw [Hvv.out, Hcc.out] at h2
              omega
            go_ret2
            have hv0 := val_big minus Hv.out hbig
            exact ⟨retVal (by rw [valN, hv0]; rfl) (by rw [valOk, hv0]; rfl), below_iter _ _ _⟩
          · have hge' : (v : Int) ≤ ((9223372036854775808 - (c - 48) : Nat) : Int) / 10 := by assumption
            have h2 := Hs.out
            rw [Hvv.out, Hcc.out] at h2
            have H2 := Lib.hid h2
            clear h2
            go_roundw
            case rel => exact ⟨k + 1, by omega, rfl, by (rw [H2.out]; congr 1; omega), by rw [H2.out]; omega⟩
            case measure => simp; omega
        · have hnx := fun ty => run_next_end (P := Tryd.prog) w s k ty hlt
          have hall : s.data.toList.take k = s.data.toList := List.take_of_length_le (by simp; omega)
          rw [hall] at hn ⊢
          clear hall
          obtain ⟨v, hv⟩ : ∃ v : Nat, natVal s.data.toList = v := ⟨_, rfl⟩
          have Hvv := Lib.hid hv
          rw [hv] at hn ⊢
          clear hv
          cases minus
          · by_cases hmin : v = 9223372036854775808
            · have emin : ((-(v : Int)) == -9223372036854775808) = true := by simp [hmin]
              have Hm := Lib.hid hmin
              clear hmin
              go_wp2_with fail
              go_ret2
              exact ⟨retVal (by rw [valN, Hv.out, Hvv.out, Hm.out]; rfl) (by rw [valOk, Hv.out, Hvv.out, Hm.out]; rfl), below_iter _ _ _⟩
            · have emin : ((-(v : Int)) == -9223372036854775808) = false := by simp; omega
              go_wp2_with fail
              go_ret2
              exact ⟨retVal (by rw [valN, Hv.out, Hvv.out, if_neg (by decide), if_pos (by omega)]; simp) (by rw [valOk, Hv.out, Hvv.out, if_neg (by decide), if_pos (by omega)]; simp), below_iter _ _ _⟩
          · go_wp2_with fail
            go_ret2
            exact ⟨retVal (by rw [valN, Hv.out, Hvv.out]; simp [hn]) (by rw [valOk, Hv.out, Hvv.out]; simp [hn]), below_iter _ _ _⟩

end Go.Proofs.YtphepdhppjnfpaaDoor
