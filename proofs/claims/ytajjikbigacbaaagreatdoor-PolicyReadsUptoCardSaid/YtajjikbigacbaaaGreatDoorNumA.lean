import Derived.Test.YtajjikbigacbaaaGreatDoorBase
import Derived.Test.YtajjikbigacbaaaGreatDoorShelf
import Derived.Test.YtajjikbigacbaaaGreatDoorNumMath
namespace Go.Proofs.YtajjikbigacbaaaGreatDoor
open Go.RowKit Num

theorem digB_rune (c : UInt8) : isDigB c = digitRune c.toNat := by
  rw [Bool.eq_iff_iff]
  simp [isDigB, digitRune]
  omega
theorem digitRune_high (r : Int) (h : 128 ≤ r) : digitRune r = false := by
  simp [digitRune]
  omega

set_option maxHeartbeats 1000000 in
theorem countDigits_any (s : ByteArray) (w : World) :
    Calls Tryz.prog 182 #[.string s] w fun e w' => e = .returned (.int .i64 (cnt s.data.toList)) ∧ Below w.heap.size w w' := by
  go_enter Tryz.func182, Tryz.ntmps182
  go_wp2
  go_loopw [3, 4] (fun i r w' => ∃ k : Nat, k ≤ s.size ∧ w' = w.iter s k ∧ (∀ (j : Nat) (hj : j < s.size), j < k → isDigB (s[j]) = true)) (fun _ _ w' => s.size - w'.iterPos w.heap.size)
  case atStart => exact ⟨0, Nat.zero_le _, rfl, by intro j _ h; omega⟩
  case round =>
    obtain ⟨k, hk, rfl, hall⟩ := hrel
    have Hall := Lib.hid hall
    clear hall
    by_cases hlt : k < s.size
    · by_cases ha : (s[k]'hlt).toNat < 128
      · have hnx := fun ty => run_next_ascii (P := Tryz.prog) w s k ty hlt ha
        have hb : (s[k]'hlt).toNat < 256 := (s[k]'hlt).toNat_lt
        have hd := digB_rune (s[k]'hlt)
        have Hd := Lib.hid hd
        clear hd
        by_cases hn : digitRune ((s[k]'hlt).toNat : Int) = true
        · go_wp2_with (go_at_call 129; refine (isDigit_any _ _).mono ?_; rintro e w' ⟨rfl, rfl⟩)
          go_roundw
          case rel =>
            refine ⟨k + 1, by omega, rfl, fun j hj hjk => ?_⟩
            by_cases e : j = k
            · subst e
              rw [Hd.out]; exact hn
            · exact Hall.out j hj (by omega)
          case measure => simp; omega
        · have hn' : digitRune ((s[k]'hlt).toNat : Int) = false := by simpa using hn
          clear hn
          have Hn : Hid (isDigB (s[k]'hlt) = false) := Hd.out.trans hn'
          go_wp2_with (go_at_call 129; refine (isDigit_any _ _).mono ?_; rintro e w' ⟨rfl, rfl⟩)
          go_ret
          exact ⟨retInt (by rw [cnt_eq s.data.toList k (by simpa using hk) (fun j hj hjk => Hall.out j (by simpa using hj) hjk) (fun hj => Hn.out)]), below_iter _ _ _⟩
      · have hnx := fun ty => run_next_any (P := Tryz.prog) w s k ty hlt
        have hh := (decode_high s k hlt (by omega)).1
        have hle := decode_le s k
        have hn' : digitRune ((Utf8.decode s k).1 : Int) = false := digitRune_high _ (by omega)
        have Hn : Hid (isDigB (s[k]'hlt) = false) := by
          show _ = _
          rw [digB_rune]
          exact digitRune_high _ (by omega)
        go_wp2_with (go_at_call 129; refine (isDigit_any _ _).mono ?_; rintro e w' ⟨rfl, rfl⟩)
        go_ret
        exact ⟨retInt (by rw [cnt_eq s.data.toList k (by simpa using hk) (fun j hj hjk => Hall.out j (by simpa using hj) hjk) (fun hj => Hn.out)]), below_iter _ _ _⟩
    · have hnx := fun ty => run_next_end (P := Tryz.prog) w s k ty hlt
      go_wp2_with fail
      go_ret
      exact ⟨retInt (by rw [cnt_eq s.data.toList s.size (by simp) (fun j hj hjk => Hall.out j (by simpa using hj) (by omega)) (fun hj => absurd hj (by simp))]), below_iter _ _ _⟩
end Go.Proofs.YtajjikbigacbaaaGreatDoor
namespace Go.Proofs.YtajjikbigacbaaaGreatDoor
open Go.RowKit Num

def valN (l : List UInt8) (m : Bool) : Int := (valL l m).getD 0
def valOk (l : List UInt8) (m : Bool) : Bool := (valL l m).isSome
theorem retVal {a b : Int} {x y : Bool} (h : a = b) (h' : x = y) : Ending.returned (.tuple #[.int .i64 a, .bool x]) = .returned (.tuple #[.int .i64 b, .bool y]) := by rw [h, h']
theorem bytes_ne (s : ByteArray) (h : 0 < s.size) : s.toList.isEmpty = false ∧ (s.toList = []) = False := by
  have hl : s.toList.length = s.size := by rw [ByteArray.toList_eq]; simp
  constructor
  · rw [List.isEmpty_eq_false_iff]
    intro e
    rw [e] at hl
    simp at hl
    omega
  · rw [eq_iff_iff, iff_false]
    intro e
    rw [e] at hl
    simp at hl
    omega

theorem digB_bounds {c : UInt8} (h : isDigB c = true) : 48 ≤ c.toNat ∧ c.toNat ≤ 57 := by
  simpa [isDigB] using h
theorem tdiv_min (c : Nat) (h : 48 ≤ c ∧ c ≤ 57) : (-9223372036854775808 + ((c : Int) - 48)).tdiv 10 = -(((9223372036854775808 - (c - 48)) / 10 : Nat) : Int) := by
  have e : (-9223372036854775808 + ((c : Int) - 48)) = -(((9223372036854775808 - (c - 48) : Nat)) : Int) := by omega
  rw [e, Int.neg_tdiv, Int.tdiv_eq_ediv_of_nonneg (by omega)]
  rfl
theorem val_lead (s : ByteArray) (hp : 0 < s.size) (h : ((s[0]'hp).toNat : Int) = 48) {m : Bool} (hm : m = true ∨ 1 < s.size) : valL s.data.toList m = none := by
  have hl : s.data.toList.length = s.size := by simp
  have e0 : s.data.toList[0]? = some 48 := by
    rw [List.getElem?_eq_getElem (by omega)]
    congr 1
    show s[0]'hp = 48
    apply UInt8.toNat.inj
    simp
    omega
  rw [valL, if_neg (by intro e; rw [e] at hl; simp at hl; omega), if_pos ⟨e0, by rw [hl]; exact hm⟩]
theorem val_plain (s : ByteArray) (hp : 0 < s.size) {m : Bool} (h : ((s[0]'hp).toNat : Int) = 48 → m = false ∧ ¬ 1 < s.size) :
    valL s.data.toList m = if m = true then (if natVal s.data.toList ≤ 9223372036854775808 then some (-(natVal s.data.toList : Int)) else none)
      else (if natVal s.data.toList ≤ 9223372036854775807 then some (natVal s.data.toList : Int) else none) := by
  have hl : s.data.toList.length = s.size := by simp
  rw [valL, if_neg (by intro e; rw [e] at hl; simp at hl; omega), if_neg]
  rintro ⟨e0, hm⟩
  rw [List.getElem?_eq_getElem (by omega)] at e0
  have e1 : s[0]'hp = 48 := Option.some.inj e0
  obtain ⟨h1, h2⟩ := h (by rw [e1]; rfl)
  rw [hl, h1] at hm
  simp at hm
  omega

theorem val_big {l : List UInt8} (m : Bool) (h : valL l m = if m = true then (if natVal l ≤ 9223372036854775808 then some (-(natVal l : Int)) else none) else (if natVal l ≤ 9223372036854775807 then some (natVal l : Int) else none))
    (hb : 9223372036854775808 < natVal l) : valL l m = none := by
  rw [h]
  split
  · rw [if_neg (by omega)]
  · rw [if_neg (by omega)]

set_option maxRecDepth 100000 in
set_option maxHeartbeats 4000000 in
theorem value_any (s : ByteArray) (minus : Bool) (w : World) (hs : s.size ≤ maxLen) (hd : ∀ (j : Nat) (hj : j < s.size), isDigB (s[j]) = true) :
    Calls Tryz.prog 183 #[.string s, .bool minus] w fun e w' => e = .returned (.tuple #[.int .i64 (valN s.data.toList minus), .bool (valOk s.data.toList minus)]) ∧ Below w.heap.size w w' := by
  unfold maxLen at hs
  have Hd := Lib.hid hd
  clear hd
  by_cases h0 : s.size = 0
  · obtain rfl : s = ⟨#[]⟩ := by
      cases s with
      | mk d => simp [ByteArray.size] at h0; rw [h0]
    clear h0
    go_enter Tryz.func183, Tryz.ntmps183
    go_wp2
    go_ret2
    exact ⟨retVal (by simp [valN, valL]) (by simp [valOk, valL]), Below.refl _ _⟩
  · have hp : 0 < s.size := by omega
    clear h0
    obtain ⟨hE, hE2⟩ := bytes_ne s hp
    have hb : ((s[0]'hp).toNat : Int) < 256 := by have := (s[0]'hp).toNat_lt; omega
    by_cases h48 : ((s[0]'hp).toNat : Int) = 48
    · have H48 := Lib.hid h48
      have e48 : (((s[0]'hp).toNat : Int) == 48) = true := by simp [h48]
      clear h48
      cases minus
      · by_cases h1 : 1 < s.size
        · go_enter Tryz.func183, Tryz.ntmps183
          go_wp2
          go_ret2
          exact ⟨retVal (by rw [valN, val_lead s hp H48.out (.inr h1)]; rfl) (by rw [valOk, val_lead s hp H48.out (.inr h1)]; rfl), Below.refl _ _⟩
        · have Hv := Lib.hid (val_plain s hp (m := false) (fun _ => ⟨rfl, h1⟩))
          go_enter Tryz.func183, Tryz.ntmps183
          go_wp2
          go_loopw [6, 8, 9] (fun n _ _ w' => ∃ k : Nat, k ≤ s.size ∧ w' = w.iter s k ∧ n = .int .i64 (-(natVal (s.data.toList.take k) : Int)) ∧ natVal (s.data.toList.take k) ≤ 9223372036854775808) (fun _ _ _ w' => s.size - w'.iterPos w.heap.size)
          case atStart => exact ⟨0, Nat.zero_le _, rfl, by simp [natVal], by simp [natVal]⟩
          case round =>
            obtain ⟨k, hk, rfl, rfl, hn⟩ := hrel
            by_cases hlt : k < s.size
            · have hdk := Hd.out k hlt
              have hdr := digB_bounds hdk
              have ha : (s[k]'hlt).toNat < 128 := by omega
              have hnx := fun ty => run_next_ascii (P := Tryz.prog) w s k ty hlt ha
              have hsucc := natVal_take_succ s.data.toList k (by simpa using hlt)
              have hsk : (s.data.toList[k]'(by simpa using hlt)) = s[k]'hlt := rfl
              rw [hsk] at hsucc
              have Hs := Lib.hid hsucc
              clear hsucc hsk hdk
              obtain ⟨v, hv⟩ : ∃ v : Nat, natVal (s.data.toList.take k) = v := ⟨_, rfl⟩
              obtain ⟨c, hc⟩ : ∃ c : Nat, (s[k]'hlt).toNat = c := ⟨_, rfl⟩
              have Hvv := Lib.hid hv
              have Hcc := Lib.hid hc
              rw [hv] at hn ⊢
              rw [hc] at hnx hdr
              clear hv hc ha
              have hdiv : (-9223372036854775808 + ((c : Int) - 48)).tdiv 10 = -((9223372036854775808 - (c - 48)) / 10 : Nat) := tdiv_min c hdr
              go_wp2_with fail
              · have hlt' : ((9223372036854775808 - (c - 48) : Nat) : Int) / 10 < (v : Int) := by assumption
                have hbig : 9223372036854775808 < natVal s.data.toList := by
                  have h1 := natVal_take_all s.data.toList (k + 1)
                  have h2 := Hs.out
                  rw [Hvv.out, Hcc.out] at h2
                  omega
                go_ret2
                have hv0 := val_big false Hv.out hbig
                exact ⟨retVal (by rw [valN, hv0]; rfl) (by rw [valOk, hv0]; rfl), below_iter _ _ _⟩
              · have hge' : (v : Int) ≤ ((9223372036854775808 - (c - 48) : Nat) : Int) / 10 := by assumption
                have h2 := Hs.out
                rw [Hvv.out, Hcc.out] at h2
                have H2 := Lib.hid h2
                clear h2
                go_roundw
                case rel => exact ⟨k + 1, by omega, rfl, by (rw [H2.out]; congr 1; omega), by rw [H2.out]; omega⟩
                case measure => simp; omega
            · have hnx := fun ty => run_next_end (P := Tryz.prog) w s k ty hlt
              have hall : s.data.toList.take k = s.data.toList := List.take_of_length_le (by simp; omega)
              rw [hall] at hn ⊢
              clear hall
              obtain ⟨v, hv⟩ : ∃ v : Nat, natVal s.data.toList = v := ⟨_, rfl⟩
              have Hvv := Lib.hid hv
              rw [hv] at hn ⊢
              clear hv
              by_cases hmin : v = 9223372036854775808
              · have emin : ((-(v : Int)) == -9223372036854775808) = true := by simp [hmin]
                have Hm := Lib.hid hmin
                clear hmin
                go_wp2_with fail
                go_ret2
                exact ⟨retVal (by rw [valN, Hv.out, Hvv.out, Hm.out]; rfl) (by rw [valOk, Hv.out, Hvv.out, Hm.out]; rfl), below_iter _ _ _⟩
              · have emin : ((-(v : Int)) == -9223372036854775808) = false := by simp; omega
                go_wp2_with fail
                go_ret2
                exact ⟨retVal (by rw [valN, Hv.out, Hvv.out, if_neg (by decide), if_pos (by omega)]; simp) (by rw [valOk, Hv.out, Hvv.out, if_neg (by decide), if_pos (by omega)]; simp), below_iter _ _ _⟩

      · go_enter Tryz.func183, Tryz.ntmps183
        go_wp2
        go_ret2
        exact ⟨retVal (by rw [valN, val_lead s hp H48.out (.inl rfl)]; rfl) (by rw [valOk, val_lead s hp H48.out (.inl rfl)]; rfl), Below.refl _ _⟩
    · have H48 := Lib.hid h48
      have e48 : (((s[0]'hp).toNat : Int) == 48) = false := by simp [h48]
      have Hv := Lib.hid (val_plain s hp (m := minus) (fun h => absurd h h48))
      clear h48
      go_enter Tryz.func183, Tryz.ntmps183
      go_wp2
      go_loopw [6, 8, 9] (fun n _ _ w' => ∃ k : Nat, k ≤ s.size ∧ w' = w.iter s k ∧ n = .int .i64 (-(natVal (s.data.toList.take k) : Int)) ∧ natVal (s.data.toList.take k) ≤ 9223372036854775808) (fun _ _ _ w' => s.size - w'.iterPos w.heap.size)
      case atStart => exact ⟨0, Nat.zero_le _, rfl, by simp [natVal], by simp [natVal]⟩
      case round =>
        obtain ⟨k, hk, rfl, rfl, hn⟩ := hrel
        by_cases hlt : k < s.size
        · have hdk := Hd.out k hlt
          have hdr := digB_bounds hdk
          have ha : (s[k]'hlt).toNat < 128 := by omega
          have hnx := fun ty => run_next_ascii (P := Tryz.prog) w s k ty hlt ha
          have hsucc := natVal_take_succ s.data.toList k (by simpa using hlt)
          have hsk : (s.data.toList[k]'(by simpa using hlt)) = s[k]'hlt := rfl
          rw [hsk] at hsucc
          have Hs := Lib.hid hsucc
          clear hsucc hsk hdk
          obtain ⟨v, hv⟩ : ∃ v : Nat, natVal (s.data.toList.take k) = v := ⟨_, rfl⟩
          obtain ⟨c, hc⟩ : ∃ c : Nat, (s[k]'hlt).toNat = c := ⟨_, rfl⟩
          have Hvv := Lib.hid hv
          have Hcc := Lib.hid hc
          rw [hv] at hn ⊢
          rw [hc] at hnx hdr
          clear hv hc ha
          have hdiv : (-9223372036854775808 + ((c : Int) - 48)).tdiv 10 = -((9223372036854775808 - (c - 48)) / 10 : Nat) := tdiv_min c hdr
          go_wp2_with fail
          · have hlt' : ((9223372036854775808 - (c - 48) : Nat) : Int) / 10 < (v : Int) := by assumption
            have hbig : 9223372036854775808 < natVal s.data.toList := by
              have h1 := natVal_take_all s.data.toList (k + 1)
              have h2 := Hs.out
              rw [Hvv.out, Hcc.out] at h2
              omega
            go_ret2
            have hv0 := val_big minus Hv.out hbig
            exact ⟨retVal (by rw [valN, hv0]; rfl) (by rw [valOk, hv0]; rfl), below_iter _ _ _⟩
          · have hge' : (v : Int) ≤ ((9223372036854775808 - (c - 48) : Nat) : Int) / 10 := by assumption
            have h2 := Hs.out
            rw [Hvv.out, Hcc.out] at h2
            have H2 := Lib.hid h2
            clear h2
            go_roundw
            case rel => exact ⟨k + 1, by omega, rfl, by (rw [H2.out]; congr 1; omega), by rw [H2.out]; omega⟩
            case measure => simp; omega
        · have hnx := fun ty => run_next_end (P := Tryz.prog) w s k ty hlt
          have hall : s.data.toList.take k = s.data.toList := List.take_of_length_le (by simp; omega)
          rw [hall] at hn ⊢
          clear hall
          obtain ⟨v, hv⟩ : ∃ v : Nat, natVal s.data.toList = v := ⟨_, rfl⟩
          have Hvv := Lib.hid hv
          rw [hv] at hn ⊢
          clear hv
          cases minus
          · by_cases hmin : v = 9223372036854775808
            · have emin : ((-(v : Int)) == -9223372036854775808) = true := by simp [hmin]
              have Hm := Lib.hid hmin
              clear hmin
              go_wp2_with fail
              go_ret2
              exact ⟨retVal (by rw [valN, Hv.out, Hvv.out, Hm.out]; rfl) (by rw [valOk, Hv.out, Hvv.out, Hm.out]; rfl), below_iter _ _ _⟩
            · have emin : ((-(v : Int)) == -9223372036854775808) = false := by simp; omega
              go_wp2_with fail
              go_ret2
              exact ⟨retVal (by rw [valN, Hv.out, Hvv.out, if_neg (by decide), if_pos (by omega)]; simp) (by rw [valOk, Hv.out, Hvv.out, if_neg (by decide), if_pos (by omega)]; simp), below_iter _ _ _⟩
          · go_wp2_with fail
            go_ret2
            exact ⟨retVal (by rw [valN, Hv.out, Hvv.out]; simp [hn]) (by rw [valOk, Hv.out, Hvv.out]; simp [hn]), below_iter _ _ _⟩

end Go.Proofs.YtajjikbigacbaaaGreatDoor
namespace Go.Proofs.YtajjikbigacbaaaGreatDoor
open Go.RowKit Num

def takeN (l : List UInt8) : Int := match takeL l with | some (n, _) => n | none => 0
def takeR (l : List UInt8) : List UInt8 := match takeL l with | some (_, r) => r | none => []
def takeE (l : List UInt8) : Int := match takeL l with | some _ => 0 | none => 4

theorem trimPrefix_45 (l : List UInt8) : Lib.trimPrefix l [45] = unsig l ∧ Lib.hasPrefix l [45] = minusB l := by
  cases l with
  | nil => exact ⟨rfl, rfl⟩
  | cons x l =>
    have e : Lib.hasPrefix (x :: l) [45] = minusB (x :: l) := by
      by_cases h : x = 45
      · subst h; rfl
      · have h' : ¬ (45 : UInt8) = x := fun e => h e.symm
        have e1 : (45 == x) = false := by simpa using h'
        have e2 : (x == 45) = false := by simpa using h
        simp [Lib.hasPrefix, minusB, List.isPrefixOf, e1, e2]
    refine ⟨?_, e⟩
    rw [Lib.trimPrefix, unsig, e]
    rfl

def unsigB (s : ByteArray) : ByteArray := ⟨(unsig s.data.toList).toArray⟩
theorem cutMinus (s : ByteArray) (w : World) :
    Calls Tryz.prog 181 #[.string s, .string ⟨#[45]⟩] w fun e w' => e = .returned (.tuple #[.string (unsigB s), .bool (minusB s.data.toList)]) ∧ w = w' := by
  refine (Tryz.strings_CutPrefix s ⟨#[45]⟩ w).mono fun e w' ⟨he, hw⟩ => ⟨?_, hw.symm⟩
  obtain ⟨t1, t2⟩ := trimPrefix_45 s.data.toList
  rw [he, show (⟨#[45]⟩ : ByteArray).data.toList = [45] from rfl, t1, t2]
  rfl
theorem unsig_le (l : List UInt8) : (unsig l).length ≤ l.length := by
  unfold unsig
  split <;> simp
theorem unsigB_size (s : ByteArray) : (unsigB s).size ≤ s.size := by
  have := unsig_le s.data.toList
  show (unsig s.data.toList).toArray.size ≤ s.data.size
  rw [List.size_toArray]
  rwa [Array.length_toList] at this
theorem unsigB_toList (s : ByteArray) : (unsigB s).data.toList = unsig s.data.toList := rfl

theorem extract_digits (u : ByteArray) (k : Nat) (hk : cnt u.data.toList = k) : ∀ (j : Nat) (hj : j < (u.extract 0 k).size), isDigB ((u.extract 0 k)[j]'hj) = true := by
  intro j hj
  have e : (u.extract 0 k).data.toList = u.data.toList.take k := by
    rw [Lib.extract_data]
    simp
  have hl : (u.extract 0 k).data.toList.length = (u.extract 0 k).size := by simp
  have h1 : (u.extract 0 k).data.toList[j]'(by omega) = (u.extract 0 k)[j]'hj := rfl
  rw [← h1]
  have hj2 : j < k := by
    rw [e, List.length_take] at hl
    omega
  have h2 : (u.extract 0 k).data.toList[j]? = u.data.toList[j]? := by rw [e, List.getElem?_take, if_pos hj2]
  have hj3 : j < u.data.toList.length := by
    have := cnt_le u.data.toList
    omega
  rw [List.getElem?_eq_getElem (by omega), List.getElem?_eq_getElem hj3] at h2
  rw [Option.some.inj h2]
  exact cnt_digits _ _ hj3 (by omega)
theorem extract_take (u : ByteArray) (k : Nat) : (u.extract 0 k).data.toList = u.data.toList.take k := by
  rw [Lib.extract_data]
  simp
theorem extract_le (u : ByteArray) (k : Nat) : (u.extract 0 k).size ≤ u.size := by
  rw [ByteArray.size_extract]
  omega
theorem take_res (l : List UInt8) {m : Bool} {ul : List UInt8} {k : Nat} (hm : minusB l = m) (hu : unsig l = ul) (hk : cnt ul = k) :
    takeL l = (valL (ul.take k) m).map fun n => (n, ul.drop k) := by
  subst hm; subst hu; subst hk; rfl

theorem extract_drop (u : ByteArray) (k : Nat) : (u.extract k u.size).data.toList = u.data.toList.drop k := by
  rw [Lib.extract_data, List.take_of_length_le (by simp)]
theorem tk_none {l : List UInt8} (h : takeL l = none) :
    Ending.returned (.tuple #[.int .i64 0, .string ⟨#[]⟩, .int .i64 4]) = .returned (.tuple #[.int .i64 (takeN l), .string ⟨(takeR l).toArray⟩, .int .i64 (takeE l)]) := by
  simp only [takeN, takeR, takeE, h]
theorem tk_some {l : List UInt8} {n : Int} {b : ByteArray} (h : takeL l = some (n, b.data.toList)) :
    Ending.returned (.tuple #[.int .i64 n, .string b, .int .i64 0]) = .returned (.tuple #[.int .i64 (takeN l), .string ⟨(takeR l).toArray⟩, .int .i64 (takeE l)]) := by
  simp only [takeN, takeR, takeE, h]

set_option maxRecDepth 100000 in
set_option maxHeartbeats 4000000 in
theorem take_any (s : ByteArray) (w : World) (hs : s.size ≤ maxLen) :
    Calls Tryz.prog 155 #[.string s] w fun e w' => e = .returned (.tuple #[.int .i64 (takeN s.data.toList), .string ⟨(takeR s.data.toList).toArray⟩, .int .i64 (takeE s.data.toList)]) ∧ Below w.heap.size w w' := by
  have hus := unsigB_size s
  have hul := unsigB_toList s
  have Hul := Lib.hid hul
  clear hul
  obtain ⟨m, hm⟩ : ∃ m, minusB s.data.toList = m := ⟨_, rfl⟩
  have Hm := Lib.hid hm
  clear hm
  obtain ⟨u, hu⟩ : ∃ u, unsigB s = u := ⟨_, rfl⟩
  have Hu := Lib.hid hu
  clear hu
  rw [Hu.out] at hus
  have hkl := cnt_le u.data.toList
  obtain ⟨k, hk⟩ : ∃ k, cnt u.data.toList = k := ⟨_, rfl⟩
  have Hk := Lib.hid hk
  clear hk
  rw [Hk.out] at hkl
  have hks : k ≤ u.size := by simpa using hkl
  clear hkl
  unfold maxLen at hs
  go_enter Tryz.func155, Tryz.ntmps155
  go_wp2_with fail
  refine (cutMinus _ _).mono ?_
  rintro e w' ⟨rfl, rfl⟩
  rw [Hm.out, Hu.out]
  go_wp2_with fail
  refine (countDigits_any _ _).mono ?_
  rintro e w' ⟨rfl, hb1⟩
  rw [Hk.out]
  go_wp2_with fail
  have hul2 : u.data.toList = unsig s.data.toList := by rw [← Hu.out]; exact Hul.out
  have HT := Lib.hid (take_res s.data.toList Hm.out hul2.symm Hk.out)
  clear hul2
  have hxl := extract_le u k
  refine (value_any (u.extract 0 k) m _ (by unfold maxLen; omega) (extract_digits u k Hk.out)).mono ?_
  rintro e w2 ⟨rfl, hb2⟩
  rw [extract_take]
  cases hv : valL (u.data.toList.take k) m with
  | none =>
    have e1 : valN (u.data.toList.take k) m = 0 := by rw [valN, hv]; rfl
    have e2 : valOk (u.data.toList.take k) m = false := by rw [valOk, hv]; rfl
    rw [e1, e2]
    have Hv := Lib.hid hv
    clear hv e1 e2
    go_wp2_with fail
    go_ret3
    exact ⟨tk_none (by rw [HT.out, Hv.out]; rfl), below_join hb1 hb2⟩
  | some n =>
    have e1 : valN (u.data.toList.take k) m = n := by rw [valN, hv]; rfl
    have e2 : valOk (u.data.toList.take k) m = true := by rw [valOk, hv]; rfl
    rw [e1, e2]
    have Hv := Lib.hid hv
    clear hv e1 e2
    go_wp2_with fail
    go_quiet (fail)
    go_wp2_with fail
    go_ret3
    exact ⟨tk_some (by rw [HT.out, Hv.out, extract_drop]; rfl), below_drewN (below_join hb1 hb2) _⟩

def readN (l : List UInt8) : Int := match takeL l with | some (n, []) => n | _ => 0
def readE (l : List UInt8) : Int := match takeL l with | some (_, []) => 0 | _ => 4
theorem read_none {l : List UInt8} (h : takeE l = 4 ∨ takeR l ≠ []) : Ending.returned (.tuple #[.int .i64 0, .int .i64 4]) = .returned (.tuple #[.int .i64 (readN l), .int .i64 (readE l)]) := by
  unfold takeE takeR at h
  unfold readN readE
  cases hl : takeL l with
  | none => rfl
  | some p =>
    obtain ⟨n, r⟩ := p
    cases r with
    | nil => simp [hl] at h
    | cons x r => rfl
theorem read_some {l : List UInt8} (h : takeE l = 0) (h' : takeR l = []) : Ending.returned (.tuple #[.int .i64 (takeN l), .int .i64 0]) = .returned (.tuple #[.int .i64 (readN l), .int .i64 (readE l)]) := by
  unfold takeE at h
  unfold takeR at h'
  unfold readN readE takeN
  cases hl : takeL l with
  | none => simp [hl] at h
  | some p =>
    obtain ⟨n, r⟩ := p
    simp [hl] at h'
    subst h'
    rfl
theorem takeE_cases (l : List UInt8) : takeE l = 0 ∨ takeE l = 4 := by
  unfold takeE
  split
  · exact .inl rfl
  · exact .inr rfl

set_option maxHeartbeats 1000000 in
theorem read_any (s : ByteArray) (w : World) (hs : s.size ≤ maxLen) :
    Calls Tryz.prog 128 #[.string s] w fun e w' => e = .returned (.tuple #[.int .i64 (readN s.data.toList), .int .i64 (readE s.data.toList)]) ∧ Below w.heap.size w w' := by
  rcases takeE_cases s.data.toList with he | he
  · have He := Lib.hid he
    clear he
    cases hr : takeR s.data.toList with
    | nil =>
      have Hr := Lib.hid hr
      clear hr
      go_enter Tryz.func128, Tryz.ntmps128
      go_wp2_with fail
      refine (take_any _ _ hs).mono ?_
      rintro e w' ⟨rfl, hb⟩
      rw [He.out, Hr.out]
      go_wp2_with fail
      go_ret2
      exact ⟨read_some He.out Hr.out, hb⟩
    | cons x r =>
      have Hr := Lib.hid hr
      clear hr
      go_enter Tryz.func128, Tryz.ntmps128
      go_wp2_with fail
      refine (take_any _ _ hs).mono ?_
      rintro e w' ⟨rfl, hb⟩
      rw [He.out, Hr.out]
      have hne : (⟨(x :: r).toArray⟩ : ByteArray).toList.isEmpty = false := by rw [Lib.toList_data]; rfl
      go_wp2_with fail
      go_ret2
      exact ⟨read_none (.inr (by rw [Hr.out]; exact List.cons_ne_nil _ _)), hb⟩
  · have He := Lib.hid he
    clear he
    go_enter Tryz.func128, Tryz.ntmps128
    go_wp2_with fail
    refine (take_any _ _ hs).mono ?_
    rintro e w' ⟨rfl, hb⟩
    rw [He.out]
    go_wp2_with fail
    go_ret2
    exact ⟨read_none (.inl He.out), hb⟩
end Go.Proofs.YtajjikbigacbaaaGreatDoor
