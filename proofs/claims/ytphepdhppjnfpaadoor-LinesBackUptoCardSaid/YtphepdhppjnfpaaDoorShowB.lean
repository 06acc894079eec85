import Derived.Test.YtphepdhppjnfpaaDoorShowA
namespace Go.Proofs.YtphepdhppjnfpaaDoor
open Go.RowKit Num

def shownT (l : List UInt8) : List UInt8 := match shownL l with | some (t, _) => t | none => []
def shownR (l : List UInt8) : List UInt8 := match shownL l with | some (_, r) => r | none => []
def shownE (l : List UInt8) : Int := match shownL l with | some _ => 0 | none => 4
theorem sh_none {l : List UInt8} (h : shownL l = none) :
    Ending.returned (.tuple #[.string ⟨#[]⟩, .string ⟨#[]⟩, .int .i64 4]) = .returned (.tuple #[.string ⟨(shownT l).toArray⟩, .string ⟨(shownR l).toArray⟩, .int .i64 (shownE l)]) := by
  simp only [shownT, shownR, shownE, h]
theorem sh_some {l t r : List UInt8} {a b : ByteArray} (h : shownL l = some (t, r)) (ha : a.data.toList = t) (hb : b.data.toList = r) :
    Ending.returned (.tuple #[.string a, .string b, .int .i64 0]) = .returned (.tuple #[.string ⟨(shownT l).toArray⟩, .string ⟨(shownR l).toArray⟩, .int .i64 (shownE l)]) := by
  subst ha; subst hb
  simp only [shownT, shownR, shownE, h]
theorem take_some {l : List UInt8} (h : takeE l = 0) : takeL l = some (takeN l, takeR l) := by
  unfold takeE at h
  unfold takeN takeR
  cases hl : takeL l with
  | none => simp [hl] at h
  | some p => rfl
theorem take_none {l : List UInt8} (h : takeE l = 4) : takeL l = none := by
  unfold takeE at h
  cases hl : takeL l with
  | none => rfl
  | some p => simp [hl] at h
theorem take_range (l : List UInt8) : -9223372036854775808 ≤ takeN l ∧ takeN l ≤ 9223372036854775807 := by
  unfold takeN
  cases hl : takeL l with
  | none => exact ⟨by decide, by decide⟩
  | some p =>
    obtain ⟨n, r⟩ := p
    rw [takeL, Option.map_eq_some_iff] at hl
    obtain ⟨m, hm, he⟩ := hl
    cases he
    show -9223372036854775808 ≤ n ∧ n ≤ 9223372036854775807
    unfold valL at hm
    split at hm
    · cases hm
    · split at hm
      · cases hm
      · split at hm
        · split at hm
          · cases hm; omega
          · cases hm
        · split at hm
          · cases hm; omega
          · cases hm
theorem takeR_len (l : List UInt8) : (takeR l).length ≤ l.length := by
  unfold takeR
  cases hl : takeL l with
  | none => simp
  | some p =>
    obtain ⟨n, r⟩ := p
    rw [takeL, Option.map_eq_some_iff] at hl
    obtain ⟨m, hm, he⟩ := hl
    cases he
    show ((unsig l).drop (cnt (unsig l))).length ≤ l.length
    have := unsig_le l
    rw [List.length_drop]
    omega
/-- what strings.CutPrefix leaves of a text, at a prefix of one byte -/
theorem cutOne_yes (c : UInt8) (b b' : ByteArray) (r : List UInt8) (hb : b.data.toList = c :: r) (hb' : b' = ⟨r.toArray⟩) (w : World) :
    Calls Tryd.prog 29 #[.string b, .string ⟨#[c]⟩] w fun e w' => e = .returned (.tuple #[.string b', .bool true]) ∧ w = w' := by
  refine (Tryd.strings_CutPrefix b ⟨#[c]⟩ w).mono fun e w' ⟨he, hw⟩ => ⟨?_, hw.symm⟩
  have e1 : Lib.hasPrefix b.data.toList [c] = true := by simp [Lib.hasPrefix, hb, List.isPrefixOf]
  rw [he, show (⟨#[c]⟩ : ByteArray).data.toList = [c] from rfl, Lib.trimPrefix, e1, hb', hb]
  rfl
theorem cutOne_no (c : UInt8) (b : ByteArray) (hb : b.data.toList[0]? ≠ some c) (w : World) :
    Calls Tryd.prog 29 #[.string b, .string ⟨#[c]⟩] w fun e w' => e = .returned (.tuple #[.string b, .bool false]) ∧ w = w' := by
  refine (Tryd.strings_CutPrefix b ⟨#[c]⟩ w).mono fun e w' ⟨he, hw⟩ => ⟨?_, hw.symm⟩
  have e1 : Lib.hasPrefix b.data.toList [c] = false := by
    cases hl : b.data.toList with
    | nil => rfl
    | cons x l =>
      have h1 : (c == x) = false := by
        rw [beq_eq_false_iff_ne]
        rintro rfl
        exact hb (by rw [hl]; rfl)
      simp [Lib.hasPrefix, List.isPrefixOf, h1]
  rw [he, show (⟨#[c]⟩ : ByteArray).data.toList = [c] from rfl, Lib.trimPrefix, e1]
  rfl

set_option maxRecDepth 100000 in
set_option maxHeartbeats 4000000 in
theorem shown_any (s : ByteArray) (w : World) (hs : s.size ≤ maxLen) :
    Calls Tryd.prog 12 #[.string s] w fun e w' => e = .returned (.tuple #[.string ⟨(shownT s.data.toList).toArray⟩, .string ⟨(shownR s.data.toList).toArray⟩, .int .i64 (shownE s.data.toList)]) ∧ Below w.heap.size w w' := by
  rcases takeE_cases s.data.toList with he | he
  · have HT := Lib.hid (take_some he)
    have He := Lib.hid he
    have hrange := take_range s.data.toList
    have hRl := takeR_len s.data.toList
    obtain ⟨n, hn⟩ : ∃ n, takeN s.data.toList = n := ⟨_, rfl⟩
    have Hn := Lib.hid hn
    rw [hn] at hrange
    obtain ⟨rl, hrl⟩ : ∃ rl, takeR s.data.toList = rl := ⟨_, rfl⟩
    have Hrl := Lib.hid hrl
    rw [hrl, Array.length_toList] at hRl
    obtain ⟨b, hb⟩ : ∃ b : ByteArray, (⟨rl.toArray⟩ : ByteArray) = b := ⟨_, rfl⟩
    have Hb := Lib.hid hb
    have Hbl := Lib.hid (show b.data.toList = rl by rw [← hb])
    have hss : s.data.size = s.size := rfl
    obtain ⟨hr1, hr2⟩ := hrange
    clear he hn hrl hb
    unfold maxLen at hs
    by_cases hc : b.data.toList[0]? = some 58
    · obtain ⟨r, hr⟩ : ∃ r, b.data.toList = 58 :: r := by
        cases hl : b.data.toList with
        | nil => rw [hl] at hc; cases hc
        | cons x r => rw [hl] at hc; cases hc; exact ⟨r, rfl⟩
      have Hr := Lib.hid hr
      obtain ⟨q, hq⟩ : ∃ q : ByteArray, (⟨r.toArray⟩ : ByteArray) = q := ⟨_, rfl⟩
      have Hq := Lib.hid hq
      have Hql := Lib.hid (show q.data.toList = r by rw [← hq])
      have hqs : q.size ≤ s.size := by
        have h1 : rl = 58 :: r := by rw [← Hbl.out]; exact hr
        rw [h1] at hRl
        have h2 : q.data.toList.length = q.size := by simp
        rw [Hql.out] at h2
        simp at hRl
        omega
      clear hc hr hq hss hRl
      have HTT : Hid (takeL s.data.toList = some (n, 58 :: q.data.toList)) := by
        show _ = _
        rw [HT.out, Hn.out, Hrl.out, ← Hbl.out, Hr.out, Hql.out]
      by_cases hneg : n < 0
      · have HN := Lib.hid (shownL_no HTT.out (by rintro ⟨_, h, _⟩; omega))
        go_enter Tryd.func12, Tryd.ntmps12
        go_wp2_with fail
        refine (take_any _ _ (by unfold maxLen; omega)).mono ?_
        rintro e w1 ⟨rfl, hb1⟩
        rw [Hn.out, Hrl.out, He.out, Hb.out]
        go_wp2_with fail
        refine (cutOne_yes 58 b q r Hr.out Hq.out.symm _).mono ?_
        rintro e w2 ⟨rfl, rfl⟩
        go_wp2_with fail
        go_ret3
        exact ⟨sh_none HN.out, hb1⟩
      · obtain ⟨k, rfl⟩ : ∃ k : Nat, n = k := ⟨n.toNat, by omega⟩
        by_cases hk : k ≤ q.size
        · have HS := Lib.hid (shownL_yes HTT.out (by simpa using hk))
          go_enter Tryd.func12, Tryd.ntmps12
          go_wp2_with fail
          refine (take_any _ _ (by unfold maxLen; omega)).mono ?_
          rintro e w1 ⟨rfl, hb1⟩
          rw [Hn.out, Hrl.out, He.out, Hb.out]
          go_wp2_with fail
          refine (cutOne_yes 58 b q r Hr.out Hq.out.symm _).mono ?_
          rintro e w2 ⟨rfl, rfl⟩
          go_wp2_with fail
          go_quiet (fail)
          go_wp2
          go_ret3
          exact ⟨sh_some HS.out (extract_take _ _) (extract_drop _ _), below_drewN hb1 _⟩
        · have HN := Lib.hid (shownL_no HTT.out (by rintro ⟨_, _, h⟩; simp at h; omega))
          go_enter Tryd.func12, Tryd.ntmps12
          go_wp2_with fail
          refine (take_any _ _ (by unfold maxLen; omega)).mono ?_
          rintro e w1 ⟨rfl, hb1⟩
          rw [Hn.out, Hrl.out, He.out, Hb.out]
          go_wp2_with fail
          refine (cutOne_yes 58 b q r Hr.out Hq.out.symm _).mono ?_
          rintro e w2 ⟨rfl, rfl⟩
          go_wp2_with fail
          go_ret3
          exact ⟨sh_none HN.out, hb1⟩
    · have HN : Hid (shownL s.data.toList = none) := by
        show _ = _
        cases hl : rl with
        | nil => exact shownL_nil (n := n) (by rw [HT.out, Hn.out, Hrl.out, hl])
        | cons c r =>
          refine shownL_no (n := n) (c := c) (r := r) (by rw [HT.out, Hn.out, Hrl.out, hl]) ?_
          rintro ⟨rfl, _⟩
          exact hc (by rw [Hbl.out, hl]; rfl)
      have Hc := Lib.hid hc
      clear hc
      go_enter Tryd.func12, Tryd.ntmps12
      go_wp2_with fail
      refine (take_any _ _ (by unfold maxLen; omega)).mono ?_
      rintro e w1 ⟨rfl, hb1⟩
      rw [Hn.out, Hrl.out, He.out, Hb.out]
      go_wp2_with fail
      refine (cutOne_no 58 b Hc.out _).mono ?_
      rintro e w2 ⟨rfl, rfl⟩
      go_wp2_with fail
      go_ret3
      exact ⟨sh_none HN.out, hb1⟩
  · have HN := Lib.hid (shownL_none (take_none he))
    have He := Lib.hid he
    clear he
    go_enter Tryd.func12, Tryd.ntmps12
    go_wp2_with fail
    refine (take_any _ _ hs).mono ?_
    rintro e w' ⟨rfl, hb⟩
    rw [He.out]
    go_wp2_with fail
    go_ret3
    exact ⟨sh_none HN.out, hb⟩
end Go.Proofs.YtphepdhppjnfpaaDoor
