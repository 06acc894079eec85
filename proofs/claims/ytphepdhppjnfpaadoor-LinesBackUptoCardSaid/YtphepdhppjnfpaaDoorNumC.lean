import Derived.Test.YtphepdhppjnfpaaDoorNumB
namespace Go.Proofs.YtphepdhppjnfpaaDoor
open Go.RowKit Num

def takeN (l : List UInt8) : Int := match takeL l with | some (n, _) => n | none => 0
def takeR (l : List UInt8) : List UInt8 := match takeL l with | some (_, r) => r | none => []
def takeE (l : List UInt8) : Int := match takeL l with | some _ => 0 | none => 4

theorem trimPrefix_45 (l : List UInt8) : Lib.trimPrefix l [45] = unsig l ∧ Lib.hasPrefix l [45] = minusB l := by
  cases l with
  | nil => exact ⟨rfl, rfl⟩
  | cons x l =>
    have e : Lib.hasPrefix (x :: l) [45] = minusB (x :: l) := by
      by_cases h : x = 45
      · subst h; rfl
      · have h' : ¬ (45 : UInt8) = x := fun e => h e.symm
        have e1 : (45 == x) = false := by simpa using h'
        have e2 : (x == 45) = false := by simpa using h
        simp [Lib.hasPrefix, minusB, List.isPrefixOf, e1, e2]
    refine ⟨?_, e⟩
    rw [Lib.trimPrefix, unsig, e]
    rfl

def unsigB (s : ByteArray) : ByteArray := ⟨(unsig s.data.toList).toArray⟩
theorem cutMinus (s : ByteArray) (w : World) :
    Calls Tryd.prog 29 #[.string s, .string ⟨#[45]⟩] w fun e w' => e = .returned (.tuple #[.string (unsigB s), .bool (minusB s.data.toList)]) ∧ w = w' := by
  refine (Tryd.strings_CutPrefix s ⟨#[45]⟩ w).mono fun e w' ⟨he, hw⟩ => ⟨?_, hw.symm⟩
  obtain ⟨t1, t2⟩ := trimPrefix_45 s.data.toList
  rw [he, show (⟨#[45]⟩ : ByteArray).data.toList = [45] from rfl, t1, t2]
  rfl
theorem unsig_le (l : List UInt8) : (unsig l).length ≤ l.length := by
  unfold unsig
  split <;> simp
theorem unsigB_size (s : ByteArray) : (unsigB s).size ≤ s.size := by
  have := unsig_le s.data.toList
  show (unsig s.data.toList).toArray.size ≤ s.data.size
  rw [List.size_toArray]
  rwa [Array.length_toList] at this
theorem unsigB_toList (s : ByteArray) : (unsigB s).data.toList = unsig s.data.toList := rfl

theorem extract_digits (u : ByteArray) (k : Nat) (hk : cnt u.data.toList = k) : ∀ (j : Nat) (hj : j < (u.extract 0 k).size), digB ((u.extract 0 k)[j]'hj) = true := by
  intro j hj
  have e : (u.extract 0 k).data.toList = u.data.toList.take k := by
    rw [Lib.extract_data]
    simp
  have hl : (u.extract 0 k).data.toList.length = (u.extract 0 k).size := by simp
  have h1 : (u.extract 0 k).data.toList[j]'(by omega) = (u.extract 0 k)[j]'hj := rfl
  rw [← h1]
  have hj2 : j < k := by
    rw [e, List.length_take] at hl
    omega
  have h2 : (u.extract 0 k).data.toList[j]? = u.data.toList[j]? := by rw [e, List.getElem?_take, if_pos hj2]
  have hj3 : j < u.data.toList.length := by
    have := cnt_le u.data.toList
    omega
  rw [List.getElem?_eq_getElem (by omega), List.getElem?_eq_getElem hj3] at h2
  rw [Option.some.inj h2]
  exact cnt_digits _ _ hj3 (by omega)
theorem extract_take (u : ByteArray) (k : Nat) : (u.extract 0 k).data.toList = u.data.toList.take k := by
  rw [Lib.extract_data]
  simp
theorem extract_le (u : ByteArray) (k : Nat) : (u.extract 0 k).size ≤ u.size := by
  rw [ByteArray.size_extract]
  omega
theorem take_res (l : List UInt8) {m : Bool} {ul : List UInt8} {k : Nat} (hm : minusB l = m) (hu : unsig l = ul) (hk : cnt ul = k) :
    takeL l = (valL (ul.take k) m).map fun n => (n, ul.drop k) := by
  subst hm; subst hu; subst hk; rfl

theorem extract_drop (u : ByteArray) (k : Nat) : (u.extract k u.size).data.toList = u.data.toList.drop k := by
  rw [Lib.extract_data, List.take_of_length_le (by simp)]
theorem tk_none {l : List UInt8} (h : takeL l = none) :
    Ending.returned (.tuple #[.int .i64 0, .string ⟨#[]⟩, .int .i64 4]) = .returned (.tuple #[.int .i64 (takeN l), .string ⟨(takeR l).toArray⟩, .int .i64 (takeE l)]) := by
  simp only [takeN, takeR, takeE, h]
theorem tk_some {l : List UInt8} {n : Int} {b : ByteArray} (h : takeL l = some (n, b.data.toList)) :
    Ending.returned (.tuple #[.int .i64 n, .string b, .int .i64 0]) = .returned (.tuple #[.int .i64 (takeN l), .string ⟨(takeR l).toArray⟩, .int .i64 (takeE l)]) := by
  simp only [takeN, takeR, takeE, h]

set_option maxRecDepth 100000 in
set_option maxHeartbeats 4000000 in
theorem take_any (s : ByteArray) (w : World) (hs : s.size ≤ maxLen) :
    Calls Tryd.prog 16 #[.string s] w fun e w' => e = .returned (.tuple #[.int .i64 (takeN s.data.toList), .string ⟨(takeR s.data.toList).toArray⟩, .int .i64 (takeE s.data.toList)]) ∧ Below w.heap.size w w' := by
  have hus := unsigB_size s
  have hul := unsigB_toList s
  have Hul := Lib.hid hul
  clear hul
  obtain ⟨m, hm⟩ : ∃ m, minusB s.data.toList = m := ⟨_, rfl⟩
  have Hm := Lib.hid hm
  clear hm
  obtain ⟨u, hu⟩ : ∃ u, unsigB s = u := ⟨_, rfl⟩
  have Hu := Lib.hid hu
  clear hu
  rw [Hu.out] at hus
  have hkl := cnt_le u.data.toList
  obtain ⟨k, hk⟩ : ∃ k, cnt u.data.toList = k := ⟨_, rfl⟩
  have Hk := Lib.hid hk
  clear hk
  rw [Hk.out] at hkl
  have hks : k ≤ u.size := by simpa using hkl
  clear hkl
  unfold maxLen at hs
  go_enter Tryd.func16, Tryd.ntmps16
  go_wp2_with fail
  refine (cutMinus _ _).mono ?_
  rintro e w' ⟨rfl, rfl⟩
  rw [Hm.out, Hu.out]
  go_wp2_with fail
  refine (countDigits_any _ _).mono ?_
  rintro e w' ⟨rfl, hb1⟩
  rw [Hk.out]
  go_wp2_with fail
  have hul2 : u.data.toList = unsig s.data.toList := by rw [← Hu.out]; exact Hul.out
  have HT := Lib.hid (take_res s.data.toList Hm.out hul2.symm Hk.out)
  clear hul2
  have hxl := extract_le u k
  refine (value_any (u.extract 0 k) m _ (by unfold maxLen; omega) (extract_digits u k Hk.out)).mono ?_
  rintro e w2 ⟨rfl, hb2⟩
  rw [extract_take]
  cases hv : valL (u.data.toList.take k) m with
  | none =>
    have e1 : valN (u.data.toList.take k) m = 0 := by rw [valN, hv]; rfl
    have e2 : valOk (u.data.toList.take k) m = false := by rw [valOk, hv]; rfl
    rw [e1, e2]
    have Hv := Lib.hid hv
    clear hv e1 e2
    go_wp2_with fail
    go_ret3
    exact ⟨tk_none (by rw [HT.out, Hv.out]; rfl), below_join hb1 hb2⟩
  | some n =>
    have e1 : valN (u.data.toList.take k) m = n := by rw [valN, hv]; rfl
    have e2 : valOk (u.data.toList.take k) m = true := by rw [valOk, hv]; rfl
    rw [e1, e2]
    have Hv := Lib.hid hv
    clear hv e1 e2
    go_wp2_with fail
    go_quiet (fail)
    go_wp2_with fail
    go_ret3
    exact ⟨tk_some (by rw [HT.out, Hv.out, extract_drop]; rfl), below_drewN (below_join hb1 hb2) _⟩

def readN (l : List UInt8) : Int := match takeL l with | some (n, []) => n | _ => 0
def readE (l : List UInt8) : Int := match takeL l with | some (_, []) => 0 | _ => 4
theorem read_none {l : List UInt8} (h : takeE l = 4 ∨ takeR l ≠ []) : Ending.returned (.tuple #[.int .i64 0, .int .i64 4]) = .returned (.tuple #[.int .i64 (readN l), .int .i64 (readE l)]) := by
  unfold takeE takeR at h
  unfold readN readE
  cases hl : takeL l with
  | none => rfl
  | some p =>
    obtain ⟨n, r⟩ := p
    cases r with
    | nil => simp [hl] at h
    | cons x r => rfl
theorem read_some {l : List UInt8} (h : takeE l = 0) (h' : takeR l = []) : Ending.returned (.tuple #[.int .i64 (takeN l), .int .i64 0]) = .returned (.tuple #[.int .i64 (readN l), .int .i64 (readE l)]) := by
  unfold takeE at h
  unfold takeR at h'
  unfold readN readE takeN
  cases hl : takeL l with
  | none => simp [hl] at h
  | some p =>
    obtain ⟨n, r⟩ := p
    simp [hl] at h'
    subst h'
    rfl
theorem takeE_cases (l : List UInt8) : takeE l = 0 ∨ takeE l = 4 := by
  unfold takeE
  split
  · exact .inl rfl
  · exact .inr rfl

set_option maxHeartbeats 1000000 in
theorem read_any (s : ByteArray) (w : World) (hs : s.size ≤ maxLen) :
    Calls Tryd.prog 13 #[.string s] w fun e w' => e = .returned (.tuple #[.int .i64 (readN s.data.toList), .int .i64 (readE s.data.toList)]) ∧ Below w.heap.size w w' := by
  rcases takeE_cases s.data.toList with he | he
  · have He := Lib.hid he
    clear he
    cases hr : takeR s.data.toList with
    | nil =>
      have Hr := Lib.hid hr
      clear hr
      go_enter Tryd.func13, Tryd.ntmps13
      go_wp2_with fail
      refine (take_any _ _ hs).mono ?_
      rintro e w' ⟨rfl, hb⟩
      rw [He.out, Hr.out]
      go_wp2_with fail
      go_ret2
      exact ⟨read_some He.out Hr.out, hb⟩
    | cons x r =>
      have Hr := Lib.hid hr
      clear hr
      go_enter Tryd.func13, Tryd.ntmps13
      go_wp2_with fail
      refine (take_any _ _ hs).mono ?_
      rintro e w' ⟨rfl, hb⟩
      rw [He.out, Hr.out]
      have hne : (⟨(x :: r).toArray⟩ : ByteArray).toList.isEmpty = false := by rw [Lib.toList_data]; rfl
      go_wp2_with fail
      go_ret2
      exact ⟨read_none (.inr (by rw [Hr.out]; exact List.cons_ne_nil _ _)), hb⟩
  · have He := Lib.hid he
    clear he
    go_enter Tryd.func13, Tryd.ntmps13
    go_wp2_with fail
    refine (take_any _ _ hs).mono ?_
    rintro e w' ⟨rfl, hb⟩
    rw [He.out]
    go_wp2_with fail
    go_ret2
    exact ⟨read_none (.inl He.out), hb⟩
end Go.Proofs.YtphepdhppjnfpaaDoor
