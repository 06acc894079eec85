/- Plain facts: what is written is read back, and what can be read is what would be written. Lists of bytes and whole numbers alone. -/
import Derived.Test.YtajjikbigacbaaaDoorNumMath
namespace Go.Proofs.YtajjikbigacbaaaDoor.Num

theorem ofNat_digit {c : UInt8} (h : isDigB c = true) : UInt8.ofNat (48 + (c.toNat - 48)) = c := by
  have h1 : 48 ≤ c.toNat ∧ c.toNat ≤ 57 := by simpa [isDigB] using h
  apply UInt8.toNat.inj
  rw [show 48 + (c.toNat - 48) = c.toNat by omega]
  simp
theorem digit_ofNat (d : Nat) (h : d < 10) : isDigB (UInt8.ofNat (48 + d)) = true ∧ (UInt8.ofNat (48 + d)).toNat - 48 = d ∧ (UInt8.ofNat (48 + d)).toNat = 48 + d := by
  have e : (UInt8.ofNat (48 + d)).toNat = 48 + d := by
    rw [UInt8.toNat_ofNat']
    omega
  refine ⟨?_, by omega, e⟩
  rw [isDigB, e]
  simp
  omega
/-- of the digits of a number: they spell it, are digits, and begin with no nought but of 0 -/
theorem decDigits_spell (m : Nat) : natVal (Lib.decDigits m) = m ∧ (∀ c ∈ Lib.decDigits m, isDigB c = true) ∧ 0 < (Lib.decDigits m).length ∧ (0 < m → (Lib.decDigits m)[0]? ≠ some 48) ∧ (m = 0 → Lib.decDigits m = [48]) := by
  induction m using Nat.strongRecOn with
  | ind m ih =>
    by_cases h : m < 10
    · have e : Lib.decDigits m = [UInt8.ofNat (48 + m)] := by rw [Lib.decDigits, dif_pos h]
      obtain ⟨h1, h2, h3⟩ := digit_ofNat m h
      rw [e]
      refine ⟨by (simp only [natVal, List.foldl_cons, List.foldl_nil]; omega), by simpa using h1, by simp, fun hp e2 => ?_, fun hz => by subst hz; rfl⟩
      have := Option.some.inj e2
      have h4 : (48 : UInt8).toNat = 48 := rfl
      rw [← this, h3] at h4
      omega
    · have e := decDigits_ten (u := m) (by omega)
      obtain ⟨i1, i2, i3, i4, _⟩ := ih (m / 10) (by omega)
      obtain ⟨h1, h2, _⟩ := digit_ofNat (m % 10) (by omega)
      rw [e]
      refine ⟨by rw [natVal_snoc, i1, h2]; omega, ?_, by simp, fun _ => ?_, fun hz => by omega⟩
      · intro c hc
        rcases List.mem_append.1 hc with hc | hc
        · exact i2 c hc
        · rw [List.mem_singleton] at hc
          subst hc
          exact h1
      · rw [List.getElem?_append_left i3]
        exact i4 (by omega)
theorem natVal_pos : ∀ {d : List UInt8}, d ≠ [] → (∀ c ∈ d, isDigB c = true) → d[0]? ≠ some 48 → 0 < natVal d := by
  intro d hd hall h0
  cases d with
  | nil => exact absurd rfl hd
  | cons x d =>
    have hx : 48 ≤ x.toNat ∧ x.toNat ≤ 57 := by simpa [isDigB] using hall x (by simp)
    have hx2 : x.toNat ≠ 48 := fun e => h0 (by
      rw [show x = 48 from UInt8.toNat.inj e]
      rfl)
    have h1 := natVal_take_all (x :: d) 1
    have h2 : natVal ((x :: d).take 1) = x.toNat - 48 := by simp [natVal]
    omega
theorem decDigits_back : ∀ (n : Nat) (d : List UInt8), d.length = n → d ≠ [] → (∀ c ∈ d, isDigB c = true) → (d[0]? = some 48 → d.length = 1) → Lib.decDigits (natVal d) = d := by
  intro n
  induction n with
  | zero => intro d hl hd; exact absurd (List.eq_nil_of_length_eq_zero hl) hd
  | succ n ih =>
    intro d hl hd hall h0
    obtain ⟨d', c, rfl⟩ : ∃ d' c, d = d' ++ [c] := ⟨d.dropLast, d.getLast hd, (List.dropLast_concat_getLast hd).symm⟩
    have hc := hall c (by simp)
    have hc2 : 48 ≤ c.toNat ∧ c.toNat ≤ 57 := by simpa [isDigB] using hc
    rw [natVal_snoc]
    by_cases hd' : d' = []
    · subst hd'
      rw [natVal_nil, Lib.decDigits, dif_pos (by omega), show 48 + (10 * 0 + (c.toNat - 48)) = 48 + (c.toNat - 48) by omega, ofNat_digit hc]
      rfl
    · have hl2 : 0 < d'.length := by
        cases d' with
        | nil => exact absurd rfl hd'
        | cons x y => simp
      have h0' : d'[0]? ≠ some 48 := by
        intro e
        have := h0 (by rw [List.getElem?_append_left hl2]; exact e)
        rw [List.length_append, List.length_singleton] at this
        omega
      have hall' : ∀ x ∈ d', isDigB x = true := fun x hx => hall x (by simp [hx])
      have hpos := natVal_pos hd' hall' h0'
      rw [decDigits_ten (by omega), show (10 * natVal d' + (c.toNat - 48)) / 10 = natVal d' by omega, show (10 * natVal d' + (c.toNat - 48)) % 10 = c.toNat - 48 by omega,
        ih d' (by simpa using hl) hd' hall' (fun e => absurd e h0'), ofNat_digit hc]

theorem cnt_app {d r : List UInt8} (hall : ∀ c ∈ d, isDigB c = true) (hr : ∀ c, r[0]? = some c → isDigB c = false) : cnt (d ++ r) = d.length := by
  refine cnt_eq _ _ (by simp) (fun j hj hjk => ?_) (fun hj => ?_)
  · rw [List.getElem_append_left hjk]
    exact hall _ (List.getElem_mem hjk)
  · have h2 : 0 < r.length := by
      rw [List.length_append] at hj
      omega
    refine hr _ ?_
    rw [List.getElem_append_right (Nat.le_refl _), List.getElem?_eq_getElem h2]
    simp
theorem digB_45 : isDigB 45 = false := by decide
/-- a number that stands ahead of what is no digit is taken -/
theorem take_itoa (n : Int) (h0 : -9223372036854775808 ≤ n) (h1 : n ≤ 9223372036854775807) (r : List UInt8) (hr : ∀ c, r[0]? = some c → isDigB c = false) : takeL (Lib.itoa n ++ r) = some (n, r) := by
  by_cases hn : n < 0
  · obtain ⟨d1, d2, d3, d4, _⟩ := decDigits_spell n.natAbs
    have e : Lib.itoa n ++ r = 45 :: (Lib.decDigits n.natAbs ++ r) := by rw [Lib.itoa, if_pos hn]; rfl
    have hm : minusB (Lib.itoa n ++ r) = true := by rw [e]; rfl
    have hu : unsig (Lib.itoa n ++ r) = Lib.decDigits n.natAbs ++ r := by rw [unsig, hm, if_pos rfl, e]; rfl
    have hk : cnt (unsig (Lib.itoa n ++ r)) = (Lib.decDigits n.natAbs).length := by rw [hu]; exact cnt_app d2 hr
    rw [takeL, hk, hu, hm, List.take_left, List.drop_left]
    have hv : valL (Lib.decDigits n.natAbs) true = some n := by
      rw [valL, if_neg (by intro e; rw [e] at d3; simp at d3), if_neg (by rintro ⟨e, _⟩; exact d4 (by omega) e), if_pos rfl, d1, if_pos (by omega)]
      congr 1
      omega
    rw [hv]
    rfl
  · obtain ⟨d1, d2, d3, d4, d5⟩ := decDigits_spell n.toNat
    have e : Lib.itoa n ++ r = Lib.decDigits n.toNat ++ r := by rw [Lib.itoa, if_neg hn]
    have hm : minusB (Lib.itoa n ++ r) = false := by
      rw [e, minusB, List.getElem?_append_left d3, List.getElem?_eq_getElem d3, Bool.eq_false_iff]
      intro e2
      rw [beq_iff_eq] at e2
      have := d2 _ (List.getElem_mem d3)
      rw [Option.some.inj e2, digB_45] at this
      cases this
    have hu : unsig (Lib.itoa n ++ r) = Lib.decDigits n.toNat ++ r := by rw [unsig, hm, e]; rfl
    have hk : cnt (unsig (Lib.itoa n ++ r)) = (Lib.decDigits n.toNat).length := by rw [hu]; exact cnt_app d2 hr
    rw [takeL, hk, hu, hm, List.take_left, List.drop_left]
    have hv : valL (Lib.decDigits n.toNat) false = some n := by
      rw [valL, if_neg (by intro e; rw [e] at d3; simp at d3), if_neg (by
        rintro ⟨e, h | h⟩
        · cases h
        · by_cases hz : n.toNat = 0
          · rw [d5 hz] at h; simp at h
          · exact d4 (by omega) e), if_neg (by decide), d1, if_pos (by omega)]
      congr 1
      omega
    rw [hv]
    rfl
/-- what is taken is what would be written -/
theorem itoa_take {l : List UInt8} {n : Int} {r : List UInt8} (h : takeL l = some (n, r)) : Lib.itoa n ++ r = l := by
  rw [takeL, Option.map_eq_some_iff] at h
  obtain ⟨m, hv, he⟩ := h
  simp only [Prod.mk.injEq] at he
  obtain ⟨rfl, hr⟩ := he
  obtain ⟨d, hd⟩ : ∃ d, (unsig l).take (cnt (unsig l)) = d := ⟨_, rfl⟩
  have hdr : d ++ r = unsig l := by rw [← hd, ← hr, List.take_append_drop]
  have hall : ∀ c ∈ d, isDigB c = true := by
    intro c hc
    rw [← hd, take_cnt] at hc
    exact List.all_eq_true.1 (List.all_takeWhile (p := isDigB) (l := unsig l)) c hc
  rw [hd] at hv
  unfold valL at hv
  split at hv
  · cases hv
  · rename_i hne
    split at hv
    · cases hv
    · rename_i hlead
      have hback := decDigits_back d.length d rfl hne hall
      split at hv
      · rename_i hm
        have hl : l = 45 :: unsig l := by
          have h2 : l[0]? = some 45 := by
            rw [minusB, beq_iff_eq] at hm
            exact hm
          cases l with
          | nil => cases h2
          | cons x y =>
            rw [unsig, hm]
            simp at h2
            rw [h2]
            rfl
        have h0 : d[0]? ≠ some 48 := fun e => hlead ⟨e, .inl hm⟩
        have hpos := natVal_pos hne hall h0
        split at hv
        · cases hv
          rw [Lib.itoa, if_pos (by omega), show (-(natVal d : Int)).natAbs = natVal d by omega, hback (fun e => absurd e h0), List.cons_append, hdr]
          exact hl.symm
        · cases hv
      · rename_i hm
        have hl : unsig l = l := by rw [unsig, if_neg hm]
        split at hv
        · cases hv
          rw [Lib.itoa, if_neg (by omega), Int.toNat_natCast, hback (fun e => ?_), hdr, hl]
          have h2 : ¬ 1 < d.length := fun h3 => hlead ⟨e, .inr h3⟩
          have h3 : 0 < d.length := by
            cases d with
            | nil => exact absurd rfl hne
            | cons x y => simp
          omega
        · cases hv
theorem shown_show (s r : List UInt8) (h : s.length ≤ 9223372036854775807) : shownL (showL s ++ r) = some (s, r) := by
  have ht : takeL (showL s ++ r) = some ((s.length : Int), 58 :: (s ++ r)) := by
    have := take_itoa (s.length : Int) (by omega) (by omega) (58 :: (s ++ r)) (by intro c hc; cases hc; decide)
    rw [← this, showL]
    simp
  rw [shownL_yes ht (by simp)]
  simp
theorem show_shown {l t r : List UInt8} (h : shownL l = some (t, r)) : showL t ++ r = l := by
  unfold shownL at h
  split at h
  · rename_i n c q ht
    split at h
    · rename_i hc
      obtain ⟨rfl, h0, hl⟩ := hc
      cases h
      have := itoa_take ht
      rw [← this, showL, List.length_take, Nat.min_eq_left hl, Int.toNat_of_nonneg h0]
      simp
    · cases h
  · cases h
end Go.Proofs.YtajjikbigacbaaaDoor.Num
