/- Own work: the text of an identity: ident.Text, and that of the document. -/
import Derived.Test.YtajjikbigacbaaaDoorTxtSize
import Derived.Test.YtajjikbigacbaaaDoorTxtA
import Derived.Test.YtajjikbigacbaaaDoorTxtB
import Derived.Test.YtajjikbigacbaaaDoorNumE
import Derived.Test.YtajjikbigacbaaaDoorIdNew
import Derived.Test.YtajjikbigacbaaaDoorBackMath
import Derived.Lib.AtoiAllCases
import Derived.Lib.CutLaws
import Derived.Test.YtajjikbigacbaaaDoorRefParse
import Derived.Test.YtajjikbigacbaaaDoorShowA
namespace Go.Proofs.YtajjikbigacbaaaDoor
open Go.RowKit Num

theorem itoa_short {n : Int} (h : i64 n) : (Lib.itoa n).length ≤ 21 := by
  unfold i64 at h
  rw [Lib.itoa]
  split
  · rw [List.length_cons]
    have := nDig 19 n.natAbs (Nat.lt_of_lt_of_le (m := 18446744073709551616) (by omega) (by decide))
    omega
  · have := nDig 19 n.toNat (Nat.lt_of_lt_of_le (m := 18446744073709551616) (by omega) (by decide))
    omega
theorem size_list (l : List UInt8) : (⟨l.toArray⟩ : ByteArray).size = l.length := by
  show l.toArray.size = _
  simp
def idB (a : Nat) (n : Int) : ByteArray := textB a ++ ⟨#[35]⟩ ++ ⟨(Lib.itoa n).toArray⟩

set_option maxRecDepth 100000 in
set_option maxHeartbeats 8000000 in
theorem idText_any (a : Nat) (n r : Int) (t : ByteArray) (w : World) (ha : a < 18446744073709551616) (hn : i64 n) (hT : Deb w) (hP : Pow w) :
    Calls Tryd.prog 8 #[.agg #[.int .u64 (a : Int), .int .i64 n, .int .i64 r, .string t]] w fun e w' => e = .returned (.string (idB a n)) ∧ Below w.heap.size w w' := by
  obtain ⟨d0, d1, _, _⟩ := four_new w (a : Int) n r t 25
  have B0 := Lib.hid (show Below w.heap.size w (w.alloc (.cells #[.int .u64 (a : Int), .int .i64 n, .int .i64 r, .string t] 25)) from (Below.refl _ _).alloc (Nat.le_refl _) _)
  have HT := Lib.hid hT
  have HP := Lib.hid hP
  have hx := (textB_size ha).2
  have hy := itoa_short hn
  rw [← size_list] at hy
  have HB : Hid (idB a n = textB a ++ ⟨#[35]⟩ ++ ⟨(Lib.itoa n).toArray⟩) := rfl
  obtain ⟨x, hxe⟩ : ∃ x, textB a = x := ⟨_, rfl⟩
  obtain ⟨y, hye⟩ : ∃ y : ByteArray, (⟨(Lib.itoa n).toArray⟩ : ByteArray) = y := ⟨_, rfl⟩
  rw [hxe] at hx HB
  rw [hye] at hy HB
  have Hxe := Lib.hid hxe
  have Hye := Lib.hid hye
  unfold i64 at hn
  have Hn := Lib.hid hn
  have hs2 : (9223372036854775806 < x.size) = False := eq_false (by omega)
  have hs3 : (9223372036854775807 < x.size + 1 + y.size) = False := eq_false (by omega)
  have hs4 : (9223372036854775807 < x.size + 1) = False := eq_false (by omega)
  clear hT hP hxe hye hn
  go_enter Tryd.func8, Tryd.ntmps8
  go_wp2_with fail
  go_region_held3 (fun w' => w'.cell? ⟨w.heap.size, 0, none⟩ = some (.int .u64 (a : Int)) ∧ w'.cell? ⟨w.heap.size, 1, none⟩ = some (.int .i64 n) ∧ Below w.heap.size w w')
    (first
      | (go_split_ands; refine ⟨?_, ?_, ?_⟩ <;> first | assumption | exact B0.out.drew | exact cell_kept hc (by assumption) | exact Below.trans (by assumption) (hc.mono (Below.size (by assumption))) | (simp; assumption)))
    (first
      | (go_at_call 24; refine (labText_any a _ ha (HT.out.kept (by go_split_ands; assumption))).mono ?_; rintro e w1 ⟨rfl, hc⟩; rw [Hxe.out])
      | (go_at_call 25; refine (Tryd.strconv_Itoa n Hn.out.1 (by have := Hn.out.2; omega) _ (Pow.kept HP.out (by go_split_ands; assumption))).mono ?_; rintro e w1 ⟨rfl, hg⟩; have hc := below_grow hg; clear hg; rw [Hye.out]))
  go_wp2_with fail
  go_ret
  exact ⟨by rw [HB.out]; rfl, by go_split_ands; assumption⟩

set_option maxRecDepth 100000 in
set_option maxHeartbeats 8000000 in
theorem refIdText_any (a : Nat) (n r : Int) (t : ByteArray) (w : World) (ha : a < 18446744073709551616) (hn : i64 n) (hP : Pow w) :
    Calls Tryd.prog 9 #[.agg #[.int .u64 (a : Int), .int .i64 n, .int .i64 r, .string t]] w fun e w' => e = .returned (.string (idB a n)) ∧ Below w.heap.size w w' := by
  obtain ⟨d0, d1, _, _⟩ := four_new w (a : Int) n r t 25
  have B0 := Lib.hid (show Below w.heap.size w (w.alloc (.cells #[.int .u64 (a : Int), .int .i64 n, .int .i64 r, .string t] 25)) from (Below.refl _ _).alloc (Nat.le_refl _) _)
  have HP := Lib.hid hP
  have hx := (textB_size ha).2
  have hy := itoa_short hn
  rw [← size_list] at hy
  have HB : Hid (idB a n = textB a ++ ⟨#[35]⟩ ++ ⟨(Lib.itoa n).toArray⟩) := rfl
  obtain ⟨x, hxe⟩ : ∃ x, textB a = x := ⟨_, rfl⟩
  obtain ⟨y, hye⟩ : ∃ y : ByteArray, (⟨(Lib.itoa n).toArray⟩ : ByteArray) = y := ⟨_, rfl⟩
  rw [hxe] at hx HB
  rw [hye] at hy HB
  have Hxe := Lib.hid hxe
  have Hye := Lib.hid hye
  unfold i64 at hn
  have Hn := Lib.hid hn
  have hs2 : (9223372036854775806 < x.size) = False := eq_false (by omega)
  have hs3 : (9223372036854775807 < x.size + 1 + y.size) = False := eq_false (by omega)
  have hs4 : (9223372036854775807 < x.size + 1) = False := eq_false (by omega)
  clear hP hxe hye hn
  go_enter Tryd.func9, Tryd.ntmps9
  go_wp2_with fail
  go_region_held3 (fun w' => w'.cell? ⟨w.heap.size, 0, none⟩ = some (.int .u64 (a : Int)) ∧ w'.cell? ⟨w.heap.size, 1, none⟩ = some (.int .i64 n) ∧ Below w.heap.size w w')
    (first
      | (go_split_ands; refine ⟨?_, ?_, ?_⟩ <;> first | assumption | exact B0.out.drew | exact cell_kept hc (by assumption) | exact Below.trans (by assumption) (hc.mono (Below.size (by assumption))) | (simp; assumption)))
    (first
      | (go_at_call 26; refine (refLabText_any a _ ha).mono ?_; rintro e w1 ⟨rfl, hc⟩; rw [Hxe.out])
      | (go_at_call 25; refine (Tryd.strconv_Itoa n Hn.out.1 (by have := Hn.out.2; omega) _ (Pow.kept HP.out (by go_split_ands; assumption))).mono ?_; rintro e w1 ⟨rfl, hg⟩; have hc := below_grow hg; clear hg; rw [Hye.out]))
  go_wp2_with fail
  go_ret
  exact ⟨by rw [HB.out]; rfl, by go_split_ands; assumption⟩

end Go.Proofs.YtajjikbigacbaaaDoor
/- Plain laws: reading an identity's text by Cut and Atoi, and by the one form of numbers. -/
namespace Go.Proofs.YtajjikbigacbaaaDoor
open Go.RowKit Num

theorem run_digits : ∀ (d : List UInt8) (acc : Nat), (∀ c ∈ d, isDigB c = true) → d.foldl (fun n c => 10 * n + (c.toNat - 48)) acc < 9223372036854775808 → Lib.parseUint10 acc d = .ok (d.foldl (fun n c => 10 * n + (c.toNat - 48)) acc)
  | [], acc, _, _ => rfl
  | c :: r, acc, hd, hv => by
    obtain ⟨h1, h2⟩ := digB_bounds (hd c (by simp))
    rw [List.foldl_cons] at hv ⊢
    have hle : ∀ (r : List UInt8) (a : Nat), a ≤ r.foldl (fun n c => 10 * n + (c.toNat - 48)) a := by
      intro r
      induction r with
      | nil => intro a; exact Nat.le_refl _
      | cons c r ih => intro a; rw [List.foldl_cons]; exact Nat.le_trans (by omega) (ih _)
    have h3 := hle r (10 * acc + (c.toNat - 48))
    rw [Lib.parseUint10, if_pos ⟨h1, h2⟩, if_neg (by omega), if_neg (by omega), Nat.mul_comm acc 10]
    exact run_digits r _ (fun x hx => hd x (by simp [hx])) hv
theorem atoi_itoa {n : Int} (h0 : 1 ≤ n) (h1 : n ≤ 9223372036854775807) : Lib.atoiAll (Lib.itoa n) = .ok n := by
  obtain ⟨m, rfl⟩ : ∃ m : Nat, n = m := ⟨n.toNat, by omega⟩
  rw [Lib.itoa, if_neg (by omega), Int.toNat_natCast]
  obtain ⟨e1, e2, e3, _, _⟩ := decDigits_spell m
  cases hd : Lib.decDigits m with
  | nil => rw [hd] at e3; simp at e3
  | cons c r =>
    rw [hd] at e1 e2
    obtain ⟨b1, b2⟩ := digB_bounds (e2 c (by simp))
    have hp : Lib.parseMag (c :: r) = .ok m := by
      rw [Lib.parseMag, if_neg (by simp), run_digits _ _ e2 (by show natVal (c :: r) < _; rw [e1]; omega)]
      exact congrArg _ e1
    rw [Lib.atoiAll_plain c r (by omega) (by omega), hp, Lib.signless, if_neg (by omega)]
theorem digits_no35 (m : Nat) : ¬ (35 : UInt8) ∈ Lib.decDigits m := fun h => by
  have := (decDigits_spell m).2.1 _ h
  revert this; decide
theorem cut_at {a r : List UInt8} (h : ¬ (35 : UInt8) ∈ a) : Lib.indexByte (a ++ 35 :: r) 35 = (a.length : Int) := by
  have h0 := Lib.indexByte_ge (a ++ 35 :: r) 35
  by_cases h1 : Lib.indexByte (a ++ 35 :: r) 35 = -1
  · have := Lib.indexByte_none h1 a.length
    simp at this
  · obtain ⟨o, ho⟩ : ∃ o : Nat, Lib.indexByte (a ++ 35 :: r) 35 = o := ⟨(Lib.indexByte (a ++ 35 :: r) 35).toNat, by omega⟩
    obtain ⟨h2, h3⟩ := Lib.indexByte_some ho
    rw [ho]
    by_cases h4 : o < a.length
    · rw [List.getElem?_append_left h4] at h2
      exact absurd (List.mem_of_getElem? h2) h
    · by_cases h5 : a.length < o
      · have := h3 _ h5
        simp at this
      · congr 1
        omega
theorem text_no35 {a : Nat} (ha : a < 18446744073709551616) : ¬ (35 : UInt8) ∈ (textB a).data.toList := by
  by_cases h0 : a = 0
  · subst h0
    rw [textB, if_pos rfl]
    decide
  · obtain h := text_reads h0 ha rfl
    intro hm
    rw [← reads_text h, plusT_joinP] at hm
    have key : ∀ ps : List (List UInt8), (35 : UInt8) ∈ joinP ps → ∃ p ∈ ps, (35 : UInt8) ∈ p := by
      intro ps
      induction ps with
      | nil => intro h; cases h
      | cons x ps ih =>
        intro h
        by_cases hp : ps = []
        · subst hp
          exact ⟨x, by simp, by simpa [joinP] using h⟩
        · rw [joinP_cons x hp] at h
          rcases List.mem_append.1 h with h | h
          · exact ⟨x, by simp, h⟩
          · rcases List.mem_cons.1 h with h | h
            · exact absurd h (by decide)
            · obtain ⟨p, h1, h2⟩ := ih h
              exact ⟨p, by simp [h1], h2⟩
    obtain ⟨p, hp, hm⟩ := key _ hm
    obtain ⟨x, hx, rfl⟩ := List.mem_map.1 hp
    obtain ⟨c, _, rfl⟩ := List.mem_map.1 hx
    exact digits_no35 c hm

/-- what an identity's text says -/
def idP (s : ByteArray) : Nat × Int × Int :=
  match Lib.indexByte s.data.toList 35 with
  | .negSucc _ => (0, 0, 4)
  | .ofNat i => if (refP (s.extract 0 i)).2 = 0 ∧ readE (s.extract (i + 1) s.size).data.toList = 0 ∧ 1 ≤ readN (s.extract (i + 1) s.size).data.toList then ((refP (s.extract 0 i)).1, readN (s.extract (i + 1) s.size).data.toList, 0) else (0, 0, 4)
theorem read_itoa {n : Int} (h : i64 n) : readN (Lib.itoa n) = n ∧ readE (Lib.itoa n) = 0 := by
  unfold i64 at h
  have e := take_itoa n h.1 (by omega) [] (by simp)
  rw [List.append_nil] at e
  exact ⟨by rw [readN, e], by rw [readE, e]⟩
theorem itoa_read {l : List UInt8} (h : readE l = 0) : Lib.itoa (readN l) = l := by
  rw [readE] at h
  rw [readN]
  split at h
  · rename_i n e
    have := itoa_take e
    simpa using this
  · cases h
theorem refP_text {s : ByteArray} (h : (refP s).2 = 0) : textB (refP s).1 = s := by
  unfold refP at h ⊢
  split
  · rename_i hd; subst hd; rfl
  · rename_i hd
    rw [if_neg hd] at h
    split
    · rename_i h2; rw [if_pos h2] at h; cases h
    · rename_i h2
      rw [if_neg h2] at h
      split
      · rename_i e; rw [e] at h; cases h
      · rename_i l e
        rw [e] at h
        dsimp only at h ⊢
        split
        · rename_i h3; exact h3.2
        · rename_i h3; rw [if_neg h3] at h; cases h
theorem idB_list (a : Nat) (n : Int) : (idB a n).data.toList = (textB a).data.toList ++ 35 :: Lib.itoa n := by
  simp [idB, ByteArray.data_append]
theorem idB_eq {s : ByteArray} {i a : Nat} {n : Int} (hi : Lib.indexByte s.data.toList 35 = i) (h1 : textB a = s.extract 0 i) (h2 : Lib.itoa n = (s.extract (i + 1) s.size).data.toList) : idB a n = s := by
  obtain ⟨hlt, _⟩ := parts_hit hi
  apply ByteArray.ext
  apply Array.ext'
  rw [idB_list, h1, h2, extract_take, extract_drop]
  have h3 := (Lib.indexByte_some hi).1
  rw [List.getElem?_eq_getElem hlt] at h3
  have h4 := List.drop_eq_getElem_cons hlt
  rw [Option.some.inj h3] at h4
  rw [← h4, List.take_append_drop]
/-- Cut and Atoi say the same -/
theorem idP_hit {s : ByteArray} {i : Nat} (hi : Lib.indexByte s.data.toList 35 = i) : idP s = if (refP (s.extract 0 i)).2 = 0 ∧ readE (s.extract (i + 1) s.size).data.toList = 0 ∧ 1 ≤ readN (s.extract (i + 1) s.size).data.toList then ((refP (s.extract 0 i)).1, readN (s.extract (i + 1) s.size).data.toList, 0) else (0, 0, 4) := by
  rw [idP, hi]
theorem idP_miss {s : ByteArray} (hi : Lib.indexByte s.data.toList 35 = -1) : idP s = (0, 0, 4) := by
  rw [idP, hi]; rfl
theorem idP_ok {s : ByteArray} {i a : Nat} {v : Int} (hi : Lib.indexByte s.data.toList 35 = i) (ha : a < 18446744073709551616) (hv : i64 v) (hr : refP (s.extract 0 i) = (a, 0)) (h1 : 1 ≤ v) (ht : idB a v = s) : idP s = (a, v, 0) := by
  have hl : (idB a v).data.toList = s.data.toList := by rw [ht]
  rw [idB_list] at hl
  have h2 := cut_at (r := Lib.itoa v) (text_no35 ha)
  rw [hl, hi] at h2
  have h3 : (s.extract (i + 1) s.size).data.toList = Lib.itoa v := by
    rw [extract_drop, ← hl]
    have : i = (textB a).data.toList.length := by omega
    rw [this, List.drop_append]
    simp
  obtain ⟨r1, r2⟩ := read_itoa hv
  rw [idP_hit hi, h3, r1, r2, hr, if_pos ⟨rfl, rfl, h1⟩]
theorem idP_no {s : ByteArray} {i : Nat} (hi : Lib.indexByte s.data.toList 35 = i) (h : ¬ ((refP (s.extract 0 i)).2 = 0 ∧ ∃ v, Lib.atoiAll (s.extract (i + 1) s.size).data.toList = .ok v ∧ 1 ≤ v ∧ idB (refP (s.extract 0 i)).1 v = s)) : idP s = (0, 0, 4) := by
  rw [idP_hit hi]
  split
  · rename_i hc
    obtain ⟨c1, c2, c3⟩ := hc
    have e := itoa_read c2
    refine absurd ⟨c1, _, ?_, c3, idB_eq hi (refP_text c1) e⟩ h
    rw [← e]
    have hb := take_range (s.extract (i + 1) s.size).data.toList
    have hN : readN (s.extract (i + 1) s.size).data.toList ≤ 9223372036854775807 := by
      revert c2 c3
      unfold readN readE
      intro _ _
      cases ht : takeL (s.extract (i + 1) s.size).data.toList with
      | none => simp
      | some p =>
        obtain ⟨n, r⟩ := p
        have : takeN (s.extract (i + 1) s.size).data.toList = n := by rw [takeN, ht]
        cases r with
        | nil => have h2 := hb.2; rw [this] at h2; exact h2
        | cons _ _ => simp
    rw [read_itoa (show i64 _ by unfold i64; omega) |>.1]
    exact atoi_itoa c3 hN
  · rfl
end Go.Proofs.YtajjikbigacbaaaDoor
