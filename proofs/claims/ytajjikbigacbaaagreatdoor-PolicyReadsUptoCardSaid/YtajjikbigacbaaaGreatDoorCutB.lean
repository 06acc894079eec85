import Derived.Test.YtajjikbigacbaaaGreatDoorCutA
namespace Go.Proofs.YtajjikbigacbaaaGreatDoor
open Go.RowKit Num


def asB (l : List UInt8) : ByteArray := ⟨l.toArray⟩
/-- what has been cut, and what is still to be cut -/
def CutAt (l : List UInt8) (f k : Nat) (done : List (List UInt8)) : Prop := pieces [] l = done ++ pieces ((l.drop f).take (k - f)) (l.drop k)
theorem cutAt_start (l : List UInt8) : CutAt l 0 0 [] := by simp [CutAt]
theorem cutAt_end {l : List UInt8} {f k : Nat} {done : List (List UInt8)} (h : CutAt l f k done) (hk : l.length ≤ k) : pieces [] l = done := by
  rw [CutAt, List.drop_eq_nil_of_le hk] at h
  simpa [pieces] using h
theorem cutAt_ten {l : List UInt8} {f k : Nat} {done : List (List UInt8)} (h : CutAt l f k done) (hk : k < l.length) (hc : l[k]'hk = 10) : CutAt l (k + 1) (k + 1) (done ++ [(l.drop f).take (k - f)]) := by
  rw [CutAt, List.drop_eq_getElem_cons hk, pieces, if_pos hc] at h
  rw [CutAt, h]
  simp
theorem cutAt_on {l : List UInt8} {f k : Nat} {done : List (List UInt8)} (h : CutAt l f k done) (hf : f ≤ k) (hk : k < l.length) (hc : ¬ l[k]'hk = 10) : CutAt l f (k + 1) done := by
  rw [CutAt, List.drop_eq_getElem_cons hk, pieces, if_neg hc] at h
  rw [CutAt, h]
  congr 2
  have e : k + 1 - f = (k - f) + 1 := by omega
  have hlt : k - f < (l.drop f).length := by rw [List.length_drop]; omega
  rw [e, List.take_succ_eq_append_getElem hlt, List.getElem_drop]
  congr 2
  simp only [show f + (k - f) = k by omega]
theorem extract_asB (s : ByteArray) (f k : Nat) : s.extract f k = asB ((s.data.toList.drop f).take (k - f)) := by
  apply ByteArray.ext
  apply Array.ext'
  rw [Lib.extract_data]
  rfl

set_option maxRecDepth 100000 in
set_option maxHeartbeats 8000000 in
theorem refCut_any (s : ByteArray) (w : World) (hs : s.size ≤ 4294967280) :
    Calls Tryz.prog 70 #[.string s] w (CutPost w s.data.toList) := by
  obtain ⟨i0, hi, hz0, hz1, hz2⟩ := info_parts Tryz.info9
  by_cases hp : 0 < s.size
  · obtain ⟨hE, hE2⟩ := bytes_ne s hp
    have hll : s.data.toList.length = s.size := by simp
    have hnil : ¬ s.data.toList = [] := by
      intro e
      rw [e] at hll
      simp at hll
      omega
    have hlast : s.data.toList.getLast? = some (s[s.size - 1]'(by omega)) := by
      rw [List.getLast?_eq_getElem?, hll, List.getElem?_eq_getElem (by omega)]
      rfl
    have hl1 : s.size - 1 < s.size := by omega
    by_cases hl : s[s.size - 1]'hl1 = 10
    · have HC : Hid (cutL s.data.toList = some (pieces [] s.data.toList)) := by
        show _ = _
        rw [cutL, if_neg hnil, if_pos (by rw [hlast, hl])]
      have hb : (((s[s.size - 1]'hl1).toNat : Int) != 10) = false := by simp [hl]
      have hb' : (((s[s.size - 1]'hl1).toNat : Int) == 10) = true := by simp [hl]
      have Hll := Lib.hid hll
      clear hnil hl hlast hll
      go_enter Tryz.func70, Tryz.ntmps70
      go_wp2
      go_loopw [4, 5, 6] (fun v f i wr => ∃ (k j : Nat) (done : List (List UInt8)), k ≤ s.size ∧ j ≤ k ∧ i = .int .i64 k ∧ f = .int .i64 j ∧ done.length ≤ k ∧ Hid (CutAt s.data.toList j k done) ∧
          wr.ownsRow w.heap.size 9 1 v done.length ((done.map asB).map Value.string) ∧ Below w.heap.size w wr) (fun _ _ i _ => s.size - (intOf i).toNat)
      case atStart => exact ⟨0, 0, [], Nat.zero_le _, Nat.le_refl _, rfl, rfl, Nat.le_refl _, cutAt_start _, World.ownsRow_nil _ _ _ _, Below.refl _ _⟩
      case round =>
        obtain ⟨k, j, done, hk, hj, rfl, rfl, hd, hcut, hown, hbw⟩ := hrel
        by_cases hlt : k < s.size
        · by_cases h10 : s[k]'hlt = 10
          · have e10 : (((s[k]'hlt).toNat : Int) == 10) = true := by simp [h10]
            have hnext : Hid (CutAt s.data.toList (k + 1) (k + 1) (done ++ [(s.data.toList.drop j).take (k - j)])) := cutAt_ten hcut.out (by rw [Hll.out]; exact hlt) h10
            have hx := extract_asB s j k
            have Hx := Lib.hid hx
            clear h10 hx
            have hbs := hbw.size
            go_wp2_with (at_builtin; refine wpList_append_own _ rfl _ _ 40 rfl w.heap.size 9 i0 (.string ⟨#[]⟩) 1 16 Tryz.underlying40 hi hz0 hz1 hz2 rfl (by decide) _ _ _ rfl (hown.alloc _) ⟨wr.heap.size, 0, none⟩ 1 1 [.string (s.extract j k)] rfl rfl ?c1 ?c2 ?c3 ?c4 ?c5 ?_)
            case c1 =>
              intro i u hu
              match i, hu with
              | 0, hu => simp at hu; subst hu; simp [Addr.add]
              | i + 1, hu => simp at hu
            case c2 => intro x hx; rw [List.mem_singleton] at hx; subst hx; rfl
            case c3 => unfold maxLen; omega
            case c4 => omega
            case c5 => exact Nat.le_trans hbs (by simp)
            intro v' w1 hown1 hgrow _
            have hb1 : Below w.heap.size w w1 := (hbw.alloc hbs _).grown hgrow (by simp; omega) (fun q hq => (hown.lt q hq).1)
            have hown2 : w1.ownsRow w.heap.size 9 1 v' (done ++ [(s.data.toList.drop j).take (k - j)]).length (((done ++ [(s.data.toList.drop j).take (k - j)]).map asB).map Value.string) := by
              rw [Hx.out] at hown1
              simpa using hown1
            clear hown1 hown hgrow
            go_wp2
            go_roundw
            case rel => exact ⟨k + 1, k + 1, _, by omega, Nat.le_refl _, by go_num, by go_num, by simp; omega, hnext, hown2, hb1⟩
            case measure => simp [intOf]; omega
          · have e10 : (((s[k]'hlt).toNat : Int) == 10) = false := by
              rw [beq_eq_false_iff_ne]
              intro e
              exact h10 (UInt8.toNat.inj (by show _ = 10; omega))
            have hnext : Hid (CutAt s.data.toList j (k + 1) done) := cutAt_on hcut.out hj (by rw [Hll.out]; exact hlt) h10
            clear h10
            go_wp2
            go_roundw
            case rel => exact ⟨k + 1, j, done, by omega, by omega, by go_num, rfl, by omega, hnext, hown, hbw⟩
            case measure => simp [intOf]; omega
        · have he := cutAt_end hcut.out (by rw [Hll.out]; omega)
          have He := Lib.hid he
          clear he
          go_wp2
          go_ret2
          refine ⟨_, cut_ret (by rw [cutE, HC.out]), ?_, hbw⟩
          have hc : cutT s.data.toList = done.map asB := by rw [cutT, HC.out, He.out]; rfl
          rw [Made, hc, List.length_map]
          exact hown
    · have HN : Hid (cutL s.data.toList = none) := by
        show _ = _
        rw [cutL, if_neg hnil, if_neg (by rw [hlast]; intro e; exact hl (Option.some.inj e))]
      have hb : (((s[s.size - 1]'hl1).toNat : Int) != 10) = true := by
        rw [bne_iff_ne]
        intro e
        exact hl (UInt8.toNat.inj (by show _ = 10; omega))
      have hb' : (((s[s.size - 1]'hl1).toNat : Int) == 10) = false := by
        rw [beq_eq_false_iff_ne]
        intro e
        exact hl (UInt8.toNat.inj (by show _ = 10; omega))
      clear hl hlast hnil hll
      go_enter Tryz.func70, Tryz.ntmps70
      go_wp2
      go_ret2
      exact ⟨_, cut_ret (by rw [cutE, HN.out]), by rw [cutT, HN.out]; exact World.ownsRow_nil _ _ _ _, Below.refl _ _⟩
  · obtain rfl : s = ⟨#[]⟩ := by
      cases s with
      | mk d =>
        have : d = #[] := by simpa [ByteArray.size] using hp
        rw [this]
    clear hp hs
    go_enter Tryz.func70, Tryz.ntmps70
    go_wp2_with fail
    go_ret2
    exact ⟨_, cut_ret rfl, World.ownsRow_nil _ _ _ _, Below.refl _ _⟩
end Go.Proofs.YtajjikbigacbaaaGreatDoor
