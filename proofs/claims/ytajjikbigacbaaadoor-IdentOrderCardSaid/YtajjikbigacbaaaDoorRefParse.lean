/- Own work: ref's Parse. -/
import Derived.Test.YtajjikbigacbaaaDoorParseMath
import Derived.Test.YtajjikbigacbaaaDoorRefList
import Derived.Test.YtajjikbigacbaaaDoorTxtA
import Derived.Test.YtajjikbigacbaaaDoorParseA
namespace Go.Proofs.YtajjikbigacbaaaDoor
open Go.RowKit

/-- what ref's Parse gives -/
def refP (s : ByteArray) : Nat × Int :=
  if s = dashB then (0, 0) else if 200 < s.size then (0, 4) else match scan s.data.toList [] 0 false with
    | none => (0, 4)
    | some l => if ofE l = 0 ∧ textB (ofA l) = s then (ofA l, 0) else (0, 4)
def RefPPost (w : World) (s : ByteArray) (e : Ending) (w' : World) : Prop := e = .returned (.tuple #[.int .u64 ((refP s).1 : Int), .int .i64 (refP s).2]) ∧ Below w.heap.size w w'

theorem refP_none {s : ByteArray} (h : s ≠ dashB) (h2 : scan s.data.toList [] 0 false = none) : refP s = (0, 4) := by
  rw [refP, if_neg h]; split
  · rfl
  · rw [h2]

def ScanAt (L : List UInt8) (n k : Nat) (xs : List Int) (m : Int) (bl : Bool) : Prop := (k ≤ n ∧ scan (L.drop k) xs m bl = scan L [] 0 false) ∨ (k = n + 1 ∧ scan L [] 0 false = some xs)

set_option maxRecDepth 100000 in
set_option maxHeartbeats 16000000 in
theorem refParse_any (s : ByteArray) (w : World) (hs : s.size ≤ 140737488355328) :
    Calls Tryd.prog 22 #[.string s] w (RefPPost w s) := by
  obtain ⟨i0, hi, hz0, hz1, hz2⟩ := info_parts Tryd.info3
  have e45 : (⟨#[45]⟩ : ByteArray).toList = [45] := by rw [Lib.toList_data]
  have hll : s.data.toList.length = s.size := by simp
  by_cases hd : s = dashB
  · have hne : (s.toList == [45]) = true := by rw [hd, dashB, e45]; rfl
    have Hr : Hid (refP s = (0, 0)) := by show _ = _; rw [refP, if_pos hd]
    clear hd e45
    go_enter Tryd.func22, Tryd.ntmps22
    go_wp2_with fail
    go_ret2
    exact ⟨by rw [Hr.out]; rfl, Below.refl _ _⟩
  · have hne : (s.toList == [45]) = false := by rw [← e45, bytes_same]; simpa [dashB] using hd
    clear e45
    by_cases h2 : 200 < s.size
    · have hsi : (200 : Int) < (s.size : Int) := by omega
      have Hr : Hid (refP s = (0, 4)) := by show _ = _; rw [refP, if_neg hd, if_pos h2]
      clear hd
      go_enter Tryd.func22, Tryd.ntmps22
      go_wp2_with fail
      go_ret2
      exact ⟨by rw [Hr.out]; rfl, Below.refl _ _⟩
    · have hsi : (s.size : Int) ≤ 200 := by omega
      have Hnone := Lib.hid (refP_none hd)
      have Hsome : Hid (∀ l, scan s.data.toList [] 0 false = some l → refP s = if ofE l = 0 ∧ textB (ofA l) = s then (ofA l, 0) else (0, 4)) := fun l h => by rw [refP, if_neg hd, if_neg h2, h]
      have Hll := Lib.hid hll
      clear hd h2 hll
      go_enter Tryd.func22, Tryd.ntmps22
      go_wp2
      go_loopw [4, 5, 6, 7] (fun v n sm i wr => ∃ (k : Nat) (xs : List Int) (m : Nat) (bl : Bool), k ≤ s.size + 1 ∧ i = .int .i64 k ∧ n = .int .i64 m ∧ m ≤ 99 ∧ sm = .bool bl ∧ xs.length ≤ k ∧ Hid (ScanAt s.data.toList s.size k xs m bl) ∧
          wr.ownsRow w.heap.size 3 1 v xs.length (xs.map (Value.int .i64)) ∧ Below w.heap.size w wr) (fun _ _ _ i _ => s.size + 1 - (intOf i).toNat)
      case atStart => exact ⟨0, [], 0, false, Nat.zero_le _, rfl, rfl, by omega, rfl, Nat.le_refl _, .inl ⟨Nat.zero_le _, rfl⟩, World.ownsRow_nil _ _ _ _, Below.refl _ _⟩
      case round =>
        obtain ⟨k, xs, m, bl, hk, rfl, rfl, hm, rfl, hxl, Hsc, hown, hbw⟩ := hrel
        have Hown := Lib.hid hown
        have Hbw := Lib.hid hbw
        clear hown hbw
        by_cases hlt : k < s.size
        · have Hdr : Hid (s.data.toList.drop k = (s[k]'hlt) :: s.data.toList.drop (k + 1)) := by
            show _ = _
            rw [List.drop_eq_getElem_cons (by rw [Hll.out]; exact hlt)]; rfl
          have Hs1 : Hid (scan ((s[k]'hlt) :: s.data.toList.drop (k + 1)) xs m bl = scan s.data.toList [] 0 false) := by
            show _ = _
            rcases Hsc.out with ⟨_, h⟩ | ⟨h, _⟩
            · rw [← Hdr.out]; exact h
            · omega
          clear Hsc
          have hki : ((k : Int) == (s.size : Int)) = false := by rw [beq_eq_false_iff_ne]; omega
          by_cases h43 : s[k]'hlt = 43
          · have e43 : (((s[k]'hlt).toNat : Int) == 43) = true := by simp [h43]
            cases bl
            · have Hno : Hid (scan s.data.toList [] 0 false = none) := by show _ = _; rw [← Hs1.out, scan, if_pos h43]; simp
              go_wp2_with fail
              go_ret2
              exact ⟨by rw [Hnone.out Hno.out]; rfl, Hbw.out⟩
            · by_cases h63 : 63 < m
              · have hm63 : (63 : Int) < (m : Int) := by omega
                have Hno : Hid (scan s.data.toList [] 0 false = none) := by show _ = _; rw [← Hs1.out, scan, if_pos h43, if_pos (.inr (by omega))]
                go_wp2_with fail
                go_ret2
                exact ⟨by rw [Hnone.out Hno.out]; rfl, Hbw.out⟩
              · have Hsc2 : Hid (ScanAt s.data.toList s.size (k + 1) (xs ++ [(m : Int)]) (0 : Nat) false) := by
                  show ScanAt _ _ _ _ _ _
                  have h := Hs1.out
                  rw [scan, if_pos h43, if_neg (by simp; omega)] at h
                  exact .inl ⟨by omega, h⟩
                have hm63 : (m : Int) ≤ 63 := by omega
                obtain ⟨n, hn⟩ : ∃ n, xs.length = n := ⟨_, rfl⟩
                have Hn := Lib.hid hn
                have h2 := Hown.out
                rw [hn] at h2 hxl
                have Hown2 := Lib.hid h2
                clear hn h2
                go_wp2_with (at_builtin; refine wpList_append_own _ rfl _ _ 74 rfl w.heap.size 3 i0 (.int .i64 0) 1 8 Tryd.underlying74 hi hz0 hz1 hz2 rfl (by decide) _ _ _ rfl (Hown2.out.alloc _) ⟨wr.heap.size, 0, none⟩ 1 1 [.int .i64 m] rfl rfl (one_cell _ _ _) (one_list _ rfl) ?c3 ?c4 ?c5 ?_)
                case c3 => unfold maxLen; omega
                case c4 => omega
                case c5 => exact Nat.le_trans Hbw.out.size (by simp)
                intro v' w2 hown1 hgrow _
                have Hb1 := Lib.hid ((Hbw.out.alloc Hbw.out.size _).grown hgrow (Nat.le_trans Hbw.out.size (by simp)) (fun q hq => (Hown.out.lt q hq).1))
                have Hown1 : Hid (w2.ownsRow w.heap.size 3 1 v' (xs ++ [(m : Int)]).length ((xs ++ [(m : Int)]).map (Value.int .i64))) := by
                  show World.ownsRow _ _ _ _ _ _ _
                  rw [List.length_append, Hn.out, List.map_append]
                  exact hown1
                clear hown1 hgrow
                go_wp2_with fail
                go_roundw
                case rel => exact ⟨k + 1, xs ++ [(m : Int)], 0, false, by omega, by go_num, rfl, by omega, rfl, by rw [List.length_append, Hn.out]; simp; omega, Hsc2, Hown1.out, Hb1.out⟩
                case measure => simp [intOf]; omega
          · have e43 : (((s[k]'hlt).toNat : Int) == 43) = false := by
              rw [beq_eq_false_iff_ne]
              intro e
              exact h43 (UInt8.toNat.inj (by show _ = 43; omega))
            have Hbl := Lib.hid h43
            clear h43
            by_cases h48 : (s[k]'hlt).toNat < 48 ∨ 57 < (s[k]'hlt).toNat ∨ 9 < m
            · have Hno : Hid (scan s.data.toList [] 0 false = none) := by
                show _ = _
                rw [← Hs1.out, scan, if_neg Hbl.out, if_pos (by omega)]
              by_cases h1 : (s[k]'hlt).toNat < 48
              · have h1' : ((s[k]'hlt).toNat : Int) < 48 := by omega
                clear h48 h1
                go_wp2_with fail
                go_ret2
                exact ⟨by rw [Hnone.out Hno.out]; rfl, Hbw.out⟩
              · have h1' : (48 : Int) ≤ ((s[k]'hlt).toNat : Int) := by omega
                by_cases h2 : 57 < (s[k]'hlt).toNat
                · have h2' : (57 : Int) < ((s[k]'hlt).toNat : Int) := by omega
                  clear h48 h1 h2
                  go_wp2_with fail
                  go_ret2
                  exact ⟨by rw [Hnone.out Hno.out]; rfl, Hbw.out⟩
                · have h2' : ((s[k]'hlt).toNat : Int) ≤ 57 := by omega
                  have h3' : (9 : Int) < (m : Int) := by omega
                  clear h48 h1 h2
                  go_wp2_with fail
                  go_ret2
                  exact ⟨by rw [Hnone.out Hno.out]; rfl, Hbw.out⟩
            · have h1' : (48 : Int) ≤ ((s[k]'hlt).toNat : Int) := by omega
              have h2' : ((s[k]'hlt).toNat : Int) ≤ 57 := by omega
              have h3' : (m : Int) ≤ 9 := by omega
              have Hsc2 : Hid (ScanAt s.data.toList s.size (k + 1) xs ((m * 10 + ((s[k]'hlt).toNat - 48) : Nat) : Int) true) := by
                show ScanAt _ _ _ _ _ _
                have h := Hs1.out
                rw [scan, if_neg Hbl.out, if_neg (by omega)] at h
                refine .inl ⟨by omega, ?_⟩
                rw [← h]
                congr 1
                omega
              have hw1 : IntKind.u8.wrap (((s[k]'hlt).toNat : Int) - 48) = ((s[k]'hlt).toNat : Int) - 48 := by simp only [IntKind.wrap, IntKind.bits, IntKind.signed]; simp; omega
              have Hm : Hid (m * 10 + ((s[k]'hlt).toNat - 48) ≤ 99) := by show _ ≤ _; omega
              clear h48
              go_wp2_with fail
              go_roundw
              case rel => exact ⟨k + 1, xs, m * 10 + ((s[k]'hlt).toNat - 48), true, by omega, by go_num, by go_num, Hm.out, rfl, by omega, Hsc2, Hown.out, Hbw.out⟩
              case measure => simp [intOf]; omega
        · by_cases heq : k = s.size
          · subst heq
            have Hs1 : Hid (scan [] xs m bl = scan s.data.toList [] 0 false) := by
              show _ = _
              rcases Hsc.out with ⟨_, h⟩ | ⟨h, _⟩
              · rw [← h, List.drop_of_length_le (by rw [Hll.out]; exact Nat.le_refl _)]
              · omega
            clear Hsc
            cases bl
            · have Hno : Hid (scan s.data.toList [] 0 false = none) := by show _ = _; rw [← Hs1.out, scan]; simp
              go_wp2_with fail
              go_ret2
              exact ⟨by rw [Hnone.out Hno.out]; rfl, Hbw.out⟩
            · by_cases h63 : 63 < m
              · have hm63 : (63 : Int) < (m : Int) := by omega
                have Hno : Hid (scan s.data.toList [] 0 false = none) := by show _ = _; rw [← Hs1.out, scan, if_pos (.inr (by omega))]
                go_wp2_with fail
                go_ret2
                exact ⟨by rw [Hnone.out Hno.out]; rfl, Hbw.out⟩
              · have Hsc2 : Hid (ScanAt s.data.toList s.size (s.size + 1) (xs ++ [(m : Int)]) (0 : Nat) false) := by
                  show ScanAt _ _ _ _ _ _
                  have h := Hs1.out
                  rw [scan, if_neg (by simp; omega)] at h
                  exact .inr ⟨rfl, h.symm⟩
                have hm63 : (m : Int) ≤ 63 := by omega
                obtain ⟨n, hn⟩ : ∃ n, xs.length = n := ⟨_, rfl⟩
                have Hn := Lib.hid hn
                have h2 := Hown.out
                rw [hn] at h2 hxl
                have Hown2 := Lib.hid h2
                clear hn h2
                go_wp2_with (at_builtin; refine wpList_append_own _ rfl _ _ 74 rfl w.heap.size 3 i0 (.int .i64 0) 1 8 Tryd.underlying74 hi hz0 hz1 hz2 rfl (by decide) _ _ _ rfl (Hown2.out.alloc _) ⟨wr.heap.size, 0, none⟩ 1 1 [.int .i64 m] rfl rfl (one_cell _ _ _) (one_list _ rfl) ?c3 ?c4 ?c5 ?_)
                case c3 => unfold maxLen; omega
                case c4 => omega
                case c5 => exact Nat.le_trans Hbw.out.size (by simp)
                intro v' w2 hown1 hgrow _
                have Hb1 := Lib.hid ((Hbw.out.alloc Hbw.out.size _).grown hgrow (Nat.le_trans Hbw.out.size (by simp)) (fun q hq => (Hown.out.lt q hq).1))
                have Hown1 : Hid (w2.ownsRow w.heap.size 3 1 v' (xs ++ [(m : Int)]).length ((xs ++ [(m : Int)]).map (Value.int .i64))) := by
                  show World.ownsRow _ _ _ _ _ _ _
                  rw [List.length_append, Hn.out, List.map_append]
                  exact hown1
                clear hown1 hgrow
                go_wp2_with fail
                go_roundw
                case rel => exact ⟨s.size + 1, xs ++ [(m : Int)], 0, false, by omega, by go_num, rfl, by omega, rfl, by rw [List.length_append, Hn.out]; simp; omega, Hsc2, Hown1.out, Hb1.out⟩
                case measure => simp [intOf]
          · have hks : k = s.size + 1 := by omega
            have hg : (s.size : Int) < (k : Int) := by omega
            have Hs1 : Hid (scan s.data.toList [] 0 false = some xs) := by
              show _ = _
              rcases Hsc.out with ⟨h, _⟩ | ⟨_, h⟩
              · omega
              · exact h
            have Hr := Lib.hid (Hsome.out xs Hs1.out)
            clear Hsc hks heq hlt
            go_wp2_with fail
            refine (refOf_any _ xs _ (Nums.of_own Hown.out)).mono ?_
            rintro e w2 ⟨rfl, hb2⟩
            have B2 := Lib.hid (below_join Hbw.out hb2)
            clear hb2
            by_cases h0 : ofE xs = 0
            · have hlt := ofA_lt xs
              obtain ⟨a, ha⟩ : ∃ a, ofA xs = a := ⟨_, rfl⟩
              rw [ha] at hlt
              have Ha := Lib.hid ha
              have H0 := Lib.hid h0
              rw [ha, h0]
              clear ha h0
              go_wp2_with fail
              refine (refLabText_any a _ hlt).mono ?_
              rintro e w3 ⟨rfl, hb3⟩
              have B3 := Lib.hid (below_join B2.out hb3)
              clear hb3
              by_cases ht : textB a = s
              · have hts : ((textB a).toList == s.toList) = true := by rw [bytes_same]; simpa using ht
                have Ht := Lib.hid ht
                clear ht
                go_wp2_with fail
                go_ret2
                exact ⟨by rw [Hr.out, Ha.out, if_pos ⟨H0.out, Ht.out⟩]; rfl, B3.out⟩
              · have hts : ((textB a).toList == s.toList) = false := by rw [bytes_same]; simpa using ht
                have Ht := Lib.hid ht
                clear ht
                go_wp2_with fail
                go_ret2
                exact ⟨by rw [Hr.out, Ha.out, if_neg (fun h => Ht.out h.2)]; rfl, B3.out⟩
            · have hne0 : (ofE xs != 0) = true := by rw [bne_iff_ne]; exact h0
              have H0 := Lib.hid h0
              clear h0
              go_wp2_with fail
              go_ret2
              exact ⟨by rw [Hr.out, if_neg (fun h => H0.out h.1)]; rfl, B2.out⟩
end Go.Proofs.YtajjikbigacbaaaDoor
