import Derived.Test.YtajjikbigacbaaaGreatDoorTexts
import Derived.Test.YtajjikbigacbaaaGreatDoorShowA
import Derived.Test.YtajjikbigacbaaaGreatDoorNumMath
namespace Go.Proofs.YtajjikbigacbaaaGreatDoor
open Go.RowKit Num

def MaxL (w : World) : Prop := ∃ m, w.cell? ⟨1, 0, none⟩ = some (.int .i64 m)
theorem MaxL.kept {w w' : World} (h : MaxL w) (hb : Below w.heap.size w w') : MaxL w' := by
  obtain ⟨m, hm⟩ := h
  exact ⟨m, cell_kept hb hm⟩

def cutT (l : List UInt8) : List ByteArray := match cutL l with | some ls => ls.map fun x => ⟨x.toArray⟩ | none => []
def cutE (l : List UInt8) : Int := match cutL l with | some _ => 0 | none => 4

theorem splitB_cut (q : ByteArray) : Lib.splitB ⟨#[10]⟩ 0 (Lib.countB q ⟨#[10]⟩) q = (pieces [] (q.data.toList ++ [10])).map fun x => (⟨x.toArray⟩ : ByteArray) := by
  have h := Lib.splitB_data ⟨#[10]⟩ 0 (Lib.countB q ⟨#[10]⟩) q
  have h2 : Lib.countB q ⟨#[10]⟩ = Lib.count q.data.toList [10] := rfl
  rw [h2] at h ⊢
  rw [show (⟨#[10]⟩ : ByteArray).data.toList = [10] from rfl, split_pieces _ _ (Nat.le_refl _)] at h
  rw [← h, List.map_map]
  have : ∀ l : List ByteArray, l = l.map ((fun x => (⟨x.toArray⟩ : ByteArray)) ∘ fun x => x.data.toList) := by
    intro l
    induction l with
    | nil => rfl
    | cons x l ih => rw [List.map_cons, ← ih]; rfl
  exact this _

theorem cutLast_yes (b b' : ByteArray) (r : List UInt8) (hb : b.data.toList = r ++ [10]) (hb' : b' = ⟨r.toArray⟩) (hs : b.size ≤ maxLen) (w : World) :
    Calls Tryz.prog 107 #[.string b, .string ⟨#[10]⟩] w fun e w' => e = .returned (.tuple #[.string b', .bool true]) ∧ w = w' := by
  unfold maxLen at hs
  refine (Tryz.strings_CutSuffix b ⟨#[10]⟩ w (by omega)).mono fun e w' ⟨he, hw⟩ => ⟨?_, hw.symm⟩
  have e1 : Lib.hasSuffix b.data.toList [10] = true := by
    rw [Lib.hasSuffix, List.isSuffixOf_iff_suffix, hb]
    exact List.suffix_append _ _
  rw [he, show (⟨#[10]⟩ : ByteArray).data.toList = [10] from rfl, Lib.trimSuffix, e1, hb', hb]
  simp
theorem cutLast_no (b : ByteArray) (hb : b.data.toList.getLast? ≠ some 10) (hs : b.size ≤ maxLen) (w : World) :
    Calls Tryz.prog 107 #[.string b, .string ⟨#[10]⟩] w fun e w' => e = .returned (.tuple #[.string b, .bool false]) ∧ w = w' := by
  unfold maxLen at hs
  refine (Tryz.strings_CutSuffix b ⟨#[10]⟩ w (by omega)).mono fun e w' ⟨he, hw⟩ => ⟨?_, hw.symm⟩
  have e1 : Lib.hasSuffix b.data.toList [10] = false := by
    rw [Lib.hasSuffix, Bool.eq_false_iff]
    intro h
    rw [List.isSuffixOf_iff_suffix] at h
    obtain ⟨t, ht⟩ := h
    exact hb (by rw [← ht]; simp)
  rw [he, show (⟨#[10]⟩ : ByteArray).data.toList = [10] from rfl, Lib.trimSuffix, e1]
  rfl

/-- what a call that makes texts leaves: a slice of the call's own -/
def Made (w w' : World) (v : Value) (ss : List ByteArray) : Prop := w'.ownsRow w.heap.size 9 1 v ss.length (ss.map Value.string)
theorem Made.texts {w w' : World} {v : Value} {ss : List ByteArray} (h : Made w w' v ss) : Texts w' v ss := Texts.of_own h

def CutPost (w : World) (l : List UInt8) (e : Ending) (w' : World) : Prop :=
  ∃ v, e = .returned (.tuple #[v, .int .i64 (cutE l)]) ∧ Made w w' v (cutT l) ∧ Below w.heap.size w w'

theorem cut_ret {v : Value} {a b : Int} (h : a = b) : Ending.returned (.tuple #[v, .int .i64 b]) = .returned (.tuple #[v, .int .i64 a]) := by rw [h]
theorem made_lit (w : World) (ss : List ByteArray) (hm : ss.length ≤ maxLen) : Made w (w.alloc (.cells (ss.map Value.string).toArray 9)) (.slice (some ⟨w.heap.size, 0, none⟩) ss.length ss.length) ss := by
  have h := World.ownsRow_lit (e := 9) (size := 1) w (ss.map Value.string).toArray ss.length (Nat.le_refl w.heap.size) hm (by simp)
  simpa [Made] using h

set_option maxRecDepth 100000 in
set_option maxHeartbeats 4000000 in
theorem cut_any (s : ByteArray) (w : World) (hs : s.size ≤ 4294967280) (hM : MaxL w) :
    Calls Tryz.prog 68 #[.string s] w (CutPost w s.data.toList) := by
  obtain ⟨mx, hM⟩ := hM
  by_cases hp : 0 < s.size
  · obtain ⟨hE, hE2⟩ := bytes_ne s hp
    have hnil : ¬ s.data.toList = [] := by
      intro e
      have := congrArg List.length e
      simp at this
      have h2 : s.data.size = s.size := rfl
      simp [this, ByteArray.size] at hp
    by_cases hl : s.data.toList.getLast? = some 10
    · obtain ⟨r, hr⟩ : ∃ r, s.data.toList = r ++ [10] := by
        rw [List.getLast?_eq_some_iff] at hl
        exact hl
      have Hr := Lib.hid hr
      obtain ⟨q, hq⟩ : ∃ q : ByteArray, q = ⟨r.toArray⟩ := ⟨_, rfl⟩
      have Hq := Lib.hid hq
      have hqs : q.size ≤ s.size := by
        have h1 := congrArg List.length hr
        simp at h1
        rw [hq, size_mk]
        have h2 : s.data.size = s.size := rfl
        omega
      have HC : Hid (cutL s.data.toList = some (pieces [] s.data.toList)) := by
        show _ = _
        rw [cutL, if_neg hnil, if_pos hl]
      have HS := Lib.hid (splitB_cut q)
      have hcl : Lib.countB q ⟨#[10]⟩ + 1 = (cutT s.data.toList).length := by
        have h3 := Lib.splitB_all ⟨#[10]⟩ (by decide) 0 (Lib.countB q ⟨#[10]⟩) q rfl
        rw [HS.out] at h3
        rw [← h3, cutT, HC.out, Hr.out, hq]
      have Hcl := Lib.hid hcl
      have hcm := Lib.countB_le ⟨#[10]⟩ (by decide) q.size q (Nat.le_refl _)
      clear hr hq hl hnil hcl
      go_enter Tryz.func68, Tryz.ntmps68
      go_wp2_with fail
      refine (cutLast_yes s q r Hr.out Hq.out (by unfold maxLen; omega) _).mono ?_
      rintro e w2 ⟨rfl, rfl⟩
      go_wp2_with fail
      refine (Tryz.strings_Split q ⟨#[10]⟩ mx _ (by omega) hM (by decide)).mono ?_
      rintro e w3 ⟨rfl, hw⟩
      have HW := Lib.hid hw
      clear hw
      go_wp2_with fail
      go_ret2
      have hc : cutT s.data.toList = Lib.splitB ⟨#[10]⟩ 0 (Lib.countB q ⟨#[10]⟩) q := by rw [cutT, HC.out, HS.out, Hr.out, Hq.out]
      refine ⟨_, cut_ret (by rw [cutE, HC.out]), ?_, by rw [HW.out]; exact (Below.refl _ _).alloc (Nat.le_refl _) _⟩
      rw [HW.out, ← hc, Hcl.out]
      exact made_lit w _ (by unfold maxLen; rw [← Hcl.out]; omega)
    · have HN : Hid (cutL s.data.toList = none) := by
        show _ = _
        rw [cutL, if_neg hnil, if_neg hl]
      have Hl := Lib.hid hl
      clear hl hnil
      go_enter Tryz.func68, Tryz.ntmps68
      go_wp2_with fail
      refine (cutLast_no s Hl.out (by unfold maxLen; omega) _).mono ?_
      rintro e w2 ⟨rfl, rfl⟩
      go_wp2_with fail
      go_ret2
      exact ⟨_, cut_ret (by rw [cutE, HN.out]), by rw [cutT, HN.out]; exact World.ownsRow_nil _ _ _ _, Below.refl _ _⟩
  · obtain rfl : s = ⟨#[]⟩ := by
      cases s with
      | mk d =>
        have : d = #[] := by simpa [ByteArray.size] using hp
        rw [this]
    clear hp hs
    go_enter Tryz.func68, Tryz.ntmps68
    go_wp2_with fail
    go_ret2
    exact ⟨_, cut_ret rfl, World.ownsRow_nil _ _ _ _, Below.refl _ _⟩
end Go.Proofs.YtajjikbigacbaaaGreatDoor
/- A world of the program's shape holds a number in bytealg's MaxLen. -/
namespace Go.Proofs.YtajjikbigacbaaaGreatDoor
theorem max_of (W : World) (h : W.ShapedOpen Tryz.prog) : MaxL W :=
  Go.Proofs.cell_of_shapedOpen_int (zero := #[.int .i64 0]) (t := 3) h (of_decide_eq_true (by kernel_rfl)) (by kernel_rfl) rfl (by kernel_rfl) (by kernel_rfl) Tryz.underlying3
end Go.Proofs.YtajjikbigacbaaaGreatDoor
