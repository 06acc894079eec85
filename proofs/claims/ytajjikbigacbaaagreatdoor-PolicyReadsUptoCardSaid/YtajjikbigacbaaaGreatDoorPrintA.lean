/- Own work: a policy's text. -/
import Derived.Test.YtajjikbigacbaaaGreatDoorPolCalls
import Derived.Test.YtajjikbigacbaaaGreatDoorTxtSize
namespace Go.Proofs.YtajjikbigacbaaaGreatDoor
open Go.RowKit Go.Maps Go.Shelf Num

/-- a viewer's line -/
def lineB (v : Vw) : ByteArray := v.nm ++ ⟨#[32]⟩ ++ textB v.lab
theorem joinN_le {c : Nat} : ∀ (ss : List ByteArray), (∀ s ∈ ss, s.size ≤ c) → joinN ss ≤ ss.length * (c + 1)
  | [], _ => by simp [joinN, joinL]
  | s :: ss, h => by
    have h1 := joinN_le ss fun x hx => h x (by simp [hx])
    have h2 := h s (by simp)
    have e : joinN (s :: ss) = s.size + 1 + joinN ss := by
      rw [joinN, List.map_cons, joinL_cons, List.length_append, List.length_append, joinN]
      simp
    rw [e, List.length_cons, Nat.succ_mul]
    omega
theorem lineB_size (v : Vw) : (lineB v).size = v.nm.size + 1 + (textB v.lab).size := by
  rw [lineB, ByteArray.size_append, ByteArray.size_append]; rfl
def printT (vs : List Vw) : ByteArray := joinT (vs.map lineB)

set_option maxHeartbeats 8000000 in
set_option maxRecDepth 100000 in
theorem print1_any (x : ByteArray) (l : Nat) (w : World) (hx : x.size ≤ 32) (hl : l < 18446744073709551616) (hT : Deb w) :
    Calls Tryz.prog 103 #[.agg #[.string x, .int .u64 (l : Int)]] w fun e w' => e = .returned (.tuple #[.string (x ++ ⟨#[32]⟩ ++ textB l), .bool true]) ∧ Below w.heap.size w w' := by
  have hts := (textB_size hl).2
  obtain ⟨d0, d1⟩ := two_newV w x l 33
  have hb := (Below.refl w.heap.size w).alloc (Nat.le_refl _) (.cells #[.string x, .int .u64 (l : Int)] 33)
  have HB := Lib.hid hb
  have HT := Lib.hid hT
  obtain ⟨t, ht⟩ : ∃ t, textB l = t := ⟨_, rfl⟩
  have Ht := Lib.hid ht
  rw [ht] at hts ⊢
  have hs1 : ((x ++ ⟨#[32]⟩ : ByteArray)).size = x.size + 1 := by rw [ByteArray.size_append]; rfl
  have hs2 : (9223372036854775806 < x.size) = False := eq_false (by omega)
  have hs3 : (9223372036854775807 < x.size + 1 + t.size) = False := eq_false (by omega)
  have hs4 : (9223372036854775807 < x.size + 1) = False := eq_false (by omega)
  clear hs1
  clear hb hT ht
  go_enter Tryz.func103, Tryz.ntmps103
  go_wp2_with fail
  go_region_held3 (fun w' => w'.cell? ⟨w.heap.size, 0, none⟩ = some (.string x) ∧ w'.cell? ⟨w.heap.size, 1, none⟩ = some (.int .u64 (l : Int)) ∧ Below w.heap.size w w')
    (first
      | (go_split_ands; refine ⟨?_, ?_, ?_⟩ <;> first | assumption | exact HB.out.drew | exact cell_kept hc (by assumption) | exact Below.trans (by assumption) (hc.mono (Below.size (by assumption))) | (simp; assumption)))
    (first
      | (go_at_call 81; refine (labText_any l _ hl (HT.out.kept (by go_split_ands; assumption))).mono ?_; rintro e w1 ⟨rfl, hc⟩; rw [Ht.out]))
  go_wp2_with fail
  go_ret2
  exact ⟨rfl, by go_split_ands; assumption⟩

theorem isName_size {s : ByteArray} (h : isName s = true) : s.size ≤ 32 := by
  simp [isName] at h
  exact h.1.2
theorem lines_small {vs : List Vw} (hok : polOk vs) (hf : Fits vs) : joinN (vs.map lineB) ≤ 1073741824 := by
  have h := joinN_le (c := 300) (vs.map lineB) fun s hs => by
    obtain ⟨v, hv, rfl⟩ := List.mem_map.1 hs
    have h1 := isName_size (hok.2.1 v hv)
    have h2 := (textB_size (hf v hv).1).2
    rw [lineB_size]
    omega
  rw [List.length_map] at h
  have := hok.1
  have h3 : vs.length * (300 + 1) ≤ 64 * 301 := Nat.mul_le_mul_right _ this
  omega

set_option maxHeartbeats 4000000 in
set_option maxRecDepth 100000 in
theorem printM_any (p : Value) (vs : List Vw) (w : World) (hp : Pol w p vs) (hT : Deb w) :
    Calls Tryz.prog 58 #[p] w fun e w' => e = .returned (.string (printT vs)) ∧ Below w.heap.size w w' := by
  have HP := Lib.hid hp
  obtain ⟨_, hok, hf⟩ := hp.facts
  have Hsm := Lib.hid (lines_small hok hf)
  have ha : Asks 103 #[] (fun v => .string (lineB v)) (fun _ => true) vs w := fun W v hb hv => by
    have h := print1_any v.nm v.lab W (isName_size (hok.2.1 v hv)) (hf v hv).1 (hT.kept hb)
    simpa [lineB] using h
  have Ha := Lib.hid ha
  clear hp hT ha hok hf
  go_enter Tryz.func58, Tryz.ntmps58
  go_wp2_with fail
  refine (toldS_any _ _ (enters_at Tryz.func103 (by kernel_rfl) rfl) lineB _ p vs _ HP.out Ha.out).mono ?_
  rintro e w1 ⟨u, rfl, hown, hb⟩
  have hfl : (vs.filter fun _ => true) = vs := List.filter_eq_self.2 fun _ _ => rfl
  rw [hfl] at hown
  have Hv := Lib.hid (show Texts w1 u (vs.map lineB) from Texts.of_own (by rw [List.map_map]; exact hown))
  have B1 := Lib.hid hb
  clear hown hb hfl
  go_wp2_with fail
  refine (joined_any u (vs.map lineB) _ Hv.out Hsm.out).mono ?_
  rintro e w2 ⟨rfl, hb⟩
  have B2 := Lib.hid (below_join B1.out hb)
  clear hb
  go_wp2_with fail
  go_ret
  exact ⟨rfl, B2.out⟩
end Go.Proofs.YtajjikbigacbaaaGreatDoor
