import Derived.Test.YtphepdhppjnfpaaDoorWorks
import Derived.Test.YtphepdhppjnfpaaDoorBackMath
namespace Go.Proofs.YtphepdhppjnfpaaDoor
open Go.RowKit Num

def zeros (n : Nat) : Array Value := (List.replicate n (Value.int .u8 0)).toArray
def longB : ByteArray := ⟨(List.replicate 257 (0 : UInt8)).toArray⟩
theorem mk_long (w : World) : (Instr.makeSlice 23 (.int .i64 257) (.int .i64 257)).run Tryd.prog w = .ok (.slice (some ⟨w.heap.size, 0, none⟩) 257 257) (w.alloc (.cells (zeros 257) 5)) := by
  kernel_rfl
theorem cv_long (w : World) : (convert 23 9 (.slice (some ⟨w.heap.size, 0, none⟩) 257 257)).run Tryd.prog (w.alloc (.cells (zeros 257) 5)) = .ok (.string longB) (w.alloc (.cells (zeros 257) 5)) := by
  have h : (w.alloc (.cells (zeros 257) 5)).ownsRow w.heap.size 5 1 (.slice (some ⟨w.heap.size, 0, none⟩) 257 257) 257 (zeros 257).toList := World.ownsRow_lit w (zeros 257) 257 (Nat.le_refl _) (by decide) (by kernel_rfl)
  have e : (zeros 257).toList = Lib.byteCells (List.replicate 257 (0 : UInt8)) := by kernel_rfl
  rw [e] at h
  have := run_rowText (w.alloc (.cells (zeros 257) 5)) (l := List.replicate 257 (0 : UInt8)) (by rw [List.length_replicate]; exact h)
  exact this
theorem long_size : longB.size = 257 := by kernel_rfl
def badTexts : List ByteArray := [⟨#[51, 58, 104, 105]⟩, ⟨#[45, 49, 58]⟩, ⟨#[50, 104, 105]⟩, ⟨#[48, 50, 58, 104, 105]⟩]
theorem bad_all : ∀ (k : Nat) (h : k < badTexts.length), shownE (badTexts[k]'h).data.toList = 4 ∧ (badTexts[k]'h).size ≤ maxLen
  | 0, _ => show shownE [51, 58, 104, 105] = 4 ∧ (⟨#[51, 58, 104, 105]⟩ : ByteArray).size ≤ maxLen by decide +kernel
  | 1, _ => show shownE [45, 49, 58] = 4 ∧ (⟨#[45, 49, 58]⟩ : ByteArray).size ≤ maxLen by decide +kernel
  | 2, _ => show shownE [50, 104, 105] = 4 ∧ (⟨#[50, 104, 105]⟩ : ByteArray).size ≤ maxLen by decide +kernel
  | 3, _ => show shownE [48, 50, 58, 104, 105] = 4 ∧ (⟨#[48, 50, 58, 104, 105]⟩ : ByteArray).size ≤ maxLen by decide +kernel
  | k + 4, h => absurd h (by simp [badTexts])
theorem bad_cells (w : World) : ∀ (j : Nat) (h : j < badTexts.length), (w.alloc (.cells #[.string ⟨#[51, 58, 104, 105]⟩, .string ⟨#[45, 49, 58]⟩, .string ⟨#[50, 104, 105]⟩, .string ⟨#[48, 50, 58, 104, 105]⟩] 9)).cell? ⟨w.heap.size, j, none⟩ = some (.string (badTexts[j]'h))
  | 0, _ => by simp [badTexts]
  | 1, _ => by simp [badTexts]
  | 2, _ => by simp [badTexts]
  | 3, _ => by simp [badTexts]
  | k + 4, h => absurd h (by simp [badTexts])
theorem itoa_least : (⟨(Lib.itoa (-9223372036854775808)).toArray⟩ : ByteArray) = ⟨#[45, 57, 50, 50, 51, 51, 55, 50, 48, 51, 54, 56, 53, 52, 55, 55, 53, 56, 48, 56]⟩ := by
  have h : takeL [45, 57, 50, 50, 51, 51, 55, 50, 48, 51, 54, 56, 53, 52, 55, 55, 53, 56, 48, 56] = some (-9223372036854775808, []) := by decide +kernel
  have := itoa_take h
  rw [List.append_nil] at this
  rw [this]
def nameB : ByteArray := ⟨#[97, 98, 99, 100, 101, 102, 103, 104, 105, 106, 107, 108, 109, 110, 111, 112, 113, 114, 115, 116, 117, 118, 119, 120, 121, 122, 48, 49, 50, 51, 52, 45, 95]⟩
theorem long_facts : isText longB = false ∧ isText (longB.extract 0 256) = true ∧ isName nameB = false ∧ isName (nameB.extract 0 32) = true ∧ isName (nameB.extract 1 33) = true := by
  refine ⟨?_, ?_, ?_, ?_, ?_⟩ <;> decide +kernel
theorem err_facts (lb : ByteArray) (h : isText lb = false) (h2 : isText (lb.extract 0 256) = true) : lineErr 1 0 (lb.extract 0 256) = 0 ∧ lineErr 1 0 lb = 10 ∧ lineErr 0 0 ⟨#[]⟩ = 10 ∧ lineErr 4611686018427387904 4611686018427387904 ⟨#[]⟩ = 0 ∧
    lineErr 4611686018427387905 0 ⟨#[]⟩ = 10 ∧ lineErr 1 4611686018427387905 ⟨#[]⟩ = 10 ∧ lineErr 1 (-1) ⟨#[]⟩ = 10 := by
  have e : isText ⟨#[]⟩ = true := by decide +kernel
  simp [lineErr, h, h2, e]

set_option maxRecDepth 100000 in
set_option maxHeartbeats 32000000 in
theorem names_walk (w : World) (hI : Inv w w) :
    Calls Tryd.prog 3 #[] w fun e w' => e = .returned (.bool true) ∧ Below w.heap.size w w' := by
  have HI := Lib.hid hI
  clear hI
  have hmk := fun w => mk_long w
  have hcv := fun w => cv_long w
  have hls := long_size
  have Hls := Lib.hid hls
  clear hls
  obtain ⟨lb, hlb⟩ : ∃ x, longB = x := ⟨_, rfl⟩
  have Hlb := Lib.hid hlb
  obtain ⟨f1, f2, f3, f4, f5⟩ := long_facts
  have hes : (longB.extract 0 256).size ≤ maxLen := by rw [ByteArray.size_extract]; unfold maxLen; omega
  have hls2 : longB.size ≤ maxLen := by rw [Hls.out]; decide
  rw [hlb] at hcv f1 f2 hes hls2
  have hlen : lb.size = 257 := by rw [← hlb]; exact Hls.out
  have hee := err_facts lb f1 f2
  have F1 := Lib.hid f1
  have F2 := Lib.hid f2
  have F3 := Lib.hid f3
  have F4 := Lib.hid f4
  have F5 := Lib.hid f5
  have Hes := Lib.hid hes
  have Hls2 := Lib.hid hls2
  have Hlen := Lib.hid hlen
  have hl1 : 256 ≤ lb.size := by omega
  have EE := Lib.hid hee
  clear hlb f1 f2 f3 f4 f5 hes hls2 hlen hee
  have hnm : nameB.size = 33 := by kernel_rfl
  have Hnm := Lib.hid hnm
  clear hnm
  go_enter Tryd.func3, Tryd.ntmps3
  go_wp2_with fail
  refine (works_any _ HI.out.pow HI.out.maxl).mono ?_
  rintro e w1 ⟨rfl, hb⟩
  have HI1 := Lib.hid (HI.out.step hb)
  clear hb
  go_wp2_with fail
  have HI2 := Lib.hid (HI1.out.step ((Below.refl _ _).alloc (Nat.le_refl _) (.cells (zeros 257) 5)))
  clear HI1
  have HI1 := HI2
  clear HI2
  refine (text_any lb _ Hls2.out).mono ?_
  rintro e w2 ⟨rfl, rfl⟩
  rw [F1.out]
  have HI2 := HI1
  go_wp2_with fail
  refine (text_any (lb.extract 0 256) _ Hes.out).mono ?_
  rintro e w3 ⟨rfl, rfl⟩
  rw [F2.out]
  have HI3 := HI2
  go_wp2_with fail
  refine (name_any nameB _ (by decide)).mono ?_
  rintro e w4 ⟨rfl, hb⟩
  rw [F3.out]
  have HI4 := Lib.hid (HI3.out.step hb)
  clear hb
  go_wp2_with fail
  refine (name_any (nameB.extract 0 32) _ (by decide +kernel)).mono ?_
  rintro e w5 ⟨rfl, hb⟩
  rw [F4.out]
  have HI5 := Lib.hid (HI4.out.step hb)
  clear hb
  go_wp2_with fail
  refine (name_any (nameB.extract 1 33) _ (by decide +kernel)).mono ?_
  rintro e w6 ⟨rfl, hb⟩
  rw [F5.out]
  have HI6 := Lib.hid (HI5.out.step hb)
  clear hb
  go_wp2_with fail
  refine (check_any 0 1 0 (lb.extract 0 256) _ Hes.out).mono ?_
  rintro e w7 ⟨rfl, hb⟩
  rw [EE.out.1]
  have HI7 := Lib.hid (HI6.out.step hb)
  clear hb
  go_wp2_with fail
  refine (check_any 0 1 0 lb _ Hls2.out).mono ?_
  rintro e w8 ⟨rfl, hb⟩
  rw [EE.out.2.1]
  have HI8 := Lib.hid (HI7.out.step hb)
  clear hb
  go_wp2_with fail
  refine (check_any 0 0 0 ⟨#[]⟩ _ (by decide)).mono ?_
  rintro e w9 ⟨rfl, hb⟩
  rw [EE.out.2.2.1]
  have HI9 := Lib.hid (HI8.out.step hb)
  clear hb
  go_wp2_with fail
  refine (check_any 0 4611686018427387904 4611686018427387904 ⟨#[]⟩ _ (by decide)).mono ?_
  rintro e w10 ⟨rfl, hb⟩
  rw [EE.out.2.2.2.1]
  have HI10 := Lib.hid (HI9.out.step hb)
  clear hb
  go_wp2_with fail
  refine (check_any 0 4611686018427387905 0 ⟨#[]⟩ _ (by decide)).mono ?_
  rintro e w11 ⟨rfl, hb⟩
  rw [EE.out.2.2.2.2.1]
  have HI11 := Lib.hid (HI10.out.step hb)
  clear hb
  go_wp2_with fail
  refine (check_any 0 1 4611686018427387905 ⟨#[]⟩ _ (by decide)).mono ?_
  rintro e w12 ⟨rfl, hb⟩
  rw [EE.out.2.2.2.2.2.1]
  have HI12 := Lib.hid (HI11.out.step hb)
  clear hb
  go_wp2_with fail
  refine (check_any 0 1 (-1) ⟨#[]⟩ _ (by decide)).mono ?_
  rintro e w13 ⟨rfl, hb⟩
  rw [EE.out.2.2.2.2.2.2]
  have HI13 := Lib.hid (HI12.out.step hb)
  clear hb
  go_wp2_with fail
  obtain ⟨wo, hwo⟩ : ∃ wo : World, wo = w13 := ⟨_, rfl⟩
  subst hwo
  have HIL := Lib.hid (HI13.out.step ((Below.refl _ _).alloc (Nat.le_refl _) (.cells #[.string ⟨#[51, 58, 104, 105]⟩, .string ⟨#[45, 49, 58]⟩, .string ⟨#[50, 104, 105]⟩, .string ⟨#[48, 50, 58, 104, 105]⟩] 9)))
  go_loopw [94] (fun i wr => ∃ k : Nat, k ≤ 4 ∧ i = .int .i64 k ∧ Below wo.heap.size wo wr ∧ Inv w wr ∧ (∀ (j : Nat) (h : j < badTexts.length), wr.cell? ⟨wo.heap.size, j, none⟩ = some (.string (badTexts[j]'h)))) (fun i _ => 4 - (intOf i).toNat)
  case atStart => exact ⟨0, by decide, rfl, (Below.refl _ _).alloc (Nat.le_refl _) _, HIL.out, bad_cells _⟩
  case round =>
    obtain ⟨k, hk, rfl, hbw, hIr, hcells⟩ := hrel
    have Hbw := Lib.hid hbw
    have HIr := Lib.hid hIr
    have Hcells := Lib.hid hcells
    clear hbw hIr hcells
    by_cases hlt : k < 4
    · have hkl : k < badTexts.length := hlt
      have c1 := Hcells.out k hkl
      obtain ⟨x, hx⟩ : ∃ x, badTexts[k]'hkl = x := ⟨_, rfl⟩
      obtain ⟨hE, hS⟩ := bad_all k hkl
      rw [hx] at c1 hE hS
      have HE := Lib.hid hE
      have HS := Lib.hid hS
      have hb0 : (0 : Int) ≤ (k : Int) := by omega
      have hb1 : (k : Int) < 4 := by omega
      clear hx hE hS
      go_wp2_with fail
      refine (shown_any x _ HS.out).mono ?_
      rintro e w2 ⟨rfl, hb⟩
      rw [HE.out]
      have HI2 := Lib.hid (HIr.out.step hb)
      have Hb2 := Lib.hid (Hbw.out.trans (hb.mono Hbw.out.size))
      have Hc2 : Hid (∀ (j : Nat) (h : j < badTexts.length), w2.cell? ⟨wo.heap.size, j, none⟩ = some (.string (badTexts[j]'h))) := fun j h => cell_kept hb (Hcells.out j h)
      clear hb c1
      go_wp2_with fail
      go_roundw
      case rel => exact ⟨k + 1, by omega, by go_num, Hb2.out, HI2.out, Hc2.out⟩
      case measure => simp [intOf]; omega
    · have HI13 := HIr
      clear Hbw Hcells
      go_wp2_with fail
      refine (name_any ⟨#[97, 46, 98]⟩ _ (by decide)).mono ?_
      rintro e w14 ⟨rfl, hb⟩
      rw [show isName ⟨#[97, 46, 98]⟩ = false by decide +kernel]
      have HI14 := Lib.hid (HI13.out.step hb)
      clear hb
      go_wp2_with fail
      refine (name_any ⟨#[97, 32, 98]⟩ _ (by decide)).mono ?_
      rintro e w15 ⟨rfl, hb⟩
      rw [show isName ⟨#[97, 32, 98]⟩ = false by decide +kernel]
      have HI15 := Lib.hid (HI14.out.step hb)
      clear hb
      go_wp2_with fail
      refine (name_any ⟨#[97, 66]⟩ _ (by decide)).mono ?_
      rintro e w16 ⟨rfl, hb⟩
      rw [show isName ⟨#[97, 66]⟩ = false by decide +kernel]
      have HI16 := Lib.hid (HI15.out.step hb)
      clear hb
      go_wp2_with fail
      refine (name_any ⟨#[]⟩ _ (by decide)).mono ?_
      rintro e w17 ⟨rfl, hb⟩
      rw [show isName ⟨#[]⟩ = false by decide +kernel]
      have HI17 := Lib.hid (HI16.out.step hb)
      clear hb
      go_wp2_with fail
      refine (read_any ⟨#[45, 57, 50, 50, 51, 51, 55, 50, 48, 51, 54, 56, 53, 52, 55, 55, 53, 56, 48, 56]⟩ _ (by decide)).mono ?_
      rintro e w18 ⟨rfl, hb⟩
      rw [show readN (⟨#[45, 57, 50, 50, 51, 51, 55, 50, 48, 51, 54, 56, 53, 52, 55, 55, 53, 56, 48, 56]⟩ : ByteArray).data.toList = -9223372036854775808 by decide +kernel, show readE (⟨#[45, 57, 50, 50, 51, 51, 55, 50, 48, 51, 54, 56, 53, 52, 55, 55, 53, 56, 48, 56]⟩ : ByteArray).data.toList = 0 by decide +kernel]
      have HI18 := Lib.hid (HI17.out.step hb)
      clear hb
      go_wp2_with fail
      refine (read_any ⟨#[57, 50, 50, 51, 51, 55, 50, 48, 51, 54, 56, 53, 52, 55, 55, 53, 56, 48, 55]⟩ _ (by decide)).mono ?_
      rintro e w19 ⟨rfl, hb⟩
      rw [show readN (⟨#[57, 50, 50, 51, 51, 55, 50, 48, 51, 54, 56, 53, 52, 55, 55, 53, 56, 48, 55]⟩ : ByteArray).data.toList = 9223372036854775807 by decide +kernel, show readE (⟨#[57, 50, 50, 51, 51, 55, 50, 48, 51, 54, 56, 53, 52, 55, 55, 53, 56, 48, 55]⟩ : ByteArray).data.toList = 0 by decide +kernel]
      have HI19 := Lib.hid (HI18.out.step hb)
      clear hb
      go_wp2_with fail
      refine (read_any ⟨#[57, 50, 50, 51, 51, 55, 50, 48, 51, 54, 56, 53, 52, 55, 55, 53, 56, 48, 56]⟩ _ (by decide)).mono ?_
      rintro e w20 ⟨rfl, hb⟩
      rw [show readN (⟨#[57, 50, 50, 51, 51, 55, 50, 48, 51, 54, 56, 53, 52, 55, 55, 53, 56, 48, 56]⟩ : ByteArray).data.toList = 0 by decide +kernel, show readE (⟨#[57, 50, 50, 51, 51, 55, 50, 48, 51, 54, 56, 53, 52, 55, 55, 53, 56, 48, 56]⟩ : ByteArray).data.toList = 4 by decide +kernel]
      have HI20 := Lib.hid (HI19.out.step hb)
      clear hb
      go_wp2_with fail
      refine (read_any ⟨#[45, 57, 50, 50, 51, 51, 55, 50, 48, 51, 54, 56, 53, 52, 55, 55, 53, 56, 48, 57]⟩ _ (by decide)).mono ?_
      rintro e w21 ⟨rfl, hb⟩
      rw [show readN (⟨#[45, 57, 50, 50, 51, 51, 55, 50, 48, 51, 54, 56, 53, 52, 55, 55, 53, 56, 48, 57]⟩ : ByteArray).data.toList = 0 by decide +kernel, show readE (⟨#[45, 57, 50, 50, 51, 51, 55, 50, 48, 51, 54, 56, 53, 52, 55, 55, 53, 56, 48, 57]⟩ : ByteArray).data.toList = 4 by decide +kernel]
      have HI21 := Lib.hid (HI20.out.step hb)
      clear hb
      go_wp2_with fail
      refine (read_any ⟨#[57, 57, 57, 57, 57, 57, 57, 57, 57, 57, 57, 57, 57, 57, 57, 57, 57, 57, 57, 57, 57, 57, 57, 57, 57, 57]⟩ _ (by decide)).mono ?_
      rintro e w22 ⟨rfl, hb⟩
      rw [show readN (⟨#[57, 57, 57, 57, 57, 57, 57, 57, 57, 57, 57, 57, 57, 57, 57, 57, 57, 57, 57, 57, 57, 57, 57, 57, 57, 57]⟩ : ByteArray).data.toList = 0 by decide +kernel, show readE (⟨#[57, 57, 57, 57, 57, 57, 57, 57, 57, 57, 57, 57, 57, 57, 57, 57, 57, 57, 57, 57, 57, 57, 57, 57, 57, 57]⟩ : ByteArray).data.toList = 4 by decide +kernel]
      have HI22 := Lib.hid (HI21.out.step hb)
      clear hb
      go_wp2_with fail
      refine (number_any (-9223372036854775808) (by decide) (by decide) _ HI22.out.pow).mono ?_
      rintro e w23 ⟨rfl, hb⟩
      rw [itoa_least]
      have HI23 := Lib.hid (HI22.out.step hb)
      clear hb
      go_wp2_with fail
      go_ret
      exact ⟨rfl, HI23.out.below⟩
end Go.Proofs.YtphepdhppjnfpaaDoor
