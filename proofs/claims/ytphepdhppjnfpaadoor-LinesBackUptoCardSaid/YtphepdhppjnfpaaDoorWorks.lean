import Derived.Test.YtphepdhppjnfpaaDoorInv
import Derived.Test.YtphepdhppjnfpaaDoorLinesB
namespace Go.Proofs.YtphepdhppjnfpaaDoor
open Go.RowKit Num

theorem wk_read : readN [45, 49, 50] = -12 ∧ readE [45, 49, 50] = 0 := by decide +kernel
theorem itoa_small {n : Nat} (h : n < 10) : Lib.itoa n = [UInt8.ofNat (48 + n)] := by
  rw [Lib.itoa, if_neg (by omega), Lib.decDigits, dif_pos (by omega)]
  rfl
theorem wk_show : showB ⟨#[104, 105]⟩ = ⟨#[50, 58, 104, 105]⟩ := by
  have e : Lib.itoa (2 : Nat) = [50] := itoa_small (by decide)
  show (⟨(Lib.itoa ((2 : Nat) : Int) ++ 58 :: [104, 105]).toArray⟩ : ByteArray) = _
  rw [e]
  rfl
theorem wk_shown : shownT [50, 58, 104, 105, 33] = [104, 105] ∧ shownR [50, 58, 104, 105, 33] = [33] ∧ shownE [50, 58, 104, 105, 33] = 0 := by decide +kernel
theorem wk_cut : cutT [97, 10, 10] = [⟨#[97]⟩, ⟨#[]⟩] ∧ cutE [97, 10, 10] = 0 := ⟨rfl, rfl⟩
theorem wk_seven : (⟨(Lib.itoa 7).toArray⟩ : ByteArray) = ⟨#[55]⟩ := by
  have e : Lib.itoa ((7 : Nat) : Int) = [55] := itoa_small (by decide)
  rw [show (7 : Int) = ((7 : Nat) : Int) from rfl, e]

theorem Texts.at {w : World} {v : Value} {ss : List ByteArray} (h : Texts w v ss) (h0 : 0 < ss.length) : ∃ b o cap, v = .slice (some ⟨b, o, none⟩) ss.length cap ∧ ∀ (i : Nat) (h : i < ss.length), w.cell? ⟨b, o + i, none⟩ = some (.string (ss[i]'h)) := by
  rcases h with ⟨_, _, _, rfl⟩ | ⟨b, o, cap, h1, _, _, _, h5⟩
  · simp at h0
  · exact ⟨b, o, cap, h1, h5⟩

set_option maxRecDepth 100000 in
set_option maxHeartbeats 8000000 in
theorem works_any (w : World) (hP : Pow w) (hM : MaxL w) :
    Calls Tryd.prog 8 #[] w fun e w' => e = .returned (.bool true) ∧ Below w.heap.size w w' := by
  have HI : Hid (Inv w w) := ⟨Below.refl _ _, hP, hM⟩
  clear hP hM
  go_enter Tryd.func8, Tryd.ntmps8
  go_wp2_with fail
  refine (read_any ⟨#[45, 49, 50]⟩ _ (by decide)).mono ?_
  rintro e w1 ⟨rfl, hb⟩
  rw [show (⟨#[45, 49, 50]⟩ : ByteArray).data.toList = [45, 49, 50] from rfl, wk_read.1, wk_read.2]
  have HI1 := Lib.hid (HI.out.step hb)
  clear hb
  go_wp2_with fail
  refine (show_any ⟨#[104, 105]⟩ _ (by decide) HI1.out.pow).mono ?_
  rintro e w2 ⟨rfl, hb⟩
  rw [wk_show]
  have HI2 := Lib.hid (HI1.out.step hb)
  clear hb
  go_wp2_with fail
  rw [show (⟨#[50, 58, 104, 105]⟩ : ByteArray) ++ ⟨#[33]⟩ = ⟨#[50, 58, 104, 105, 33]⟩ from rfl]
  refine (shown_any ⟨#[50, 58, 104, 105, 33]⟩ _ (by decide)).mono ?_
  rintro e w3 ⟨rfl, hb⟩
  rw [show (⟨#[50, 58, 104, 105, 33]⟩ : ByteArray).data.toList = [50, 58, 104, 105, 33] from rfl, wk_shown.1, wk_shown.2.1, wk_shown.2.2]
  have HI3 := Lib.hid (HI2.out.step hb)
  clear hb
  go_wp2_with fail
  refine (cut_any ⟨#[97, 10, 10]⟩ _ (by decide) HI3.out.maxl).mono ?_
  rintro e w4 ⟨c, rfl, hmc, hb⟩
  rw [show (⟨#[97, 10, 10]⟩ : ByteArray).data.toList = [97, 10, 10] from rfl] at hmc ⊢
  rw [wk_cut.1] at hmc
  rw [wk_cut.2]
  have HI4 := Lib.hid (HI3.out.step hb)
  obtain ⟨b, o, cap, rfl, hcell⟩ := hmc.texts.at (by decide)
  have c0 : w4.cell? ⟨b, o, none⟩ = some (.string ⟨#[97]⟩) := hcell 0 (by decide)
  have c1 : w4.cell? ⟨b, o + 1, none⟩ = some (.string ⟨#[]⟩) := hcell 1 (by decide)
  rw [show [(⟨#[97]⟩ : ByteArray), ⟨#[]⟩].length = 2 from rfl]
  clear hb hmc hcell
  go_wp2_with fail
  refine (number_any 7 (by decide) (by decide) _ HI4.out.pow).mono ?_
  rintro e w5 ⟨rfl, hb⟩
  rw [wk_seven]
  have HI5 := Lib.hid (HI4.out.step hb)
  clear hb c0 c1
  go_wp2_with fail
  refine (name_any ⟨#[97]⟩ _ (by decide)).mono ?_
  rintro e w6 ⟨rfl, hb⟩
  rw [show isName ⟨#[97]⟩ = true by decide +kernel]
  have HI6 := Lib.hid (HI5.out.step hb)
  clear hb
  go_wp2_with fail
  refine (text_any ⟨#[]⟩ _ (by decide)).mono ?_
  rintro e w7 ⟨rfl, rfl⟩
  rw [show isText ⟨#[]⟩ = true by decide +kernel]
  go_wp2_with fail
  refine (text_any ⟨#[10]⟩ _ (by decide)).mono ?_
  rintro e w8 ⟨rfl, rfl⟩
  rw [show isText ⟨#[10]⟩ = false by decide +kernel]
  go_wp2_with fail
  go_ret
  exact ⟨rfl, HI6.out.below⟩
end Go.Proofs.YtphepdhppjnfpaaDoor
