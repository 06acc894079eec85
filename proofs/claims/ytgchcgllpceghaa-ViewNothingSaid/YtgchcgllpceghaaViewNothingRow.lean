/- ViewNothing: for every input the law returns true and its arguments read as they did. Conditions: none. -/
import Derived.Test.YtgchcgllpceghaaSeeNoth
import Derived.Test.YtgchcgllpceghaaSeeOpen
import Derived.Test.YtgchcgllpceghaaOpenNums
import Derived.SizedLaws
import Derived.Test.YtgchcgllpceghaaLawKit
import Derived.Lib.SmallJoins
import Derived.ChangeMaps5
namespace Go.Proofs.Ytgchcgllpceghaa.viewNothing
open Go.ChangeShapes Go.WideShapes Go.ChangeAt Go.RowKit Go.Joins Go.ChangeMaps

set_option linter.unusedVariables false
theorem own : ownKnob Try.prog.godebug = none := by kernel_rfl
theorem laidOut : laidOutB Try.prog = true := by kernel_rfl

set_option maxRecDepth 100000 in
theorem contract (H : Type) (enc : TypeId × Value → H) (W : World) (base : Nat) (args : Array Value) (ds gs : List (DataW H)) (before : List MemPlace)
    (hval : ∀ (j : Nat) t v, Try.f9.params[j]? = some t → args[j]? = some v → Value.okWide Try.prog W .any base t v)
    (hW : DataW.Whole enc Try.prog Try.f9.params.toList Rows.viewNothingSpec.vars false W args.toList ds gs before)
    (hK : ∀ k, (OpenSpec.cond (OpenSpec.ofChange Rows.viewNothingSpec)) = some k → k H (ds ++ gs) = true)
    (hR : (DataW.weightsEach Try.prog (Try.f9.params.toList ++ (OpenSpec.bare (OpenSpec.ofChange Rows.viewNothingSpec)).plain.varTypes Try.prog) (ds ++ gs)).all (· ≤ reachBytes) = true)
    (hL : laidMetH Try.prog Rows.viewNothingRow.laid W) (hS : W.ShapedOpen Try.prog) :
    Calls Try.prog 9 args W fun e W' => ∃ v, e = .returned v ∧ Rows.viewNothingSpec.post enc Try.prog Try.f9 false true false false W args v W' := by
  have hW' := hW
  obtain ⟨p, q, hA0, hV, rfl, _, _⟩ := hW
  have hA : DataW.TrodAll enc Try.prog W 0 (fun _ => true) true Try.f9.params.toList args.toList ds p := hA0
  rw [Try.params9] at hA hval
  obtain ⟨v0, vs0, d0, ds0, p0, q0, hargs, rfl, rfl, h0, r0⟩ := trodAll_cons hA
  obtain ⟨v1, vs1, d1, ds1, p1, q1, rfl, rfl, rfl, h1, r1⟩ := trodAll_cons r0
  obtain ⟨v2, vs2, d2, ds2, p2, q2, rfl, rfl, rfl, h2, r2⟩ := trodAll_cons r1
  obtain ⟨v3, vs3, d3, ds3, p3, q3, rfl, rfl, rfl, h3, r3⟩ := trodAll_cons r2
  obtain ⟨v4, vs4, d4, ds4, p4, q4, rfl, rfl, rfl, h4, r4⟩ := trodAll_cons r3
  obtain ⟨rfl, rfl, rfl⟩ := trodAll_nil r4
  obtain rfl : args = #[v0, v1, v2, v3, v4] := by cases args; simp_all
  obtain ⟨rfl, rfl⟩ := trodVars_none hV
  have k0 := hval 0 22 v0 rfl rfl
  have k1 := hval 1 22 v1 rfl rfl
  have k2 := hval 2 28 v2 rfl rfl
  have k3 := hval 3 23 v3 rfl rfl
  have k4 := hval 4 23 v4 rfl rfl
  clear hA hA0 hval hV
  have walk : Calls Try.prog 9 #[v0, v1, v2, v3, v4] W fun e w' => e = .returned (.bool true) ∧ Below W.heap.size W w' := by
    clear hW'
    obtain ⟨l, hl, hf, hfi, hd⟩ := open_fines k0 h0
    obtain ⟨os, ho, _, hoi, _⟩ := open_fines k1 h1
    obtain ⟨ats, ha, _, hwf, _⟩ := open_nums Try.underlying28 Try.underlying3 (by kernel_rfl) k2 h2
    obtain ⟨c, rfl, rfl, rfl, hc⟩ := open_int Try.underlying23 k3 h3
    obtain ⟨b, rfl, rfl, rfl, hb⟩ := open_int Try.underlying23 k4 h4
    have hlen : l.length * 40 ≤ 140737488351232 := by
      rcases hd with rfl | ⟨elems, spare, hd, hl'⟩
      · simp
      · subst hd
        have h1 := sized_slice hR (j := 0) (t := 22) (e := 26) rfl rfl Try.underlying22
        have h2 : Try.prog.bytesOf 26 = 40 := by kernel_rfl
        rw [h2] at h1
        have h3 : reachBytes = 140737488351232 := by kernel_rfl
        rw [h3] at h1
        omega
    have hi : ∀ (i : Nat) (h : i < ats.length), -9223372036854775808 ≤ ats[i]'h ∧ ats[i]'h < 9223372036854775808 := by
      intro i h
      have := hwf _ (List.getElem_mem h)
      simp [Lit.wf, IntKind.min, IntKind.max, IntKind.signed, IntKind.bits] at this
      omega
    obtain ⟨c0, c1⟩ := fine_of hc
    obtain ⟨b0, b1⟩ := fine_of hb
    obtain ⟨c, rfl⟩ : ∃ x : Nat, c = x := ⟨c.toNat, by omega⟩
    obtain ⟨b, rfl⟩ : ∃ x : Nat, b = x := ⟨b.toNat, by omega⟩
    exact nothing_walk v0 v1 v2 l os ats c b W hl ho ha hfi hoi hi (by omega) (by omega) hlen
  refine walk.mono fun e W' ⟨he, hb⟩ => ?_
  subst he
  exact ⟨_, rfl, Kit.lawPost laidOut (by kernel_rfl) rfl rfl Try.underlying4 hW' rfl hb⟩

noncomputable def world0 (os : Os) : World := World.holding Try.prog os ⟨#[], #[], []⟩
theorem laid_met (os : Os) : laidMet Try.prog Rows.viewNothingRow.laid ((world0 os).forCall (fun _ _ => 0) ⟨#[], #[.slice none 0 0, .slice none 0 0, .slice none 0 0, .int .u64 0, .int .u64 0], []⟩).memory :=
  laidMet_of_run' 8 (by kernel_rfl) (by kernel_rfl)
theorem reads (os : Os) {H : Type} (enc : TypeId × Value → H) : ∃ places, DataW.whole enc Try.prog ((world0 os).forCall (fun _ _ => 0) ⟨#[], #[.slice none 0 0, .slice none 0 0, .slice none 0 0, .int .u64 0, .int .u64 0], []⟩).memory Try.f9.params.toList Rows.viewNothingSpec.vars false (#[.slice none 0 0, .slice none 0 0, .slice none 0 0, .int .u64 0, .int .u64 0] : Array Value).toList 20 = some ([.nil, .nil, .nil, .lit (.int .u64 0), .lit (.int .u64 0)], [], places) :=
  ⟨[], by kernel_rfl⟩

set_option maxRecDepth 100000 in
theorem lifted (os : Os) (started : os.Started) (H : Type) (enc : TypeId × Value → H) (F : Stop.Interp) :
    ReturnsInHanded {} Try.checked os 9 .any ((OpenSpec.ofChange Rows.viewNothingSpec).preRow enc Try.prog Try.f9 Rows.viewNothingRow.domain false Rows.viewNothingRow.laid) (((OpenSpec.ofChange Rows.viewNothingSpec).at F).post enc Try.prog Try.f9 false true false false) := by
  obtain ⟨places, hx⟩ := reads os enc
  refine returnsInHanded_of_row (C := Try.checked) (s := (OpenSpec.ofChange Rows.viewNothingSpec)) own started (by kernel_rfl) Try.func9
    (witness_row_at (enc := enc) (C := Try.checked) false (world0 os) #[.slice none 0 0, .slice none 0 0, .slice none 0 0, .int .u64 0, .int .u64 0] rfl (by kernel_rfl) (by kernel_rfl) (by kernel_rfl)
      (OpenSpec.preRow_of_cond 20 hx (by kernel_rfl) (fun k hk => by cases hk) (by kernel_rfl) (laid_met os))) ?_
  intro W base args ds gs before hval hW _ hK hR hL hS _
  exact contract H enc W base args ds gs before hval hW hK hR hL hS

theorem proved : Rows.ViewNothingSaid :=
  OpenClaim.holds_of_cond 9 Try.f9 rfl rfl rfl rfl rfl rfl rfl ⟨rfl, rfl, rfl, rfl, rfl⟩ rfl rfl rfl rfl rfl (by kernel_rfl) Try.func9 (by kernel_rfl)
    (of_decide_eq_true (by kernel_rfl)) (by unfold Func.isWrapper; first | (rw [if_pos (by decide +kernel)]; kernel_rfl) | (rw [if_neg (by decide +kernel)]; exact ⟨rfl, rfl⟩))
    (fun os started H enc _ F => by rw [OpenClaim.pre_eq_preRow]; exact lifted os started H enc F)
end Go.Proofs.Ytgchcgllpceghaa.viewNothing
