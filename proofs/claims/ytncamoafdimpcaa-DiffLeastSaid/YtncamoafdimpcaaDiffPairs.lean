/- Own work: pairs compared; one text appended. -/
import Derived.Test.YtncamoafdimpcaaDiffFits
namespace Go.Proofs.Ytncamoafdimpcaa
open Go.RowKit

set_option maxRecDepth 100000 in
set_option maxHeartbeats 8000000 in
theorem samePairs_any (u v : Value) (l : List (Nat × Nat)) (B B' : Nat) (w : World) (hu : OwnP w B u l) (hv : OwnP w B' v l) :
    Calls Try.prog 18 #[u, v] w fun e w' => e = .returned (.bool true) ∧ Below w.heap.size w w' := by
  obtain ⟨uo, uc, ub, rfl, huo, hum, hcu⟩ := hu.form
  obtain ⟨vo, vc, vb, rfl, hvo, _, hcv⟩ := hv.form
  have Huo := Lib.hid huo
  have Hvo := Lib.hid hvo
  have Hcu := Lib.hid hcu
  have Hcv := Lib.hid hcv
  clear hu hv huo hvo hcu hcv
  obtain ⟨n, hn⟩ : ∃ n, l.length = n := ⟨_, rfl⟩
  have Hn := Lib.hid hn
  rw [hn] at hum ⊢
  clear hn
  unfold maxLen at hum
  go_enter Try.func18, Try.ntmps18
  go_wp2_with fail
  go_loopw [5] (fun y wr => ∃ k : Nat, k ≤ n ∧ y = .int .i64 (k : Int) ∧ Below w.heap.size w wr) (fun y _ => n - (intOf y).toNat)
  case atStart => exact ⟨0, Nat.zero_le _, rfl, Below.refl _ _⟩
  case round =>
    obtain ⟨k, hk, rfl, hb⟩ := hrel
    have HB := Lib.hid hb
    clear hb
    by_cases hlt : k < n
    · have hkl : k < l.length := by have := Hn.out; omega
      obtain rfl := Huo.out (by omega)
      obtain rfl := Hvo.out (by omega)
      obtain ⟨c1, c2⟩ := Hcu.out k hkl
      obtain ⟨d1, d2⟩ := Hcv.out k hkl
      obtain ⟨x, hx⟩ : ∃ x, l[k]'hkl = x := ⟨_, rfl⟩
      rw [hx] at c1 c2 d1 d2
      obtain ⟨x1, x2⟩ := x
      dsimp only at c1 c2 d1 d2
      have c1 := cell_kept HB.out c1
      have c2 := cell_kept HB.out c2
      have d1 := cell_kept HB.out d1
      have d2 := cell_kept HB.out d2
      have ki0 : (0 : Int) ≤ (k : Int) := by omega
      have ki1 : (k : Int) < (n : Int) := by omega
      have q1 : ((x1 : Int) != (x1 : Int)) = false := by simp
      have q2 : ((x2 : Int) != (x2 : Int)) = false := by simp
      clear hx
      go_wp2_with fail
      go_quiet (fail)
      go_wp2_with fail
      go_roundw
      case rel => exact ⟨k + 1, by omega, by go_num, below_drewN HB.out _⟩
      case measure => simp [intOf]; omega
    · obtain rfl : k = n := by omega
      go_wp2_with fail
      go_ret
      exact ⟨rfl, HB.out⟩

/-- append(v, s), v a row of texts of the call's own -/
theorem wpList_append_one {w0 : World} {ops : Array Oper} {rest : List Oper} {o : Oper} {a : Act} {Q : Exit → Act → World → Prop} (hgd : o.guard = none) (s x : Operand)
    (ho : o.op = .call { callee := .builtin .append, args := #[s, x], argTypes := #[23, 23] })
    (base : Nat) (v : Value) (xs : List ByteArray) (p : ByteArray) (hs : a.eval s = v) (hown : OwnT w0 base v xs) (t : TypeId) (H : Nat) (hH : w0.heap.size = H)
    (hx : a.eval x = .slice (some ⟨H, 0, none⟩) 1 1)
    (hn : (xs.length + 1) * 16 ≤ 140737488355328) (hbase : base ≤ w0.heap.size)
    (h : ∀ v' w', OwnT w' base v' (xs ++ [p]) → Below base w0 w' → wpList Try.prog ops Q rest (a.put o.dst v') w') : wpList Try.prog ops Q (o :: rest) a (w0.alloc (.cells #[.string p] t)) := by
  subst hH
  have hal : Below w0.heap.size w0 (w0.alloc (.cells #[.string p] t)) := (Below.refl _ _).alloc (Nat.le_refl _) _
  refine wpList_append_lot hgd s x ho base v xs hs (hown.below hal) _ [p] hx (texts_lit w0 [p] t (by simp) (by unfold maxLen; simp)) (.inr ⟨_, _, _, rfl⟩) (by simpa using hn) (by simp; omega) ?_
  intro v' w' h1 h2
  exact h v' w' h1 (((Below.refl base w0).alloc hbase _).grown h2 (by simp; omega) (fun q hq => (hown.lt q hq).1))
end Go.Proofs.Ytncamoafdimpcaa
