import Derived.Test.YtphepdhppjnfpaaRows
import Derived.WalkKit
import Derived.WalkSpells
import Derived.Lib.Hide
import Derived.Deep.QuietTactic
import Derived.BigQuiet
import Derived.Deep.RegionHeld3
import Derived.Test.YtphepdhppjnfpaaTexts
namespace Go.Proofs.Ytphepdhppjnfpaa
open Go.RowKit

/-- a line as it lies in memory: label, number, revision, text -/
structure LineV where
  lab : Int
  num : Int
  rev : Int
  text : ByteArray
def LineV.cells (l : LineV) : List Value := [.int .u64 l.lab, .int .i64 l.num, .int .i64 l.rev, .string l.text]
def LineV.agg (l : LineV) : Value := .agg #[.int .u64 l.lab, .int .i64 l.num, .int .i64 l.rev, .string l.text]
/-- are two lines the same? -/
def oneB (a b : LineV) : Bool := a.lab == b.lab && a.num == b.num && a.rev == b.rev && a.text.toList == b.text.toList

set_option maxHeartbeats 1000000 in
theorem same1_any (a b : LineV) (w : World) :
    Calls Try.prog 19 #[a.agg, b.agg] w fun e w' => e = .returned (.bool (oneB a b)) ∧ Below w.heap.size w w' := by
  obtain ⟨a1, a2, a3, a4⟩ := a
  obtain ⟨b1, b2, b3, b4⟩ := b
  simp only [LineV.agg]
  go_enter Try.func19, Try.ntmps19
  go_wp2
  all_goals
    go_ret
    exact ⟨retBool (by simp_all [oneB]), ((Below.refl _ _).alloc (Nat.le_refl _) _).alloc (by simp) _⟩
set_option maxHeartbeats 1000000 in
theorem one_any (a b : LineV) (w : World) :
    Calls Try.prog 20 #[a.agg, b.agg] w fun e w' => e = .returned (.bool (oneB a b)) ∧ Below w.heap.size w w' := by
  obtain ⟨a1, a2, a3, a4⟩ := a
  obtain ⟨b1, b2, b3, b4⟩ := b
  simp only [LineV.agg]
  go_enter Try.func20, Try.ntmps20
  go_wp2
  all_goals
    go_ret
    exact ⟨retBool (by simp_all [oneB]), ((Below.refl _ _).alloc (Nat.le_refl _) _).alloc (by simp) _⟩

/-- v is a slice that holds these lines -/
def Lns (w : World) (v : Value) (ls : List LineV) : Prop :=
  (∃ ao cap, v = .slice ao 0 cap ∧ ls = []) ∨
  ∃ b o cap, v = .slice (some ⟨b, o, none⟩) ls.length cap ∧ 0 < ls.length ∧ ls.length ≤ cap ∧ cap ≤ maxLen ∧
    ∀ (i : Nat) (h : i < ls.length), w.cell? ⟨b, o + i * 4, none⟩ = some (.int .u64 (ls[i]'h).lab) ∧ w.cell? ⟨b, o + i * 4 + 1, none⟩ = some (.int .i64 (ls[i]'h).num) ∧
      w.cell? ⟨b, o + i * 4 + 2, none⟩ = some (.int .i64 (ls[i]'h).rev) ∧ w.cell? ⟨b, o + i * 4 + 3, none⟩ = some (.string (ls[i]'h).text)
theorem Lns.kept {w w' : World} {v : Value} {ls : List LineV} (h : Lns w v ls) (hb : Below w.heap.size w w') : Lns w' v ls := by
  rcases h with h | ⟨b, o, cap, h1, h2, h3, h4, h5⟩
  · exact .inl h
  · refine .inr ⟨b, o, cap, h1, h2, h3, h4, fun i hi => ?_⟩
    obtain ⟨c0, c1, c2, c3⟩ := h5 i hi
    exact ⟨cell_kept hb c0, cell_kept hb c1, cell_kept hb c2, cell_kept hb c3⟩

/-- are two lists of lines the same, one by one? -/
def sameL : List LineV → List LineV → Bool
  | [], [] => true
  | a :: r, b :: q => oneB a b && sameL r q
  | _, _ => false
theorem sameL_len : ∀ {a b : List LineV}, a.length ≠ b.length → sameL a b = false
  | [], [], h => absurd rfl h
  | [], _ :: _, _ => rfl
  | _ :: _, [], _ => rfl
  | a :: r, b :: q, h => by
    rw [sameL, sameL_len (by simpa using h), Bool.and_false]
theorem sameL_at : ∀ {a b : List LineV} (k : Nat) (ha : k < a.length) (hb : k < b.length), oneB a[k] b[k] = false → sameL a b = false
  | [], _, k, ha, _, _ => by simp at ha
  | _ :: _, [], k, _, hb, _ => by simp at hb
  | a :: r, b :: q, 0, _, _, h => by
    simp at h
    rw [sameL, h, Bool.false_and]
  | a :: r, b :: q, k + 1, ha, hb, h => by
    simp at h
    rw [sameL, sameL_at k (by simpa using ha) (by simpa using hb) h, Bool.and_false]
theorem sameL_all : ∀ {a b : List LineV}, a.length = b.length → (∀ (j : Nat) (ha : j < a.length) (hb : j < b.length), oneB a[j] b[j] = true) → sameL a b = true
  | [], [], _, _ => rfl
  | [], _ :: _, h, _ => by simp at h
  | _ :: _, [], h, _ => by simp at h
  | a :: r, b :: q, hl, h => by
    have h0 := h 0 (by simp) (by simp)
    simp at h0
    rw [sameL, h0, Bool.true_and]
    exact sameL_all (by simpa using hl) fun j ha hb => by
      have := h (j + 1) (by simpa using ha) (by simpa using hb)
      simpa using this

set_option maxRecDepth 100000 in
set_option maxHeartbeats 8000000 in
theorem refSame_any (u v : Value) (a b : List LineV) (w : World) (hu : Lns w u a) (hv : Lns w v b) :
    Calls Try.prog 15 #[u, v] w fun e w' => e = .returned (.bool (sameL a b)) ∧ Below w.heap.size w w' := by
  by_cases hl : a.length = b.length
  · rcases hu with ⟨ao, cap, rfl, rfl⟩ | ⟨bu, ou, cu, rfl, hpu, huc, hum, hcu⟩
    · have hb0 : b = [] := List.eq_nil_of_length_eq_zero hl.symm
      subst hb0
      rcases hv with ⟨bo, cap', rfl, _⟩ | ⟨bv, ov, cv, rfl, hpv, _⟩
      · go_enter Try.func15, Try.ntmps15
        go_wp2
        go_loop [5] (fun i => i = .int .i64 0) (fun _ => 0)
        case atStart => rfl
        case round =>
          subst hrel
          go_wp2
          go_ret
          exact ⟨retBool (by simp [sameL]), Below.refl _ _⟩
      · simp at hpv
    · rcases hv with ⟨bo, cap', rfl, rfl⟩ | ⟨bv, ov, cv, rfl, hpv, hvc, hvm, hcv⟩
      · simp only [List.length_nil] at hl; omega
      · obtain ⟨n, hn⟩ : ∃ n, a.length = n := ⟨_, rfl⟩
        have hn' : b.length = n := by omega
        have Hn := Lib.hid hn
        have Hn' := Lib.hid hn'
        have Hcu := Lib.hid hcu
        have Hcv := Lib.hid hcv
        rw [hn] at hpu huc ⊢
        rw [hn'] at hpv hvc ⊢
        clear hn hn' hcu hcv hl
        unfold maxLen at hum hvm
        go_enter Try.func15, Try.ntmps15
        go_wp2
        go_loopw [5] (fun i wr => ∃ k : Nat, k ≤ n ∧ i = .int .i64 k ∧ Hid (∀ (j : Nat) (ha : j < a.length) (hb : j < b.length), j < k → oneB a[j] b[j] = true) ∧ Below w.heap.size w wr) (fun i _ => n - (intOf i).toNat)
        case atStart => exact ⟨0, Nat.zero_le _, rfl, by intro j _ _ h; omega, Below.refl _ _⟩
        case round =>
          obtain ⟨k, hk, rfl, Hall, hbw⟩ := hrel
          by_cases hlt : k < n
          · have hka : k < a.length := by have := Hn.out; omega
            have hkb : k < b.length := by have := Hn'.out; omega
            obtain ⟨c0, c1, c2, c3⟩ := Hcu.out k hka
            obtain ⟨d0, d1, d2, d3⟩ := Hcv.out k hkb
            have c0 := cell_kept hbw c0
            have c1 := cell_kept hbw c1
            have c2 := cell_kept hbw c2
            have c3 := cell_kept hbw c3
            have d0 := cell_kept hbw d0
            have d1 := cell_kept hbw d1
            have d2 := cell_kept hbw d2
            have d3 := cell_kept hbw d3
            have hi0 : (0 : Int) ≤ (k : Int) := by omega
            have hi1 : (k : Int) < (n : Int) := by omega
            obtain ⟨x, hx⟩ : ∃ x, a[k]'hka = x := ⟨_, rfl⟩
            obtain ⟨y, hy⟩ : ∃ y, b[k]'hkb = y := ⟨_, rfl⟩
            have Hx := Lib.hid hx
            have Hy := Lib.hid hy
            rw [hx] at c0 c1 c2 c3
            rw [hy] at d0 d1 d2 d3
            have Hbw := Lib.hid hbw
            clear hx hy hbw
            by_cases he : oneB x y = true
            · have hnx : Hid (oneB (a[k]'hka) (b[k]'hkb) = true) := by show _ = _; rw [Hx.out, Hy.out]; exact he
              go_wp2_with fail
              go_region_held3 (fun w' => w'.cell? ⟨bu, ou + k * 4, none⟩ = some (.int .u64 x.lab) ∧ w'.cell? ⟨bu, ou + k * 4 + 1, none⟩ = some (.int .i64 x.num) ∧ w'.cell? ⟨bu, ou + k * 4 + 2, none⟩ = some (.int .i64 x.rev) ∧ w'.cell? ⟨bu, ou + k * 4 + 3, none⟩ = some (.string x.text) ∧
                  w'.cell? ⟨bv, ov + k * 4, none⟩ = some (.int .u64 y.lab) ∧ w'.cell? ⟨bv, ov + k * 4 + 1, none⟩ = some (.int .i64 y.num) ∧ w'.cell? ⟨bv, ov + k * 4 + 2, none⟩ = some (.int .i64 y.rev) ∧ w'.cell? ⟨bv, ov + k * 4 + 3, none⟩ = some (.string y.text) ∧ Below w.heap.size w w')
                (first
                  | (go_split_ands; refine ⟨?_, ?_, ?_, ?_, ?_, ?_, ?_, ?_, ?_⟩ <;> first | assumption | exact Hbw.out.drew | exact cell_kept hc (by assumption) | exact below_join (by assumption) hc | (simp; assumption)))
                (first
                  | (go_at_call 20; refine (one_any x y _).mono ?_; rintro e w1 ⟨rfl, hc⟩))
              go_wp2_with fail
              go_roundw
              case rel =>
                refine ⟨k + 1, by omega, by go_num, fun j ha hb hjk => ?_, by go_split_ands; assumption⟩
                by_cases e : j = k
                · subst e
                  exact hnx.out
                · exact Hall.out j ha hb (by omega)
              case measure => simp [intOf]; omega
            · have he' : oneB x y = false := by simpa using he
              have HF := Lib.hid (sameL_at k hka hkb (by rw [Hx.out, Hy.out]; exact he'))
              clear he
              go_wp2_with fail
              go_region_held3 (fun w' => w'.cell? ⟨bu, ou + k * 4, none⟩ = some (.int .u64 x.lab) ∧ w'.cell? ⟨bu, ou + k * 4 + 1, none⟩ = some (.int .i64 x.num) ∧ w'.cell? ⟨bu, ou + k * 4 + 2, none⟩ = some (.int .i64 x.rev) ∧ w'.cell? ⟨bu, ou + k * 4 + 3, none⟩ = some (.string x.text) ∧
                  w'.cell? ⟨bv, ov + k * 4, none⟩ = some (.int .u64 y.lab) ∧ w'.cell? ⟨bv, ov + k * 4 + 1, none⟩ = some (.int .i64 y.num) ∧ w'.cell? ⟨bv, ov + k * 4 + 2, none⟩ = some (.int .i64 y.rev) ∧ w'.cell? ⟨bv, ov + k * 4 + 3, none⟩ = some (.string y.text) ∧ Below w.heap.size w w')
                (first
                  | (go_split_ands; refine ⟨?_, ?_, ?_, ?_, ?_, ?_, ?_, ?_, ?_⟩ <;> first | assumption | exact Hbw.out.drew | exact cell_kept hc (by assumption) | exact below_join (by assumption) hc | (simp; assumption)))
                (first
                  | (go_at_call 20; refine (one_any x y _).mono ?_; rintro e w1 ⟨rfl, hc⟩))
              go_wp2_with fail
              go_ret
              exact ⟨retBool HF.out.symm, by go_split_ands; assumption⟩
          · go_wp2
            go_ret
            exact ⟨retBool (sameL_all (by rw [Hn.out, Hn'.out]) fun j ha hb => Hall.out j ha hb (by have := Hn.out; omega)).symm, hbw⟩
  · have HF := Lib.hid (sameL_len hl)
    obtain ⟨m, hm⟩ : ∃ m, a.length = m := ⟨_, rfl⟩
    obtain ⟨n, hn⟩ : ∃ n, b.length = n := ⟨_, rfl⟩
    have hmn : ((m : Int) != (n : Int)) = true := by rw [bne_iff_ne]; omega
    have hu' : ∃ ao cap, u = .slice ao m cap := by
      rcases hu with ⟨ao, cap, rfl, rfl⟩ | ⟨bu, ou, cu, rfl, _⟩
      · simp at hm; subst hm; exact ⟨_, _, rfl⟩
      · rw [hm]; exact ⟨_, _, rfl⟩
    have hv' : ∃ ao cap, v = .slice ao n cap := by
      rcases hv with ⟨ao, cap, rfl, rfl⟩ | ⟨bu, ou, cu, rfl, _⟩
      · simp at hn; subst hn; exact ⟨_, _, rfl⟩
      · rw [hn]; exact ⟨_, _, rfl⟩
    obtain ⟨_, _, rfl⟩ := hu'
    obtain ⟨_, _, rfl⟩ := hv'
    clear hu hv hm hn hl
    go_enter Try.func15, Try.ntmps15
    go_wp2
    go_ret
    exact ⟨retBool HF.out.symm, Below.refl _ _⟩
end Go.Proofs.Ytphepdhppjnfpaa
