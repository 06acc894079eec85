/- Own work: what ref's Parse computes over the bytes, and that it reads the same texts. -/
import Derived.Test.YtgodmfjcccakbaaDoorParseMath
namespace Go.Proofs.YtgodmfjcccakbaaDoor

/-- ref's loop: the numbers so far, the one under way, whether it has a digit -/
def scan : List UInt8 → List Int → Int → Bool → Option (List Int)
  | [], l, n, sm => if sm = false ∨ 63 < n then none else Option.some (l ++ [n])
  | b :: r, l, n, sm => if b = 43 then (if sm = false ∨ 63 < n then none else scan r (l ++ [n]) 0 false)
    else if b.toNat < 48 ∨ 57 < b.toNat ∨ 9 < n then none else scan r l (n * 10 + ((b.toNat : Int) - 48)) true

theorem ofNat_toNat8 {n : Nat} (h : n < 256) : (UInt8.ofNat n).toNat = n := by simp [UInt8.toNat_ofNat']; omega
theorem ofNat_ne43 (n : Nat) (h : n < 256) (h2 : n ≠ 43) : ¬ UInt8.ofNat n = 43 := fun e => by
  have := congrArg UInt8.toNat e
  rw [ofNat_toNat8 h] at this
  exact h2 this
theorem scan_dig {c : Nat} (hc : c < 64) (r : List UInt8) (l : List Int) : scan ((digB c).data.toList ++ r) l 0 false = scan r l c true := by
  by_cases h : c < 10
  · rw [digB, dec_small h]
    show scan (UInt8.ofNat (48 + c) :: r) l 0 false = _
    have e := ofNat_toNat8 (n := 48 + c) (by omega)
    rw [scan, if_neg (ofNat_ne43 (48 + c) (by omega) (by omega)), if_neg (by omega), e]
    congr 1
    omega
  · rw [digB, dec_two (by omega) (by omega)]
    show scan (UInt8.ofNat (48 + c / 10) :: UInt8.ofNat (48 + c % 10) :: r) l 0 false = _
    have e := ofNat_toNat8 (n := 48 + c / 10) (by omega)
    have e2 := ofNat_toNat8 (n := 48 + c % 10) (by omega)
    rw [scan, if_neg (ofNat_ne43 (48 + c / 10) (by omega) (by omega)), if_neg (by omega), e]
    rw [scan, if_neg (ofNat_ne43 (48 + c % 10) (by omega) (by omega)), if_neg (by omega), e2]
    congr 1
    omega
/-- the parts with a + between each two are the text again -/
def joinP : List (List UInt8) → List UInt8
  | [] => []
  | [x] => x
  | x :: y :: r => x ++ 43 :: joinP (y :: r)
theorem joinP_cons (x : List UInt8) {ps : List (List UInt8)} (h : ps ≠ []) : joinP (x :: ps) = x ++ 43 :: joinP ps := by
  cases ps with
  | nil => exact absurd rfl h
  | cons y r => rfl
theorem joinP_parts : ∀ (l : List UInt8), joinP (parts 43 l) = l
  | [] => rfl
  | x :: r => by
    have ih := joinP_parts r
    have hne := parts_ne 43 r
    unfold parts
    split
    · rename_i h
      rw [joinP_cons _ hne, ih, h]; rfl
    · split
      · rename_i h; exact absurd h hne
      · rename_i p ps h
        rw [h] at ih
        cases ps with
        | nil => simp [joinP] at ih ⊢; exact ih
        | cons q qs => rw [joinP_cons _ (by simp)] at ih ⊢; rw [← ih]; rfl
theorem scan_join : ∀ (cs : List Nat) (l : List Int), cs ≠ [] → (∀ c ∈ cs, c < 64) → scan (joinP (cs.map fun c => (digB c).data.toList)) l 0 false = Option.some (l ++ cs.map fun (c : Nat) => (c : Int))
  | [], _, h, _ => absurd rfl h
  | [c], l, _, h => by
    have hc := h c (by simp)
    have := scan_dig hc [] l
    rw [List.append_nil] at this
    show scan (digB c).data.toList l 0 false = _
    rw [this, scan, if_neg (by simp; omega)]
    rfl
  | c :: d :: cs, l, _, h => by
    have hc := h c (by simp)
    rw [List.map_cons, joinP_cons _ (by simp), scan_dig hc, scan, if_pos rfl, if_neg (by simp; omega), scan_join (d :: cs) _ (by simp) (fun x hx => h x (by simp [hx]))]
    simp
theorem reads_ne {s : ByteArray} {cs : List Nat} (h : Reads s cs) : cs ≠ [] := fun e => by
  have := h.2
  rw [e] at this
  exact parts_ne _ _ this
theorem reads_scan {s : ByteArray} {cs : List Nat} (h : Reads s cs) : scan s.data.toList [] 0 false = Option.some (cs.map fun (c : Nat) => (c : Int)) := by
  have := scan_join cs [] (reads_ne h) h.1.2
  rw [← h.2, joinP_parts] at this
  simpa using this
end Go.Proofs.YtgodmfjcccakbaaDoor
