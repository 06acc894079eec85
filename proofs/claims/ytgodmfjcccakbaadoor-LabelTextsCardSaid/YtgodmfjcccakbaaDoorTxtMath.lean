/- Plain arithmetic: a label's text. -/
import Derived.Test.YtgodmfjcccakbaaDoorLabMathB
import Derived.Lib.Join
import Derived.Lib.ItoaNum
namespace Go.Proofs.YtgodmfjcccakbaaDoor

def digB (n : Nat) : ByteArray := ⟨(Lib.decDigits n).toArray⟩
theorem dec_small {n : Nat} (h : n < 10) : Lib.decDigits n = [UInt8.ofNat (48 + n)] := by
  rw [Lib.decDigits, dif_pos h]
theorem dec_two {n : Nat} (h : 10 ≤ n) (h2 : n < 100) : Lib.decDigits n = [UInt8.ofNat (48 + n / 10), UInt8.ofNat (48 + n % 10)] := by
  rw [Lib.decDigits, dif_neg (by omega), dec_small (by omega)]
  rfl
theorem digB_len {n : Nat} (h : n < 100) : 1 ≤ (digB n).size ∧ (digB n).size ≤ 2 := by
  by_cases h1 : n < 10
  · rw [digB, dec_small h1]
    exact ⟨Nat.le_refl 1, Nat.le_succ 1⟩
  · rw [digB, dec_two (by omega) h]
    exact ⟨Nat.le_succ 1, Nat.le_refl 2⟩
/-- the texts with a + between each two -/
def plusT : List ByteArray → ByteArray
  | [] => ⟨#[]⟩
  | x :: r => r.foldl (fun s t => s ++ ⟨#[43]⟩ ++ t) x
theorem plusT_snoc (xs : List ByteArray) (y : ByteArray) (h : xs ≠ []) : plusT (xs ++ [y]) = plusT xs ++ ⟨#[43]⟩ ++ y := by
  cases xs with
  | nil => exact absurd rfl h
  | cons x r =>
    rw [List.cons_append, plusT, List.foldl_append]
    rfl
theorem plusT_len (xs : List ByteArray) (h : ∀ x ∈ xs, x.size ≤ 2) : (plusT xs).size ≤ 3 * xs.length := by
  cases xs with
  | nil => decide
  | cons x r =>
    have hx := h x (by simp)
    have hr : ∀ y ∈ r, y.size ≤ 2 := fun y hy => h y (by simp [hy])
    rw [plusT]
    suffices ∀ (r : List ByteArray) (s : ByteArray), (∀ y ∈ r, y.size ≤ 2) → (r.foldl (fun s t => s ++ ⟨#[43]⟩ ++ t) s).size ≤ s.size + 3 * r.length by
      have := this r x hr
      simp only [List.length_cons]
      omega
    intro r
    induction r with
    | nil => intro s _; simp
    | cons y r ih =>
      intro s hs
      have h1 := ih (s ++ ⟨#[43]⟩ ++ y) fun z hz => hs z (by simp [hz])
      have h2 := hs y (by simp)
      rw [List.foldl_cons, List.length_cons]
      have h3 : (s ++ ⟨#[43]⟩ ++ y).size = s.size + 1 + y.size := by
        rw [ByteArray.size_append, ByteArray.size_append]; rfl
      omega
theorem plusT_join (xs : List ByteArray) : (Lib.join (xs.map (·.data.toList)) [43]).toArray = (plusT xs).data := by
  cases xs with
  | nil => rfl
  | cons x r =>
    rw [List.map_cons, Lib.join_cons, plusT]
    suffices ∀ (r : List ByteArray) (s : ByteArray), (s.data.toList ++ Lib.joinTail [43] (r.map (·.data.toList))).toArray = (r.foldl (fun s t => s ++ ⟨#[43]⟩ ++ t) s).data from this r x
    intro r
    induction r with
    | nil => intro s; simp [Lib.joinTail]
    | cons y r ih =>
      intro s
      rw [List.foldl_cons, ← ih]
      simp [Lib.joinTail, ByteArray.data_append]
/-- a label's text -/
def textB (a : Nat) : ByteArray := if a = 0 then ⟨#[45]⟩ else plusT ((listN a).map digB)
theorem listN_zero : listN 0 = [] := by simp [listN, listTo]
theorem countN_pos' {x : Nat} (hx : x < 18446744073709551616) : countN x = 0 ↔ x = 0 := by
  constructor
  · intro h
    apply Classical.byContradiction
    intro h0
    have := countN_pos h0 hx
    omega
  · rintro rfl; exact countN_zero
theorem digs_size (a k : Nat) : ∀ x ∈ ((listN a).map digB).take k, x.size ≤ 2 := by
  intro x hx
  obtain ⟨c, hc, rfl⟩ := List.mem_map.1 (List.mem_of_mem_take hx)
  have := (listTo_mem.1 hc).1
  exact (digB_len (by omega)).2
end Go.Proofs.YtgodmfjcccakbaaDoor
