/- Own work: which texts label.Parse reads. -/
import Derived.Test.YtgodmfjcccakbaaDoorTxtMath
import Derived.Test.YtgodmfjcccakbaaDoorComp
import Derived.Test.YtgodmfjcccakbaaDoorSplitMath
namespace Go.Proofs.YtgodmfjcccakbaaDoor

/-- compartments, rising -/
def Rise (cs : List Nat) : Prop := cs.Pairwise (· < ·) ∧ ∀ c ∈ cs, c < 64
def bitsA (cs : List Nat) : Nat := ofN (cs.map fun (c : Nat) => (c : Int))
def lastC (cs : List Nat) : Int := match cs.getLast? with | none => -1 | some c => c

theorem rise_nil : Rise [] := ⟨List.Pairwise.nil, by simp⟩
theorem lastC_snoc (cs : List Nat) (c : Nat) : lastC (cs ++ [c]) = c := by simp [lastC]
theorem lastC_lt {cs : List Nat} (h : Rise cs) : -1 ≤ lastC cs ∧ lastC cs < 64 := by
  unfold lastC
  split
  · omega
  · rename_i c hc
    have := h.2 c (List.mem_of_getLast? hc)
    omega
theorem rise_snoc {cs : List Nat} {c : Nat} : Rise (cs ++ [c]) ↔ Rise cs ∧ c < 64 ∧ lastC cs < c := by
  rcases List.eq_nil_or_concat cs with rfl | ⟨ds, d, rfl⟩
  · simp [Rise, lastC]; omega
  · rw [List.concat_eq_append, lastC_snoc]
    simp only [Rise, List.pairwise_append, List.mem_append, List.mem_singleton]
    constructor
    · rintro ⟨⟨h1, _, h3⟩, h4⟩
      exact ⟨⟨h1, fun x hx => h4 x (.inl hx)⟩, h4 c (.inr rfl), by have := h3 d (.inr rfl) c rfl; omega⟩
    · rintro ⟨⟨⟨h1, h2, h3⟩, h4⟩, h5, h6⟩
      refine ⟨⟨⟨h1, h2, h3⟩, by simp, ?_⟩, ?_⟩
      · rintro x (hx | rfl) y rfl
        · have := h3 x hx d rfl; omega
        · omega
      · rintro x (hx | rfl)
        · exact h4 x hx
        · exact h5
theorem rise_take {cs : List Nat} (h : Rise cs) (k : Nat) : Rise (cs.take k) := ⟨h.1.sublist (List.take_sublist _ _), fun c hc => h.2 c (List.mem_of_mem_take hc)⟩
theorem bitsA_nil : bitsA [] = 0 := rfl
theorem bitsA_snoc (cs : List Nat) (c : Nat) : bitsA (cs ++ [c]) = bitsA cs ||| 2 ^ c := by
  simp [bitsA, ofN, addC, List.foldl_append]
theorem bitsA_lt {cs : List Nat} (h : Rise cs) : bitsA cs < 18446744073709551616 := by
  refine ofN_lt _ ?_
  rw [okL, List.all_eq_true]
  intro x hx
  obtain ⟨c, hc, rfl⟩ := List.mem_map.1 hx
  rw [okC_iff]
  have := h.2 c hc
  omega
theorem digB_inj {c d : Nat} (hc : c < 64) (hd : d < 64) (h : digB c = digB d) : c = d := by
  have h1 := atoi_dig ⟨c, hc⟩
  have h2 := atoi_dig ⟨d, hd⟩
  rw [show digB (⟨c, hc⟩ : Fin 64).1 = digB d from h] at h1
  rw [h1] at h2
  injection h2 with h3
  exact_mod_cast h3

/-- s is the text of these compartments -/
def Reads (s : ByteArray) (cs : List Nat) : Prop := Rise cs ∧ parts 43 s.data.toList = cs.map fun c => (digB c).data.toList
theorem asB_inj {x y : ByteArray} (h : x.data.toList = y.data.toList) : x = y := ByteArray.ext (Array.toList_inj.1 h)
/-- what has been read so far and does not rise, or is no digits, ends in no label -/
theorem reads_not {s : ByteArray} {pre : List (List UInt8)} (hp : pre <+: parts 43 s.data.toList) (h : ¬ ∃ cs, Rise cs ∧ pre = cs.map fun c => (digB c).data.toList) : ¬ ∃ cs, Reads s cs := by
  rintro ⟨cs, hr, he⟩
  refine h ⟨cs.take pre.length, rise_take hr _, ?_⟩
  rw [he] at hp
  have h2 := List.prefix_iff_eq_take.1 hp
  rwa [← List.map_take] at h2
/-- one part more -/
theorem more_yes {cs : List Nat} {pre : List (List UInt8)} {c : Nat} (hr : Rise cs) (hp : pre = cs.map fun c => (digB c).data.toList) (hc : c < 64) (hl : lastC cs < c) :
    Rise (cs ++ [c]) ∧ pre ++ [(digB c).data.toList] = (cs ++ [c]).map fun c => (digB c).data.toList := ⟨rise_snoc.2 ⟨hr, hc, hl⟩, by rw [hp, List.map_append]; rfl⟩
theorem map_dig_inj : ∀ {cs ds : List Nat}, (∀ c ∈ cs, c < 64) → (∀ c ∈ ds, c < 64) → (cs.map fun c => (digB c).data.toList) = (ds.map fun c => (digB c).data.toList) → cs = ds
  | [], [], _, _, _ => rfl
  | [], _ :: _, _, _, h => by simp at h
  | _ :: _, [], _, _, h => by simp at h
  | c :: cs, d :: ds, h1, h2, h => by
    rw [List.map_cons, List.map_cons, List.cons.injEq] at h
    rw [digB_inj (h1 c (by simp)) (h2 d (by simp)) (asB_inj h.1), map_dig_inj (fun x hx => h1 x (by simp [hx])) (fun x hx => h2 x (by simp [hx])) h.2]
theorem more_no {cs : List Nat} {pre : List (List UInt8)} {x : ByteArray} (hr : Rise cs) (hp : pre = cs.map fun c => (digB c).data.toList) (h : ∀ c : Nat, c < 64 → digB c = x → ¬ lastC cs < c) :
    ¬ ∃ ds, Rise ds ∧ pre ++ [x.data.toList] = ds.map fun c => (digB c).data.toList := by
  rintro ⟨ds, hd, he⟩
  rcases List.eq_nil_or_concat ds with rfl | ⟨es, d, rfl⟩
  · simp at he
  · rw [List.concat_eq_append] at hd he
    rw [List.map_append] at he
    obtain ⟨e1, e2⟩ := List.append_inj' he rfl
    obtain ⟨r1, r2, r3⟩ := rise_snoc.1 hd
    have e3 : cs = es := map_dig_inj hr.2 r1.2 (hp.symm.trans e1)
    subst e3
    refine h d r2 (asB_inj ?_) r3
    simpa using e2.symm
end Go.Proofs.YtgodmfjcccakbaaDoor
