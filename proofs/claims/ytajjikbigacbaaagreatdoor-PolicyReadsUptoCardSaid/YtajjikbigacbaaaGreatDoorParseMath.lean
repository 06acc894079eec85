/- Own work: which texts label.Parse reads. -/
import Derived.Test.YtajjikbigacbaaaGreatDoorLabMath
import Derived.Test.YtajjikbigacbaaaGreatDoorComp
import Derived.Test.YtajjikbigacbaaaGreatDoorNumMath
namespace Go.Proofs.YtajjikbigacbaaaGreatDoor

/-- compartments, rising -/
def Rise (cs : List Nat) : Prop := cs.Pairwise (· < ·) ∧ ∀ c ∈ cs, c < 64
def bitsA (cs : List Nat) : Nat := ofN (cs.map fun (c : Nat) => (c : Int))
def lastC (cs : List Nat) : Int := match cs.getLast? with | none => -1 | some c => c

theorem rise_nil : Rise [] := ⟨List.Pairwise.nil, by simp⟩
theorem lastC_snoc (cs : List Nat) (c : Nat) : lastC (cs ++ [c]) = c := by simp [lastC]
theorem lastC_lt {cs : List Nat} (h : Rise cs) : -1 ≤ lastC cs ∧ lastC cs < 64 := by
  unfold lastC
  split
  · omega
  · rename_i c hc
    have := h.2 c (List.mem_of_getLast? hc)
    omega
theorem rise_snoc {cs : List Nat} {c : Nat} : Rise (cs ++ [c]) ↔ Rise cs ∧ c < 64 ∧ lastC cs < c := by
  rcases List.eq_nil_or_concat cs with rfl | ⟨ds, d, rfl⟩
  · simp [Rise, lastC]; omega
  · rw [List.concat_eq_append, lastC_snoc]
    simp only [Rise, List.pairwise_append, List.mem_append, List.mem_singleton]
    constructor
    · rintro ⟨⟨h1, _, h3⟩, h4⟩
      exact ⟨⟨h1, fun x hx => h4 x (.inl hx)⟩, h4 c (.inr rfl), by have := h3 d (.inr rfl) c rfl; omega⟩
    · rintro ⟨⟨⟨h1, h2, h3⟩, h4⟩, h5, h6⟩
      refine ⟨⟨⟨h1, h2, h3⟩, by simp, ?_⟩, ?_⟩
      · rintro x (hx | rfl) y rfl
        · have := h3 x hx d rfl; omega
        · omega
      · rintro x (hx | rfl)
        · exact h4 x hx
        · exact h5
theorem rise_take {cs : List Nat} (h : Rise cs) (k : Nat) : Rise (cs.take k) := ⟨h.1.sublist (List.take_sublist _ _), fun c hc => h.2 c (List.mem_of_mem_take hc)⟩
theorem bitsA_nil : bitsA [] = 0 := rfl
theorem bitsA_snoc (cs : List Nat) (c : Nat) : bitsA (cs ++ [c]) = bitsA cs ||| 2 ^ c := by
  simp [bitsA, ofN, addC, List.foldl_append]
theorem bitsA_lt {cs : List Nat} (h : Rise cs) : bitsA cs < 18446744073709551616 := by
  refine ofN_lt _ ?_
  rw [okL, List.all_eq_true]
  intro x hx
  obtain ⟨c, hc, rfl⟩ := List.mem_map.1 hx
  rw [okC_iff]
  have := h.2 c hc
  omega
theorem digB_inj {c d : Nat} (hc : c < 64) (hd : d < 64) (h : digB c = digB d) : c = d := by
  have h1 := atoi_dig ⟨c, hc⟩
  have h2 := atoi_dig ⟨d, hd⟩
  rw [show digB (⟨c, hc⟩ : Fin 64).1 = digB d from h] at h1
  rw [h1] at h2
  injection h2 with h3
  exact_mod_cast h3

/-- s is the text of these compartments -/
def Reads (s : ByteArray) (cs : List Nat) : Prop := Rise cs ∧ parts 43 s.data.toList = cs.map fun c => (digB c).data.toList
theorem asB_inj {x y : ByteArray} (h : x.data.toList = y.data.toList) : x = y := ByteArray.ext (Array.toList_inj.1 h)
/-- what has been read so far and does not rise, or is no digits, ends in no label -/
theorem reads_not {s : ByteArray} {pre : List (List UInt8)} (hp : pre <+: parts 43 s.data.toList) (h : ¬ ∃ cs, Rise cs ∧ pre = cs.map fun c => (digB c).data.toList) : ¬ ∃ cs, Reads s cs := by
  rintro ⟨cs, hr, he⟩
  refine h ⟨cs.take pre.length, rise_take hr _, ?_⟩
  rw [he] at hp
  have h2 := List.prefix_iff_eq_take.1 hp
  rwa [← List.map_take] at h2
/-- one part more -/
theorem more_yes {cs : List Nat} {pre : List (List UInt8)} {c : Nat} (hr : Rise cs) (hp : pre = cs.map fun c => (digB c).data.toList) (hc : c < 64) (hl : lastC cs < c) :
    Rise (cs ++ [c]) ∧ pre ++ [(digB c).data.toList] = (cs ++ [c]).map fun c => (digB c).data.toList := ⟨rise_snoc.2 ⟨hr, hc, hl⟩, by rw [hp, List.map_append]; rfl⟩
theorem map_dig_inj : ∀ {cs ds : List Nat}, (∀ c ∈ cs, c < 64) → (∀ c ∈ ds, c < 64) → (cs.map fun c => (digB c).data.toList) = (ds.map fun c => (digB c).data.toList) → cs = ds
  | [], [], _, _, _ => rfl
  | [], _ :: _, _, _, h => by simp at h
  | _ :: _, [], _, _, h => by simp at h
  | c :: cs, d :: ds, h1, h2, h => by
    rw [List.map_cons, List.map_cons, List.cons.injEq] at h
    rw [digB_inj (h1 c (by simp)) (h2 d (by simp)) (asB_inj h.1), map_dig_inj (fun x hx => h1 x (by simp [hx])) (fun x hx => h2 x (by simp [hx])) h.2]
theorem more_no {cs : List Nat} {pre : List (List UInt8)} {x : ByteArray} (hr : Rise cs) (hp : pre = cs.map fun c => (digB c).data.toList) (h : ∀ c : Nat, c < 64 → digB c = x → ¬ lastC cs < c) :
    ¬ ∃ ds, Rise ds ∧ pre ++ [x.data.toList] = ds.map fun c => (digB c).data.toList := by
  rintro ⟨ds, hd, he⟩
  rcases List.eq_nil_or_concat ds with rfl | ⟨es, d, rfl⟩
  · simp at he
  · rw [List.concat_eq_append] at hd he
    rw [List.map_append] at he
    obtain ⟨e1, e2⟩ := List.append_inj' he rfl
    obtain ⟨r1, r2, r3⟩ := rise_snoc.1 hd
    have e3 : cs = es := map_dig_inj hr.2 r1.2 (hp.symm.trans e1)
    subst e3
    refine h d r2 (asB_inj ?_) r3
    simpa using e2.symm
end Go.Proofs.YtajjikbigacbaaaGreatDoor
/- Own work: what ref's Parse computes over the bytes, and that it reads the same texts. -/
namespace Go.Proofs.YtajjikbigacbaaaGreatDoor

/-- ref's loop: the numbers so far, the one under way, whether it has a digit -/
def scan : List UInt8 → List Int → Int → Bool → Option (List Int)
  | [], l, n, sm => if sm = false ∨ 63 < n then none else Option.some (l ++ [n])
  | b :: r, l, n, sm => if b = 43 then (if sm = false ∨ 63 < n then none else scan r (l ++ [n]) 0 false)
    else if b.toNat < 48 ∨ 57 < b.toNat ∨ 9 < n then none else scan r l (n * 10 + ((b.toNat : Int) - 48)) true

theorem ofNat_toNat8 {n : Nat} (h : n < 256) : (UInt8.ofNat n).toNat = n := by simp [UInt8.toNat_ofNat']; omega
theorem ofNat_ne43 (n : Nat) (h : n < 256) (h2 : n ≠ 43) : ¬ UInt8.ofNat n = 43 := fun e => by
  have := congrArg UInt8.toNat e
  rw [ofNat_toNat8 h] at this
  exact h2 this
theorem scan_dig {c : Nat} (hc : c < 64) (r : List UInt8) (l : List Int) : scan ((digB c).data.toList ++ r) l 0 false = scan r l c true := by
  by_cases h : c < 10
  · rw [digB, dec_small h]
    show scan (UInt8.ofNat (48 + c) :: r) l 0 false = _
    have e := ofNat_toNat8 (n := 48 + c) (by omega)
    rw [scan, if_neg (ofNat_ne43 (48 + c) (by omega) (by omega)), if_neg (by omega), e]
    congr 1
    omega
  · rw [digB, dec_two (by omega) (by omega)]
    show scan (UInt8.ofNat (48 + c / 10) :: UInt8.ofNat (48 + c % 10) :: r) l 0 false = _
    have e := ofNat_toNat8 (n := 48 + c / 10) (by omega)
    have e2 := ofNat_toNat8 (n := 48 + c % 10) (by omega)
    rw [scan, if_neg (ofNat_ne43 (48 + c / 10) (by omega) (by omega)), if_neg (by omega), e]
    rw [scan, if_neg (ofNat_ne43 (48 + c % 10) (by omega) (by omega)), if_neg (by omega), e2]
    congr 1
    omega
/-- the parts with a + between each two are the text again -/
def joinP : List (List UInt8) → List UInt8
  | [] => []
  | [x] => x
  | x :: y :: r => x ++ 43 :: joinP (y :: r)
theorem joinP_cons (x : List UInt8) {ps : List (List UInt8)} (h : ps ≠ []) : joinP (x :: ps) = x ++ 43 :: joinP ps := by
  cases ps with
  | nil => exact absurd rfl h
  | cons y r => rfl
theorem joinP_parts : ∀ (l : List UInt8), joinP (parts 43 l) = l
  | [] => rfl
  | x :: r => by
    have ih := joinP_parts r
    have hne := parts_ne 43 r
    unfold parts
    split
    · rename_i h
      rw [joinP_cons _ hne, ih, h]; rfl
    · split
      · rename_i h; exact absurd h hne
      · rename_i p ps h
        rw [h] at ih
        cases ps with
        | nil => simp [joinP] at ih ⊢; exact ih
        | cons q qs => rw [joinP_cons _ (by simp)] at ih ⊢; rw [← ih]; rfl
theorem scan_join : ∀ (cs : List Nat) (l : List Int), cs ≠ [] → (∀ c ∈ cs, c < 64) → scan (joinP (cs.map fun c => (digB c).data.toList)) l 0 false = Option.some (l ++ cs.map fun (c : Nat) => (c : Int))
  | [], _, h, _ => absurd rfl h
  | [c], l, _, h => by
    have hc := h c (by simp)
    have := scan_dig hc [] l
    rw [List.append_nil] at this
    show scan (digB c).data.toList l 0 false = _
    rw [this, scan, if_neg (by simp; omega)]
    rfl
  | c :: d :: cs, l, _, h => by
    have hc := h c (by simp)
    rw [List.map_cons, joinP_cons _ (by simp), scan_dig hc, scan, if_pos rfl, if_neg (by simp; omega), scan_join (d :: cs) _ (by simp) (fun x hx => h x (by simp [hx]))]
    simp
theorem reads_ne {s : ByteArray} {cs : List Nat} (h : Reads s cs) : cs ≠ [] := fun e => by
  have := h.2
  rw [e] at this
  exact parts_ne _ _ this
theorem reads_scan {s : ByteArray} {cs : List Nat} (h : Reads s cs) : scan s.data.toList [] 0 false = Option.some (cs.map fun (c : Nat) => (c : Int)) := by
  have := scan_join cs [] (reads_ne h) h.1.2
  rw [← h.2, joinP_parts] at this
  simpa using this
end Go.Proofs.YtajjikbigacbaaaGreatDoor
/- Own work: what a text that can be read spells, and back. -/
namespace Go.Proofs.YtajjikbigacbaaaGreatDoor

theorem plusT_joinP : ∀ (xs : List ByteArray), (plusT xs).data.toList = joinP (xs.map fun x => x.data.toList)
  | [] => rfl
  | [x] => rfl
  | x :: y :: r => by
    rw [List.map_cons, joinP_cons _ (by simp), ← plusT_joinP (y :: r)]
    have h : ∀ (r : List ByteArray) (a b : ByteArray), (r.foldl (fun s t => s ++ ⟨#[43]⟩ ++ t) (a ++ b)).data.toList = a.data.toList ++ (r.foldl (fun s t => s ++ ⟨#[43]⟩ ++ t) b).data.toList := by
      intro r
      induction r with
      | nil => intro a b; simp [ByteArray.data_append]
      | cons z r ih =>
        intro a b
        rw [List.foldl_cons, List.foldl_cons, ByteArray.append_assoc, ByteArray.append_assoc, ih, ByteArray.append_assoc]
    rw [plusT, List.foldl_cons, h r (x ++ ⟨#[43]⟩) y]
    simp [ByteArray.data_append, plusT]

theorem okL_of {cs : List Nat} (h : ∀ c ∈ cs, c < 64) : okL (cs.map fun (c : Nat) => (c : Int)) = true := by
  rw [okL, List.all_eq_true]
  intro x hx
  obtain ⟨c, hc, rfl⟩ := List.mem_map.1 hx
  rw [okC_iff]
  have := h c hc
  omega
theorem ofE_of {cs : List Nat} (h : ∀ c ∈ cs, c < 64) : ofE (cs.map fun (c : Nat) => (c : Int)) = 0 := by rw [ofE, if_pos (okL_of h)]
theorem ofA_of {cs : List Nat} (h : ∀ c ∈ cs, c < 64) : ofA (cs.map fun (c : Nat) => (c : Int)) = bitsA cs := by rw [ofA, if_pos (okL_of h)]; rfl
theorem reads_text {s : ByteArray} {cs : List Nat} (h : Reads s cs) : plusT (cs.map digB) = s := by
  refine asB_inj ?_
  rw [plusT_joinP, List.map_map]
  have := joinP_parts s.data.toList
  rw [h.2] at this
  exact this
theorem parts_joinP : ∀ (ps : List (List UInt8)), ps ≠ [] → (∀ p ∈ ps, ∀ k : Nat, p[k]? ≠ some 43) → parts 43 (joinP ps) = ps
  | [], h, _ => absurd rfl h
  | [p], _, h => parts_last 43 p (h p (by simp))
  | p :: q :: r, _, h => by
    rw [joinP_cons _ (by simp), parts_run 43 p _ (h p (by simp)), parts_joinP (q :: r) (by simp) (fun x hx => h x (by simp [hx]))]
theorem bitsA_bit : ∀ (n : Nat) (cs : List Nat), cs.length = n → ∀ i, (bitsA cs).testBit i = decide (i ∈ cs) := by
  intro n
  induction n with
  | zero =>
    intro cs h i
    obtain rfl := List.eq_nil_of_length_eq_zero h
    simp [bitsA_nil]
  | succ n ih =>
    intro cs h i
    rcases List.eq_nil_or_concat cs with rfl | ⟨ds, d, rfl⟩
    · simp at h
    · rw [List.concat_eq_append] at h ⊢
      rw [bitsA_snoc, Nat.testBit_or, ih ds (by simpa using h), Nat.testBit_two_pow]
      simp [eq_comm]
theorem rise_same : ∀ (xs ys : List Nat), xs.Pairwise (· < ·) → ys.Pairwise (· < ·) → (∀ i, i ∈ xs ↔ i ∈ ys) → xs = ys
  | [], [], _, _, _ => rfl
  | [], y :: ys, _, _, h => by have := (h y).2 (by simp); simp at this
  | x :: xs, [], _, _, h => by have := (h x).1 (by simp); simp at this
  | x :: xs, y :: ys, hx, hy, h => by
    rw [List.pairwise_cons] at hx hy
    have e : x = y := by
      have h1 := (h x).1 (by simp)
      have h2 := (h y).2 (by simp)
      rw [List.mem_cons] at h1 h2
      rcases h1 with h1 | h1
      · exact h1
      · rcases h2 with h2 | h2
        · exact h2.symm
        · have a := hy.1 x h1
          have b := hx.1 y h2
          omega
    subst e
    rw [rise_same xs ys hx.2 hy.2 fun i => ?_]
    constructor
    · intro hi
      have h1 := (h i).1 (by simp [hi])
      have h2 := hx.1 i hi
      rw [List.mem_cons] at h1
      rcases h1 with h1 | h1
      · omega
      · exact h1
    · intro hi
      have h1 := (h i).2 (by simp [hi])
      have h2 := hy.1 i hi
      rw [List.mem_cons] at h1
      rcases h1 with h1 | h1
      · omega
      · exact h1
theorem listN_rise (a : Nat) : Rise (listN a) := ⟨List.Pairwise.filter _ List.pairwise_lt_range, fun _ hc => (listTo_mem.1 hc).1⟩
theorem listN_bits {cs : List Nat} (h : Rise cs) : listN (bitsA cs) = cs := by
  refine rise_same _ _ (listN_rise _).1 h.1 fun i => ?_
  rw [show (i ∈ listN (bitsA cs)) = (i ∈ listTo (bitsA cs) 64) from rfl, listTo_mem, bitsA_bit _ cs rfl, decide_eq_true_eq]
  exact ⟨fun h => h.2, fun hi => ⟨h.2 i hi, hi⟩⟩
theorem bits_listN {a : Nat} (ha : a < 18446744073709551616) : bitsA (listN a) = a := by
  refine Nat.eq_of_testBit_eq fun i => ?_
  rw [bitsA_bit _ _ rfl]
  by_cases hi : i < 64
  · rw [Bool.eq_iff_iff, decide_eq_true_eq]
    exact ⟨fun h => (listTo_mem.1 h).2, fun h => listTo_mem.2 ⟨hi, h⟩⟩
  · rw [Nat.testBit_lt_two_pow (Nat.lt_of_lt_of_le ha (Nat.pow_le_pow_right (n := 2) (by omega) (by omega : 64 ≤ i)))]
    exact decide_eq_false fun h => hi (listTo_mem.1 h).1
theorem bitsA_ne {cs : List Nat} (h : cs ≠ []) : bitsA cs ≠ 0 := by
  intro e
  rcases List.eq_nil_or_concat cs with rfl | ⟨ds, d, rfl⟩
  · exact h rfl
  · have := bitsA_bit _ (ds.concat d) rfl d
    rw [e] at this
    simp at this
theorem text_bits {s : ByteArray} {cs : List Nat} (h : Reads s cs) : textB (bitsA cs) = s := by
  rw [textB, if_neg (bitsA_ne (reads_ne h)), listN_bits h.1, reads_text h]
theorem dig_no43 {c : Nat} (hc : c < 64) (k : Nat) : (digB c).data.toList[k]? ≠ some 43 := by
  by_cases h : c < 10
  · rw [digB, dec_small h]
    intro e
    match k, e with
    | 0, e => exact ofNat_ne43 (48 + c) (by omega) (by omega) (Option.some.inj e)
    | k + 1, e => simp at e
  · rw [digB, dec_two (by omega) (by omega)]
    intro e
    match k, e with
    | 0, e => exact ofNat_ne43 (48 + c / 10) (by omega) (by omega) (Option.some.inj e)
    | 1, e => exact ofNat_ne43 (48 + c % 10) (by omega) (by omega) (Option.some.inj e)
    | k + 2, e => simp at e
theorem text_reads {s : ByteArray} {a : Nat} (h0 : a ≠ 0) (ha : a < 18446744073709551616) (h : textB a = s) : Reads s (listN a) := by
  refine ⟨listN_rise a, ?_⟩
  subst h
  rw [textB, if_neg h0, plusT_joinP, List.map_map]
  refine parts_joinP _ ?_ ?_
  · intro e
    have e2 : listN a = [] := by simpa using e
    have := bits_listN ha
    rw [e2, bitsA_nil] at this
    exact h0 this.symm
  · intro p hp k
    obtain ⟨c, hc, rfl⟩ := List.mem_map.1 hp
    exact dig_no43 ((listN_rise a).2 c hc) k
theorem reads_size {s : ByteArray} {cs : List Nat} (h : Reads s cs) : s.size ≤ 200 := by
  have h1 := plusT_len (cs.map digB) (fun x hx => by
    obtain ⟨c, hc, rfl⟩ := List.mem_map.1 hx
    exact (digB_len (by have := h.1.2 c hc; omega)).2)
  rw [reads_text h, List.length_map] at h1
  have h2 : cs.length ≤ 64 := by rw [← listN_bits h.1]; exact countN_le _
  omega
end Go.Proofs.YtajjikbigacbaaaGreatDoor
