/- Own work: diff.greatestOf and its closure. -/
import Derived.Test.YtncamoafdimpcaaDiffEdges
import Derived.Laws.MakeOwn
namespace Go.Proofs.Ytncamoafdimpcaa
open Go.RowKit

set_option maxHeartbeats 2000000 in
theorem great_any (A Bb T g n m N i j : Nat) (uo vo : Option Addr) (uc vc : Nat) (x : Int) (w : World)
    (hA : w.cell? ⟨A, 0, none⟩ = some (.slice uo n uc)) (hB : w.cell? ⟨Bb, 0, none⟩ = some (.slice vo m vc)) (hT : w.cell? ⟨T, 0, none⟩ = some (.slice (some ⟨g, 0, none⟩) N N))
    (hN : n * m = N) (hNb : N ≤ 1048576) (hi : i ≤ n) (hj : j ≤ m) (hn : n ≤ 1048576) (hm : m ≤ 1048576)
    (hx : i < n → j < m → w.cell? ⟨g, i * m + j, none⟩ = some (.int .i64 x)) (h0 : ¬ (i < n ∧ j < m) → x = 0) :
    Calls Try.prog 32 #[.int .i64 (i : Int), .int .i64 (j : Int), .pointer (some ⟨A, 0, none⟩), .pointer (some ⟨Bb, 0, none⟩), .pointer (some ⟨T, 0, none⟩)] w fun e w' => e = .returned (.int .i64 x) ∧ w = w' := by
  by_cases h1 : i < n
  · by_cases h2 : j < m
    · have c := hx h1 h2
      have hlt : i * m + j < N := by
        have h3 : (i + 1) * m ≤ n * m := Nat.mul_le_mul_right m (by omega)
        rw [Nat.add_mul, Nat.one_mul] at h3
        omega
      obtain ⟨p, hp⟩ : ∃ p, i * m = p := ⟨_, rfl⟩
      have e1 : (i : Int) * (m : Int) = (p : Int) := by rw [← hp, Int.natCast_mul]
      rw [hp] at c hlt
      have b1 : ((i : Int) == (n : Int)) = false := by simp; omega
      have b2 : ((j : Int) == (m : Int)) = false := by simp; omega
      have k0 : (0 : Int) ≤ (p : Int) + (j : Int) := by omega
      have k1 : (p : Int) + (j : Int) < (N : Int) := by omega
      have k2 : ((p : Int) + (j : Int)).toNat = p + j := by omega
      have hpb : p ≤ 1048576 := by omega
      clear hx h0 hN hp
      go_enter Try.func32, Try.ntmps32
      go_wp2_with fail
      go_ret
      exact ⟨rfl, rfl⟩
    · have b1 : ((i : Int) == (n : Int)) = false := by simp; omega
      obtain rfl : j = m := by omega
      obtain rfl := h0 (by omega)
      clear hx h0 hN
      go_enter Try.func32, Try.ntmps32
      go_wp2_with fail
      go_ret
      exact ⟨rfl, rfl⟩
  · obtain rfl : i = n := by omega
    obtain rfl := h0 (by omega)
    clear hx h0 hN
    go_enter Try.func32, Try.ntmps32
    go_wp2_with fail
    go_ret
    exact ⟨rfl, rfl⟩

/-- a closure that tells how many texts can stay, at most, from two places on -/
def GreatA (w : World) (A Bb T g : Nat) (uo : Option Addr) (uc : Nat) (vo : Option Addr) (vc : Nat) (a b : List ByteArray) : Prop :=
  w.cell? ⟨A, 0, none⟩ = some (.slice uo a.length uc) ∧ w.cell? ⟨Bb, 0, none⟩ = some (.slice vo b.length vc) ∧ w.cell? ⟨T, 0, none⟩ = some (.slice (some ⟨g, 0, none⟩) (a.length * b.length) (a.length * b.length)) ∧
    ∀ i j, i < a.length → j < b.length → w.cell? ⟨g, i * b.length + j, none⟩ = some (.int .i64 (mostAt a b i j : Nat))
def Great (w : World) (fv : Value) (uo : Option Addr) (uc : Nat) (vo : Option Addr) (vc : Nat) (a b : List ByteArray) : Prop :=
  ∃ A Bb T g, fv = .func (.func 32) #[] #[.pointer (some ⟨A, 0, none⟩), .pointer (some ⟨Bb, 0, none⟩), .pointer (some ⟨T, 0, none⟩)] ∧ GreatA w A Bb T g uo uc vo vc a b
theorem GreatA.kept {w w' : World} {A Bb T g : Nat} {uo vo : Option Addr} {uc vc : Nat} {a b : List ByteArray} (h : GreatA w A Bb T g uo uc vo vc a b) (hb : Below w.heap.size w w') : GreatA w' A Bb T g uo uc vo vc a b := by
  obtain ⟨h2, h3, h4, h5⟩ := h
  exact ⟨cell_kept hb h2, cell_kept hb h3, cell_kept hb h4, fun i j hi hj => cell_kept hb (h5 i j hi hj)⟩
theorem GreatA.say {w : World} {A Bb T g : Nat} {uo vo : Option Addr} {uc vc : Nat} {a b : List ByteArray} (h : GreatA w A Bb T g uo uc vo vc a b) (ha : a.length ≤ 1048576) (hb : b.length ≤ 1048576) (hw : a.length * b.length ≤ 1048576)
    (i j : Nat) (hi : i ≤ a.length) (hj : j ≤ b.length) (vi vj : Int) (hvi : vi = (i : Int)) (hvj : vj = (j : Int)) :
    Calls Try.prog 32 #[.int .i64 vi, .int .i64 vj, .pointer (some ⟨A, 0, none⟩), .pointer (some ⟨Bb, 0, none⟩), .pointer (some ⟨T, 0, none⟩)] w fun e w' => e = .returned (.int .i64 (mostAt a b i j : Nat)) ∧ w = w' := by
  subst hvi hvj
  obtain ⟨h2, h3, h4, h5⟩ := h
  refine great_any A Bb T g _ _ _ i j uo vo uc vc _ w h2 h3 h4 rfl hw hi hj ha hb (fun k1 k2 => h5 i j k1 k2) (fun h0 => ?_)
  rw [mostAt_end a b i j (by omega)]
  rfl

def zerosI (n : Nat) : Array Value := madeCells (Value.int .i64 0).cells n
theorem zerosI_size (n : Nat) : (zerosI n).size = n * 1 := by simp [zerosI, madeCells]
theorem Try.info3 : (Try.prog.info? 3).map (fun i => (i.zero, i.size, i.bytes)) = some (some (.int .i64 0), 1, 8) := by kernel_rfl
theorem run_makeI (n : Nat) (hn : n ≤ 2097152) (w : World) : (Instr.makeSlice 44 (.int .i64 (n : Int)) (.int .i64 (n : Int))).run Try.prog w = .ok (.slice (some ⟨w.heap.size, 0, none⟩) n n) (w.alloc (.cells (zerosI n) 3)) := by
  obtain ⟨i0, hi, hz0, hz1, hz2⟩ := info_parts Try.info3
  have := run_make (P := Try.prog) w 44 3 i0 (.int .i64 0) Try.underlying44 hi hz0 .i64 .i64 (n : Int) (n : Int) (by omega) (Int.le_refl _) (by rw [hz2]; omega) (by omega)
  rw [hz1] at this
  simp only [Int.toNat_natCast, Nat.mul_one] at this
  exact this

/-- what holds while the table is filled -/
structure GInv (w0 W : World) (A Bb T g : Nat) (sa sb : Value) (N : Nat) (xs : List Value) : Prop where
  below : Below w0.heap.size w0 W
  cA : W.cell? ⟨A, 0, none⟩ = some sa
  cB : W.cell? ⟨Bb, 0, none⟩ = some sb
  cT : W.cell? ⟨T, 0, none⟩ = some (.slice (some ⟨g, 0, none⟩) N N)
  own : W.ownsRow w0.heap.size 3 1 (.slice (some ⟨g, 0, none⟩) N N) N xs
theorem cell_other {A W : World} {g b o : Nat} {v : Value} (h : A.cell? ⟨b, o, none⟩ = some v) (hg : A.grownBy W (some g)) (hb : b ≠ g) : W.cell? ⟨b, o, none⟩ = some v := by
  have hlt := World.block_lt_of_cell? A _ h
  have := hg.block b hlt (fun e => hb (Option.some.inj e))
  unfold World.cell? at h ⊢
  rw [this]
  exact h
theorem GInv.set {w0 W : World} {A Bb T g : Nat} {sa sb : Value} {N : Nat} {xs : List Value} (h : GInv w0 W A Bb T g sa sb N xs) (hA : A ≠ g) (hB : Bb ≠ g) (hT : T ≠ g) (k : Nat) (v : Value) : GInv w0 (W.setCell ⟨g, k, none⟩ v) A Bb T g sa sb N (xs.set k v) := by
  have hgr := grown_setCell W g k v
  exact ⟨h.below.grown hgr h.below.size (fun q hq => (h.own.lt q hq).1), cell_other h.cA hgr hA, cell_other h.cB hgr hB, cell_other h.cT hgr hT, own_setCell h.own v⟩
theorem GInv.drew {w0 W : World} {A Bb T g : Nat} {sa sb : Value} {N : Nat} {xs : List Value} (h : GInv w0 W A Bb T g sa sb N xs) (q : Nat) : GInv w0 (W.drewN q) A Bb T g sa sb N xs :=
  ⟨below_drewN h.below q, h.cA, h.cB, h.cT, own_kept h.own (below_drewN (Below.refl _ _) q)⟩
theorem ginv_start (w : World) (sa sb : Value) (N : Nat) (hN : N ≤ maxLen) (t t' : TypeId) : GInv w ((((w.alloc (.cells #[sa] t)).alloc (.cells #[sb] t)).alloc (.cells (zerosI N) 3)).alloc (.cells #[.slice (some ⟨w.heap.size + 1 + 1, 0, none⟩) N N] t')) w.heap.size (w.heap.size + 1) (w.heap.size + 1 + 1 + 1) (w.heap.size + 1 + 1) sa sb N (zerosI N).toList := by
  have b1 : Below w.heap.size w (w.alloc (.cells #[sa] t)) := (Below.refl _ _).alloc (Nat.le_refl _) _
  have b2 := b1.alloc (by simp) (.cells #[sb] t)
  have b3 := b2.alloc (by simp; omega) (.cells (zerosI N) 3)
  have b4 := b3.alloc (by simp; omega) (.cells #[.slice (some ⟨w.heap.size + 1 + 1, 0, none⟩) N N] t')
  refine ⟨b4, ?_, ?_, ?_, ?_⟩
  · refine cell_of_row _ _ 0 #[sa] t (0, 0) ?_
    rw [heap_alloc_old _ _ (by simp; omega), heap_alloc_old _ _ (by simp; omega), heap_alloc_old _ _ (by simp)]
    exact heap_alloc_new w _
  · refine cell_of_row _ _ 0 #[sb] t (0, 0) ?_
    rw [heap_alloc_old _ _ (by simp), heap_alloc_old _ _ (by simp)]
    have := heap_alloc_new (w.alloc (.cells #[sa] t)) (.cells #[sb] t)
    rwa [World.size_alloc] at this
  · refine cell_of_row _ _ 0 #[.slice (some ⟨w.heap.size + 1 + 1, 0, none⟩) N N] t' (0, 0) ?_
    have := heap_alloc_new (((w.alloc (.cells #[sa] t)).alloc (.cells #[sb] t)).alloc (.cells (zerosI N) 3)) (.cells #[.slice (some ⟨w.heap.size + 1 + 1, 0, none⟩) N N] t')
    rwa [World.size_alloc, World.size_alloc, World.size_alloc] at this
  · have h := World.ownsRow_lit (base := w.heap.size) (e := 3) (size := 1) ((w.alloc (.cells #[sa] t)).alloc (.cells #[sb] t)) (zerosI N) N (by simp; omega) hN (zerosI_size N)
    have h2 := h.alloc (.cells #[.slice (some ⟨w.heap.size + 1 + 1, 0, none⟩) N N] t')
    rwa [World.size_alloc, World.size_alloc] at h2
/-- the table is right from a place on -/
def Filled (a b : List ByteArray) (n m p : Nat) (xs : List Value) : Prop := ∀ i j, i < n → j < m → p ≤ i * m + j → xs[i * m + j]? = some (.int .i64 (mostAt a b i j : Nat))
theorem at_uniq {m i j i' j' : Nat} (hj : j < m) (hj' : j' < m) (h : i * m + j = i' * m + j') : i = i' ∧ j = j' := by
  have e1 : (i * m + j) / m = i := by rw [Nat.mul_comm, Nat.mul_add_div (by omega), Nat.div_eq_of_lt hj]; rfl
  have e2 : (i' * m + j') / m = i' := by rw [Nat.mul_comm, Nat.mul_add_div (by omega), Nat.div_eq_of_lt hj']; rfl
  have e : i = i' := by rw [← e1, ← e2, h]
  subst e
  exact ⟨rfl, by omega⟩
theorem Filled.set {a b : List ByteArray} {n m i j : Nat} {xs : List Value} (h : Filled a b n m (i * m + (j + 1)) xs) (hj : j < m) (hl : i * m + j < xs.length) : Filled a b n m (i * m + j) (xs.set (i * m + j) (.int .i64 (mostAt a b i j : Nat))) := by
  intro i' j' hi' hj' hp
  by_cases he : i' * m + j' = i * m + j
  · obtain ⟨rfl, rfl⟩ := at_uniq hj' hj he
    rw [List.getElem?_set_self hl]
  · rw [List.getElem?_set_ne (fun e => he e.symm)]
    exact h i' j' hi' hj' (by omega)

theorem great_at {w0 wr : World} {A Bb T g n m N : Nat} {uo vo : Option Addr} {uc vc : Nat} {xs : List Value} {a b : List ByteArray} {p : Nat} (h : GInv w0 wr A Bb T g (.slice uo n uc) (.slice vo m vc) N xs) (hf : Filled a b n m p xs) (ha : a.length = n) (hb : b.length = m)
    (hN : n * m = N) (hNb : N ≤ 1048576) (hn : n ≤ 1048576) (hm : m ≤ 1048576) (i j : Nat) (hi : i ≤ n) (hj : j ≤ m) (hp : p ≤ i * m + j) (vi vj : Int) (hvi : vi = (i : Int)) (hvj : vj = (j : Int)) :
    Calls Try.prog 32 #[.int .i64 vi, .int .i64 vj, .pointer (some ⟨A, 0, none⟩), .pointer (some ⟨Bb, 0, none⟩), .pointer (some ⟨T, 0, none⟩)] wr fun e w' => e = .returned (.int .i64 (mostAt a b i j : Nat)) ∧ wr = w' := by
  subst hvi hvj
  refine great_any A Bb T g n m N i j uo vo uc vc _ wr h.cA h.cB h.cT hN hNb hi hj hn hm (fun h1 h2 => ?_) (fun h0 => ?_)
  · have hlt : i * m + j < N := by
      have h3 : (i + 1) * m ≤ n * m := Nat.mul_le_mul_right m (by omega)
      rw [Nat.add_mul, Nat.one_mul] at h3
      omega
    exact (h.own.cellAt _ (by omega)).trans (hf i j h1 h2 hp)
  · rw [mostAt_end a b i j (by omega)]
    rfl

set_option maxRecDepth 100000 in
set_option maxHeartbeats 8000000 in
theorem greatestOf_any (uo vo : Option Addr) (uc vc : Nat) (a b : List ByteArray) (w : World) (hu : Texts w (.slice uo a.length uc) a) (hv : Texts w (.slice vo b.length vc) b) (ha : 0 < a.length) (hb : 0 < b.length) (hw : a.length * b.length ≤ 1048576) :
    Calls Try.prog 30 #[.slice uo a.length uc, .slice vo b.length vc] w fun e w' => ∃ fv, e = .returned fv ∧ Great w' fv uo uc vo vc a b ∧ Below w.heap.size w w' := by
  obtain ⟨uo', uc', ub, uof, hue, huo, hum, hcu⟩ := hu.form
  cases hue
  obtain ⟨vo', vc', vb, vof, hve, hvo, hvm, hcv⟩ := hv.form
  cases hve
  obtain rfl := huo ha
  obtain rfl := hvo hb
  have Hcu := Lib.hid hcu
  have Hcv := Lib.hid hcv
  clear hu hv huo hvo hcu hcv hum hvm
  obtain ⟨n, hn⟩ : ∃ n, a.length = n := ⟨_, rfl⟩
  obtain ⟨m, hm⟩ : ∃ m, b.length = m := ⟨_, rfl⟩
  have Hn := Lib.hid hn
  have Hm := Lib.hid hm
  have hnb : n ≤ 1048576 := by rw [← hn]; exact Nat.le_trans (Nat.le_mul_of_pos_right _ hb) hw
  have hmb : m ≤ 1048576 := by rw [← hm]; exact Nat.le_trans (Nat.le_mul_of_pos_left _ ha) hw
  rw [hn] at ha hw ⊢
  rw [hm] at hb hw ⊢
  clear hn hm
  obtain ⟨N, hN⟩ : ∃ N, n * m = N := ⟨_, rfl⟩
  rw [hN] at hw
  have eN : (n : Int) * (m : Int) = (N : Int) := by rw [← hN, Int.natCast_mul]
  have HN := Lib.hid hN
  have hmk := fun w => run_makeI N (by omega) w
  clear hN
  go_enter Try.func30, Try.ntmps30
  go_upto_region 3 with fail
  have HG := Lib.hid (ginv_start w (.slice (some ⟨ub, uof, none⟩) n uc) (.slice (some ⟨vb, vof, none⟩) m vc) N (by unfold maxLen; omega) 23 44)
  obtain ⟨W, hW⟩ : ∃ W, ((((w.alloc (.cells #[.slice (some ⟨ub, uof, none⟩) n uc] 23)).alloc (.cells #[.slice (some ⟨vb, vof, none⟩) m vc] 23)).alloc (.cells (zerosI N) 3)).alloc (.cells #[.slice (some ⟨w.heap.size + 1 + 1, 0, none⟩) N N] 44)) = W := ⟨_, rfl⟩
  rw [hW] at HG ⊢
  clear hW hmk
  obtain ⟨A, hA⟩ : ∃ A, w.heap.size = A := ⟨_, rfl⟩
  obtain ⟨Bb, hB⟩ : ∃ Bb, A + 1 = Bb := ⟨_, rfl⟩
  obtain ⟨g, hg⟩ : ∃ g, Bb + 1 = g := ⟨_, rfl⟩
  obtain ⟨T, hT⟩ : ∃ T, g + 1 = T := ⟨_, rfl⟩
  have hAg : A ≠ g := by omega
  have hBg : Bb ≠ g := by omega
  have hTg : T ≠ g := by omega
  rw [hA, hB, hg, hT] at HG ⊢
  have HA := Lib.hid hA
  clear hA hB hg hT
  have cA := HG.out.cA
  have cB := HG.out.cB
  go_wp2_with fail
  go_loopw [7] (fun y wr => ∃ (I : Nat) (xs : List Value), I ≤ n ∧ y = .int .i64 ((I : Int) - 1) ∧ Hid (Filled a b n m (I * m) xs) ∧ Hid (GInv w wr A Bb T g (.slice (some ⟨ub, uof, none⟩) n uc) (.slice (some ⟨vb, vof, none⟩) m vc) N xs)) (fun y _ => (intOf y + 1).toNat)
  case atStart =>
    refine ⟨n, _, Nat.le_refl _, rfl, ?_, HG⟩
    intro i j hi hj hp
    have h3 : (i + 1) * m ≤ n * m := Nat.mul_le_mul_right m (by omega)
    rw [Nat.add_mul, Nat.one_mul] at h3
    omega
  case round =>
    clear HG cA cB
    obtain ⟨I, xs, hI, rfl, HF, HG⟩ := hrel
    have cA := HG.out.cA
    have cB := HG.out.cB
    by_cases hI0 : 0 < I
    · obtain ⟨i, rfl⟩ : ∃ i, I = i + 1 := ⟨I - 1, by omega⟩
      have ei : (((i + 1 : Nat) : Int)) - 1 = (i : Int) := by omega
      rw [ei]
      have hge : (0 : Int) ≤ (i : Int) := by omega
      go_wp2_with fail
      go_loopw [8] (fun y wr => ∃ (J : Nat) (xs : List Value), J ≤ m ∧ y = .int .i64 ((J : Int) - 1) ∧ Hid (Filled a b n m (i * m + J) xs) ∧ Hid (GInv w wr A Bb T g (.slice (some ⟨ub, uof, none⟩) n uc) (.slice (some ⟨vb, vof, none⟩) m vc) N xs)) (fun y _ => (intOf y + 1).toNat)
      case atStart =>
        refine ⟨m, xs, Nat.le_refl _, rfl, ?_, HG⟩
        have h := HF.out
        rw [Nat.add_mul, Nat.one_mul] at h
        exact h
      case round =>
        clear HG HF cA cB xs
        obtain ⟨J, xs, hJ, rfl, HF, HG⟩ := hrel
        have cA := HG.out.cA
        have cB := HG.out.cB
        have cT := HG.out.cT
        by_cases hJ0 : 0 < J
        · obtain ⟨j, rfl⟩ : ∃ j, J = j + 1 := ⟨J - 1, by omega⟩
          have ej : (((j + 1 : Nat) : Int)) - 1 = (j : Int) := by omega
          rw [ej]
          have hgj : (0 : Int) ≤ (j : Int) := by omega
          have h10 := Lib.hid (great_at HG.out HF.out Hn.out Hm.out HN.out hw hnb hmb (i + 1) j (by omega) (by omega) (by rw [Nat.add_mul]; omega) ((i : Int) + 1) (j : Int) (by omega) rfl)
          have h01 := Lib.hid (great_at HG.out HF.out Hn.out Hm.out HN.out hw hnb hmb i (j + 1) (by omega) (by omega) (by omega) (i : Int) ((j : Int) + 1) rfl (by omega))
          have h11 := fun q => Lib.hid (great_at (HG.out.drew q) HF.out Hn.out Hm.out HN.out hw hnb hmb (i + 1) (j + 1) (by omega) (by omega) (by rw [Nat.add_mul]; omega) ((i : Int) + 1) ((j : Int) + 1) (by omega) (by omega))
          have hil : i < a.length := by have := Hn.out; omega
          have hjl : j < b.length := by have := Hm.out; omega
          have HM := Lib.hid (mostAt_step a b i j hil hjl)
          have l10 : mostAt a b (i + 1) j ≤ 1048576 := by have := mostAt_le a b (i + 1) j; have := Hn.out; omega
          have l01 : mostAt a b i (j + 1) ≤ 1048576 := by have := mostAt_le a b i (j + 1); have := Hn.out; omega
          have l11 : mostAt a b (i + 1) (j + 1) ≤ 1048576 := by have := mostAt_le a b (i + 1) (j + 1); have := Hn.out; omega
          obtain ⟨m10, hm10⟩ : ∃ k, mostAt a b (i + 1) j = k := ⟨_, rfl⟩
          obtain ⟨m01, hm01⟩ : ∃ k, mostAt a b i (j + 1) = k := ⟨_, rfl⟩
          obtain ⟨m11, hm11⟩ : ∃ k, mostAt a b (i + 1) (j + 1) = k := ⟨_, rfl⟩
          rw [hm10] at h10 HM l10
          rw [hm01] at h01 HM l01
          simp only [hm11] at h11 HM l11
          clear hm10 hm01 hm11
          go_upto_region 9 with fail
          go_cut [9] from 27 to 66 (fun y wx => y = .int .i64 ((max m10 m01 : Nat) : Int) ∧ wx = wr)
          case first =>
            go_wp2_with fail
            refine h10.out.mono ?_
            rintro e w1 ⟨rfl, rfl⟩
            go_wp2_with fail
            refine h01.out.mono ?_
            rintro e w1 ⟨rfl, rfl⟩
            go_wp2_with fail
            all_goals
              go_meet
              exact ⟨congrArg (Value.int .i64) (by omega), rfl⟩
          case rest =>
            obtain ⟨rfl, hwx⟩ := hcut
            obtain rfl : wr = wc := hwx.symm
            clear hwx
            have c1 := cell_kept (HG.out.below) (Hcu.out i hil)
            have c2 := cell_kept (HG.out.below) (Hcv.out j hjl)
            obtain ⟨x, hx⟩ : ∃ x, a[i]'hil = x := ⟨_, rfl⟩
            obtain ⟨y, hy⟩ : ∃ y, b[j]'hjl = y := ⟨_, rfl⟩
            rw [hx] at c1 HM
            rw [hy] at c2 HM
            have hi2 : (i : Int) < (n : Int) := by omega
            have hj2 : (j : Int) < (m : Int) := by omega
            have hlt : i * m + j < N := by
              have h3 : (i + 1) * m ≤ n * m := Nat.mul_le_mul_right m (by omega)
              have h4 := HN.out
              rw [Nat.add_mul, Nat.one_mul] at h3
              omega
            have hxl : i * m + j < xs.length := by have := HG.out.own.1; omega
            have HS := Lib.hid (HF.out.set (by omega) hxl)
            have HGS := fun q => Lib.hid ((HG.out.drew q).set hAg hBg hTg (i * m + j) (.int .i64 (mostAt a b i j : Nat)))
            have fz := own_frozen HG.out.own (i * m + j)
            have cz := HG.out.own.cellAt (i * m + j) (by omega)
            obtain ⟨zv, hzv⟩ : ∃ zv, xs[i * m + j]? = some zv := ⟨_, List.getElem?_eq_getElem hxl⟩
            rw [hzv] at cz
            obtain ⟨p, hp⟩ : ∃ p, i * m = p := ⟨_, rfl⟩
            have e1 : (i : Int) * (m : Int) = (p : Int) := by rw [← hp, Int.natCast_mul]
            simp only [hp] at HS HGS fz cz hlt
            have k0 : (0 : Int) ≤ (p : Int) + (j : Int) := by omega
            have k1 : (p : Int) + (j : Int) < (N : Int) := by omega
            have k2 : ((p : Int) + (j : Int)).toNat = p + j := by omega
            have hpb : p ≤ 1048576 := by omega
            have Hp := Lib.hid hp
            clear hx hy hzv hxl hp
            by_cases hxy : x = y
            · have hq := bytes_beq hxy
              have HM2 : Hid (mostAt a b i j = m11 + 1) := by show _ = _; rw [HM.out, if_pos hxy]
              clear hxy
              have e11 : (1 : Int) + (m11 : Int) = ((m11 + 1 : Nat) : Int) := by omega
              simp only [HM2.out] at HS HGS
              go_wp2_with fail
              go_quiet (fail)
              go_wp2_with fail
              refine (h11 _).out.mono ?_
              rintro e w1 ⟨rfl, rfl⟩
              go_wp2_with fail
              go_roundw
              case rel => exact ⟨j, _, by omega, rfl, by rw [Hp.out]; exact HS, HGS _⟩
              case measure => simp [intOf]
            · have hq := bytes_bne hxy
              have HM2 : Hid (mostAt a b i j = max m10 m01) := by show _ = _; rw [HM.out, if_neg hxy]
              clear hxy
              simp only [HM2.out] at HS HGS
              go_wp2_with fail
              go_quiet (fail)
              go_wp2_with fail
              go_roundw
              case rel => exact ⟨j, _, by omega, rfl, by rw [Hp.out]; exact HS, HGS _⟩
              case measure => simp [intOf]
        · obtain rfl : J = 0 := by omega
          go_wp2_with fail
          go_roundw
          case rel => exact ⟨i, _, by omega, rfl, HF, HG⟩
          case measure => simp [intOf]
    · obtain rfl : I = 0 := by omega
      go_wp2_with fail
      go_ret
      refine ⟨_, rfl, ⟨A, Bb, T, g, rfl, ?_, ?_, ?_, ?_⟩, HG.out.below⟩
      · rw [Hn.out]; exact HG.out.cA
      · rw [Hm.out]; exact HG.out.cB
      · rw [Hn.out, Hm.out, HN.out]; exact HG.out.cT
      · intro i j hi hj
        rw [Hn.out] at hi
        rw [Hm.out] at hj ⊢
        have hlt : i * m + j < N := by
          have h3 : (i + 1) * m ≤ n * m := Nat.mul_le_mul_right m (by omega)
          have h4 := HN.out
          rw [Nat.add_mul, Nat.one_mul] at h3
          omega
        exact (HG.out.own.cellAt _ (by omega)).trans (HF.out i j hi hj (by omega))
end Go.Proofs.Ytncamoafdimpcaa
