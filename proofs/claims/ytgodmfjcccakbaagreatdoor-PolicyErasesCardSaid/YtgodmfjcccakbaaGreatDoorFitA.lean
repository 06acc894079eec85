/- Own work: the viewers that may be, out of any labels. -/
import Derived.Test.YtgodmfjcccakbaaGreatDoorPolCalls
import Derived.Test.YtgodmfjcccakbaaGreatDoorTxtB
import Derived.Test.YtgodmfjcccakbaaGreatDoorOpenNums
import Derived.Deep.AppendLies
import Derived.Deep.RegionLaw
import Derived.BigRegion
namespace Go.Proofs.YtgodmfjcccakbaaGreatDoor
open Go.RowKit Go.Maps Go.Shelf

def nameAt (i : Nat) : ByteArray := ⟨#[UInt8.ofNat (97 + i % 26), UInt8.ofNat (97 + i / 26)]⟩
def fitAt (ls : List Nat) (i : Nat) : Vw := ⟨nameAt i, ls.getD i 0⟩
def fitV (ls : List Nat) (k : Nat) : List Vw := (List.range k).map (fitAt ls)
theorem fitV_succ (ls : List Nat) (k : Nat) : fitV ls (k + 1) = fitV ls k ++ [fitAt ls k] := by simp [fitV, List.range_succ]
theorem fitV_len (ls : List Nat) (k : Nat) : (fitV ls k).length = k := by simp [fitV]
theorem names_good : ∀ i : Fin 64, isName (nameAt i.1) = true := by decide +kernel
theorem names_apart : ∀ i j : Fin 64, (nameAt i.1).data.toList = (nameAt j.1).data.toList → i = j := by decide +kernel
theorem fit_once {ls : List Nat} {k : Nat} (hk : k ≤ 64) : Once (fitV ls k) := by
  rw [Once, fitV, List.map_map, List.Nodup, List.pairwise_map]
  refine List.Pairwise.imp_of_mem (R := fun a b => a < b) ?_ List.pairwise_lt_range
  intro a b ha hb hab e
  rw [List.mem_range] at ha hb
  have := names_apart ⟨a, by omega⟩ ⟨b, by omega⟩ e
  injection this with h
  omega
theorem fit_mem {ls : List Nat} {k : Nat} {v : Vw} (h : v ∈ fitV ls k) : ∃ i, i < k ∧ v = fitAt ls i := by
  rw [fitV, List.mem_map] at h
  obtain ⟨i, hi, rfl⟩ := h
  exact ⟨i, List.mem_range.1 hi, rfl⟩
theorem fit_ok {ls : List Nat} {k : Nat} (hk : k ≤ 64) : polOk (fitV ls k) :=
  ⟨by rw [fitV_len]; exact hk, fun v hv => by
    obtain ⟨i, hi, rfl⟩ := fit_mem hv
    exact names_good ⟨i, by omega⟩, fit_once hk⟩
theorem fit_fits {ls : List Nat} {k : Nat} (hl : ∀ x ∈ ls, x < 18446744073709551616) : Fits (fitV ls k) := fun v hv => by
  obtain ⟨i, hi, rfl⟩ := fit_mem hv
  refine ⟨?_, show 2 ≤ maxLen by unfold maxLen; omega⟩
  show ls.getD i 0 < _
  rw [List.getD_eq_getElem?_getD]
  cases h : ls[i]? with
  | none => simp
  | some x => simp; exact hl x (List.mem_of_getElem? h)

/-- labels out of numbers that are in the word's range -/
theorem nats_of (l : List Int) (h : ∀ n ∈ l, (Lit.int .u64 n).wf = true) : ∃ ls : List Nat, intsOf ls = l ∧ ∀ x ∈ ls, x < 18446744073709551616 := by
  induction l with
  | nil => exact ⟨[], rfl, by simp⟩
  | cons n l ih =>
    obtain ⟨ls, hls, hb⟩ := ih fun x hx => h x (by simp [hx])
    have hn := h n (by simp)
    have hn' : 0 ≤ n ∧ n ≤ 18446744073709551615 := by simpa [Lit.wf, IntKind.min, IntKind.max, IntKind.signed, IntKind.bits] using hn
    refine ⟨n.toNat :: ls, ?_, ?_⟩
    · rw [intsOf, List.map_cons, ← intsOf, hls]
      congr 1
      omega
    · intro x hx
      rcases List.mem_cons.1 hx with rfl | hx
      · omega
      · exact hb x hx

set_option maxHeartbeats 16000000 in
set_option maxRecDepth 100000 in
theorem fit_any (u : Value) (ls : List Nat) (w : World) (hu : Nums .u64 w u (intsOf ls)) :
    Calls Tryz.prog 18 #[u] w fun e w' => ∃ v k, e = .returned v ∧ (k = ls.length ∨ k = 64) ∧ k ≤ ls.length ∧ k ≤ 64 ∧ w'.ownsRow w.heap.size 40 2 v k (flatV (fitV ls k)) ∧ Below w.heap.size w w' := by
  obtain ⟨i0, hi, hz0, hz1, hz2⟩ := info_parts Tryz.info40
  obtain ⟨ao, cap, b, o, rfl, hao, hml, hc⟩ := hu.form
  rw [intsOf_len] at hao hml ⊢
  obtain ⟨n, hn⟩ : ∃ n, ls.length = n := ⟨_, rfl⟩
  have Hn := Lib.hid hn
  rw [hn] at hao hml ⊢
  unfold maxLen at hml
  have Hao := Lib.hid hao
  have Hc := Lib.hid hc
  clear hu hao hc hn
  go_enter Tryz.func18, Tryz.ntmps18
  go_wp2_with fail
  go_loopw [3, 4] (fun v i wr => ∃ k : Nat, k ≤ n ∧ k ≤ 64 ∧ i = .int .i64 k ∧ wr.ownsRow w.heap.size 40 2 v k (flatV (fitV ls k)) ∧ Below w.heap.size w wr) (fun _ i _ => n - (intOf i).toNat)
  case atStart => exact ⟨0, Nat.zero_le _, Nat.zero_le _, rfl, World.ownsRow_nil _ _ _ _, Below.refl _ _⟩
  case round =>
    obtain ⟨k, hk, hk2, rfl, hown, hbw⟩ := hrel
    have Hown := Lib.hid hown
    have Hbw := Lib.hid hbw
    clear hown hbw
    by_cases hlt : k < n ∧ k < 64
    · obtain ⟨hlt, hlt2⟩ := hlt
      obtain rfl := Hao.out (by omega)
      have hkl : k < ls.length := by rw [Hn.out]; exact hlt
      have ck := cell_kept Hbw.out (Hc.out k (by rw [intsOf_len]; exact hkl))
      have e1 : (intsOf ls)[k]'(by rw [intsOf_len]; exact hkl) = ((ls.getD k 0 : Nat) : Int) := by
        simp [intsOf, List.getD_eq_getElem?_getD, List.getElem?_eq_getElem hkl]
      rw [e1] at ck
      have hi0 : (0 : Int) ≤ (k : Int) := by omega
      have hi1 : (k : Int) < (n : Int) := by omega
      have hi2 : (k : Int) < 64 := by omega
      obtain ⟨x, hx⟩ : ∃ x, ls.getD k 0 = x := ⟨_, rfl⟩
      rw [hx] at ck
      have Hx := Lib.hid hx
      clear hx e1
      have hcv : ∀ x y, (convert 79 9 (.slice (some ⟨wr.heap.size, 0, none⟩) 2 2)).run Tryz.prog ((wr.alloc (.cells #[.int .u8 x, .int .u8 y] 5)).drew) = .ok (.string ⟨#[UInt8.ofNat x.toNat, UInt8.ofNat y.toNat]⟩) ((wr.alloc (.cells #[.int .u8 x, .int .u8 y] 5)).drew) := fun x y => conv2 wr.drew x y
      have ck0 : wr.drew.cell? ⟨b, o + k, none⟩ = some (.int .u64 (x : Int)) := ck
      have ck1 : ∀ ob, (wr.alloc ob).drew.cell? ⟨b, o + k, none⟩ = some (.int .u64 (x : Int)) := fun ob => cell_kept ((Below.refl wr.heap.size wr).alloc (Nat.le_refl _) ob) ck
      have hm1 : Int.tmod (k : Int) 26 = (k : Int) % 26 := Int.tmod_eq_emod_of_nonneg hi0
      have hm2 : Int.tdiv (k : Int) 26 = (k : Int) / 26 := Int.tdiv_eq_ediv_of_nonneg hi0
      have hm0 : (0 : Int) ≤ (k : Int) % 26 ∧ (k : Int) % 26 < 26 ∧ (0 : Int) ≤ (k : Int) / 26 ∧ (k : Int) / 26 < 3 := by omega
      have hw1 : IntKind.i64.wrap (97 + (k : Int) % 26) = 97 + (k : Int) % 26 := by simp only [IntKind.wrap, IntKind.bits, IntKind.signed]; simp; omega
      have hw2 : IntKind.i64.wrap ((k : Int) / 26) = (k : Int) / 26 := by simp only [IntKind.wrap, IntKind.bits, IntKind.signed]; simp; omega
      have hw3 : IntKind.i64.wrap (97 + (k : Int) / 26) = 97 + (k : Int) / 26 := by simp only [IntKind.wrap, IntKind.bits, IntKind.signed]; simp; omega
      have hw4 : IntKind.u8.wrap (97 + (k : Int) % 26) = 97 + (k : Int) % 26 := by simp only [IntKind.wrap, IntKind.bits, IntKind.signed]; simp; omega
      have hw5 : IntKind.u8.wrap (97 + (k : Int) / 26) = 97 + (k : Int) / 26 := by simp only [IntKind.wrap, IntKind.bits, IntKind.signed]; simp; omega
      have hown2 : ∀ a b, ((wr.alloc a).alloc b).drew.ownsRow w.heap.size 40 2 u3 k (flatV (fitV ls k)) := fun a b => (Hown.out.alloc a).alloc b
      have hnw : ∀ a (nb : ByteArray) j u, [Value.string nb, .int .u64 (x : Int)][j]? = some u → ((wr.alloc a).alloc (.cells #[.string nb, .int .u64 (x : Int)] 40)).drew.cell? ((⟨wr.heap.size + 1, 0, none⟩ : Addr).add j) = some u := fun a nb => two_cellV2 (wr.alloc a) _ ⟨nb, x⟩ _ (by simp)
      have hone : ∀ nb : ByteArray, ∀ u ∈ [Value.string nb, .int .u64 (x : Int)], u.oneCell' = true := fun nb u hu => flatV_plain [⟨nb, x⟩] u (by rw [flatV_one]; exact hu)
      have hbs : ∀ a b, w.heap.size ≤ ((wr.alloc a).alloc b).drew.heap.size := fun a b => by have := Hbw.out.size; show _ ≤ ((wr.alloc a).alloc b).heap.size; simp; omega
      have hpre : ∀ a b, Below w.heap.size w (((wr.alloc a).alloc b).drew) := fun a b => ((Hbw.out.alloc Hbw.out.size a).alloc (by have := Hbw.out.size; simp; omega) b).drew
      have hk63 : k + 1 ≤ maxLen := by unfold maxLen; omega
      have hk24 : (k + 1) * 24 ≤ 140737488355328 := by omega
      go_wp2_with fail
      go_region_law (refine step_append_lies _ rfl _ _ 29 rfl w.heap.size 40 i0 _ 2 24 Tryz.underlying29 hi hz0 hz1 hz2 rfl (by decide) _ _ _ rfl (hown2 _ _) ⟨wr.heap.size + 1, 0, none⟩ 1 1 [.string _, .int .u64 (x : Int)] rfl rfl (hnw _ _) (hone _) (by decide) hk63 hk24 (hbs _ _) _ rfl ?_; intro g gcap w3 hown3 hgrow3 _ _)
      all_goals
        have Hnm : Hid ((⟨#[UInt8.ofNat (97 + (k : Int) % 26).toNat, UInt8.ofNat (97 + (k : Int) / 26).toNat]⟩ : ByteArray) = nameAt k) := by
          show _ = _
          have e1 : (97 + (k : Int) % 26).toNat = 97 + k % 26 := by omega
          have e2 : (97 + (k : Int) / 26).toNat = 97 + k / 26 := by omega
          rw [nameAt, e1, e2]
        have Ho4 := Lib.hid (show w3.ownsRow w.heap.size 40 2 _ (k + 1) (flatV (fitV ls (k + 1))) by
          rw [fitV_succ, flatV_append, flatV_one, fitAt, Hx.out, ← Hnm.out]; exact hown3)
        have B3 := Lib.hid ((hpre _ _).grown hgrow3 (hbs _ _) (fun q hq => (Hown.out.lt q hq).1))
        clear hown3 hgrow3
        go_wp2_with fail
        go_roundw
        case rel => exact ⟨k + 1, by omega, by omega, by go_num, Ho4.out, B3.out⟩
        case measure => simp [intOf]; omega
    · have hend : k = n ∨ k = 64 := by omega
      have hstop : (n : Int) ≤ (k : Int) ∨ ((k : Int) < (n : Int) ∧ (64 : Int) ≤ (k : Int)) := by omega
      rcases hstop with hs1 | ⟨hs1, hs2⟩
      all_goals
        go_wp2_with fail
        go_ret
        exact ⟨_, k, rfl, hend, hk, hk2, Hown.out, Hbw.out⟩
end Go.Proofs.YtgodmfjcccakbaaGreatDoor
