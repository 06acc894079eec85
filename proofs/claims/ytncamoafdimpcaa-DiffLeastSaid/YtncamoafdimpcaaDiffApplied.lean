/- Own work: a patch applied, as the law does it. -/
import Derived.Test.YtncamoafdimpcaaDiffWorks
namespace Go.Proofs.Ytncamoafdimpcaa
open Go.RowKit

theorem run_sub2 (ao : Option Addr) (n cap lo : Nat) (h1 : lo ≤ n) (W : World) :
    (Instr.slice 23 (.slice ao n cap) (some (.int .i64 (lo : Int))) none none).run Try.prog W = .ok (subV ao cap lo n) W := by
  have e1 : (0 : Int) ≤ (lo : Int) := by omega
  simp [Instr.slice, Instr.sliceBounds, Instr.sliceBound, asIntOf, run_underlying Try.underlying23, go_sem, e1, h1, subV]
theorem FitsL.drop {a : List ByteArray} : ∀ {l : List HunkT} {i : Nat}, FitsL a i l → ∀ h r, l = h :: r → FitsL a (h.at_ + h.old.length) r := by
  intro l i hf h r e
  subst e
  exact hf.2.2.2.2.1
/-- one more text behind some -/
theorem sub_get {a : List ByteArray} {p n : Nat} {o : List ByteArray} (h : o = (a.drop p).take n) (hn : o.length = n) (k : Nat) (hk : k < o.length) (hp : p + k < a.length) : o[k]'hk = a[p + k]'hp := by
  subst h
  simp

theorem cell_stays {W W' : World} {b o : Nat} {y : Value} {r : Option Nat} (h : W.cell? ⟨b, o, none⟩ = some y) (hg : W.grownBy W' r) (hne : r ≠ some b) : W'.cell? ⟨b, o, none⟩ = some y := by
  have hlt := World.block_lt_of_cell? _ _ h
  have h5 := hg.block b hlt (fun e => hne e.symm)
  unfold World.cell? at h ⊢
  rw [h5]
  exact h
theorem row_stays {W W' : World} {b : Nat} {c : Obj} {r : Option Nat} (h : W.heap[b]? = some c) (hg : W.grownBy W' r) (hne : r ≠ some b) : W'.heap[b]? = some c := by
  rw [hg.block b (lt_of_block h) (fun e => hne e.symm)]
  exact h
/-- a row of texts is no block of hunks -/
theorem OwnT.no_hunk {W : World} {B b : Nat} {v : Value} {l : List ByteArray} {c : Array Value} (h : OwnT W B v l) (hb : W.heap[b]? = some (.cells c 30 (0, 0))) : v.ownBlock ≠ some b := by
  intro e
  obtain ⟨cur, hc⟩ := own_row h e
  exact kinds_apart hc hb (by decide) rfl

set_option maxRecDepth 100000 in
set_option maxHeartbeats 16000000 in
theorem applied_any (u v : Value) (a : List ByteArray) (l : List HunkM) (w : World) (hu : Texts w u a) (hfu : SliceForm u) (hv : Hunks w v l) (hfo : ∀ m ∈ l, SliceForm m.ov ∧ SliceForm m.nv) (hfit : FitsL a 0 (l.map HunkM.txt)) (hla : a.length * 16 ≤ 140737488355328) (hlb : (appliedL a 0 (l.map HunkM.txt)).length * 16 ≤ 140737488355328) :
    Calls Try.prog 22 #[u, v] w fun e w' => ∃ r, e = .returned (.tuple #[r, .bool true]) ∧ OwnT w' w.heap.size r (appliedL a 0 (l.map HunkM.txt)) ∧ Below w.heap.size w w' := by
  have Hu := Lib.hid hu
  have Hfu := Lib.hid hfu
  have Hfo := Lib.hid hfo
  have Hfit := Lib.hid hfit
  obtain ⟨uo, uc, ub, uof, rfl, huo, hum, hcu⟩ := hu.form
  have Huo := Lib.hid huo
  have Hcu := Lib.hid hcu
  obtain ⟨vo, vc, vb, vof, rfl, hvo, hvm, hcv⟩ := hv
  have Hvo := Lib.hid hvo
  have Hcv := Lib.hid hcv
  clear hu hfu hfo hfit huo hcu hvo hcv
  obtain ⟨n, hn⟩ : ∃ n, a.length = n := ⟨_, rfl⟩
  obtain ⟨q, hq⟩ : ∃ q, l.length = q := ⟨_, rfl⟩
  have Hn := Lib.hid hn
  have Hq := Lib.hid hq
  rw [hn] at hum hla Hu Hfu ⊢
  rw [hq] at hvm Hvo ⊢
  have hun := Hu.out.cap
  have hucn : n ≤ uc := hun.2
  clear hn hq hun
  unfold maxLen at hum hvm
  obtain ⟨R, hR⟩ : ∃ R, appliedL a 0 (l.map HunkM.txt) = R := ⟨_, rfl⟩
  have HR := Lib.hid hR
  rw [hR] at hlb ⊢
  clear hR
  go_enter Try.func22, Try.ntmps22
  go_wp2_with fail
  go_loopw [6, 7, 8] (fun ov av kv wr => ∃ (k at_ : Nat) (acc : List ByteArray), k ≤ q ∧ kv = .int .i64 (k : Int) ∧ av = .int .i64 (at_ : Int) ∧ at_ ≤ n ∧ Hid (FitsL a at_ ((l.map HunkM.txt).drop k)) ∧ Hid (acc ++ appliedL a at_ ((l.map HunkM.txt).drop k) = R) ∧ Hid (0 < k → ∀ h r, (l.map HunkM.txt).drop k = h :: r → at_ < h.at_) ∧ Hid (OwnT wr w.heap.size ov acc) ∧ Hid (Below w.heap.size w wr)) (fun _ _ kv _ => q - (intOf kv).toNat)
  case atStart => exact ⟨0, 0, [], Nat.zero_le _, rfl, rfl, Nat.zero_le _, Hfit, HR, fun h => absurd h (by omega), ownT_nil _ _, Below.refl _ _⟩
  case round =>
    obtain ⟨k, at_, acc, hk, rfl, rfl, hat, HF, HA, HG, HO, HB⟩ := hrel
    by_cases hlt : k < q
    · have hkl : k < l.length := by have := Hq.out; omega
      obtain rfl := Hvo.out (by omega)
      obtain ⟨c0, c1, c2, t1, t2⟩ := Hcv.out k hkl
      obtain ⟨hf1, hf2⟩ := Hfo.out _ (List.getElem_mem hkl)
      have HD : Hid ((l.map HunkM.txt).drop k = (l[k]'hkl).txt :: (l.map HunkM.txt).drop (k + 1)) := by
        show _ = _
        rw [List.drop_eq_getElem_cons (by rw [List.length_map]; exact hkl), List.getElem_map]
      obtain ⟨x, hx⟩ : ∃ x, l[k]'hkl = x := ⟨_, rfl⟩
      rw [hx] at c0 c1 c2 t1 t2 hf1 hf2 HD
      obtain ⟨x1, x2, x3, x4, x5⟩ := x
      dsimp only at c0 c1 c2 t1 t2 hf1 hf2
      rw [HD.out] at HF HA HG
      obtain ⟨g1, g2, g3, g4, g5, g6⟩ := HF.out
      have HG6 := Lib.hid g6
      have HF5 := Lib.hid g5
      have HG4 := Lib.hid g4
      simp only [HunkM.txt] at g1 g2 g3 HF5 HG4 HG6
      rw [Hn.out] at g3
      have T1 := Lib.hid t1
      have T2 := Lib.hid t2
      have F1 := Lib.hid hf1
      have F2 := Lib.hid hf2
      obtain ⟨o1, p1, b1, of1, rfl, ho1, hom1, hoc1⟩ := t1.form
      obtain ⟨o2, p2, _, _, rfl, _⟩ := t2.form
      obtain ⟨on, hon⟩ : ∃ on, x4.length = on := ⟨_, rfl⟩
      obtain ⟨nn, hnn⟩ : ∃ nn, x5.length = nn := ⟨_, rfl⟩
      have Hon := Lib.hid hon
      have Hnn := Lib.hid hnn
      have Ho1 := Lib.hid ho1
      have Hoc1 := Lib.hid hoc1
      rw [hon] at g2 g3 c1 T1 F1 hom1 Ho1 HF5 HG4 HG6
      rw [hnn] at g2 c2 T2 F2
      unfold maxLen at hom1
      clear hx t1 t2 hf1 hf2 g4 g5 g6 hon hnn ho1 hoc1
      have c0 := cell_kept HB.out c0
      have c1 := cell_kept HB.out c1
      have c2 := cell_kept HB.out c2
      have ki0 : (0 : Int) ≤ (k : Int) := by omega
      have ki1 : (k : Int) < (q : Int) := by omega
      have hnb : nn ≤ 4611686018427387904 := by
        have h := congrArg List.length HA.out
        simp only [appliedL, HunkM.txt, List.length_append] at h
        have := Hnn.out
        omega
      have hra := heap_alloc_new wr (.cells #[.int .i64 (x1 : Int), .slice o1 on p1, .slice o2 nn p2] 30)
      have hal : Below wr.heap.size wr (wr.alloc (.cells #[.int .i64 (x1 : Int), .slice o1 on p1, .slice o2 nn p2] 30)) := (Below.refl _ _).alloc (Nat.le_refl _) _
      have HO3 := Lib.hid (HO.out.below hal)
      have HB3 := Lib.hid (HB.out.trans (hal.mono HB.out.size))
      go_upto_region 7 with fail
      obtain ⟨w3, hw3⟩ : ∃ w3, wr.alloc (.cells #[.int .i64 (x1 : Int), .slice o1 on p1, .slice o2 nn p2] 30) = w3 := ⟨_, rfl⟩
      rw [hw3] at hra HO3 HB3 ⊢
      obtain ⟨A, hA⟩ : ∃ A, wr.heap.size = A := ⟨_, rfl⟩
      rw [hA] at hra ⊢
      have HRA := Lib.hid hra
      clear hw3 hA hal hra
      have a0 : w3.cell? ⟨A, 0, none⟩ = some (.int .i64 (x1 : Int)) := cell_of_row _ _ 0 _ _ _ HRA.out
      have a1 : w3.cell? ⟨A, 1, none⟩ = some (.slice o1 on p1) := cell_of_row _ _ 1 _ _ _ HRA.out
      have a2 : w3.cell? ⟨A, 2, none⟩ = some (.slice o2 nn p2) := cell_of_row _ _ 2 _ _ _ HRA.out
      go_cut [62] from 11 to 99 (fun c wx => c = .bool false ∧ wx = w3)
      case first =>
        have b1 : ¬ ((x1 : Int) < (at_ : Int)) := by omega
        have b3 : ((on : Int) + (nn : Int) == 0) = false := by simp; omega
        have b4 : ¬ ((n : Int) < (x1 : Int)) := by omega
        have b5 : ¬ ((n : Int) - (x1 : Int) < (on : Int)) := by omega
        by_cases hk0 : k = 0
        · have b2 : ¬ ((0 : Int) < (k : Int)) := by omega
          clear hk0
          go_wp2_with fail
          go_meet
          exact ⟨rfl, rfl⟩
        · have b2 : (0 : Int) < (k : Int) := by omega
          have hne : at_ < x1 := HG.out (by omega) _ _ rfl
          have b6 : ((x1 : Int) == (at_ : Int)) = false := by simp; omega
          go_wp2_with fail
          go_meet
          exact ⟨rfl, rfl⟩
      case rest =>
        obtain ⟨rfl, hwx⟩ := hcut
        obtain rfl : w3 = wc := hwx.symm
        clear hwx c0 c1 c2
        have hs1 := run_sub uo n uc at_ x1 g1 (by omega)
        have Ts := Lib.hid (texts_sub Hu.out at_ x1 g1 (by omega))
        have Fs := Lib.hid (form_sub Hfu.out g1 (by omega : x1 ≤ n))
        have hlen1 : ((a.drop at_).take (x1 - at_)).length ≤ n := by have := Hn.out; rw [List.length_take, List.length_drop]; omega
        have HR2 : Hid (acc ++ (a.drop at_).take (x1 - at_) ++ x5 ++ appliedL a (x1 + on) ((l.map HunkM.txt).drop (k + 1)) = R) := by
          show _ = _
          rw [← HA.out, ← Hon.out]
          simp [appliedL, HunkM.txt]
        have hlen2 : (acc.length + ((a.drop at_).take (x1 - at_)).length) * 16 ≤ 140737488355328 := by
          have h := congrArg List.length HR2.out
          simp only [List.length_append] at h
          omega
        have hlen3 : ((acc ++ (a.drop at_).take (x1 - at_)).length + x5.length) * 16 ≤ 140737488355328 := by
          have h := congrArg List.length HR2.out
          simp only [List.length_append] at h ⊢
          omega
        go_wp2_with (at_builtin; refine wpList_append_lot rfl _ _ rfl w.heap.size u6 acc rfl HO3.out _ _ rfl (Ts.out.kept HB3.out) Fs.out hlen2 HB3.out.size ?_)
        intro v4 w4 ho4 hg4
        have hne4 := HO3.out.no_hunk HRA.out
        have a0 := cell_stays a0 hg4 hne4
        have a1 := cell_stays a1 hg4 hne4
        have a2 := cell_stays a2 hg4 hne4
        have HRA4 := Lib.hid (row_stays HRA.out hg4 hne4)
        have HB4 := Lib.hid (HB3.out.grown hg4 HB3.out.size (fun g hg => (HO3.out.lt g hg).1))
        have HO4 := Lib.hid ho4
        clear ho4 hg4 hne4 hlen1 hlen2 hs1
        go_wp2_with fail
        go_loopw [10] (fun jv wq => ∃ j : Nat, j ≤ on ∧ jv = .int .i64 (j : Int) ∧ Below w4.heap.size w4 wq) (fun jv _ => on - (intOf jv).toNat)
        case atStart => exact ⟨0, Nat.zero_le _, rfl, Below.refl _ _⟩
        case round =>
          obtain ⟨j, hj, rfl, hbq⟩ := hrel
          have HBq := Lib.hid hbq
          have a0 := cell_kept hbq a0
          have a1 := cell_kept hbq a1
          have a2 := cell_kept hbq a2
          clear hbq
          by_cases hjl : j < on
          · have hja : x1 + j < a.length := by have := Hn.out; omega
            have hjx : j < x4.length := by have := Hon.out; omega
            obtain rfl := Huo.out (by omega)
            obtain rfl := Ho1.out (by omega)
            have d1 := cell_kept HBq.out (cell_kept HB4.out (Hcu.out (x1 + j) hja))
            have d2 := cell_kept HBq.out (cell_kept HB4.out (Hoc1.out j hjx))
            rw [sub_get HG4.out Hon.out j hjx hja] at d2
            obtain ⟨y, hy⟩ : ∃ y, a[x1 + j]'hja = y := ⟨_, rfl⟩
            rw [hy] at d1 d2
            have j0 : (0 : Int) ≤ (x1 : Int) + (j : Int) := by omega
            have j1 : (x1 : Int) + (j : Int) < (n : Int) := by omega
            have j2 : ((x1 : Int) + (j : Int)).toNat = x1 + j := by omega
            have j3 : (0 : Int) ≤ (j : Int) := by omega
            have j4 : (j : Int) < (on : Int) := by omega
            have hq := bytes_beq (rfl : y = y)
            clear hy
            go_wp2_with fail
            go_quiet (fail)
            go_wp2_with fail
            go_roundw
            case rel => exact ⟨j + 1, by omega, by go_num, below_drewN HBq.out _⟩
            case measure => simp [intOf]; omega
          · obtain rfl : j = on := by omega
            have HOq := Lib.hid (HO4.out.below HBq.out)
            have HRq := Lib.hid (row_kept HBq.out HRA4.out)
            have HB5 := Lib.hid (below_join HB4.out HBq.out)
            go_wp2_with (at_builtin; refine wpList_append_lot rfl _ _ rfl w.heap.size v4 _ rfl HOq.out _ x5 rfl (T2.out.kept HB5.out) F2.out hlen3 HB5.out.size ?_)
            intro v6 w6 ho6 hg6
            have hne6 := HOq.out.no_hunk HRq.out
            have a0 := cell_stays a0 hg6 hne6
            have a1 := cell_stays a1 hg6 hne6
            have a2 := cell_stays a2 hg6 hne6
            have HB6 := Lib.hid (HB5.out.grown hg6 HB5.out.size (fun g hg => (HOq.out.lt g hg).1))
            have HO6 := Lib.hid ho6
            clear ho6 hg6 hne6
            go_wp2_with fail
            go_roundw
            case rel => exact ⟨k + 1, x1 + j, _, by omega, by go_num, by go_num, by omega, HF5, HR2, fun _ => HG6.out, (by show OwnT _ _ _ _; rw [List.append_assoc]; exact HO6.out), HB6⟩
            case measure => simp [intOf]; omega
    · obtain rfl : k = q := by omega
      have HD : Hid ((l.map HunkM.txt).drop k = []) := List.drop_eq_nil_of_le (by rw [List.length_map, Hq.out]; exact Nat.le_refl _)
      rw [HD.out, appliedL] at HA
      have hs2 := run_sub2 uo n uc at_ hat
      have Ts := Lib.hid (texts_sub Hu.out at_ n hat (Nat.le_refl _))
      have Fs := Lib.hid (form_sub Hfu.out hat (Nat.le_refl n))
      have HT : Hid ((a.drop at_).take (n - at_) = a.drop at_) := List.take_of_length_le (by have := Hn.out; rw [List.length_drop]; omega)
      rw [HT.out] at Ts
      have hlen : (acc.length + (a.drop at_).length) * 16 ≤ 140737488355328 := by
        have h := congrArg List.length HA.out
        simp only [List.length_append] at h
        omega
      go_wp2_with (at_builtin; refine wpList_append_lot rfl _ _ rfl w.heap.size u6 acc rfl HO.out _ _ rfl (Ts.out.kept HB.out) Fs.out hlen HB.out.size ?_)
      intro v4 w4 ho4 hg4
      have HB4 := Lib.hid (HB.out.grown hg4 HB.out.size (fun g hg => (HO.out.lt g hg).1))
      rw [HA.out] at ho4
      have HO4 := Lib.hid ho4
      clear ho4 hg4
      go_wp2_with fail
      go_ret2
      exact ⟨_, rfl, HO4.out, HB4.out⟩
end Go.Proofs.Ytncamoafdimpcaa
