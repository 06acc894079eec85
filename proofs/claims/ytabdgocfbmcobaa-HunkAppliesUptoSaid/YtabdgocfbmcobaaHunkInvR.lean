/- Own work: the document's Invert. -/
import Derived.Test.YtabdgocfbmcobaaHunkInvM
import Derived.Test.YtabdgocfbmcobaaHunkRefC
namespace Go.Proofs.Ytabdgocfbmcobaa
open Go.RowKit

set_option maxRecDepth 100000 in
set_option maxHeartbeats 16000000 in
theorem refInvert_any (v : Value) (l : List HunkV) (w : World) (hv : Hks w v l) (hf : ∀ m ∈ l, m.Fit) (hl : l.length * 56 ≤ 140737488351232) :
    Calls Try.prog 21 #[v] w fun e w' => ∃ r, e = .returned (.tuple #[r, .int .i64 ((invE (l.map HunkV.txt) : Nat) : Int)]) ∧ (invE (l.map HunkV.txt) ≠ 0 → r = .slice none 0 0) ∧ (invE (l.map HunkV.txt) = 0 → ∃ hs, OwnK w' w.heap.size r hs ∧ hs.map HunkV.txt = invL (l.map HunkV.txt)) ∧ Below w.heap.size w w' := by
  have HCk := Lib.hid (refCheck_any v l w hv hf (by omega))
  obtain ⟨ao, cap, b, o, rfl, hao, hm, hc⟩ := hv
  obtain ⟨n, hn⟩ : ∃ n, l.length = n := ⟨_, rfl⟩
  have Hn := Lib.hid hn
  rw [hn] at hao hm hl HCk ⊢
  have Hao := Lib.hid hao
  have Hc := Lib.hid hc
  have Hf := Lib.hid hf
  have HLn : Hid ((l.map HunkV.txt).length = n) := by show _ = _; rw [List.length_map, hn]
  obtain ⟨L, hL⟩ : ∃ L, l.map HunkV.txt = L := ⟨_, rfl⟩
  have HLe := Lib.hid hL
  have HLk : Hid (∀ (k : Nat) (h1 : k < L.length) (h2 : k < l.length), L[k]'h1 = (l[k]'h2).txt) := by intro k h1 h2; subst hL; simp
  rw [hL] at HLn HCk ⊢
  clear hao hc hn hf hL
  unfold maxLen at hm
  go_enter Try.func21, Try.ntmps21
  go_wp2_with fail
  refine HCk.out.mono ?_
  rintro e w1 ⟨rfl, hb1⟩
  have B1 := Lib.hid hb1
  clear hb1 HCk
  rcases chk_cases L with ⟨hc, hok⟩ | ⟨k, hk, hc⟩
  rotate_left
  · have HE : Hid (invE L = 80) := by show _ = _; rw [invE, hc, if_neg (by simp)]
    rw [hc]
    clear hc
    go_wp2_with fail
    go_ret2
    rw [HE.out]
    exact ⟨_, rfl, fun _ => rfl, fun h => absurd h (by simp), B1.out⟩
  have HE : Hid (invE L = (chkL (invL L)).2) := by show _ = _; rw [invE, hc, if_pos rfl]
  rw [hc]
  clear hc hok
  go_wp2_with fail
  go_loopw [6, 7, 8] (fun ov mv kv wr => ∃ (k : Nat) (acc : List HunkV), k ≤ n ∧ kv = .int .i64 (k : Int) ∧ mv = .int .i64 (moreF 0 (L.take k)) ∧ Hid (acc.map HunkV.txt = (invL L).take k) ∧ Hid (OwnK wr w.heap.size ov acc) ∧ Hid (Below w.heap.size w wr)) (fun _ _ kv _ => n - (intOf kv).toNat)
  case atStart => exact ⟨0, [], Nat.zero_le _, rfl, rfl, rfl, ownK_nil _ _, B1.out⟩
  case round =>
    obtain ⟨k, acc, hk, rfl, rfl, HA, HO, HB⟩ := hrel
    by_cases hlt : k < n
    · have hkl : k < l.length := by have := Hn.out; omega
      obtain rfl := Hao.out (by omega)
      obtain ⟨c0, c1, c2, t1, t2⟩ := Hc.out k hkl
      have HF := Lib.hid (Hf.out _ (List.getElem_mem hkl))
      have hkL : k < L.length := by have := HLn.out; omega
      have HT : Hid ((invL L).take (k + 1) = (invL L).take k ++ [invH (moreF 0 (L.take k)) (l[k]'hkl).txt]) := by
        show _ = _
        rw [inv_take hkL, HLk.out k hkL hkl]
      have HM : Hid (moreF 0 (L.take (k + 1)) = moreA (moreF 0 (L.take k)) (l[k]'hkl).txt) := by
        show _ = _
        rw [more_take hkL, HLk.out k hkL hkl]
      have hal : acc.length = k := by
        have h := congrArg List.length HA.out
        simp only [List.length_map, List.length_take, invL, invF_len] at h
        omega
      obtain ⟨x, hx⟩ : ∃ x, l[k]'hkl = x := ⟨_, rfl⟩
      rw [hx] at c0 c1 c2 t1 t2 HF HT HM
      obtain ⟨x1, x2, x3, x4, x5⟩ := x
      dsimp only at c0 c1 c2 t1 t2
      obtain ⟨mr, hmr⟩ : ∃ mr, moreF 0 (L.take k) = mr := ⟨_, rfl⟩
      rw [hmr] at HT HM ⊢
      clear hmr
      have T1 := Lib.hid (t1.kept HB.out)
      have T2 := Lib.hid (t2.kept HB.out)
      have F1 : Hid (SliceForm x2) := HF.out.fo
      have F2 : Hid (SliceForm x3) := HF.out.fn
      have hl4 : x4.length * 16 ≤ 140737488355328 := by have := HF.out.lo; simp only at this; omega
      have hl5 : x5.length * 16 ≤ 140737488355328 := by have := HF.out.ln; simp only at this; omega
      have hhn : (acc.length + 1) * 56 ≤ 140737488355328 := by omega
      have HL := Lib.hid (And.intro hl4 hl5)
      have HC := Lib.hid (And.intro c0 (And.intro c1 c2))
      clear hx t1 t2 hl4 hl5 hal
      have ki0 : (0 : Int) ≤ (k : Int) := by omega
      have ki1 : (k : Int) < (n : Int) := by omega
      have hbs := HB.out.size
      have keepS : ∀ W, Below w.heap.size w W → (W.cell? ⟨b, o + k * 3, none⟩ = some (.int .i64 x1) ∧ W.cell? ⟨b, o + k * 3 + 1, none⟩ = some x2 ∧ W.cell? ⟨b, o + k * 3 + 2, none⟩ = some x3 ∧ Below w.heap.size w W) := fun W h => ⟨cell_kept h HC.out.1, cell_kept h HC.out.2.1, cell_kept h HC.out.2.2, h⟩
      have keepW : ∀ W, Below wr.heap.size wr W → Below w.heap.size w W := fun W h => below_join HB.out h
      have keep0 : Below wr.heap.size wr wr := Below.refl _ _
      have keepD : ∀ W, Below wr.heap.size wr W → Below wr.heap.size wr W.drew := fun W h => h.drew
      have keepA : ∀ W o, Below wr.heap.size wr W → Below wr.heap.size wr (W.alloc o) := fun W o h => h.alloc h.size o
      go_wp2_with fail
      clear c0 c1 c2
      go_region_held3 (fun w' => w'.cell? ⟨b, o + k * 3, none⟩ = some (.int .i64 x1) ∧ w'.cell? ⟨b, o + k * 3 + 1, none⟩ = some x2 ∧ w'.cell? ⟨b, o + k * 3 + 2, none⟩ = some x3 ∧ Below w.heap.size w w')
        (first | (refine keepS _ ?_; (first | assumption | (refine keepW _ ?_; (repeat (first | assumption | exact keep0 | refine keepD _ ?_ | refine keepA _ _ ?_))))))
        (first
          | (have hqq := ho2
             refine step_append_hk (w0 := w2) rfl (.tmp 23) (.tmp 46) rfl w.heap.size u6 acc ⟨IntKind.i64.wrap (x1 + mr), .slice (some ⟨g2, 0, none⟩) x5.length cap2, .slice (some ⟨g1, 0, none⟩) x4.length cap1, x5, x4⟩ rfl (HO.out.below ?_) (OwnT.base (B := wr.heap.size) ?_ hbs) (OwnT.base (B := wr.heap.size) ?_ hbs) 43 w2.heap.size rfl rfl hhn ?_ ?_
             · (repeat (first | assumption | exact keep0 | refine keepD _ ?_ | refine keepA _ _ ?_))
             · dsimp only; (repeat (first | assumption | (with_reducible refine OwnT.alloc ?_ _) | (refine OwnT.grown ?_ (by assumption) (by omega))))
             · dsimp only; (repeat (first | assumption | (with_reducible refine OwnT.alloc ?_ _) | (refine OwnT.grown ?_ (by assumption) (by omega))))
             · exact Nat.le_trans hbs (Below.size (by assumption))
             intro v3 w3 ho3 hb3
             have hb4 : Below w.heap.size w w3 := Below.trans (keepW _ (by assumption)) hb3)
          | (have hqq := ho2
             refine step_append_hk (w0 := w1) rfl (.tmp 23) (.tmp 46) rfl w.heap.size u6 acc ⟨IntKind.i64.wrap (x1 + mr), .slice (some ⟨g2, 0, none⟩) x5.length cap2, .slice (some ⟨g1, 0, none⟩) x4.length cap1, x5, x4⟩ rfl (HO.out.below ?_) (OwnT.base (B := wr.heap.size) ?_ hbs) (OwnT.base (B := wr.heap.size) ?_ hbs) 43 w1.heap.size rfl rfl hhn ?_ ?_
             · (repeat (first | assumption | exact keep0 | refine keepD _ ?_ | refine keepA _ _ ?_))
             · dsimp only; (repeat (first | assumption | (with_reducible refine OwnT.alloc ?_ _) | (refine OwnT.grown ?_ (by assumption) (by omega))))
             · dsimp only; (repeat (first | assumption | (with_reducible refine OwnT.alloc ?_ _) | (refine OwnT.grown ?_ (by assumption) (by omega))))
             · exact Nat.le_trans hbs (Below.size (by assumption))
             intro v3 w3 ho3 hb3
             have hb4 : Below w.heap.size w w3 := Below.trans (keepW _ (by assumption)) hb3)
          | (refine step_copy_lot (w0 := wr) rfl _ _ rfl _ rfl x2 x4 rfl T1.out F1.out HL.out.1 ?_ ?_ ?_ ?_; (first | exact Nat.le_refl _ | exact Nat.le_succ _ | exact Below.size (by assumption) | (have := Below.size (by assumption : Below wr.heap.size wr _); omega)); (repeat (first | (with_reducible refine EmptyAt.drew ?_) | ((with_reducible refine EmptyAt.new ?_); first | (with_reducible rfl) | (focus (simp; done))) | (with_reducible refine EmptyAt.alloc ?_ _) | (refine EmptyAt.grown ?_ (by assumption) (by omega)))); (repeat (first | assumption | exact keep0 | refine keepD _ ?_ | refine keepA _ _ ?_)); (intro g1 cap1 w1 ho1 hg1 hb1 hat1 hlt1); (try simp only [World.size_alloc] at hat1))
          | (refine step_copy_lot (w0 := wr) rfl _ _ rfl _ rfl x3 x5 rfl T2.out F2.out HL.out.2 ?_ ?_ ?_ ?_; (first | exact Nat.le_refl _ | exact Nat.le_succ _ | exact Below.size (by assumption) | (have := Below.size (by assumption : Below wr.heap.size wr _); omega)); (repeat (first | (with_reducible refine EmptyAt.drew ?_) | ((with_reducible refine EmptyAt.new ?_); first | (with_reducible rfl) | (focus (simp; done))) | (with_reducible refine EmptyAt.alloc ?_ _) | (refine EmptyAt.grown ?_ (by assumption) (by omega)))); (repeat (first | assumption | exact keep0 | refine keepD _ ?_ | refine keepA _ _ ?_)); (intro g2 cap2 w2 ho2 hg2 hb2 hat2 hlt2); (try simp only [World.drew, World.size_alloc] at hat2)))
      all_goals
        obtain ⟨o2, p2, e2⟩ := T1.out.lenForm
        obtain ⟨o3, p3, e3⟩ := T2.out.lenForm
        have c1 := cell_kept hb4 HC.out.2.1
        have c2 := cell_kept hb4 HC.out.2.2
        rw [e2] at c1
        rw [e3] at c2
        have HX : Hid (moreF 0 (L.take (k + 1)) = wrap64 (wrap64 (mr + (x5.length : Int)) - (x4.length : Int))) := by
          show _ = _
          rw [HM.out, moreA, wrap_two]
          rfl
        go_wp2_with fail
        go_quiet (fail)
        go_wp2_with fail
        go_roundw
        case rel => exact ⟨k + 1, _, by omega, by go_num, by rw [HX.out], (by show _ = _; rw [HT.out, List.map_append, HA.out]; simp only [HunkV.txt, invH, List.map_cons, List.map_nil, IntKind.wrap_i64]; congr 3; unfold wrap64; omega), ho3.below (below_drewN (Below.refl _ _) _), below_drewN hb4 _⟩
        case measure => simp [intOf]; omega
    · obtain rfl : k = n := by omega
      have HT : Hid (acc.map HunkV.txt = invL L) := by
        show _ = _
        rw [HA.out, List.take_of_length_le (by rw [invL, invF_len, HLn.out]; exact Nat.le_refl _)]
      have HFi := Lib.hid (fit_inv HO.out (by rw [HT.out, HLe.out]) Hf.out)
      have hla : acc.length = k := by have h := congrArg List.length HT.out; rw [List.length_map, invL, invF_len, HLn.out] at h; exact h
      have HCk := Lib.hid (refCheck_any _ acc wr HO.out.hks HFi.out (by rw [hla]; omega))
      obtain ⟨oo, oc, rfl⟩ := HO.out.hks.lenForm
      rw [hla] at HO HCk ⊢
      rw [HT.out] at HCk
      go_wp2_with fail
      refine HCk.out.mono ?_
      rintro e w2 ⟨rfl, hb2⟩
      have B2 := Lib.hid (below_join HB.out hb2)
      have HO2 := Lib.hid (HO.out.below hb2)
      clear hb2 HCk hla
      rcases chk_cases (invL L) with ⟨hc, _⟩ | ⟨j, hj, hc⟩
      · have HE2 : Hid (invE L = 0) := by show _ = _; rw [HE.out, hc]
        rw [hc]
        clear hc
        go_wp2_with fail
        go_ret2
        rw [HE2.out]
        exact ⟨_, rfl, fun h => absurd rfl h, fun _ => ⟨acc, HO2.out, HT.out⟩, B2.out⟩
      · have HE2 : Hid (invE L = 80) := by show _ = _; rw [HE.out, hc]
        rw [hc]
        clear hc
        go_wp2_with fail
        go_ret2
        rw [HE2.out]
        exact ⟨_, rfl, fun _ => rfl, fun h => absurd h (by simp), B2.out⟩
end Go.Proofs.Ytabdgocfbmcobaa
