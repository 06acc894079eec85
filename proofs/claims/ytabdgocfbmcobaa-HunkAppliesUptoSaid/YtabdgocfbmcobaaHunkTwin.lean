/- Own work: the document's Twin. -/
import Derived.Test.YtabdgocfbmcobaaHunkStep
namespace Go.Proofs.Ytabdgocfbmcobaa
open Go.RowKit

/-- what is made of what fits, fits -/
theorem fit_made {w : World} {B : Nat} {v : Value} {hs l : List HunkV} (ho : OwnK w B v hs) (he : hs.map HunkV.txt = l.map HunkV.txt) (hf : ∀ m ∈ l, m.Fit) : ∀ m ∈ hs, m.Fit := by
  intro m hm
  obtain ⟨k, hk, rfl⟩ := List.getElem_of_mem hm
  have hk2 : k < l.length := by have h := congrArg List.length he; rw [List.length_map, List.length_map] at h; omega
  have h := congrArg (·[k]?) he
  simp only [List.getElem?_map, List.getElem?_eq_getElem hk, List.getElem?_eq_getElem hk2, Option.map_some] at h
  have h := Option.some.inj h
  have f := hf _ (List.getElem_mem hk2)
  obtain ⟨o1, o2⟩ := ho.2 _ hm
  have e1 : (hs[k]).at_ = (l[k]).at_ := congrArg HunkI.at_ h
  have e2 : (hs[k]).old = (l[k]).old := congrArg HunkI.old h
  have e3 : (hs[k]).new = (l[k]).new := congrArg HunkI.new h
  exact ⟨o1.form, o2.form, by rw [e2]; exact f.so, by rw [e3]; exact f.sn, by rw [e2]; exact f.lo, by rw [e3]; exact f.ln, by rw [e1]; exact f.a0, by rw [e1]; exact f.a1⟩

set_option maxRecDepth 100000 in
set_option maxHeartbeats 16000000 in
theorem twin_any (v : Value) (l : List HunkV) (w : World) (hv : Hks w v l) (hf : ∀ m ∈ l, m.Fit) (hl : l.length * 56 ≤ 140737488351232) :
    Calls Try.prog 10 #[v] w fun e w' => ∃ r hs, e = .returned r ∧ OwnK w' w.heap.size r hs ∧ hs.map HunkV.txt = l.map HunkV.txt ∧ Below w.heap.size w w' := by
  obtain ⟨ao, cap, b, o, rfl, hao, hm, hc⟩ := hv
  obtain ⟨n, hn⟩ : ∃ n, l.length = n := ⟨_, rfl⟩
  have Hn := Lib.hid hn
  rw [hn] at hao hm hl ⊢
  have Hao := Lib.hid hao
  have Hc := Lib.hid hc
  have Hf := Lib.hid hf
  clear hao hc hn hf
  unfold maxLen at hm
  go_enter Try.func10, Try.ntmps10
  go_wp2_with fail
  go_loopw [3, 4] (fun ov kv wr => ∃ (k : Nat) (acc : List HunkV), k ≤ n ∧ kv = .int .i64 (k : Int) ∧ Hid (acc.map HunkV.txt = (l.take k).map HunkV.txt) ∧ Hid (OwnK wr w.heap.size ov acc) ∧ Hid (Below w.heap.size w wr)) (fun _ kv _ => n - (intOf kv).toNat)
  case atStart => exact ⟨0, [], Nat.zero_le _, rfl, rfl, ownK_nil _ _, Below.refl _ _⟩
  case round =>
    obtain ⟨k, acc, hk, rfl, HA, HO, HB⟩ := hrel
    by_cases hlt : k < n
    · have hkl : k < l.length := by have := Hn.out; omega
      obtain rfl := Hao.out (by omega)
      obtain ⟨c0, c1, c2, t1, t2⟩ := Hc.out k hkl
      have HF := Lib.hid (Hf.out _ (List.getElem_mem hkl))
      have HT : Hid ((l.take (k + 1)).map HunkV.txt = (l.take k).map HunkV.txt ++ [(l[k]'hkl).txt]) := by
        show _ = _
        rw [List.take_succ_eq_append_getElem hkl, List.map_append]
        rfl
      have hal : acc.length = k := by
        have h := congrArg List.length HA.out
        simp only [List.length_map, List.length_take] at h
        omega
      obtain ⟨x, hx⟩ : ∃ x, l[k]'hkl = x := ⟨_, rfl⟩
      rw [hx] at c0 c1 c2 t1 t2 HF HT
      obtain ⟨x1, x2, x3, x4, x5⟩ := x
      dsimp only at c0 c1 c2 t1 t2
      have T1 := Lib.hid (t1.kept HB.out)
      have T2 := Lib.hid (t2.kept HB.out)
      have F1 : Hid (SliceForm x2) := HF.out.fo
      have F2 : Hid (SliceForm x3) := HF.out.fn
      have hl4 : x4.length * 16 ≤ 140737488355328 := by have := HF.out.lo; simp only at this; omega
      have hl5 : x5.length * 16 ≤ 140737488355328 := by have := HF.out.ln; simp only at this; omega
      have hhn : (acc.length + 1) * 56 ≤ 140737488355328 := by omega
      have HL := Lib.hid (And.intro hl4 hl5)
      have HC := Lib.hid (And.intro c0 (And.intro c1 c2))
      clear hx t1 t2 hl4 hl5 hal
      have ki0 : (0 : Int) ≤ (k : Int) := by omega
      have ki1 : (k : Int) < (n : Int) := by omega
      have hbs := HB.out.size
      have keepS : ∀ W, Below w.heap.size w W → (W.cell? ⟨b, o + k * 3, none⟩ = some (.int .i64 x1) ∧ W.cell? ⟨b, o + k * 3 + 1, none⟩ = some x2 ∧ W.cell? ⟨b, o + k * 3 + 2, none⟩ = some x3 ∧ Below w.heap.size w W) := fun W h => ⟨cell_kept h HC.out.1, cell_kept h HC.out.2.1, cell_kept h HC.out.2.2, h⟩
      have keepW : ∀ W, Below wr.heap.size wr W → Below w.heap.size w W := fun W h => below_join HB.out h
      have keep0 : Below wr.heap.size wr wr := Below.refl _ _
      have keepD : ∀ W, Below wr.heap.size wr W → Below wr.heap.size wr W.drew := fun W h => h.drew
      have keepA : ∀ W o, Below wr.heap.size wr W → Below wr.heap.size wr (W.alloc o) := fun W o h => h.alloc h.size o
      go_wp2_with fail
      clear c0 c1 c2
      go_region_held3 (fun w' => w'.cell? ⟨b, o + k * 3, none⟩ = some (.int .i64 x1) ∧ w'.cell? ⟨b, o + k * 3 + 1, none⟩ = some x2 ∧ w'.cell? ⟨b, o + k * 3 + 2, none⟩ = some x3 ∧ Below w.heap.size w w')
        (first | (refine keepS _ ?_; (first | assumption | (refine keepW _ ?_; (repeat (first | assumption | exact keep0 | refine keepD _ ?_ | refine keepA _ _ ?_))))))
        (first
          | (have hqq := ho2
             refine step_append_hk (w0 := w2) rfl (.tmp 11) (.tmp 32) rfl w.heap.size u3 acc ⟨x1, .slice (some ⟨g1, 0, none⟩) x4.length cap1, .slice (some ⟨g2, 0, none⟩) x5.length cap2, x4, x5⟩ rfl (HO.out.below ?_) (OwnT.base (B := wr.heap.size) ?_ hbs) (OwnT.base (B := wr.heap.size) ?_ hbs) 43 w2.heap.size rfl rfl hhn ?_ ?_
             · (repeat (first | assumption | exact keep0 | refine keepD _ ?_ | refine keepA _ _ ?_))
             · dsimp only; (repeat (first | assumption | (with_reducible refine OwnT.alloc ?_ _) | (refine OwnT.grown ?_ (by assumption) (by omega))))
             · dsimp only; (repeat (first | assumption | (with_reducible refine OwnT.alloc ?_ _) | (refine OwnT.grown ?_ (by assumption) (by omega))))
             · exact Nat.le_trans hbs (Below.size (by assumption))
             intro v3 w3 ho3 hb3
             have hb4 : Below w.heap.size w w3 := Below.trans (keepW _ (by assumption)) hb3)
          | (have hqq := ho2
             refine step_append_hk (w0 := w1) rfl (.tmp 11) (.tmp 32) rfl w.heap.size u3 acc ⟨x1, .slice (some ⟨g1, 0, none⟩) x4.length cap1, .slice (some ⟨g2, 0, none⟩) x5.length cap2, x4, x5⟩ rfl (HO.out.below ?_) (OwnT.base (B := wr.heap.size) ?_ hbs) (OwnT.base (B := wr.heap.size) ?_ hbs) 43 w1.heap.size rfl rfl hhn ?_ ?_
             · (repeat (first | assumption | exact keep0 | refine keepD _ ?_ | refine keepA _ _ ?_))
             · dsimp only; (repeat (first | assumption | (with_reducible refine OwnT.alloc ?_ _) | (refine OwnT.grown ?_ (by assumption) (by omega))))
             · dsimp only; (repeat (first | assumption | (with_reducible refine OwnT.alloc ?_ _) | (refine OwnT.grown ?_ (by assumption) (by omega))))
             · exact Nat.le_trans hbs (Below.size (by assumption))
             intro v3 w3 ho3 hb3
             have hb4 : Below w.heap.size w w3 := Below.trans (keepW _ (by assumption)) hb3)
          | (refine step_copy_lot (w0 := wr) rfl _ _ rfl _ rfl x2 x4 rfl T1.out F1.out HL.out.1 ?_ ?_ ?_ ?_; (first | exact Nat.le_refl _ | exact Nat.le_succ _ | exact Below.size (by assumption) | (have := Below.size (by assumption : Below wr.heap.size wr _); omega)); (repeat (first | (with_reducible refine EmptyAt.drew ?_) | ((with_reducible refine EmptyAt.new ?_); first | (with_reducible rfl) | (focus (simp; done))) | (with_reducible refine EmptyAt.alloc ?_ _) | (refine EmptyAt.grown ?_ (by assumption) (by omega)))); (repeat (first | assumption | exact keep0 | refine keepD _ ?_ | refine keepA _ _ ?_)); (intro g1 cap1 w1 ho1 hg1 hb1 hat1 hlt1); (try simp only [World.drew, World.size_alloc] at hat1))
          | (refine step_copy_lot (w0 := wr) rfl _ _ rfl _ rfl x3 x5 rfl T2.out F2.out HL.out.2 ?_ ?_ ?_ ?_; (first | exact Nat.le_refl _ | exact Nat.le_succ _ | exact Below.size (by assumption) | (have := Below.size (by assumption : Below wr.heap.size wr _); omega)); (repeat (first | (with_reducible refine EmptyAt.drew ?_) | ((with_reducible refine EmptyAt.new ?_); first | (with_reducible rfl) | (focus (simp; done))) | (with_reducible refine EmptyAt.alloc ?_ _) | (refine EmptyAt.grown ?_ (by assumption) (by omega)))); (repeat (first | assumption | exact keep0 | refine keepD _ ?_ | refine keepA _ _ ?_)); (intro g2 cap2 w2 ho2 hg2 hb2 hat2 hlt2); (try simp only [World.size_alloc] at hat2)))
      all_goals
        go_wp2_with fail
        go_roundw
        case rel => exact ⟨k + 1, _, by omega, by go_num, (by show _ = _; rw [HT.out, List.map_append, HA.out]; rfl), ho3, hb4⟩
        case measure => simp [intOf]; omega
    · obtain rfl : k = n := by omega
      go_wp2_with fail
      go_ret
      refine ⟨_, acc, rfl, HO.out, ?_, HB.out⟩
      rw [HA.out, List.take_of_length_le (by rw [Hn.out]; exact Nat.le_refl _)]
end Go.Proofs.Ytabdgocfbmcobaa
