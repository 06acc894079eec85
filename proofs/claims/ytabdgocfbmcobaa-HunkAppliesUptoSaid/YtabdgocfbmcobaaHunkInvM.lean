/- Own work: what undoes a patch: plain laws; copies. -/
import Derived.Test.YtabdgocfbmcobaaHunkTwin
namespace Go.Proofs.Ytabdgocfbmcobaa
open Go.RowKit

/-- how many more lines there are behind a hunk -/
def moreA (m : Int) (h : HunkI) : Int := wrap64 (m + ((h.new.length : Int) - h.old.length))
def moreF (m : Int) (l : List HunkI) : Int := l.foldl moreA m
def invH (m : Int) (h : HunkI) : HunkI := ⟨wrap64 (h.at_ + m), h.new, h.old⟩
def invF : Int → List HunkI → List HunkI
  | _, [] => []
  | m, h :: r => invH m h :: invF (moreA m h) r
def invL (l : List HunkI) : List HunkI := invF 0 l
theorem invF_len : ∀ (l : List HunkI) (m : Int), (invF m l).length = l.length
  | [], _ => rfl
  | h :: r, m => by rw [invF, List.length_cons, List.length_cons, invF_len r]
theorem invF_get : ∀ (l : List HunkI) (m : Int) (k : Nat) (hk : k < l.length), (invF m l)[k]'(by rw [invF_len]; exact hk) = invH (moreF m (l.take k)) (l[k]'hk)
  | [], _, _, hk => absurd hk (by simp)
  | h :: r, m, 0, _ => rfl
  | h :: r, m, k + 1, hk => by
    have ih := invF_get r (moreA m h) k (by simpa using hk)
    simp only [invF, List.getElem_cons_succ, List.take_succ_cons, moreF, List.foldl_cons] at ih ⊢
    exact ih
theorem inv_take {l : List HunkI} {k : Nat} (hk : k < l.length) : (invL l).take (k + 1) = (invL l).take k ++ [invH (moreF 0 (l.take k)) (l[k]'hk)] := by
  rw [List.take_succ_eq_append_getElem (by rw [invL, invF_len]; exact hk)]
  congr 2
  exact invF_get l 0 k hk
theorem more_take {l : List HunkI} {k : Nat} (hk : k < l.length) : moreF 0 (l.take (k + 1)) = moreA (moreF 0 (l.take k)) (l[k]'hk) := by
  rw [List.take_succ_eq_append_getElem hk, moreF, List.foldl_append]
  rfl
theorem wrap_two (m a b : Int) : wrap64 (wrap64 (m + a) - b) = wrap64 (m + (a - b)) := by
  unfold wrap64
  omega
theorem wrap64_range (x : Int) : -9223372036854775808 ≤ wrap64 x ∧ wrap64 x ≤ 9223372036854775807 := by unfold wrap64; omega
/-- what is told when it is asked what undoes a patch -/
def invE (l : List HunkI) : Nat := if (chkL l).2 = 0 then (chkL (invL l)).2 else (chkL l).2
/-- what undoes what fits, fits -/
theorem fit_inv {w : World} {B : Nat} {v : Value} {hs l : List HunkV} (ho : OwnK w B v hs) (he : hs.map HunkV.txt = invL (l.map HunkV.txt)) (hf : ∀ m ∈ l, m.Fit) : ∀ m ∈ hs, m.Fit := by
  intro m hm
  obtain ⟨k, hk, rfl⟩ := List.getElem_of_mem hm
  have hk2 : k < l.length := by have h := congrArg List.length he; rw [List.length_map, invL, invF_len, List.length_map] at h; omega
  have h := congrArg (·[k]?) he
  simp only [List.getElem?_map, List.getElem?_eq_getElem hk, Option.map_some] at h
  rw [List.getElem?_eq_getElem (by rw [invL, invF_len, List.length_map]; exact hk2)] at h
  have h := Option.some.inj h
  rw [show (invL (l.map HunkV.txt))[k]'(by rw [invL, invF_len, List.length_map]; exact hk2) = _ from invF_get (l.map HunkV.txt) 0 k (by rw [List.length_map]; exact hk2), show (l.map HunkV.txt)[k]'(by rw [List.length_map]; exact hk2) = (l[k]).txt by simp] at h
  have f := hf _ (List.getElem_mem hk2)
  obtain ⟨o1, o2⟩ := ho.2 _ hm
  have e1 : (hs[k]).at_ = wrap64 ((l[k]).at_ + moreF 0 ((l.map HunkV.txt).take k)) := congrArg HunkI.at_ h
  have e2 : (hs[k]).old = (l[k]).new := congrArg HunkI.old h
  have e3 : (hs[k]).new = (l[k]).old := congrArg HunkI.new h
  have r := wrap64_range ((l[k]).at_ + moreF 0 ((l.map HunkV.txt).take k))
  exact ⟨o1.form, o2.form, by rw [e2]; exact f.sn, by rw [e3]; exact f.so, by rw [e2]; exact f.ln, by rw [e3]; exact f.lo, by rw [e1]; exact r.1, by rw [e1]; exact r.2⟩

set_option maxHeartbeats 1000000 in
theorem copied08_any (u : Value) (l : List ByteArray) (w : World) (hu : Texts w u l) (hf : SliceForm u) (hn : l.length * 16 ≤ 140737488355328) :
    Calls Try.prog 37 #[u] w fun e w' => ∃ v, e = .returned v ∧ OwnT w' w.heap.size v l ∧ Below w.heap.size w w' := by
  go_enter Try.func37, Try.ntmps37
  go_wp2_with (at_builtin; refine wpList_append_lot rfl _ _ rfl w.heap.size _ [] rfl (ownT_nil w _) _ l rfl hu hf (by simpa using hn) (Nat.le_refl _) ?_)
  intro v' w' ho' hb'
  have HO' := Lib.hid ho'
  have HB' := Lib.hid ((Below.refl w.heap.size w).grown hb' (Nat.le_refl _) (fun q hq => by cases hq))
  clear ho' hb' hu hf
  go_wp2_with fail
  go_ret
  exact ⟨_, rfl, HO'.out, HB'.out⟩

/-- rows that lie in blocks of their own -/
def apartV (x y : Value) : Prop := ∀ k, x.ownBlock = some k → ¬ y.ownBlock = some k
def valsK (l : List HunkV) : List Value := l.flatMap fun m => [m.ov, m.nv]
def ApartK (l : List HunkV) : Prop := (valsK l).Pairwise apartV
theorem ApartK.snoc {l : List HunkV} {m : HunkV} (h : ApartK l) (h1 : ∀ x ∈ valsK l, apartV x m.ov ∧ apartV x m.nv) (h2 : apartV m.ov m.nv) : ApartK (l ++ [m]) := by
  unfold ApartK valsK at *
  rw [List.flatMap_append, List.pairwise_append]
  refine ⟨h, by simpa using h2, fun x hx y hy => ?_⟩
  simp at hy
  obtain ⟨a, b⟩ := h1 x hx
  rcases hy with rfl | rfl <;> assumption
theorem own_apart {w w' : World} {B B' : Nat} {x y : Value} {l m : List ByteArray} (h : OwnT w B x l) (h' : OwnT w' B' y m) (hb : w.heap.size ≤ B') : apartV x y := by
  intro k hk hk2
  have a := World.ownsRow.lt h k hk
  have b := World.ownsRow.lt h' k hk2
  omega
theorem valsK_mem {l : List HunkV} {x : Value} (h : x ∈ valsK l) : ∃ m ∈ l, x = m.ov ∨ x = m.nv := by
  obtain ⟨m, hm, hx⟩ := List.mem_flatMap.1 h
  simp at hx
  exact ⟨m, hm, hx⟩
end Go.Proofs.Ytabdgocfbmcobaa
