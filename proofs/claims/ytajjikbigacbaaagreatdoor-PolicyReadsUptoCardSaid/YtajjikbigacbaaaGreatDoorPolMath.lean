/- Plain laws: viewers, put in order by their names. -/
import Derived.Test.YtajjikbigacbaaaGreatDoorBase
import Derived.Test.YtajjikbigacbaaaGreatDoorLabMath
import Derived.Sort.KeysCollected
namespace Go.Proofs.YtajjikbigacbaaaGreatDoor

/-- a viewer: its name, its clearance -/
structure Vw where
  nm : ByteArray
  lab : Nat
def Vw.key (v : Vw) : List UInt8 := v.nm.data.toList
theorem key_inj {a b : Vw} (h : a.key = b.key) : a.nm = b.nm := ByteArray.ext (Array.toList_inj.1 h)
theorem vw_ext {a b : Vw} (h : a.nm = b.nm) (k : a.lab = b.lab) : a = b := by
  cases a; cases b; simp at h k; rw [h, k]

/-- rising by name -/
def Rising (l : List Vw) : Prop := l.Pairwise fun a b => a.key < b.key
/-- a viewer put in at its place -/
def insV (v : Vw) : List Vw → List Vw
  | [] => [v]
  | x :: r => if x.key < v.key then x :: insV v r else v :: x :: r
def sortV (l : List Vw) : List Vw := l.foldl (fun out v => insV v out) []
theorem sortV_snoc (l : List Vw) (v : Vw) : sortV (l ++ [v]) = insV v (sortV l) := by simp [sortV, List.foldl_append]
theorem insV_perm (v : Vw) : ∀ l : List Vw, (insV v l).Perm (v :: l)
  | [] => List.Perm.refl _
  | x :: r => by
    rw [insV]
    split
    · exact ((insV_perm v r).cons x).trans (List.Perm.swap v x r)
    · exact List.Perm.refl _
theorem foldV_perm : ∀ (l acc : List Vw), (l.foldl (fun out v => insV v out) acc).Perm (l ++ acc)
  | [], acc => List.Perm.refl _
  | v :: l, acc => by
    rw [List.foldl_cons]
    refine (foldV_perm l _).trans ?_
    refine ((insV_perm v acc).append_left l).trans ?_
    exact List.perm_middle
theorem sortV_perm (l : List Vw) : (sortV l).Perm l := by simpa [sortV] using foldV_perm l []
theorem sortV_len (l : List Vw) : (sortV l).length = l.length := (sortV_perm l).length_eq
theorem lt_irr (x : List UInt8) : ¬ x < x := List.lt_irrefl x
theorem lt_tr {x y z : List UInt8} (h : x < y) (k : y < z) : x < z := List.lt_trans h k
theorem lt_or {x y : List UInt8} (h : ¬ x < y) (k : x ≠ y) : y < x := by
  by_cases e : y < x
  · exact e
  · exact absurd (List.le_antisymm (List.not_lt.1 e) (List.not_lt.1 h)) k
theorem insV_rising {v : Vw} : ∀ {l : List Vw}, Rising l → (∀ x ∈ l, x.key ≠ v.key) → Rising (insV v l)
  | [], _, _ => List.pairwise_singleton _ _
  | x :: r, h, hn => by
    have h' := List.pairwise_cons.1 h
    rw [insV]
    split
    · rename_i hlt
      refine List.pairwise_cons.2 ⟨fun y hy => ?_, insV_rising h'.2 fun y hy => hn y (by simp [hy])⟩
      rcases List.mem_cons.1 ((insV_perm v r).mem_iff.1 hy) with rfl | hy
      · exact hlt
      · exact h'.1 y hy
    · rename_i hlt
      have hvx := lt_or hlt (hn x (by simp))
      refine List.pairwise_cons.2 ⟨fun y hy => ?_, h⟩
      rcases List.mem_cons.1 hy with rfl | hy
      · exact hvx
      · exact lt_tr hvx (h'.1 y hy)
/-- no name twice -/
def Once (l : List Vw) : Prop := (l.map Vw.key).Nodup
theorem once_snoc {l : List Vw} {v : Vw} : Once (l ++ [v]) ↔ Once l ∧ ∀ x ∈ l, x.key ≠ v.key := by
  rw [Once, List.map_append, List.nodup_append]
  constructor
  · rintro ⟨h1, _, h3⟩
    exact ⟨h1, fun x hx => h3 _ (List.mem_map.2 ⟨x, hx, rfl⟩) _ (by simp)⟩
  · rintro ⟨h1, h2⟩
    refine ⟨h1, by simp, ?_⟩
    intro a ha b hb
    simp at hb
    subst hb
    obtain ⟨x, hx, rfl⟩ := List.mem_map.1 ha
    exact h2 x hx
theorem once_take {l : List Vw} (h : Once l) (k : Nat) : Once (l.take k) := by
  rw [Once, List.map_take]
  exact h.sublist (List.take_sublist _ _)
theorem rising_once {l : List Vw} (h : Rising l) : Once l := by
  rw [Once, List.Nodup, List.pairwise_map]
  exact List.Pairwise.imp (S := fun a b : Vw => a.key ≠ b.key) (fun {a b} (hab : a.key < b.key) (e : a.key = b.key) => lt_irr _ (by rw [e] at hab; exact hab)) h
theorem snoc_ind {p : List Vw → Prop} (h0 : p []) (h1 : ∀ l v, p l → p (l ++ [v])) (l : List Vw) : p l := by
  have all : ∀ r : List Vw, p r.reverse := by
    intro r
    induction r with
    | nil => exact h0
    | cons v r ih => rw [List.reverse_cons]; exact h1 _ _ ih
  have := all l.reverse
  rwa [List.reverse_reverse] at this
theorem sortV_rising {l : List Vw} : Once l → Rising (sortV l) := by
  refine snoc_ind (p := fun l => Once l → Rising (sortV l)) (fun _ => List.Pairwise.nil) (fun l v ih h => ?_) l
  rw [once_snoc] at h
  rw [sortV_snoc]
  exact insV_rising (ih h.1) fun x hx => h.2 x ((sortV_perm l).mem_iff.1 hx)
/-- viewers that rise stand in one order alone -/
theorem rising_same {a b : List Vw} (ha : Rising a) (hb : Rising b) (h : a.Perm b) : a = b := by
  refine List.Perm.eq_of_pairwise (le := fun x y : Vw => x.key < y.key) (fun x y _ _ h1 h2 => ?_) ha hb h
  exact absurd (lt_tr h1 h2) (lt_irr _)
theorem sortV_same {a : List Vw} (h : Rising a) : sortV a = a := rising_same (sortV_rising (rising_once h)) h (sortV_perm a)
/-- are they a policy's viewers? -/
def polOk (l : List Vw) : Prop := l.length ≤ 64 ∧ (∀ v ∈ l, isName v.nm = true) ∧ Once l
theorem polOk_perm {a b : List Vw} (h : a.Perm b) : polOk a ↔ polOk b := by
  rw [polOk, polOk, h.length_eq, Once, Once, (h.map Vw.key).nodup_iff]
  constructor
  · rintro ⟨h1, h2, h3⟩; exact ⟨h1, fun v hv => h2 v (h.mem_iff.2 hv), h3⟩
  · rintro ⟨h1, h2, h3⟩; exact ⟨h1, fun v hv => h2 v (h.mem_iff.1 hv), h3⟩
theorem polOk_sub {a b : List Vw} (h : a.Sublist b) (hb : polOk b) : polOk a :=
  ⟨Nat.le_trans h.length_le hb.1, fun v hv => hb.2.1 v (h.subset hv), hb.2.2.sublist (h.map _)⟩
theorem polOk_take_of {l : List Vw} (h : polOk l) (k : Nat) : polOk (l.take k) := polOk_sub (List.take_sublist _ _) h
theorem rising_sub {a b : List Vw} (h : a.Sublist b) (hb : Rising b) : Rising a := List.Pairwise.sublist h hb
theorem keys_sorted {l : List Vw} {ss : List (List UInt8)} (h : Once l) (hp : ss.Perm (l.map Vw.key)) : ss.mergeSort leB = (sortV l).map Vw.key := by
  rw [mergeSort_of_perm (hp.trans ((sortV_perm l).symm.map Vw.key))]
  refine List.mergeSort_of_pairwise ?_
  rw [List.pairwise_map]
  exact List.Pairwise.imp (fun {a b} hab => decide_eq_true (List.le_of_lt hab)) (sortV_rising h)
theorem enc_keys (l : List Vw) : (l.map Vw.key).map Go.Proofs.encStr = (l.map Vw.nm).map Value.string := by
  rw [List.map_map, List.map_map]; rfl
/-- the one with a name -/
def findV (l : List Vw) (s : List UInt8) : Option Vw := l.find? fun v => v.key == s
theorem findV_some {l : List Vw} {s : List UInt8} {v : Vw} (h : findV l s = some v) : v ∈ l ∧ v.key = s := by
  refine ⟨List.mem_of_find?_eq_some h, ?_⟩
  have := List.find?_some h
  simpa using this
theorem findV_none {l : List Vw} {s : List UInt8} (h : findV l s = none) : ∀ v ∈ l, v.key ≠ s := by
  intro v hv
  have := List.find?_eq_none.1 h v hv
  simpa using this
theorem once_eq {l : List Vw} (h : Once l) {a b : Vw} (ha : a ∈ l) (hb : b ∈ l) (e : a.key = b.key) : a = b := by
  induction l with
  | nil => cases ha
  | cons x r ih =>
    rw [Once, List.map_cons, List.nodup_cons] at h
    rcases List.mem_cons.1 ha with e1 | h1
    · rcases List.mem_cons.1 hb with e2 | h2
      · rw [e1, e2]
      · exact absurd (List.mem_map.2 ⟨b, h2, by rw [← e, e1]⟩) h.1
    · rcases List.mem_cons.1 hb with e2 | h2
      · exact absurd (List.mem_map.2 ⟨a, h1, by rw [e, e2]⟩) h.1
      · exact ih h.2 h1 h2
/-- those that are left below a label -/
def eraseV (l : List Vw) (c : Nat) : List Vw := l.filter fun v => belowN v.lab c
def aboveV (l : List Vw) (c : Nat) : List Vw := l.filter fun v => belowN c v.lab
end Go.Proofs.YtajjikbigacbaaaGreatDoor
