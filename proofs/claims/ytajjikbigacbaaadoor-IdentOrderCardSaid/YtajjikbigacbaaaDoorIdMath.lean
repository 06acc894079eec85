/- Plain laws: identities that stand twice; numbers, counted label by label. -/
import Derived.Test.YtajjikbigacbaaaDoorIdMap
namespace Go.Proofs.YtajjikbigacbaaaDoor

/-- the first place of an identity that stands ahead of it too -/
def twGo (seen : List (Int × Int)) (k : Nat) : List LineV → Int × Bool
  | [] => (0, false)
  | x :: r => if seen.contains x.id then ((k : Int), true) else twGo (seen ++ [x.id]) (k + 1) r
def twV (l : List LineV) : Int × Bool := twGo [] 0 l
theorem twGo_at {l : List LineV} {k : Nat} (hk : k < l.length) (seen : List (Int × Int)) : twGo seen k (l.drop k) = if seen.contains (l[k]'hk).id then ((k : Int), true) else twGo (seen ++ [(l[k]'hk).id]) (k + 1) (l.drop (k + 1)) := by
  rw [List.drop_eq_getElem_cons hk]; rfl
theorem twGo_end {l : List LineV} {k : Nat} (hk : l.length ≤ k) (seen : List (Int × Int)) : twGo seen k (l.drop k) = (0, false) := by
  rw [List.drop_eq_nil_of_le hk]; rfl
/-- none stands twice just if the identities are all unlike -/
theorem twGo_false : ∀ (l : List LineV) (seen : List (Int × Int)) (k : Nat), (twGo seen k l).2 = false ↔ (l.map LineV.id).Nodup ∧ ∀ x ∈ l, x.id ∉ seen
  | [], seen, k => by simp [twGo]
  | x :: r, seen, k => by
    rw [twGo]
    by_cases h : x.id ∈ seen
    · simp [h]
    · simp only [List.contains_iff_mem, h, if_false, twGo_false r, List.map_cons, List.nodup_cons, List.mem_append, List.mem_map, not_exists, not_and, not_or, List.mem_cons, forall_eq_or_imp, not_false_iff, true_and]
      constructor
      · rintro ⟨h1, h2⟩
        exact ⟨⟨fun y hy e => (h2 y hy).2.1 e, h1⟩, fun y hy => (h2 y hy).1⟩
      · rintro ⟨⟨h1, h2⟩, h3⟩
        exact ⟨h2, fun y hy => ⟨h3 y hy, fun e => h1 y hy e, by simp⟩⟩
theorem tw_false {l : List LineV} : (twV l).2 = false ↔ (l.map LineV.id).Nodup := by simp [twV, twGo_false]
theorem tw_bounds : ∀ (l : List LineV) (seen : List (Int × Int)) (k : Nat), 0 ≤ (twGo seen k l).1 ∧ (twGo seen k l).1 ≤ k + l.length
  | [], _, _ => by simp [twGo]
  | x :: r, seen, k => by
    rw [twGo]
    split
    · simp; omega
    · have := tw_bounds r (seen ++ [x.id]) (k + 1)
      simp only [List.length_cons] at this ⊢
      omega

/-- the greatest number of a label's lines -/
def maxF (l : List LineV) (a : Int) : Int := l.foldl (fun m x => if x.lab = a then max m x.num else m) 0
theorem maxF_snoc (l : List LineV) (x : LineV) : maxF (l ++ [x]) = upd (maxF l) x.lab (max (maxF l x.lab) x.num) := by
  funext a
  simp only [maxF, List.foldl_append, List.foldl_cons, List.foldl_nil, upd]
  by_cases h : a = x.lab
  · subst h; simp
  · rw [if_neg (Ne.symm h), if_neg h]
theorem maxF_range {l : List LineV} (h : ∀ x ∈ l, 1 ≤ x.num ∧ x.num ≤ 4611686018427387904) (a : Int) : 0 ≤ maxF l a ∧ maxF l a ≤ 4611686018427387904 := by
  suffices ∀ (l : List LineV) (m : Int), (∀ x ∈ l, 1 ≤ x.num ∧ x.num ≤ 4611686018427387904) → 0 ≤ m → m ≤ 4611686018427387904 →
      0 ≤ l.foldl (fun m x => if x.lab = a then max m x.num else m) m ∧ l.foldl (fun m x => if x.lab = a then max m x.num else m) m ≤ 4611686018427387904 from this l 0 h (by omega) (by omega)
  intro l
  induction l with
  | nil => intro m _ h1 h2; exact ⟨h1, h2⟩
  | cons x r ih =>
    intro m hl h1 h2
    rw [List.foldl_cons]
    have hx := hl x (by simp)
    refine ih _ (fun y hy => hl y (by simp [hy])) ?_ ?_ <;> split <;> omega
theorem maxF_le {l : List LineV} {a : Int} : ∀ x ∈ l, x.lab = a → x.num ≤ maxF l a := by
  suffices ∀ (l : List LineV) (m : Int), m ≤ l.foldl (fun m x => if x.lab = a then max m x.num else m) m ∧ ∀ x ∈ l, x.lab = a → x.num ≤ l.foldl (fun m x => if x.lab = a then max m x.num else m) m from (this l 0).2
  intro l
  induction l with
  | nil => intro m; exact ⟨by simp, fun x hx => by cases hx⟩
  | cons y r ih =>
    intro m
    rw [List.foldl_cons]
    obtain ⟨h1, h2⟩ := ih (if y.lab = a then max m y.num else m)
    refine ⟨Int.le_trans ?_ h1, fun x hx hxa => ?_⟩
    · split <;> omega
    · rcases List.mem_cons.1 hx with rfl | hx
      · rw [if_pos hxa] at h1 ⊢; omega
      · exact h2 x hx hxa
/-- may counters begin with these lines? -/
def numOk (x : LineV) : Bool := decide (1 ≤ x.num) && decide (x.num ≤ 4611686018427387904)
def idsOk (l : List LineV) : Bool := !(twV l).2 && l.all numOk
theorem numOk_iff {x : LineV} : numOk x = true ↔ 1 ≤ x.num ∧ x.num ≤ 4611686018427387904 := by simp [numOk]
theorem all_take {l : List LineV} {k : Nat} (hk : k < l.length) (h : numOk (l[k]'hk) = false) : idsOk l = false := by
  cases h1 : l.all numOk with
  | false => simp [idsOk, h1]
  | true => rw [List.all_eq_true] at h1; rw [h1 _ (List.getElem_mem hk)] at h; cases h
/-- a number given out -/
def nextF (f : Int → Int) (a : Int) : Int × Int := if f a = 4611686018427387904 then (0, 3) else (f a + 1, 0)
def nextU (f : Int → Int) (a : Int) : Int → Int := if f a = 4611686018427387904 then f else upd f a (f a + 1)
def Fine (f : Int → Int) : Prop := ∀ a, 0 ≤ f a ∧ f a ≤ 4611686018427387904
theorem Fine.upd {f : Int → Int} (h : Fine f) {a v : Int} (h1 : 0 ≤ v) (h2 : v ≤ 4611686018427387904) : Fine (upd f a v) := by
  intro x; unfold Go.Proofs.YtajjikbigacbaaaDoor.upd; split
  · exact ⟨h1, h2⟩
  · exact h x
theorem Fine.next {f : Int → Int} (h : Fine f) (a : Int) : Fine (nextU f a) := by
  unfold nextU; split
  · exact h
  · have := h a
    exact h.upd (by omega) (by omega)
end Go.Proofs.YtajjikbigacbaaaDoor
