/- Plain laws: the lines of one label alone. -/
import Derived.Test.YtajjikbigacbaaaDoorIdMath
namespace Go.Proofs.YtajjikbigacbaaaDoor

/-- the lines of a label -/
def ownL (a : Int) (l : List LineV) : List LineV := l.filter fun x => x.lab == a
theorem own_max (a : Int) (l : List LineV) : maxF (ownL a l) a = maxF l a := by
  unfold maxF ownL
  rw [List.foldl_filter]
  congr 1
  funext m x
  by_cases h : x.lab = a <;> simp [h]
theorem own_ok {l : List LineV} (a : Int) (h : idsOk l = true) : idsOk (ownL a l) = true := by
  simp only [idsOk, Bool.and_eq_true, Bool.not_eq_true', List.all_eq_true] at h ⊢
  exact ⟨tw_false.2 (List.Nodup.sublist (List.Sublist.map _ List.filter_sublist) (tw_false.1 h.1)), fun x hx => h.2 x ((List.mem_filter.1 hx).1)⟩
theorem own_nil (a : Int) : ownL a [] = [] := rfl
theorem own_yes {a : Int} {l : List LineV} {k : Nat} (hk : k < l.length) (h : (l[k]'hk).lab = a) : ownL a (l.take (k + 1)) = ownL a (l.take k) ++ [l[k]'hk] := by
  rw [List.take_succ_eq_append_getElem hk, ownL, ownL, List.filter_append]
  simp [h]
theorem own_no {a : Int} {l : List LineV} {k : Nat} (hk : k < l.length) (h : ¬ (l[k]'hk).lab = a) : ownL a (l.take (k + 1)) = ownL a (l.take k) := by
  rw [List.take_succ_eq_append_getElem hk, ownL, ownL, List.filter_append]
  simp [h]
theorem own_len (a : Int) (l : List LineV) (k : Nat) : (ownL a (l.take k)).length ≤ k := by
  have h1 : (ownL a (l.take k)).length ≤ (l.take k).length := List.length_filter_le _ _
  rw [List.length_take] at h1
  omega
theorem own_mem {a : Int} {l : List LineV} {x : LineV} (h : x ∈ ownL a l) : x ∈ l ∧ x.lab = a := by
  have := List.mem_filter.1 h
  exact ⟨this.1, by simpa using this.2⟩
theorem own_below {a : Int} {l : List LineV} {x : LineV} (h : x ∈ ownL a l) : x.num ≤ maxF l a := maxF_le x (own_mem h).1 (own_mem h).2
end Go.Proofs.YtajjikbigacbaaaDoor
