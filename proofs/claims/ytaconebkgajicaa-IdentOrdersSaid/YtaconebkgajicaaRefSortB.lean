/- Own work: copies and stores within a row of lines. -/
import Derived.Test.YtaconebkgajicaaRefSortA
import Derived.Deep.RegionHeld3
namespace Go.Proofs.Ytaconebkgajicaa
open Go.RowKit Go.Sort Go.Shelf

theorem run_copy_K {P : Program} (w : World) (dT sT ty elem : TypeId) (g o dLen dCap : Nat) (a : Addr) (sLen sCap : Nat) (cur : Array Value) (t : TypeId) (cs : List Value) (sz m : Nat)
    (hu : P.underlying dT = some (.slice elem)) (hs : (P.info? elem).map (·.size) = some sz)
    (hg : w.heap[g]? = some (.cells cur t (0, 0))) (hm : Nat.min sLen dLen = m) (hn : cs.length = m * sz)
    (hsrc : ∀ j v, cs[j]? = some v → w.cell? (a.add j) = some v) (hfit : o + cs.length ≤ cur.size) (h1 : ∀ v ∈ cs, v.oneCell' = true) :
    (Builtin.copy_ #[dT, sT] ty #[.slice (some ⟨g, o, none⟩) dLen dCap, .slice (some a) sLen sCap]).run P w =
      .ok (goInt m) (w.setRow g (cur.toList.take o ++ cs ++ cur.toList.drop (o + cs.length)).toArray) := by
  have hl := run_loadCells_list (P := P) w a cs hsrc
  have hst := run_storeCells_at P g o t cs 0 cur w hg (by simpa using hfit) h1
  cases hq : P.info? elem with
  | none => simp [hq] at hs
  | some i =>
    have hi : i.size = sz := by simpa [hq] using hs
    rw [hn] at hl
    simp [Builtin.copy_, run_underlying hu, Builtin.lenOf, Builtin.firstCells, sizeOf, typeInfo, hq, hi, hm, hl, hst]
theorem run_copy_none_K {P : Program} (w : World) (dT sT ty elem : TypeId) (d a : Option Addr) (dLen dCap sLen sCap sz : Nat) (hu : P.underlying dT = some (.slice elem)) (hs : (P.info? elem).map (·.size) = some sz) (hn : Nat.min sLen dLen = 0) :
    (Builtin.copy_ #[dT, sT] ty #[.slice d dLen dCap, .slice a sLen sCap]).run P w = .ok (goInt 0) w := by
  cases hq : P.info? elem with
  | none => simp [hq] at hs
  | some i =>
    have hl : ∀ (x : Addr), (loadCells x 0).run P w = .ok #[] w := fun x => by simpa using run_loadCells_list (P := P) w x [] (by simp)
    cases d <;> cases a <;> simp [Builtin.copy_, run_underlying hu, Builtin.lenOf, Builtin.firstCells, sizeOf, typeInfo, hq, hn, storeCells, hl]
theorem flatL_take (L : List LineV) (k : Nat) : flatL (L.take k) = (flatL L).take (k * 4) := by
  by_cases hk : k ≤ L.length
  · have e : flatL L = flatL (L.take k) ++ flatL (L.drop k) := by
      unfold flatL
      rw [← List.flatMap_append, List.take_append_drop]
    rw [e, List.take_left' (by rw [flatL_len, List.length_take]; omega)]
  · rw [List.take_of_length_le (by omega), List.take_of_length_le (by rw [flatL_len]; omega)]
theorem flatL_drop (L : List LineV) (k : Nat) : flatL (L.drop k) = (flatL L).drop (k * 4) := by
  have e : flatL L = flatL (L.take k) ++ flatL (L.drop k) := by
    unfold flatL
    rw [← List.flatMap_append, List.take_append_drop]
  by_cases hk : k ≤ L.length
  · rw [e, List.drop_left' (by rw [flatL_len, List.length_take]; omega)]
  · rw [List.drop_eq_nil_of_le (by omega), List.drop_eq_nil_of_le (by rw [flatL_len]; omega)]; rfl
theorem flatL_plain (L : List LineV) : ∀ v ∈ flatL L, v.oneCell' = true := by
  intro v hv
  unfold flatL at hv
  obtain ⟨x, _, hx⟩ := List.mem_flatMap.1 hv
  exact encT_one (x, 0) v hx
theorem flatL_two (a b : List LineV) : flatL (a ++ b) = flatL a ++ flatL b := by simp [flatL]
theorem setRow_grown (w : World) (g : Nat) (cs : Array Value) : w.grownBy (w.setRow g cs) (some g) :=
  ⟨rfl, rfl, rfl, by simp [World.setRow], fun k hk hne => setRow_other w g k cs (fun e => hne (by rw [e]))⟩
/-- lines of a row laid anew from the line p on -/
theorem own_laid {w : World} {B g n cap : Nat} {e : TypeId} {L X : List LineV} (h : w.ownsRow B e 4 (.slice (some ⟨g, 0, none⟩) n cap) n (flatL L)) (p : Nat) (hp : p + X.length ≤ n) (cur : Array Value) (hg : w.heap[g]? = some (.cells cur e (0, 0))) :
    (w.setRow g (cur.toList.take (p * 4) ++ flatL X ++ cur.toList.drop (p * 4 + (flatL X).length)).toArray).ownsRow B e 4 (.slice (some ⟨g, 0, none⟩) n cap) n (flatL (L.take p ++ X ++ L.drop (p + X.length))) := by
  have hn : L.length = n := by have := h.1; rw [flatL_len] at this; omega
  rcases h.2 with ⟨e, _⟩ | ⟨g', cap', cur', hv, hB, hg', hnc, hcm, hsz, htake⟩
  · cases e
  · cases hv
    rw [hg'] at hg
    obtain rfl : cur' = cur := by injection hg with hg; injection hg
    have hxl := flatL_len X
    refine ⟨by rw [flatL_len]; simp; omega, .inr ⟨g, cap, _, rfl, hB, setRow_heap w g _ _ e _ hg', hnc, hcm, by simp; omega, ?_⟩⟩
    have hc : cur'.toList.length = cap * 4 := by simpa using hsz
    have e1 : cur'.toList.take (p * 4) = (flatL L).take (p * 4) := by rw [← htake, List.take_take]; congr 1; omega
    have e2 : (cur'.toList.drop (p * 4 + (flatL X).length)).take (n * 4 - (p * 4 + (flatL X).length)) = (flatL L).drop ((p + X.length) * 4) := by
      rw [← htake, List.drop_take, hxl]
      congr 1
      · omega
      · congr 1; omega
    rw [flatL_two, flatL_two, flatL_take, flatL_drop, ← e1, ← e2, List.take_append, List.take_of_length_le (by simp; omega)]
    congr 2
    simp
    omega
/-- copy(out[p:], out[k:]) within a row -/
theorem step_copy_lines {P : Program} {w0 w : World} {ops : Array Oper} {o : Oper} {a : Act} {K : Act → World → Prop} {Q : Exit → Act → World → Prop} {E : Prop} (hgd : o.guard = none) (d s : Operand) (t : TypeId)
    (ho : o.op = .call { callee := .builtin .copy, args := #[d, s], argTypes := #[t, t] })
    (e : TypeId) (ht : P.underlying t = some (.slice e)) (hs : (P.info? e).map (·.size) = some 4) (B g n cap k p : Nat) (L : List LineV)
    (hown : w0.ownsRow B e 4 (.slice (some ⟨g, 0, none⟩) n cap) n (flatL L)) (hw : w.heap = w0.heap) (hkp : k ≤ p) (hp : p < n) (dLen dCap sLen sCap : Nat) (hdl : dLen = n - p) (hsl : sLen = n - k)
    (hd : a.eval d = .slice (some ⟨g, p * 4, none⟩) dLen dCap) (hsv : a.eval s = .slice (some ⟨g, k * 4, none⟩) sLen sCap)
    (h : ∀ w', w'.ownsRow B e 4 (.slice (some ⟨g, 0, none⟩) n cap) n (flatL (L.take p ++ (L.drop k).take (n - p))) → w.grownBy w' (some g) → K (a.put o.dst (goInt ((n - p : Nat) : Int))) w') :
    if Region.wanted o (yielded ops a.tmps) = true then Oper.wp P o a w K Q else E := by
  have hwd : Region.wanted o (yielded ops a.tmps) = true := by simp [Region.wanted, hgd]
  rw [if_pos hwd]
  subst hdl; subst hsl
  have hown' : w.ownsRow B e 4 (.slice (some ⟨g, 0, none⟩) n cap) n (flatL L) := by unfold World.ownsRow at hown ⊢; rw [hw]; exact hown
  have hn : L.length = n := by have := hown.1; rw [flatL_len] at this; omega
  have hX : ((L.drop k).take (n - p)).length = n - p := by simp; omega
  rcases hown'.2 with ⟨e, _⟩ | ⟨g', cap', cur, hv, hB, hg, hnc, hcm, hsz, htake⟩
  · cases e
  · cases hv
    have hrun := run_copy_K (P := P) w t t o.type e g (p * 4) (n - p) dCap ⟨g, k * 4, none⟩ (n - k) sCap cur e (flatL ((L.drop k).take (n - p))) 4 (n - p) ht hs hg (by show min (n - k) (n - p) = n - p; omega) (by rw [flatL_len, hX])
      (fun j v hj => by
        have hjl : j < (n - p) * 4 := by have := (List.getElem?_eq_some_iff.1 hj).1; rw [flatL_len, hX] at this; exact this
        rw [flatL_take, flatL_drop, List.getElem?_take_of_lt hjl, List.getElem?_drop] at hj
        rw [addr_add, hown'.cellAt (k * 4 + j) (by omega)]
        exact hj)
      (by rw [flatL_len, hX, hsz]; omega) (flatL_plain _)
    have hl := own_laid hown' p (X := (L.drop k).take (n - p)) (by rw [hX]; omega) cur hg
    rw [hX, List.drop_eq_nil_of_le (show L.length ≤ p + (n - p) by omega), List.append_nil] at hl
    unfold Oper.wp
    simp only [execOp, ho, resolve, invoke, builtin, Sem.run_bind, Sem.run_pure, Result.andThen_ok, List.map_toArray, List.map_cons, List.map_nil, hd, hsv, hrun]
    exact h _ hl (setRow_grown w g _)
/-- a copy of nothing -/
theorem step_copy_zero {P : Program} {w : World} {ops : Array Oper} {o : Oper} {a : Act} {K : Act → World → Prop} {Q : Exit → Act → World → Prop} {E : Prop} (hgd : o.guard = none) (d s : Operand) (t : TypeId)
    (ho : o.op = .call { callee := .builtin .copy, args := #[d, s], argTypes := #[t, t] })
    (e : TypeId) (ht : P.underlying t = some (.slice e)) (hs : (P.info? e).map (·.size) = some 4) (dp sp : Option Addr) (dLen dCap sLen sCap : Nat)
    (hd : a.eval d = .slice dp dLen dCap) (hsv : a.eval s = .slice sp sLen sCap) (hz : Nat.min sLen dLen = 0) (h : K (a.put o.dst (goInt 0)) w) :
    if Region.wanted o (yielded ops a.tmps) = true then Oper.wp P o a w K Q else E := by
  have hwd : Region.wanted o (yielded ops a.tmps) = true := by simp [Region.wanted, hgd]
  rw [if_pos hwd]
  have hrun := run_copy_none_K (P := P) w t t o.type e dp sp dLen dCap sLen sCap 4 ht hs hz
  unfold Oper.wp
  simp only [execOp, ho, resolve, invoke, builtin, Sem.run_bind, Sem.run_pure, Result.andThen_ok, List.map_toArray, List.map_cons, List.map_nil, hd, hsv, hrun]
  exact h
end Go.Proofs.Ytaconebkgajicaa
