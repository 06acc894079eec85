/- Own work: scrimref04.Twice: a map of maps. -/
import Derived.Test.YtaconebkgajicaaIdNew
namespace Go.Proofs.Ytaconebkgajicaa
open Go.RowKit Go.Maps

/-- a map among a map's elements is told by its block -/
def mapElem : Value → Option (DataW Unit × List MemPlace)
  | .map none => some (.lit (.bool false), [])
  | .map (some b) => some (.lit (.int .i64 b), [])
  | _ => none
def gEnc : Option Nat → DataW Unit
  | none => .lit (.bool false)
  | some b => .lit (.int .i64 b)
theorem mapElem_inv {v : Value} {o : Option Nat} {ps : List MemPlace} (h : mapElem v = some (gEnc o, ps)) : v = .map o := by
  cases v <;> simp [mapElem] at h
  rename_i m
  cases m <;> cases o <;> simp [gEnc] at h
  · rfl
  · have := h.1
    simp
    omega
theorem keyedN : Keyed Try.prog 3 := int_keyed Try.underlying3
theorem keyN {a : Int} (h : i64 a) : keyOf Try.prog 3 (.int .i64 a) = some (.int .i64 a) := keyOf_int_mk Try.underlying3 (wf_i64 h)
abbrev OMap (w : World) (mb n : Nat) (D : DataW Unit) : Prop := w.ownsMap Try.prog 25 mapElem mb n D
abbrev NMap (w : World) (mb n : Nat) (D : DataW Unit) : Prop := w.ownsMap Try.prog 3 (plainElem Try.prog 3) mb n D
/-- the outer map's datum says which block each label has -/
def Leads (D : DataW Unit) (g : Int → Option Nat) : Prop := ∀ a, u64 a → D.atKey (.int .u64 a) (.lit (.bool false)) = gEnc (g a)
/-- an inner map's datum says which numbers of a label stand -/
def Marks (D : DataW Unit) (a : Int) (seen : List (Int × Int)) : Prop := ∀ n, i64 n → D.atKey (.int .i64 n) (.lit (.int .i64 0)) = .lit (.int .i64 (if seen.contains (a, n) then 1 else 0))
theorem Leads.put {D : DataW Unit} {g : Int → Option Nat} (h : Leads D g) (hm : IsMap D) {a : Int} {b : Nat} : Leads (D.put (.int .u64 a) (.lit (.int .i64 b))) fun x => if x = a then some b else g x := by
  intro x hx
  by_cases e : x = a
  · subst e
    rw [atKey_put_same hm (show WideAt.IsKeyLit (.int .u64 x) from trivial)]
    simp [gEnc]
  · rw [atKey_put_other (fun h => e (by injection h))]
    simp only [e, if_false]
    exact h x hx
theorem Marks.put {D : DataW Unit} {a n : Int} {seen : List (Int × Int)} (h : Marks D a seen) (hm : IsMap D) : Marks (D.put (.int .i64 n) (.lit (.int .i64 1))) a (seen ++ [(a, n)]) := by
  intro x hx
  by_cases e : x = n
  · subst e
    rw [atKey_put_same hm (show WideAt.IsKeyLit (.int .i64 x) from trivial), if_pos (by simp)]
  · rw [atKey_put_other (fun h => e (by injection h)), h x hx]
    simp [e]
theorem Marks.other {D : DataW Unit} {a c n : Int} {seen : List (Int × Int)} (h : Marks D a seen) (hc : a ≠ c) : Marks D a (seen ++ [(c, n)]) := by
  intro x hx
  rw [h x hx]
  simp [hc]
theorem cell_grown_by {w w' : World} {r b o : Nat} {v : Value} (h : w.grownBy w' (some r)) (hne : b ≠ r) (hc : w.cell? ⟨b, o, none⟩ = some v) : w'.cell? ⟨b, o, none⟩ = some v := by
  have hlt := World.block_lt_of_cell? w _ hc
  have hh := h.block b hlt (fun e => hne (Option.some.inj e))
  unfold World.cell? at hc ⊢
  rw [hh]; exact hc
/-- the maps of maps, in memory -/
structure Maze (w : World) (ob k : Nat) (seen : List (Int × Int)) (D : DataW Unit) (g : Int → Option Nat) : Prop where
  outer : OMap w ob k D
  leads : Leads D g
  inner : ∀ a b, g a = some b → ob < b ∧ ∃ E, NMap w b k E ∧ Marks E a seen
  apart : ∀ a a' b, g a = some b → g a' = some b → a = a'
  free : ∀ a, g a = none → ∀ n, (a, n) ∉ seen
theorem Maze.lt {w : World} {ob k : Nat} {seen : List (Int × Int)} {D : DataW Unit} {g : Int → Option Nat} (h : Maze w ob k seen D g) {a : Int} {b : Nat} (e : g a = some b) : b < w.heap.size := by
  obtain ⟨_, E, h1, _⟩ := h.inner a b e
  exact h1.lt
theorem zeroMap (w : World) : (zeroValue 66).run Try.prog w = .ok (.map none) w := Try.zeroValue66 w
theorem run_makeOM (w : World) : (Instr.makeMap 65 none).run Try.prog w = .ok (.map (some w.heap.size)) (w.alloc (.map #[] 0)) := by
  simp [Instr.makeMap, Result.andThen]
theorem run_makeNM (w : World) : (Instr.makeMap 66 none).run Try.prog w = .ok (.map (some w.heap.size)) (w.alloc (.map #[] 0)) := by
  simp [Instr.makeMap, Result.andThen]
theorem nmapNil (o : Option Nat) (w : World) : (binOp .eql 66 (.map o) (.map none)).run Try.prog w = .ok (.bool o.isNone) w := by cases o <;> kernel_rfl
theorem nmap_kept {w w' : World} {mb n : Nat} {D : DataW Unit} (h : NMap w mb n D) (hb : Below w.heap.size w w') : NMap w' mb n D := by
  obtain ⟨es, clock, h1, h2⟩ := h
  exact ⟨es, clock, row_kept hb h1, h2⟩
theorem maze_start (w : World) : Maze (w.alloc (.map #[] 0)) w.heap.size 0 [] (.map []) fun _ => none where
  outer := World.ownsMap_made _ _ _ _
  leads := fun _ _ => rfl
  inner := fun _ _ h => by cases h
  apart := fun _ _ _ h => by cases h
  free := fun _ _ _ h => by cases h

/-- one more, in a map that is there -/
theorem Maze.more {w w' : World} {ob k b : Nat} {seen : List (Int × Int)} {D E : DataW Unit} {g : Int → Option Nat} {a n : Int} (h : Maze w ob k seen D g) (hg : g a = some b) (hgr : w.grownBy w' (some b)) (hE : NMap w' b (k + 1) E) (hM : Marks E a (seen ++ [(a, n)])) :
    Maze w' ob (k + 1) (seen ++ [(a, n)]) D g where
  outer := (h.outer.kept hgr (fun e => by have := (h.inner a b hg).1; have := Option.some.inj e; omega)).mono (by omega)
  leads := h.leads
  inner := fun c d hc => by
    by_cases e : c = a
    · subst e
      obtain rfl : d = b := by rw [hg] at hc; exact (Option.some.inj hc).symm
      exact ⟨(h.inner _ _ hg).1, E, hE, hM⟩
    · obtain ⟨h1, F, h2, h3⟩ := h.inner c d hc
      exact ⟨h1, F, (h2.kept hgr (fun e' => e (h.apart c a b (by rw [← Option.some.inj e']; exact hc) hg))).mono (by omega), h3.other e⟩
  apart := h.apart
  free := fun c hc m hm => by
    rcases List.mem_append.1 hm with hm | hm
    · exact h.free c hc m hm
    · simp at hm
      rw [hm.1, hg] at hc
      cases hc
/-- one more, in a new map -/
theorem Maze.fresh {w w' : World} {ob k b : Nat} {seen : List (Int × Int)} {D E : DataW Unit} {g : Int → Option Nat} {a n : Int} (h : Maze w ob k seen D g) (hgr : w.grownBy w' (some ob)) (hb : w.heap.size ≤ b)
    (hO : OMap w' ob (k + 1) (D.put (.int .u64 a) (.lit (.int .i64 b)))) (hE : NMap w' b (k + 1) E) (hM : Marks E a (seen ++ [(a, n)])) :
    Maze w' ob (k + 1) (seen ++ [(a, n)]) (D.put (.int .u64 a) (.lit (.int .i64 b))) (fun x => if x = a then some b else g x) where
  outer := hO
  leads := h.leads.put h.outer.isMap
  inner := fun c d hc => by
    have hol := h.outer.lt
    by_cases e : c = a
    · simp only [e, if_true] at hc
      obtain rfl := Option.some.inj hc
      rw [e]
      exact ⟨by omega, E, hE, hM⟩
    · simp only [e, if_false] at hc
      obtain ⟨h1, F, h2, h3⟩ := h.inner c d hc
      exact ⟨h1, F, (h2.kept hgr (fun e' => by have := Option.some.inj e'; omega)).mono (by omega), h3.other e⟩
  apart := fun c c' d h1 h2 => by
    by_cases e : c = a <;> by_cases e' : c' = a
    · rw [e, e']
    · simp only [e, if_true, e', if_false] at h1 h2
      have := h.lt h2
      have := Option.some.inj h1
      omega
    · simp only [e, if_false, e', if_true] at h1 h2
      have := h.lt h1
      have := Option.some.inj h2
      omega
    · simp only [e, if_false, e'] at h1 h2
      exact h.apart c c' d h1 h2
  free := fun c hc m hm => by
    by_cases e : c = a
    · simp only [e, if_true] at hc; cases hc
    · simp only [e, if_false] at hc
      rcases List.mem_append.1 hm with hm | hm
      · exact h.free c hc m hm
      · simp at hm; exact e hm.1
theorem marks_none (a : Int) {seen : List (Int × Int)} (h : ∀ n, (a, n) ∉ seen) : Marks (.map []) a seen := by
  intro n _
  have : seen.contains (a, n) = false := by
    cases hc : seen.contains (a, n) with
    | false => rfl
    | true => exact absurd (List.contains_iff_mem.1 hc) (h n)
  rw [this]; rfl

set_option maxHeartbeats 16000000 in
set_option maxRecDepth 100000 in
theorem refTwice_any (u : Value) (l : List LineV) (w : World) (hu : Lns w u l) (hok : ∀ x ∈ l, x.ok) :
    Calls Try.prog 18 #[u] w fun e w' => e = .returned (.tuple #[.int .i64 (twV l).1, .bool (twV l).2]) ∧ Below w.heap.size w w' := by
  obtain ⟨ao, cap, b, o, rfl, hao, hml, hc⟩ := hu.form
  obtain ⟨n, hn⟩ : ∃ n, l.length = n := ⟨_, rfl⟩
  unfold maxLen at hml
  have Hn := Lib.hid hn
  rw [hn] at hao hml ⊢
  have Hao := Lib.hid hao
  have Hc := Lib.hid hc
  have Hok := Lib.hid hok
  have hmk := run_makeOM
  have hmk2 := run_makeNM
  have hnil := nmapNil
  clear hu hao hc hok hn
  go_enter Try.func18, Try.ntmps18
  go_wp2_with fail
  clear hmk
  go_loopw [5] (fun i wr => ∃ (k : Nat) (seen : List (Int × Int)) (D : DataW Unit) (g : Int → Option Nat), k ≤ n ∧ i = .int .i64 k ∧ Maze wr w.heap.size k seen D g ∧ Hid (twGo seen k (l.drop k) = twV l) ∧ Below w.heap.size w wr) (fun i _ => n - (intOf i).toNat)
  case atStart => exact ⟨0, [], _, _, Nat.zero_le _, rfl, maze_start w, rfl, (Below.refl _ _).alloc (Nat.le_refl _) _⟩
  case round =>
    obtain ⟨k, seen, D, g, hk, rfl, hm, HT, hbw⟩ := hrel
    have Hm := Lib.hid hm
    have Hbw := Lib.hid hbw
    clear hm hbw
    by_cases hlt : k < n
    · have hkl : k < l.length := by rw [Hn.out]; exact hlt
      obtain rfl := Hao.out (by omega)
      obtain ⟨c0, c1, _, _⟩ := Hc.out k hkl
      have c0 := cell_kept Hbw.out c0
      have c1 := cell_kept Hbw.out c1
      have Hx := Lib.hid (Hok.out _ (List.getElem_mem hkl))
      have HA := Lib.hid (twGo_at hkl seen)
      obtain ⟨x, hx⟩ : ∃ x, l[k]'hkl = x := ⟨_, rfl⟩
      rw [hx] at c0 c1 Hx HA
      obtain ⟨x1, x2, x3, x4⟩ := x
      have hi0 : (0 : Int) ≤ (k : Int) := by omega
      have hi1 : (k : Int) < (n : Int) := by omega
      clear hx
      obtain ⟨v, ps, hrun, hR⟩ := Hm.out.outer.lookup keyedL Try.underlying65 (zeroMap wr) (zd := .lit (.bool false)) (zp := []) rfl (keyL Hx.out.1)
      rw [Hm.out.leads x1 Hx.out.1] at hR
      obtain rfl := mapElem_inv hR
      clear hR
      have lb : b < w.heap.size := World.block_lt_of_cell? w _ (Hc.out k hkl).1
      have lbr : b < wr.heap.size := World.block_lt_of_cell? wr _ c0
      have hobl := Hm.out.outer.lt
      cases hgx : g x1 with
      | none =>
        rw [hgx] at hrun
        have hno : seen.contains (x1, x2) = false := by
          cases hc : seen.contains (x1, x2) with
          | false => rfl
          | true => exact absurd (List.contains_iff_mem.1 hc) (Hm.out.free x1 hgx x2)
        have Hno := Lib.hid hno
        have Hgx := Lib.hid hgx
        have HM := Lib.hid (marks_none x1 (Hm.out.free x1 hgx))
        clear hno hgx
        have hne : b ≠ w.heap.size := by omega
        go_wp2_with (first
          | (at_mapUpdate; first
              | (refine wpList_mapUpdate_own _ rfl _ _ _ 65 rfl 25 66 keyedL Try.underlying65 mapElem w.heap.size k D rfl (Hm.out.outer.alloc _) (by unfold maxLen; omega) _ _ _ rfl rfl (keyL Hx.out.1) (.lit (.int .i64 (wr.heap.size : Nat))) [] rfl ?_
                 intro w5 ho5 hg5
                 have c0 := cell_grown_by hg5 hne (cell_kept ((Below.refl _ _).alloc (Nat.le_refl _) (.map #[] 0)) c0)
                 have c1 := cell_grown_by hg5 hne (cell_kept ((Below.refl _ _).alloc (Nat.le_refl _) (.map #[] 0)) c1)
                 have hin5 : NMap w5 wr.heap.size 0 (.map []) := (World.ownsMap_made wr _ _ _).kept hg5 (fun e => by have := Option.some.inj e; omega))
              | (refine wpList_mapUpdate_own _ rfl _ _ _ 66 rfl 3 3 keyedN Try.underlying66 _ wr.heap.size 0 _ rfl hin5 (by decide) _ _ _ rfl rfl (keyN Hx.out.2.1) _ [] (numElem (show i64 1 by unfold i64; decide)) ?_
                 intro w6 ho6 hg6))
          | (at_lookup; refine wpList_lookup_own_int _ rfl _ _ 66 rfl 3 3 .i64 keyedN Try.underlying66 Try.underlying3 (zeroInt _) wr.heap.size 0 _ rfl hin5 _ _ rfl (keyN Hx.out.2.1) ?_; intro c hc _; obtain rfl := num_at ((show (DataW.map [] : DataW Unit).atKey (.int .i64 x2) (.lit (.int .i64 0)) = .lit (.int .i64 0) from rfl).symm.trans hc)))
        refine ⟨⟨k + 1, seen ++ [(x1, x2)], _, _, by omega, by go_num, Hm.out.fresh (((World.grownBy_alloc wr _ (some w.heap.size)).andThen hg5 (fun j hj => Or.inr hj)).andThen hg6 (fun j hj => by cases hj; exact .inl (Nat.le_refl _))) (Nat.le_refl _) (ho5.kept hg6 (fun e => by have := Option.some.inj e; omega)) (ho6.mono (by omega)) (HM.out.put (World.ownsMap.isMap hin5)), ?_, ?_⟩, by simp [intOf]; omega⟩
        · exact (HT.out.symm.trans (HA.out.trans (if_neg (show ¬ seen.contains (x1, x2) = true by rw [Hno.out]; decide)))).symm
        · exact ((Hbw.out.alloc Hbw.out.size _).grown hg5 (by have := Hbw.out.size; simp; omega) (fun j hj => by cases hj; exact Nat.le_refl _)).grown hg6 (by have := hg5.size; have := Hbw.out.size; simp at *; omega) (fun j hj => by cases hj; exact Hbw.out.size)
      | some ib =>
        rw [hgx] at hrun
        obtain ⟨hib, E, hE, hM⟩ := Hm.out.inner x1 ib hgx
        have hat := hM x2 Hx.out.2.1
        have HE := Lib.hid hE
        have HM := Lib.hid hM
        have Hgx := Lib.hid hgx
        have hibl := hE.lt
        clear hE hM hgx
        cases hsn : seen.contains (x1, x2) with
        | true =>
          rw [hsn] at hat
          go_wp2_with (at_lookup; refine wpList_lookup_own_int _ rfl _ _ 66 rfl 3 3 .i64 keyedN Try.underlying66 Try.underlying3 (zeroInt _) ib k E rfl HE.out _ _ rfl (keyN Hx.out.2.1) ?_; intro c hc _; obtain rfl := num_at (hat.symm.trans hc))
          go_ret2
          have e : twV l = ((k : Int), true) := by rw [← HT.out, HA.out]; exact if_pos hsn
          exact ⟨by rw [e]; rfl, Hbw.out⟩
        | false =>
          rw [hsn] at hat
          have Hno := Lib.hid hsn
          go_wp2_with (first
            | (at_lookup; refine wpList_lookup_own_int _ rfl _ _ 66 rfl 3 3 .i64 keyedN Try.underlying66 Try.underlying3 (zeroInt _) ib k E rfl HE.out _ _ rfl (keyN Hx.out.2.1) ?_; intro c hc _; obtain rfl := num_at (hat.symm.trans hc))
            | (at_mapUpdate; refine wpList_mapUpdate_own _ rfl _ _ _ 66 rfl 3 3 keyedN Try.underlying66 _ ib k E rfl HE.out (by unfold maxLen; omega) _ _ _ rfl rfl (keyN Hx.out.2.1) _ [] (numElem (show i64 1 by unfold i64; decide)) ?_
               intro w6 ho6 hg6))
          refine ⟨⟨k + 1, seen ++ [(x1, x2)], _, _, by omega, by go_num, Hm.out.more Hgx.out hg6 ho6 (HM.out.put HE.out.isMap), ?_, Hbw.out.grown hg6 Hbw.out.size (fun j hj => by cases hj; omega)⟩, by simp [intOf]; omega⟩
          exact (HT.out.symm.trans (HA.out.trans (if_neg (show ¬ seen.contains (x1, x2) = true by rw [Hno.out]; decide)))).symm
    · obtain rfl : k = n := by omega
      go_wp2_with fail
      go_ret2
      have e : twV l = (0, false) := by rw [← HT.out, twGo_end (by rw [Hn.out]; exact Nat.le_refl _)]
      exact ⟨by rw [e]; rfl, Hbw.out⟩
end Go.Proofs.Ytaconebkgajicaa
