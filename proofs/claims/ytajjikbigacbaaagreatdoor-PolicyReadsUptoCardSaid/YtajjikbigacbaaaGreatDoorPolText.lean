/- Plain laws: a policy's text, and back. -/
import Derived.Test.YtajjikbigacbaaaGreatDoorPrintA
import Derived.Lib.IndexMore
import Derived.Test.YtajjikbigacbaaaGreatDoorSeqBox
import Derived.Test.YtajjikbigacbaaaGreatDoorCutA
import Derived.Laws.ResultCell
namespace Go.Proofs.YtajjikbigacbaaaGreatDoor
open Num

/-- what is no blank, no line end -/
theorem dig_plain {c : Nat} (hc : c < 64) : ∀ b ∈ (digB c).data.toList, b ≠ 32 ∧ b ≠ 10 := by
  have : ∀ c : Fin 64, ((digB c).data.toList.all fun b => b != 32 && b != 10) = true := by decide +kernel
  have h := this ⟨c, hc⟩
  rw [List.all_eq_true] at h
  intro b hb
  have := h b hb
  simpa using this
theorem joinP_mem : ∀ (ps : List (List UInt8)) (b : UInt8), b ∈ joinP ps → b = 43 ∨ ∃ p ∈ ps, b ∈ p
  | [], b, h => by simp [joinP] at h
  | [p], b, h => .inr ⟨p, by simp, by simpa [joinP] using h⟩
  | p :: q :: r, b, h => by
    rw [joinP_cons _ (by simp), List.mem_append, List.mem_cons] at h
    rcases h with h | h | h
    · exact .inr ⟨p, by simp, h⟩
    · exact .inl h
    · rcases joinP_mem (q :: r) b h with h | ⟨x, hx, hb⟩
      · exact .inl h
      · exact .inr ⟨x, by simp at hx ⊢; exact .inr hx, hb⟩
theorem text_plain (a : Nat) : ∀ b ∈ (textB a).data.toList, b ≠ 32 ∧ b ≠ 10 := by
  intro b hb
  rw [textB] at hb
  split at hb
  · simp at hb; subst hb; decide
  · rw [plusT_joinP] at hb
    rcases joinP_mem _ b hb with rfl | ⟨p, hp, hbp⟩
    · decide
    · rw [List.map_map] at hp
      obtain ⟨c, hc, rfl⟩ := List.mem_map.1 hp
      exact dig_plain ((listN_rise a).2 c hc) b hbp
theorem index_cases (l : List UInt8) (c : UInt8) : Lib.indexByte l c = -1 ∨ ∃ i : Nat, Lib.indexByte l c = i := by
  have := Lib.indexByte_ge l c
  by_cases h : Lib.indexByte l c = -1
  · exact .inl h
  · exact .inr ⟨(Lib.indexByte l c).toNat, by omega⟩
theorem dig_dash : ∀ c : Fin 64, (digB c).data.toList ≠ [45] := by decide +kernel
theorem reads_dash {cs : List Nat} (h : Reads (textB 0) cs) : False := by
  have e : parts 43 (textB 0).data.toList = [[45]] := parts_last 43 [45] (fun k h => by
    match k, h with
    | 0, h => simp at h
    | k + 1, h => simp at h)
  rw [h.2] at e
  have hr := h.1
  clear h
  match cs, e with
  | c :: r, e =>
    have hc : c < 64 := hr.2 c (by simp)
    rw [List.map_cons] at e
    exact dig_dash ⟨c, hc⟩ (List.cons.inj e).1
theorem text_inj {a b : Nat} (ha : a < 18446744073709551616) (hb : b < 18446744073709551616) (h : textB a = textB b) : a = b := by
  by_cases h0 : a = 0
  · by_cases h1 : b = 0
    · rw [h0, h1]
    · exfalso
      have h2 := text_reads h1 hb h.symm
      rw [h0] at h2
      exact reads_dash h2
  · by_cases h1 : b = 0
    · exfalso
      have h2 := text_reads h0 ha h
      rw [h1] at h2
      exact reads_dash h2
    · have h2 := text_reads h0 ha h
      have h3 := text_reads h1 hb rfl
      have : listN a = listN b := map_dig_inj h2.1.2 h3.1.2 (h2.2.symm.trans h3.2)
      rw [← bits_listN ha, ← bits_listN hb, this]
theorem name_plain {s : ByteArray} (h : isName s = true) : ∀ b ∈ s.data.toList, b ≠ 32 ∧ b ≠ 10 := by
  intro b hb
  simp only [isName, Bool.and_eq_true, List.all_eq_true] at h
  have h2 := h.2 b hb
  constructor
  · rintro rfl; revert h2; decide
  · rintro rfl; revert h2; decide
/-- a viewer's line: the name, a blank, the clearance's text -/
theorem lineB_list (v : Vw) : (lineB v).data.toList = v.nm.data.toList ++ 32 :: (textB v.lab).data.toList := by
  simp [lineB, ByteArray.data_append]
/-- the name has no blank -/
def noBlank (v : Vw) : Prop := ∀ b ∈ v.nm.data.toList, b ≠ 32
theorem cut_blank {a r : List UInt8} (h : ∀ b ∈ a, b ≠ 32) : Lib.cut (a ++ 32 :: r) [32] = (a, r, true) := by
  have hi : Lib.indexByte (a ++ 32 :: r) 32 = (a.length : Int) := by
    rcases index_cases (a ++ 32 :: r) 32 with h1 | ⟨i, h1⟩
    · exact absurd (by simp) (Lib.indexByte_none h1 a.length)
    · obtain ⟨h2, h3⟩ := Lib.indexByte_some h1
      rw [h1]
      have : i = a.length := by
        rcases Nat.lt_trichotomy i a.length with h4 | h4 | h4
        · rw [List.getElem?_append_left h4] at h2
          exact absurd rfl (h 32 (List.mem_of_getElem? h2))
        · exact h4
        · exact absurd (by simp) (h3 a.length h4)
      rw [this]
  simp [Lib.cut, Lib.index_one, hi]
theorem cut_none {a : List UInt8} (h : ∀ b ∈ a, b ≠ 32) : Lib.cut a [32] = (a, [], false) := by
  have hi : Lib.indexByte a 32 = -1 := by
    rcases index_cases a 32 with h1 | ⟨i, h1⟩
    · exact h1
    · exact absurd rfl (h 32 (List.mem_of_getElem? (Lib.indexByte_some h1).1))
  simp [Lib.cut, Lib.index_one, hi]
/-- the lines lead back to the viewers -/
theorem line_inj {u v : Vw} (hu : noBlank u) (hv : noBlank v) (hul : u.lab < 18446744073709551616) (hvl : v.lab < 18446744073709551616) (h : lineB u = lineB v) : u = v := by
  have h1 := congrArg (fun s : ByteArray => Lib.cut s.data.toList [32]) h
  simp only [lineB_list] at h1
  rw [cut_blank hu, cut_blank hv] at h1
  injection h1 with h2 h3
  injection h3 with h3 _
  exact vw_ext (asB_inj h2) (text_inj hul hvl (asB_inj h3))
theorem lines_inj : ∀ {us vs : List Vw}, (∀ u ∈ us, noBlank u ∧ u.lab < 18446744073709551616) → (∀ v ∈ vs, noBlank v ∧ v.lab < 18446744073709551616) → us.map lineB = vs.map lineB → us = vs
  | [], [], _, _, _ => rfl
  | [], _ :: _, _, _, h => by simp at h
  | _ :: _, [], _, _, h => by simp at h
  | u :: us, v :: vs, hu, hv, h => by
    rw [List.map_cons, List.map_cons, List.cons.injEq] at h
    have h1 := hu u (by simp)
    have h2 := hv v (by simp)
    rw [line_inj h1.1 h2.1 h1.2 h2.2 h.1, lines_inj (fun x hx => hu x (by simp [hx])) (fun x hx => hv x (by simp [hx])) h.2]
theorem pol_blank {vs : List Vw} (hok : polOk vs) (hf : Fits vs) : ∀ v ∈ vs, noBlank v ∧ v.lab < 18446744073709551616 :=
  fun v hv => ⟨fun b hb => (name_plain (hok.2.1 v hv) b hb).1, (hf v hv).1⟩
theorem line_plain {v : Vw} (h : isName v.nm = true) : ¬ (10 : UInt8) ∈ (lineB v).data.toList := by
  rw [lineB_list, List.mem_append, List.mem_cons]
  rintro (h1 | h1 | h1)
  · exact (name_plain h 10 h1).2 rfl
  · exact absurd h1 (by decide)
  · exact (text_plain v.lab 10 h1).2 rfl
/-- a policy's text is cut into its viewers' lines -/
theorem cut_print {vs : List Vw} (hok : polOk vs) : cutL (printT vs).data.toList = some ((vs.map lineB).map fun s => s.data.toList) := by
  have e : (printT vs).data.toList = joinL ((vs.map lineB).map fun s => s.data.toList) := by simp [printT, joinT, asB]
  rw [e]
  refine cut_join _ fun s hs => ?_
  rw [List.map_map] at hs
  obtain ⟨v, hv, rfl⟩ := List.mem_map.1 hs
  exact line_plain (hok.2.1 v hv)
theorem back_texts (ss : List ByteArray) : ((ss.map fun s => s.data.toList).map fun x => (⟨x.toArray⟩ : ByteArray)) = ss := by
  rw [List.map_map]
  exact List.map_id' ss
theorem cutT_print {vs : List Vw} (hok : polOk vs) : cutT (printT vs).data.toList = vs.map lineB ∧ cutE (printT vs).data.toList = 0 := by
  rw [cutT, cutE, cut_print hok]
  exact ⟨back_texts _, rfl⟩
end Go.Proofs.YtajjikbigacbaaaGreatDoor
/- Own work: policy.viewer and policy.Parse. -/
namespace Go.Proofs.YtajjikbigacbaaaGreatDoor
open Go.RowKit Go.Maps Go.Shelf Num

theorem labParse_any (s : ByteArray) (w : World) (hs : s.size ≤ 140737488355328) (hv : ErrVars w) : Calls Tryz.prog 110 #[.string s] w fun e w' => Below w.heap.size w w' ∧
    ((∃ a, a < 18446744073709551616 ∧ textB a = s ∧ e = .returned (.tuple #[.int .u64 (a : Int), .int .i64 0])) ∨ ((∀ a, a < 18446744073709551616 → textB a ≠ s) ∧ e = .returned (.tuple #[.int .u64 0, .int .i64 4]))) := by
  refine (parse_any s w hs hv).mono fun e w' ⟨hb, h⟩ => ⟨hb, ?_⟩
  rcases h with ⟨rfl, he⟩ | ⟨hd, cs, hr, he⟩ | ⟨hd, hn, he⟩
  · exact .inl ⟨0, by omega, rfl, he⟩
  · exact .inl ⟨bitsA cs, bitsA_lt hr.1, text_bits hr, he⟩
  · refine .inr ⟨fun a ha h => ?_, he⟩
    by_cases h0 : a = 0
    · subst h0; exact hd h.symm
    · exact hn ⟨_, text_reads h0 ha h⟩

/-- what viewer says of a text -/
def ViewerPost (t : ByteArray) (w : World) (e : Ending) (w' : World) : Prop :=
  Below w.heap.size w w' ∧ ((∃ v, lineB v = t ∧ noBlank v ∧ v.lab < 18446744073709551616 ∧ e = .returned (.tuple #[.agg #[.string v.nm, .int .u64 (v.lab : Int)], .int .i64 0])) ∨
    ((∀ v, noBlank v → v.lab < 18446744073709551616 → lineB v ≠ t) ∧ ∃ n, e = .returned (.tuple #[.agg #[.string n, .int .u64 0], .int .i64 4])))
theorem cut_parts (l : List UInt8) : (∃ a r, Lib.cut l [32] = (a, r, true) ∧ l = a ++ 32 :: r ∧ ∀ b ∈ a, b ≠ 32) ∨ (Lib.cut l [32] = (l, [], false) ∧ ∀ b ∈ l, b ≠ 32) := by
  rcases index_cases l 32 with h | ⟨i, h⟩
  · have hn : ∀ b ∈ l, b ≠ 32 := by
      rintro b hb rfl
      obtain ⟨k, hk⟩ := List.mem_iff_getElem?.1 hb
      exact Lib.indexByte_none h k hk
    exact .inr ⟨cut_none hn, hn⟩
  · obtain ⟨h1, h2⟩ := Lib.indexByte_some h
    have hil : i < l.length := (List.getElem?_eq_some_iff.1 h1).1
    have hl : l = l.take i ++ 32 :: l.drop (i + 1) := by
      conv => lhs; rw [← List.take_append_drop i l]
      rw [List.drop_eq_getElem_cons hil]
      rw [List.getElem?_eq_getElem hil] at h1
      rw [Option.some.inj h1]
    have hn : ∀ b ∈ l.take i, b ≠ 32 := by
      rintro b hb rfl
      obtain ⟨k, hk⟩ := List.mem_iff_getElem?.1 hb
      have hki : k < i := by
        have := (List.getElem?_eq_some_iff.1 hk).1
        rw [List.length_take] at this
        omega
      rw [List.getElem?_take_of_lt hki] at hk
      exact h2 k hki hk
    refine .inl ⟨_, _, ?_, hl, hn⟩
    have := cut_blank (r := l.drop (i + 1)) hn
    rw [← hl] at this
    exact this
theorem line_of {t : ByteArray} {a r : List UInt8} {l : Nat} (ht : t.data.toList = a ++ 32 :: r) (h : textB l = ⟨r.toArray⟩) : lineB ⟨⟨a.toArray⟩, l⟩ = t := by
  refine asB_inj ?_
  rw [lineB_list, ht, h]
theorem no_line {t : ByteArray} {a r : List UInt8} (ht : t.data.toList = a ++ 32 :: r) (ha : ∀ b ∈ a, b ≠ 32) (h : ∀ l, l < 18446744073709551616 → textB l ≠ ⟨r.toArray⟩) : ∀ v, noBlank v → v.lab < 18446744073709551616 → lineB v ≠ t := by
  intro v hv hl e
  have h1 := congrArg (fun s : ByteArray => Lib.cut s.data.toList [32]) e
  simp only [lineB_list, ht] at h1
  rw [cut_blank hv, cut_blank ha] at h1
  injection h1 with _ h2
  injection h2 with h2 _
  exact h v.lab hl (asB_inj h2)
theorem no_line2 {t : ByteArray} (h : ∀ b ∈ t.data.toList, b ≠ 32) : ∀ v, noBlank v → v.lab < 18446744073709551616 → lineB v ≠ t := by
  rintro v _ _ rfl
  rw [lineB_list] at h
  exact h 32 (by simp) rfl

theorem sizeView : (Tryz.prog.info? 33).map (·.size) = some 2 := by kernel_rfl
theorem results_view {fn : Func} {p u : Tmp} (h : fn.results = #[.cell p 33, .tmp u]) (tmps : Array Value) (w : World) (g : Nat) (t : TypeId) (x : ByteArray) (l : Int) (v : Value)
    (hp : tmps.getD p undef = .pointer (some ⟨g, 0, none⟩)) (hu : tmps.getD u undef = v) (hg : w.heap[g]? = some (.cells #[.string x, .int .u64 l] t (0, 0))) :
    (results fn tmps).run Tryz.prog w = .ok (.tuple #[.agg #[.string x, .int .u64 l], v]) w := by
  have hp' : tmps[p]?.getD undef = .pointer (some ⟨g, 0, none⟩) := by simpa using hp
  have hu' : tmps[u]?.getD undef = v := by simpa using hu
  rw [results_cell_tmp h]
  simp [hp', hu', asAddr, Result.andThen, run_loadVar_row w g t 33 _ _ _ hg Tryz.underlying33 rfl sizeView]

theorem store_view {ops : Array Oper} {rest : List Oper} {o : Oper} {a : Act} {w : World} {Q : Exit → Act → World → Prop} (hgd : o.guard = none) (x y : Operand) (ho : o.op = .store 33 x y)
    (g : Nat) (n : ByteArray) (l : Int) (hx : a.eval x = .pointer (some ⟨g, 0, none⟩)) (hy : a.eval y = .agg #[.string n, .int .u64 l]) (t : TypeId) (n0 : ByteArray) (l0 : Int) (hg : w.heap[g]? = some (.cells #[.string n0, .int .u64 l0] t (0, 0)))
    (h : wpList Tryz.prog ops Q rest (a.put o.dst undef) (w.setRow g #[.string n, .int .u64 l])) : wpList Tryz.prog ops Q (o :: rest) a w :=
  wpList_store_row hgd 33 x y ho g _ hx hy t _ hg sizeView rfl (by simp [Value.oneCell']) h

set_option maxHeartbeats 8000000 in
set_option maxRecDepth 100000 in
theorem viewer_any (t : ByteArray) (w : World) (ht : t.size ≤ 4294967280) (hM : MaxL w) (hE : ErrVars w) : Calls Tryz.prog 69 #[.string t] w (ViewerPost t w) := by
  obtain ⟨mx, hM⟩ := hM
  have hM := cell_kept ((Below.refl w.heap.size w).alloc (Nat.le_refl _) (.cells #[.string ⟨#[]⟩, .int .u64 0] 33)) hM
  have Hal := Lib.hid ((Below.refl w.heap.size w).alloc (Nat.le_refl _) (.cells #[.string ⟨#[]⟩, .int .u64 0] 33))
  have HE := Lib.hid (hE.kept Hal.out)
  have Hbox := Lib.hid (heap_alloc_new w (.cells #[.string ⟨#[]⟩, .int .u64 0] 33))
  clear hE
  rcases cut_parts t.data.toList with ⟨a, r, hc, htl, ha⟩ | ⟨hc, hn⟩
  · have Hc := Lib.hid hc
    have hrs : (⟨r.toArray⟩ : ByteArray).size ≤ 4294967280 := by
      have h1 := congrArg List.length htl
      simp at h1
      have h2 : t.data.size = t.size := rfl
      show r.toArray.size ≤ _
      simp
      omega
    obtain ⟨rb, hrb⟩ : ∃ rb : ByteArray, (⟨r.toArray⟩ : ByteArray) = rb := ⟨_, rfl⟩
    obtain ⟨ab, hab⟩ : ∃ ab : ByteArray, (⟨a.toArray⟩ : ByteArray) = ab := ⟨_, rfl⟩
    rw [hrb] at hrs
    have Hrb := Lib.hid hrb
    have Hab := Lib.hid hab
    clear hc hrb hab
    go_enter Tryz.func69, Tryz.ntmps69
    go_wp2_with fail
    refine (Tryz.strings_Cut t ⟨#[32]⟩ mx _ (by omega) hM).mono ?_
    rintro e w1 ⟨rfl, q, rfl⟩
    rw [show (⟨#[32]⟩ : ByteArray).data.toList = [32] from rfl, Hc.out]
    simp only [Hrb.out, Hab.out]
    go_wp2_with fail
    refine (labParse_any rb _ (by omega) (HE.out.kept (below_drewN (Below.refl _ _) q))).mono ?_
    rintro e w2 ⟨hb, h⟩
    have Bn := Lib.hid (below_join (below_drewN (Below.refl _ _) q) hb)
    have hrow := row_kept Bn.out Hbox.out
    have Hrow := Lib.hid hrow
    have B2 := Lib.hid (Hal.out.trans (Bn.out.mono Hal.out.size))
    clear hb hrow
    rcases h with ⟨l, hl, htx, rfl⟩ | ⟨hno, rfl⟩
    · have Hln := Lib.hid (line_of htl (htx.trans Hrb.out.symm))
      rw [Hab.out] at Hln
      have Hnb := Lib.hid (show noBlank ⟨ab, l⟩ by rw [← Hab.out]; exact ha)
      clear htx
      go_wp2_with (refine store_view rfl _ _ rfl w.heap.size ab (l : Int) rfl rfl _ _ _ Hrow.out ?_)
      (try simp only [Exit.inBlock, Exit.then])
      refine bodyPost_ret (v := .tuple #[.agg #[.string ab, .int .u64 (l : Int)], .int .i64 0]) (results_view (fn := Tryz.f69) rfl _ _ w.heap.size _ _ _ _ rfl rfl (setRow_heap _ _ _ _ _ _ Hrow.out)) rfl ?_
      exact ⟨below_setRow B2.out (Nat.le_refl _) _, .inl ⟨⟨ab, l⟩, Hln.out, Hnb.out, hl, rfl⟩⟩
    · have Hno := Lib.hid (no_line htl ha fun l hl e => hno l hl (e.trans Hrb.out))
      clear hno
      go_wp2_with (refine store_view rfl _ _ rfl w.heap.size ab 0 rfl rfl _ _ _ Hrow.out ?_)
      (try simp only [Exit.inBlock, Exit.then])
      refine bodyPost_ret (v := .tuple #[.agg #[.string ab, .int .u64 0], .int .i64 4]) (results_view (fn := Tryz.f69) rfl _ _ w.heap.size _ _ _ _ rfl rfl (setRow_heap _ _ _ _ _ _ Hrow.out)) rfl ?_
      exact ⟨below_setRow B2.out (Nat.le_refl _) _, .inr ⟨Hno.out, _, rfl⟩⟩
  · have Hc := Lib.hid hc
    have Hno := Lib.hid (no_line2 hn)
    clear hc hn
    go_enter Tryz.func69, Tryz.ntmps69
    go_wp2_with fail
    refine (Tryz.strings_Cut t ⟨#[32]⟩ mx _ (by omega) hM).mono ?_
    rintro e w1 ⟨rfl, q, rfl⟩
    rw [show (⟨#[32]⟩ : ByteArray).data.toList = [32] from rfl, Hc.out]
    obtain ⟨tb, htb⟩ : ∃ tb : ByteArray, (⟨t.data.toList.toArray⟩ : ByteArray) = tb := ⟨_, rfl⟩
    simp only [htb]
    clear htb
    go_wp2_with fail
    refine (labParse_any ⟨#[]⟩ _ (by rw [show (⟨#[]⟩ : ByteArray).size = 0 from rfl]; omega) (HE.out.kept (below_drewN (Below.refl _ _) q))).mono ?_
    rintro e w2 ⟨hb, h⟩
    have Bn := Lib.hid (below_join (below_drewN (Below.refl _ _) q) hb)
    have hrow := row_kept Bn.out Hbox.out
    have Hrow := Lib.hid hrow
    have B2 := Lib.hid (Hal.out.trans (Bn.out.mono Hal.out.size))
    clear hb hrow
    rcases h with ⟨l, hl, htx, rfl⟩ | ⟨_, rfl⟩
    · exfalso
      have h1 := (textB_size hl).1
      rw [htx] at h1
      exact absurd h1 (by decide)
    · go_wp2_with (refine store_view rfl _ _ rfl w.heap.size tb 0 rfl rfl _ _ _ Hrow.out ?_)
      (try simp only [Exit.inBlock, Exit.then])
      refine bodyPost_ret (v := .tuple #[.agg #[.string tb, .int .u64 0], .int .i64 4]) (results_view (fn := Tryz.f69) rfl _ _ w.heap.size _ _ _ _ rfl rfl (setRow_heap _ _ _ _ _ _ Hrow.out)) rfl ?_
      exact ⟨below_setRow B2.out (Nat.le_refl _) _, .inr ⟨Hno.out, _, rfl⟩⟩
end Go.Proofs.YtajjikbigacbaaaGreatDoor
/- Own work: policy.Parse. -/
namespace Go.Proofs.YtajjikbigacbaaaGreatDoor
open Go.RowKit Go.Maps Go.Shelf Num

def PolParsePost (s : ByteArray) (w : World) (e : Ending) (w' : World) : Prop :=
  Below w.heap.size w w' ∧ ((∃ vs p, Rising vs ∧ polOk vs ∧ Fits vs ∧ printT vs = s ∧ e = .returned (.tuple #[p, .int .i64 0]) ∧ Pol w' p vs) ∨
    ((∀ vs, Rising vs → polOk vs → Fits vs → printT vs ≠ s) ∧ e = .returned (.tuple #[.pointer none, .int .i64 4])))
theorem join_mem_len : ∀ (ls : List (List UInt8)) (x : List UInt8), x ∈ ls → x.length + 1 ≤ (joinL ls).length
  | [], x, h => by cases h
  | y :: r, x, h => by
    rw [joinL_cons, List.length_append, List.length_append]
    rcases List.mem_cons.1 h with rfl | h
    · simp only [List.length_singleton]; omega
    · have := join_mem_len r x h
      omega
theorem cutT_size {s : ByteArray} (h : cutE s.data.toList = 0) : ∀ t ∈ cutT s.data.toList, t.size ≤ s.size := by
  intro t ht
  rw [cutT] at ht
  cases hl : cutL s.data.toList with
  | none => rw [cutE, hl] at h; cases h
  | some ls =>
    rw [hl] at ht
    obtain ⟨x, hx, rfl⟩ := List.mem_map.1 ht
    have h1 := join_mem_len ls x hx
    rw [join_cut hl] at h1
    have h2 : s.data.size = s.size := rfl
    have h3 : (⟨x.toArray⟩ : ByteArray).size = x.length := by show x.toArray.size = _; simp
    simp at h1
    omega
theorem join_len : ∀ ls : List (List UInt8), ls.length ≤ (joinL ls).length
  | [] => Nat.zero_le _
  | y :: r => by
    have := join_len r
    rw [joinL_cons, List.length_append, List.length_append, List.length_cons]
    simp only [List.length_singleton]
    omega
theorem cutT_len {s : ByteArray} (h : cutE s.data.toList = 0) : (cutT s.data.toList).length ≤ s.size := by
  rw [cutT]
  cases hl : cutL s.data.toList with
  | none => rw [cutE, hl] at h; cases h
  | some ls =>
    have h1 := join_len ls
    rw [join_cut hl] at h1
    have h2 : s.data.size = s.size := rfl
    simp at h1 ⊢
    omega
theorem cutE_cases (l : List UInt8) : cutE l = 0 ∨ cutE l = 4 := by
  rw [cutE]
  split
  · exact .inl rfl
  · exact .inr rfl
theorem not_pol_cut {s : ByteArray} (h : cutE s.data.toList = 4) : ∀ vs, Rising vs → polOk vs → Fits vs → printT vs ≠ s := by
  rintro vs _ hok _ rfl
  rw [(cutT_print hok).2] at h
  cases h
theorem not_pol_line {s : ByteArray} {k : Nat} (hk : k < (cutT s.data.toList).length) (h : ∀ v, noBlank v → v.lab < 18446744073709551616 → lineB v ≠ (cutT s.data.toList)[k]'hk) : ∀ vs, Rising vs → polOk vs → Fits vs → printT vs ≠ s := by
  rintro vs _ hok hf rfl
  have hk2 : k < (vs.map lineB).length := by rw [← (cutT_print hok).1]; exact hk
  have e : (cutT (printT vs).data.toList)[k]'hk = (vs.map lineB)[k]'hk2 := by
    congr 1
    exact (cutT_print hok).1
  rw [List.length_map] at hk2
  have hv := pol_blank hok hf (vs[k]'hk2) (List.getElem_mem hk2)
  refine h _ hv.1 hv.2 ?_
  rw [e, List.getElem_map]
theorem pol_lines {s : ByteArray} {us vs : List Vw} (hu : us.map lineB = cutT s.data.toList) (hp : ∀ v ∈ us, noBlank v ∧ v.lab < 18446744073709551616) (hok : polOk vs) (hf : Fits vs) (h : printT vs = s) : us = vs := by
  subst h
  rw [(cutT_print hok).1] at hu
  exact lines_inj hp (pol_blank hok hf) hu
theorem fits_lines {s : ByteArray} {us : List Vw} (hs : s.size ≤ 4294967280) (hE : cutE s.data.toList = 0) (hu : us.map lineB = cutT s.data.toList) (hp : ∀ v ∈ us, noBlank v ∧ v.lab < 18446744073709551616) : Fits us := by
  intro v hv
  refine ⟨(hp v hv).2, ?_⟩
  have h1 := cutT_size hE (lineB v) (by rw [← hu]; exact List.mem_map.2 ⟨v, hv, rfl⟩)
  rw [lineB_size] at h1
  unfold maxLen
  omega

set_option maxHeartbeats 16000000 in
set_option maxRecDepth 100000 in
theorem polParse_any (s : ByteArray) (w : World) (hs : s.size ≤ 4294967280) (hM : MaxL w) (hE : ErrVars w) (hT : Deb w) : Calls Tryz.prog 19 #[.string s] w (PolParsePost s w) := by
  obtain ⟨i0, hi, hz0, hz1, hz2⟩ := info_parts Tryz.info33
  have HM := Lib.hid hM
  have HE := Lib.hid hE
  have HT := Lib.hid hT
  clear hM hE hT
  go_enter Tryz.func19, Tryz.ntmps19
  go_wp2_with fail
  refine (cut_any s _ hs HM.out).mono ?_
  rintro e w1 ⟨tv, rfl, hmade, hb⟩
  have htx := hmade.texts
  obtain ⟨ao, cap, b, o, rfl, hao, hml, hc⟩ := htx.form
  have B1 := Lib.hid hb
  have hcs := cutT_size (s := s)
  have hcl := cutT_len (s := s)
  obtain ⟨ts, hts⟩ : ∃ ts, cutT s.data.toList = ts := ⟨_, rfl⟩
  have Hts := Lib.hid hts
  rw [hts] at hao hml hc hcs hcl ⊢
  obtain ⟨n, hn⟩ : ∃ n, ts.length = n := ⟨_, rfl⟩
  have Hn := Lib.hid hn
  rw [hn] at hao hml hcl ⊢
  have Hao := Lib.hid hao
  have Hc := Lib.hid hc
  unfold maxLen at hml
  clear hmade htx hao hc hb hts hn
  rcases cutE_cases s.data.toList with hce | hce
  · have Hcs := Lib.hid (hcs hce)
    have hcl := hcl hce
    have Hce := Lib.hid hce
    rw [hce]
    clear hcs hce
    go_wp2_with fail
    go_loopw [6, 21] (fun u i wr => ∃ (k : Nat) (us : List Vw), k ≤ n ∧ i = .int .i64 k ∧ us.length = k ∧ Hid (us.map lineB = ts.take k) ∧ Hid (∀ v ∈ us, noBlank v ∧ v.lab < 18446744073709551616) ∧ wr.ownsRow w1.heap.size 33 2 u us.length (flatV us) ∧ Below w1.heap.size w1 wr) (fun _ i _ => n - (intOf i).toNat)
    case atStart => exact ⟨0, [], Nat.zero_le _, rfl, rfl, rfl, (by intro v hv; cases hv), World.ownsRow_nil _ _ _ _, Below.refl _ _⟩
    case round =>
      obtain ⟨k, us, hk, rfl, hul, Hus, Hub, hown, hbw⟩ := hrel
      have Hown := Lib.hid hown
      have Hbw := Lib.hid hbw
      have Hul := Lib.hid hul
      clear hown hbw hul
      by_cases hlt : k < n
      · have hkl : k < ts.length := by rw [Hn.out]; exact hlt
        obtain rfl := Hao.out (by omega)
        have ck := cell_kept Hbw.out (Hc.out k hkl)
        obtain ⟨t, ht⟩ : ∃ t, ts[k]'hkl = t := ⟨_, rfl⟩
        rw [ht] at ck
        have Ht := Lib.hid ht
        have hsz : t.size ≤ 4294967280 := Nat.le_trans (Hcs.out t (by rw [← ht]; exact List.getElem_mem hkl)) hs
        have hi0 : (0 : Int) ≤ (k : Int) := by omega
        have hi1 : (k : Int) < (n : Int) := by omega
        have Bw := Lib.hid (below_join B1.out Hbw.out)
        clear ht
        go_wp2_with fail
        refine (viewer_any t _ hsz (HM.out.kept Bw.out) (HE.out.kept Bw.out)).mono ?_
        rintro e w2 ⟨hb, ⟨v, hlv, hnb, hlab, rfl⟩ | ⟨hno, nn, rfl⟩⟩
        · have B2 := Lib.hid (Hbw.out.trans (hb.mono Hbw.out.size))
          have Ho2 := Lib.hid (own_kept Hown.out hb)
          have Hlv := Lib.hid hlv
          have Hnb := Lib.hid hnb
          have ho2 := Ho2.out
          rw [Hul.out] at ho2
          have Ho3 := Lib.hid ho2
          clear hb hlv hnb ho2 ck
          go_wp2_with (at_builtin; refine wpList_append_own _ rfl _ _ 22 rfl w1.heap.size 33 i0 _ 2 24 Tryz.underlying22 hi hz0 hz1 hz2 rfl (by decide) _ _ _ rfl ((Ho3.out.alloc _).alloc _) ⟨w2.heap.size + 1, 0, none⟩ 1 1 v.cells rfl rfl ?d2 ?d3 ?d4 ?d5 ?d6 ?_)
          case d2 => exact two_cellV2 _ _ v _ (by simp)
          case d3 => intro y hy; exact flatV_plain [v] y (by rw [flatV_one]; exact hy)
          case d4 => unfold maxLen; omega
          case d5 => omega
          case d6 => simp; have := B2.out.size; omega
          intro v3 w3 hown3 hgrow3 _
          have B3 := Lib.hid (((B2.out.alloc B2.out.size _).alloc (by simp; have := B2.out.size; omega) _).grown hgrow3 (by simp; have := B2.out.size; omega) (fun q hq => (Ho3.out.lt q hq).1))
          have Ho4 := Lib.hid (show w3.ownsRow w1.heap.size 33 2 v3 (us ++ [v]).length (flatV (us ++ [v])) by
            rw [List.length_append, Hul.out, flatV_append, flatV_one]; exact hown3)
          clear hown3 hgrow3
          go_wp2_with fail
          go_roundw
          case rel =>
            refine ⟨k + 1, us ++ [v], by omega, by go_num, by simp [Hul.out], ?_, ?_, Ho4.out, B3.out⟩
            · show _ = _
              rw [List.map_append, Hus.out, List.take_succ_eq_append_getElem hkl, Ht.out, ← Hlv.out]; rfl
            · intro x hx
              rcases List.mem_append.1 hx with hx | hx
              · exact Hub.out x hx
              · rw [List.mem_singleton] at hx; subst hx; exact ⟨Hnb.out, hlab⟩
          case measure => simp [intOf]; omega
        · have B2 := Lib.hid (below_join Bw.out hb)
          have Hno := Lib.hid (not_pol_line (s := s) (k := k) (by rw [Hts.out]; exact hkl) (fun v h1 h2 => by
            have e : (cutT s.data.toList)[k]'(by rw [Hts.out]; exact hkl) = t := by
              rw [← Ht.out]; congr 1 <;> exact Hts.out
            rw [e]; exact hno v h1 h2))
          clear hb hno
          go_wp2_with fail
          go_ret2
          exact ⟨B2.out.alloc B2.out.size _, .inr ⟨Hno.out, rfl⟩⟩
      · obtain rfl : k = n := by omega
        have hall : us.map lineB = ts := by rw [Hus.out, List.take_of_length_le (by rw [Hn.out]; exact Nat.le_refl _)]
        have Hall := Lib.hid (hall.trans Hts.out.symm)
        have Hfit := Lib.hid (fits_lines hs Hce.out Hall.out Hub.out)
        have Hv := Lib.hid (Vws.of_own Hown.out)
        have Bw := Lib.hid (below_join B1.out Hbw.out)
        clear hall
        go_wp2_with fail
        refine (new_any _ us _ Hv.out Hfit.out).mono ?_
        rintro e w2 ⟨hb, ⟨hno, rfl⟩ | ⟨hok, p, rfl, hp⟩⟩
        · have B2 := Lib.hid (below_join Bw.out hb)
          have Hno : Hid (∀ vs, Rising vs → polOk vs → Fits vs → printT vs ≠ s) := fun vs _ hok hf e => hno (by rw [pol_lines Hall.out Hub.out hok hf e]; exact hok)
          clear hb hno
          go_wp2_with fail
          go_ret2
          exact ⟨B2.out, .inr ⟨Hno.out, rfl⟩⟩
        · have B2 := Lib.hid (below_join Bw.out hb)
          have Hp := Lib.hid hp
          have hps := hp.facts
          by_cases heq : printT (sortV us) = s
          · have Heq := Lib.hid heq
            clear hb hp heq
            go_wp2_with fail
            refine (printM_any p _ _ Hp.out (HT.out.kept B2.out)).mono ?_
            rintro e w3 ⟨rfl, hb⟩
            rw [Heq.out]
            have B3 := Lib.hid (below_join B2.out hb)
            have Hp3 := Lib.hid (Hp.out.kept hb)
            clear hb
            go_wp2_with fail
            go_ret2
            exact ⟨B3.out, .inl ⟨_, _, hps.1, hps.2.1, hps.2.2, Heq.out, rfl, Hp3.out⟩⟩
          · have Hno : Hid (∀ vs, Rising vs → polOk vs → Fits vs → printT vs ≠ s) := fun vs hr hok hf e => by
              have h1 := pol_lines Hall.out Hub.out hok hf e
              subst h1
              rw [sortV_same hr] at heq
              exact heq e
            have hne : ((printT (sortV us)).toList == s.toList) = false := by rw [bytes_same]; exact decide_eq_false heq
            obtain ⟨pt, hpt⟩ : ∃ pt, printT (sortV us) = pt := ⟨_, rfl⟩
            have Hpt := Lib.hid hpt
            rw [hpt] at hne
            clear hb hp heq hpt
            go_wp2_with fail
            refine (printM_any p _ _ Hp.out (HT.out.kept B2.out)).mono ?_
            rintro e w3 ⟨rfl, hb⟩
            rw [Hpt.out]
            have B3 := Lib.hid (below_join B2.out hb)
            clear hb
            go_wp2_with fail
            go_ret2
            exact ⟨B3.out, .inr ⟨Hno.out, rfl⟩⟩
  · have Hno := Lib.hid (not_pol_cut hce)
    rw [hce]
    clear hcs hcl hce
    go_wp2_with fail
    go_ret2
    exact ⟨B1.out, .inr ⟨Hno.out, rfl⟩⟩
end Go.Proofs.YtajjikbigacbaaaGreatDoor
