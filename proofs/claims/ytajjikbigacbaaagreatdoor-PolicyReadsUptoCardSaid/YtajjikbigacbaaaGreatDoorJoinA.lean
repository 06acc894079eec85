import Derived.Test.YtajjikbigacbaaaGreatDoorBld
namespace Go.Proofs.YtajjikbigacbaaaGreatDoor
open Go.RowKit Num

theorem fold_push (l : List UInt8) : ∀ (r : ByteArray), (l.map fun c => (c.toNat : Int)).foldl (fun r n => r.push (UInt8.ofNat n.toNat)) r = ⟨r.data ++ l.toArray⟩ := by
  induction l with
  | nil => intro r; simp
  | cons c l ih =>
    intro r
    rw [List.map_cons, List.foldl_cons, ih]
    apply ByteArray.ext
    apply Array.ext'
    simp [ByteArray.push]
theorem run_rowText (w : World) {B : Nat} {v : Value} {l : List UInt8} (h : w.ownsRow B 5 1 v l.length (Lib.byteCells l)) : (convert 66 9 v).run Tryz.prog w = .ok (.string (asB l)) w := by
  rcases Joins.ownsRow_forms h with ⟨hv, hn⟩ | ⟨g, cap, hv⟩
  · have : l = [] := List.eq_nil_of_length_eq_zero hn
    subst this; subst hv
    rw [run_convert_bytes_string _ 66 9 5 _ _ _ Tryz.underlying66 Tryz.underlying5 Tryz.underlying9]
    rfl
  · subst hv
    rw [run_convert_bytes_string _ 66 9 5 _ _ _ Tryz.underlying66 Tryz.underlying5 Tryz.underlying9]
    rw [run_bytesToString _ _ l.length cap (l.map fun c => (c.toNat : Int))]
    · rw [fold_push]
      congr 2
      apply ByteArray.ext
      apply Array.ext'
      simp [asB]
    · have := run_loadCells_list (P := Tryz.prog) (w := w) ⟨g, 0, none⟩ (Lib.byteCells l) (fun j u hu => h.cells (g := g) rfl j u hu)
      rw [Lib.byteCells_length] at this
      rw [this]
      congr 1
      simp [Lib.byteCells]
def joinT (ss : List ByteArray) : ByteArray := asB (joinL (ss.map fun s => s.data.toList))
/-- how many bytes the joined text has -/
def joinN (ss : List ByteArray) : Nat := (joinL (ss.map fun s => s.data.toList)).length
theorem joinL_append (a b : List (List UInt8)) : joinL (a ++ b) = joinL a ++ joinL b := by simp [joinL]
theorem joinL_cons (s : List UInt8) (ls : List (List UInt8)) : joinL (s :: ls) = s ++ [10] ++ joinL ls := by simp [joinL]
theorem join_take (ss : List ByteArray) (k : Nat) (h : k < ss.length) :
    joinL ((ss.take (k + 1)).map fun s => s.data.toList) = joinL ((ss.take k).map fun s => s.data.toList) ++ (ss[k]'h).data.toList ++ [10] := by
  rw [List.take_succ_eq_append_getElem h, List.map_append, joinL_append, List.map_cons, List.map_nil, joinL_cons]
  simp only [joinL, List.flatMap_nil, List.append_nil, List.append_assoc]
theorem joinN_take (ss : List ByteArray) (k : Nat) (h : k < ss.length) : (joinL ((ss.take k).map fun s => s.data.toList)).length + (ss[k]'h).size + 1 ≤ joinN ss := by
  have e : ss = ss.take k ++ ss[k]'h :: ss.drop (k + 1) := by
    conv => lhs; rw [← List.take_append_drop k ss, List.drop_eq_getElem_cons h]
  have h2 : joinN ss = (joinL ((ss.take k).map fun s => s.data.toList)).length + (((ss[k]'h).data.toList ++ [10]).length + (joinL ((ss.drop (k + 1)).map fun s => s.data.toList)).length) := by
    conv => lhs; rw [e]
    rw [joinN, List.map_append, joinL_append, List.map_cons, joinL_cons, List.length_append, List.length_append]
  have h3 : ((ss[k]'h).data.toList ++ [10]).length = (ss[k]'h).size + 1 := by simp
  omega

set_option maxRecDepth 100000 in
set_option maxHeartbeats 8000000 in
theorem joined_any (v : Value) (ss : List ByteArray) (w : World) (hv : Texts w v ss) (hN : joinN ss ≤ 1073741824) :
    Calls Tryz.prog 84 #[v] w fun e w' => e = .returned (.string (joinT ss)) ∧ Below w.heap.size w w' := by
  rcases hv with ⟨ao, cap, rfl, rfl⟩ | ⟨b, o, cap, rfl, hp, hc, hm, hcell⟩
  · go_enter Tryz.func84, Tryz.ntmps84
    go_wp2_with fail
    go_loopw [8] (fun i wr => ∃ k : Nat, k ≤ 0 ∧ i = .int .i64 k ∧ Bld w.heap.size w.heap.size (joinL ((([] : List ByteArray).take k).map fun s => s.data.toList)) wr ∧ Below w.heap.size w wr) (fun i _ => 0 - (intOf i).toNat)
    case atStart => exact ⟨0, Nat.zero_le _, rfl, Lib.fresh_isBuilder 167 5 w, (Below.refl _ _).alloc (Nat.le_refl _) _⟩
    case round =>
      obtain ⟨k, hk, rfl, hbld, hbw⟩ := hrel
      have Hbld := Lib.hid hbld
      have Hbw := Lib.hid hbw
      have hbs := hbw.size
      clear hbld hbw
      obtain rfl : k = 0 := by omega
      go_wp2_with fail
      refine (Tryz.Builder_String_any _ _ _ _ Hbld.out hbs).mono ?_
      rintro e w2 ⟨rfl, hb2⟩
      go_wp2_with fail
      go_ret
      exact ⟨rfl, Hbw.out.trans hb2⟩
  · obtain ⟨n, hn⟩ : ∃ n, ss.length = n := ⟨_, rfl⟩
    have Hn := Lib.hid hn
    have Hc := Lib.hid hcell
    rw [hn] at hp hc ⊢
    clear hn hcell
    unfold maxLen at hm
    go_enter Tryz.func84, Tryz.ntmps84
    go_wp2_with fail
    go_loopw [8] (fun i wr => ∃ k : Nat, k ≤ n ∧ i = .int .i64 k ∧ Bld w.heap.size w.heap.size (joinL ((ss.take k).map fun s => s.data.toList)) wr ∧ Below w.heap.size w wr) (fun i _ => n - (intOf i).toNat)
    case atStart => exact ⟨0, Nat.zero_le _, rfl, Lib.fresh_isBuilder 167 5 w, (Below.refl _ _).alloc (Nat.le_refl _) _⟩
    case round =>
      obtain ⟨k, hk, rfl, hbld, hbw⟩ := hrel
      have Hbld := Lib.hid hbld
      have Hbw := Lib.hid hbw
      have hbs := hbw.size
      clear hbld hbw
      by_cases hlt : k < n
      · have hks : k < ss.length := by rw [Hn.out]; exact hlt
        have c1 : wr.cell? ⟨b, o + k, none⟩ = some (.string (ss[k]'hks)) := cell_kept Hbw.out (Hc.out k hks)
        have hle := joinN_take ss k hks
        have HJ := Lib.hid (join_take ss k hks)
        obtain ⟨x, hx⟩ : ∃ x, ss[k]'hks = x := ⟨_, rfl⟩
        have Hx := Lib.hid hx
        rw [hx] at c1 hle
        obtain ⟨l, hl⟩ : ∃ l, joinL ((ss.take k).map fun s => s.data.toList) = l := ⟨_, rfl⟩
        have Hl := Lib.hid hl
        rw [hl] at hle
        have Hbld2 : Hid (Bld w.heap.size w.heap.size l wr) := by show Bld _ _ _ _; rw [← Hl.out]; exact Hbld.out
        clear hx hl
        go_wp2_with fail
        refine (bld_text _ _ _ _ _ Hbld2.out (by omega) hbs).mono ?_
        rintro e w2 ⟨rfl, hbld2, hb2⟩
        have Hbld3 := Lib.hid hbld2
        have hbs2 := hb2.size
        have Hb2 := Lib.hid hb2
        clear hbld2 hb2 c1
        go_wp2_with fail
        refine (bld_byte _ _ _ 10 _ Hbld3.out (by simp; omega) (by omega)).mono ?_
        rintro e w3 ⟨rfl, hbld3, hb3⟩
        have Hbld4 := Lib.hid hbld3
        have Hb3 := Lib.hid hb3
        clear hbld3 hb3
        go_wp2_with fail
        go_roundw
        case rel =>
          refine ⟨k + 1, by omega, by go_num, ?_, (Hbw.out.trans Hb2.out).trans Hb3.out⟩
          rw [HJ.out, Hl.out, Hx.out]
          exact Hbld4.out
        case measure => simp [intOf]; omega
      · have hall : ss.take k = ss := List.take_of_length_le (by rw [Hn.out]; omega)
        have Hall := Lib.hid hall
        clear hall
        go_wp2_with fail
        refine (Tryz.Builder_String_any _ _ _ _ Hbld.out hbs).mono ?_
        rintro e w2 ⟨rfl, hb2⟩
        rw [Hall.out]
        go_wp2_with fail
        go_ret
        exact ⟨rfl, Hbw.out.trans hb2⟩
end Go.Proofs.YtajjikbigacbaaaGreatDoor
