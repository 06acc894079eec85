/- Own work: HunkNames' walk. -/
import Derived.Test.YtabdgocfbmcobaaHunkUndone
import Derived.Test.YtabdgocfbmcobaaHunkTouched
import Derived.Shelf.Strings.Builder1
namespace Go.Proofs.Ytabdgocfbmcobaa
open Go.RowKit Go.Sort

theorem fold_push8 (l : List UInt8) : ∀ (r : ByteArray), (l.map fun c => (c.toNat : Int)).foldl (fun r n => r.push (UInt8.ofNat n.toNat)) r = ⟨r.data ++ l.toArray⟩ := by
  induction l with
  | nil => intro r; simp
  | cons c l ih =>
    intro r
    rw [List.map_cons, List.foldl_cons, ih]
    apply ByteArray.ext
    apply Array.ext'
    simp [ByteArray.push]
theorem run_rowText8 (w : World) {B : Nat} {v : Value} {l : List UInt8} (h : w.ownsRow B 5 1 v l.length (Lib.byteCells l)) : (convert 48 9 v).run Try.prog w = .ok (.string ((⟨l.toArray⟩ : ByteArray))) w := by
  rcases Joins.ownsRow_forms h with ⟨hv, hn⟩ | ⟨g, cap, hv⟩
  · have : l = [] := List.eq_nil_of_length_eq_zero hn
    subst this; subst hv
    rw [run_convert_bytes_string _ 48 9 5 _ _ _ Try.underlying48 Try.underlying5 Try.underlying9]
    rfl
  · subst hv
    rw [run_convert_bytes_string _ 48 9 5 _ _ _ Try.underlying48 Try.underlying5 Try.underlying9]
    rw [run_bytesToString _ _ l.length cap (l.map fun c => (c.toNat : Int))]
    · rw [fold_push8]
      congr 2
      apply ByteArray.ext
      apply Array.ext'
      simp
    · have := run_loadCells_list (P := Try.prog) (w := w) ⟨g, 0, none⟩ (Lib.byteCells l) (fun j u hu => h.cells (g := g) rfl j u hu)
      rw [Lib.byteCells_length] at this
      rw [this]
      congr 1
      simp [Lib.byteCells]

def t8l : ByteArray := ⟨#[97, 10]⟩
def zeros8 (n : Nat) : Array Value := (List.replicate n (Value.int .u8 0)).toArray
def nulB (n : Nat) : ByteArray := ⟨(List.replicate n (0 : UInt8)).toArray⟩
theorem mk_256 (w : World) : (Instr.makeSlice 48 (.int .i64 256) (.int .i64 256)).run Try.prog w = .ok (.slice (some ⟨w.heap.size, 0, none⟩) 256 256) (w.alloc (.cells (zeros8 256) 5)) := by
  kernel_rfl
theorem mk_257 (w : World) : (Instr.makeSlice 48 (.int .i64 257) (.int .i64 257)).run Try.prog w = .ok (.slice (some ⟨w.heap.size, 0, none⟩) 257 257) (w.alloc (.cells (zeros8 257) 5)) := by
  kernel_rfl
theorem zeros_bytes (n : Nat) : (zeros8 n).toList = Lib.byteCells (List.replicate n (0 : UInt8)) := by
  simp [zeros8, Lib.byteCells]
theorem cv_row (n : Nat) (hn : n ≤ 300) (w : World) : (convert 48 9 (.slice (some ⟨w.heap.size, 0, none⟩) n n)).run Try.prog (w.alloc (.cells (zeros8 n) 5)) = .ok (.string (nulB n)) (w.alloc (.cells (zeros8 n) 5)) := by
  have h : (w.alloc (.cells (zeros8 n) 5)).ownsRow w.heap.size 5 1 (.slice (some ⟨w.heap.size, 0, none⟩) n n) n (zeros8 n).toList := World.ownsRow_lit w (zeros8 n) n (Nat.le_refl _) (by unfold maxLen; omega) (by simp [zeros8])
  rw [zeros_bytes] at h
  have := run_rowText8 (w.alloc (.cells (zeros8 n) 5)) (l := List.replicate n (0 : UInt8)) (by rw [List.length_replicate]; exact h)
  exact this
theorem bad_at : chkL [⟨2147483647, [], [t8a]⟩, ⟨2147483648, [], [t8a]⟩] = (1, 80) := by decide +kernel
theorem bad_inv : invE [⟨0, [], [t8a]⟩, ⟨2147483647, [], [t8a]⟩] = 80 := by decide +kernel
theorem bad_line : chkL [⟨0, [], [t8l]⟩] = (0, 80) := by decide +kernel
theorem ok_256 : chkL [⟨0, [], [nulB 256]⟩] = (0, 0) := by decide +kernel
theorem bad_257 : chkL [⟨0, [nulB 257], []⟩] = (0, 80) := by decide +kernel
theorem nul_size (n : Nat) : (nulB n).size = n := by simp [nulB, ByteArray.size]

/-- a literal list of one or two hunks -/
theorem hks_row {w : World} {b : Nat} {l : List HunkV} {t : TypeId} {f : Nat × Nat} (h : w.heap[b]? = some (.cells (flatK l).toArray t f)) (hm : l.length ≤ maxLen) (ht : ∀ m ∈ l, Texts w m.ov m.old ∧ Texts w m.nv m.new) : Hks w (.slice (some ⟨b, 0, none⟩) l.length l.length) l := by
  refine ⟨_, l.length, b, 0, rfl, fun _ => rfl, hm, fun i hi => ?_⟩
  obtain ⟨f0, f1, f2⟩ := flatK_get l i hi
  obtain ⟨t1, t2⟩ := ht _ (List.getElem_mem hi)
  simp only [Nat.zero_add]
  refine ⟨?_, ?_, ?_, t1, t2⟩
  · rw [cell_of_row _ _ _ _ _ _ h]; simpa using f0
  · rw [cell_of_row _ _ _ _ _ _ h]; simpa using f1
  · rw [cell_of_row _ _ _ _ _ _ h]; simpa using f2
theorem three_at8 (w : World) (o1 o2 o3 : Obj) : (((w.alloc o1).alloc o2).alloc o3).heap[w.heap.size]? = some o1 ∧ (((w.alloc o1).alloc o2).alloc o3).heap[w.heap.size + 1]? = some o2 ∧ (((w.alloc o1).alloc o2).alloc o3).heap[w.heap.size + 1 + 1]? = some o3 := by
  refine ⟨?_, ?_, ?_⟩
  · rw [heap_alloc_old _ _ (by simp only [World.size_alloc]; omega), heap_alloc_old _ _ (by simp only [World.size_alloc]; omega)]; exact heap_alloc_new w o1
  · rw [heap_alloc_old _ _ (by simp only [World.size_alloc]; omega)]; exact heap_alloc2_new w o1 o2
  · have := heap_alloc_new ((w.alloc o1).alloc o2) o3
    simp only [World.size_alloc] at this
    exact this
theorem two_at8 (w : World) (o1 o2 : Obj) : ((w.alloc o1).alloc o2).heap[w.heap.size]? = some o1 ∧ ((w.alloc o1).alloc o2).heap[w.heap.size + 1]? = some o2 := by
  refine ⟨?_, ?_⟩
  · rw [heap_alloc_old _ _ (by simp only [World.size_alloc]; omega)]; exact heap_alloc_new w o1
  · exact heap_alloc2_new w o1 o2
theorem nil_texts (w : World) : Texts w (.slice none 0 0) [] := .inl ⟨_, _, rfl, rfl⟩
theorem fit_lit {m : HunkV} (h1 : SliceForm m.ov) (h2 : SliceForm m.nv) (h3 : m.old.length ≤ 100) (h4 : m.new.length ≤ 100) (h5 : ∀ s ∈ m.old, s.size ≤ 1000) (h6 : ∀ s ∈ m.new, s.size ≤ 1000) (h7 : 0 ≤ m.at_) (h8 : m.at_ ≤ 2147483648) : m.Fit :=
  ⟨h1, h2, fun s hs => by have := h5 s hs; unfold maxLen; omega, fun s hs => by have := h6 s hs; unfold maxLen; omega, by omega, by omega, by omega, by omega⟩

def hkA (g : Nat) (z : Int) : HunkV := ⟨z, .slice none 0 0, .slice (some ⟨g, 0, none⟩) 1 1, [], [t8a]⟩
theorem hkA_fit (g : Nat) (z : Int) (h1 : 0 ≤ z) (h2 : z ≤ 2147483648) : (hkA g z).Fit := fit_lit (.inl rfl) (.inr ⟨_, _, _, rfl⟩) (by simp [hkA]) (by simp [hkA]) (by simp [hkA]) (fun s hs => by simp [hkA] at hs; subst hs; decide) h1 h2
/-- two hunks that each add a text, as they are built -/
theorem two_hunks (w : World) (z1 z2 : Int) (h1 : 0 ≤ z1) (h2 : z1 ≤ 2147483648) (h3 : 0 ≤ z2) (h4 : z2 ≤ 2147483648) :
    Hks (((w.alloc (.cells #[.string ⟨#[97]⟩] 9)).alloc (.cells #[.string ⟨#[97]⟩] 9)).alloc (.cells #[.int .i64 z1, .slice none 0 0, .slice (some ⟨w.heap.size, 0, none⟩) 1 1, .int .i64 z2, .slice none 0 0, .slice (some ⟨w.heap.size + 1, 0, none⟩) 1 1] 43)) (.slice (some ⟨w.heap.size + 1 + 1, 0, none⟩) 2 2) [hkA w.heap.size z1, hkA (w.heap.size + 1) z2] ∧ ∀ m ∈ [hkA w.heap.size z1, hkA (w.heap.size + 1) z2], m.Fit := by
  obtain ⟨b1, b2, b3⟩ := three_at8 w (.cells #[.string ⟨#[97]⟩] 9) (.cells #[.string ⟨#[97]⟩] 9) (.cells #[.int .i64 z1, .slice none 0 0, .slice (some ⟨w.heap.size, 0, none⟩) 1 1, .int .i64 z2, .slice none 0 0, .slice (some ⟨w.heap.size + 1, 0, none⟩) 1 1] 43)
  have T1 := texts_row (l := [t8a]) b1 (by simp) (by unfold maxLen; simp)
  have T2 := texts_row (l := [t8a]) b2 (by simp) (by unfold maxLen; simp)
  refine ⟨hks_row (l := [hkA w.heap.size z1, hkA (w.heap.size + 1) z2]) b3 (by unfold maxLen; simp) (fun m hm => ?_), fun m hm => ?_⟩
  · simp at hm
    rcases hm with rfl | rfl
    · exact ⟨nil_texts _, T1⟩
    · exact ⟨nil_texts _, T2⟩
  · simp at hm
    rcases hm with rfl | rfl
    · exact hkA_fit _ _ h1 h2
    · exact hkA_fit _ _ h3 h4
/-- one hunk with one text, as it is built -/
theorem one_hunk (w : World) (s : ByteArray) (hs : s.size ≤ 1000) :
    Hks ((w.alloc (.cells #[.string s] 9)).alloc (.cells #[.int .i64 0, .slice none 0 0, .slice (some ⟨w.heap.size, 0, none⟩) 1 1] 43)) (.slice (some ⟨w.heap.size + 1, 0, none⟩) 1 1) [⟨0, .slice none 0 0, .slice (some ⟨w.heap.size, 0, none⟩) 1 1, [], [s]⟩] ∧ ∀ m ∈ [(⟨0, .slice none 0 0, .slice (some ⟨w.heap.size, 0, none⟩) 1 1, [], [s]⟩ : HunkV)], m.Fit := by
  obtain ⟨b1, b2⟩ := two_at8 w (.cells #[.string s] 9) (.cells #[.int .i64 0, .slice none 0 0, .slice (some ⟨w.heap.size, 0, none⟩) 1 1] 43)
  have T1 := texts_row (l := [s]) b1 (by simp) (by unfold maxLen; simp)
  refine ⟨hks_row (l := [⟨0, .slice none 0 0, .slice (some ⟨w.heap.size, 0, none⟩) 1 1, [], [s]⟩]) b2 (by unfold maxLen; simp) (fun m hm => ?_), fun m hm => ?_⟩
  · simp at hm; subst hm; exact ⟨nil_texts _, T1⟩
  · simp at hm; subst hm; exact fit_lit (.inl rfl) (.inr ⟨_, _, _, rfl⟩) (by simp) (by simp) (by simp) (fun x hx => by simp at hx; subst hx; exact hs) (by simp) (by simp)
theorem one_hunk_old (w : World) (s : ByteArray) (hs : s.size ≤ 1000) :
    Hks ((w.alloc (.cells #[.string s] 9)).alloc (.cells #[.int .i64 0, .slice (some ⟨w.heap.size, 0, none⟩) 1 1, .slice none 0 0] 43)) (.slice (some ⟨w.heap.size + 1, 0, none⟩) 1 1) [⟨0, .slice (some ⟨w.heap.size, 0, none⟩) 1 1, .slice none 0 0, [s], []⟩] ∧ ∀ m ∈ [(⟨0, .slice (some ⟨w.heap.size, 0, none⟩) 1 1, .slice none 0 0, [s], []⟩ : HunkV)], m.Fit := by
  obtain ⟨b1, b2⟩ := two_at8 w (.cells #[.string s] 9) (.cells #[.int .i64 0, .slice (some ⟨w.heap.size, 0, none⟩) 1 1, .slice none 0 0] 43)
  have T1 := texts_row (l := [s]) b1 (by simp) (by unfold maxLen; simp)
  refine ⟨hks_row (l := [⟨0, .slice (some ⟨w.heap.size, 0, none⟩) 1 1, .slice none 0 0, [s], []⟩]) b2 (by unfold maxLen; simp) (fun m hm => ?_), fun m hm => ?_⟩
  · simp at hm; subst hm; exact ⟨T1, nil_texts _⟩
  · simp at hm; subst hm; exact fit_lit (.inr ⟨_, _, _, rfl⟩) (.inl rfl) (by simp) (by simp) (fun x hx => by simp at hx; subst hx; exact hs) (by simp) (by simp) (by simp)

set_option maxRecDepth 100000 in
set_option maxHeartbeats 16000000 in
theorem names_walk (w : World) : Calls Try.prog 7 #[] w fun e w' => e = .returned (.bool true) ∧ Below w.heap.size w w' := by
  have al : ∀ (W : World) (o : Obj), Below W.heap.size W (W.alloc o) := fun W o => (Below.refl _ _).alloc (Nat.le_refl _) o
  have AL := Lib.hid al
  have M1 := mk_256
  have M2 := mk_257
  have V1 := cv_row 256 (by omega)
  have V2 := cv_row 257 (by omega)
  clear al
  go_enter Try.func7, Try.ntmps7
  go_wp2_with fail
  refine (apply_any _ _ [] [] w (nil_texts w) (.inl rfl) (hks_nil w) (fun m hm => by cases hm) (by simp) (by simp) (by simp [sumN])).mono ?_
  rintro e w1 ⟨r1, rfl, _, ho1, hb1⟩
  have HO1 := ho1 (congrArg Prod.snd (fits_nil []).1)
  rw [show fitsL [] (List.map HunkV.txt []) = (0, 0) from (fits_nil []).1]
  rw [show appL [] (List.map HunkV.txt []) = [] from rfl] at HO1
  obtain ⟨o1, c1, rfl⟩ := HO1.texts.lenForm
  have B1 := Lib.hid hb1
  clear ho1 hb1 HO1
  go_wp2_with fail
  obtain ⟨k1, f1⟩ := two_hunks w1 2147483647 2147483648 (by omega) (by omega) (by omega) (by omega)
  refine (check_any _ _ _ k1 f1 (by simp)).mono ?_
  rintro e w2 ⟨rfl, hb2⟩
  rw [show chkL ([hkA w1.heap.size 2147483647, hkA (w1.heap.size + 1) 2147483648].map HunkV.txt) = (1, 80) from bad_at]
  have B2 := Lib.hid (below_join (below_join (below_join (below_join B1.out (AL.out w1 _)) (AL.out _ _)) (AL.out _ _)) hb2)
  clear k1 f1 hb2
  go_wp2_with fail
  obtain ⟨k2, f2⟩ := two_hunks w2 0 2147483647 (by omega) (by omega) (by omega) (by omega)
  refine (invert_any _ _ _ k2 f2 (by simp)).mono ?_
  rintro e w3 ⟨r3, rfl, _, _, hb3⟩
  rw [show invE ([hkA w2.heap.size 0, hkA (w2.heap.size + 1) 2147483647].map HunkV.txt) = 80 from bad_inv]
  have B3 := Lib.hid (below_join (below_join (below_join (below_join B2.out (AL.out w2 _)) (AL.out _ _)) (AL.out _ _)) hb3)
  clear k2 f2 hb3
  go_wp2_with fail
  obtain ⟨k3, f3⟩ := one_hunk w3 t8l (by decide)
  refine (check_any _ _ _ k3 f3 (by simp)).mono ?_
  rintro e w4 ⟨rfl, hb4⟩
  rw [show chkL ([(⟨0, .slice none 0 0, .slice (some ⟨w3.heap.size, 0, none⟩) 1 1, [], [t8l]⟩ : HunkV)].map HunkV.txt) = (0, 80) from bad_line]
  have B4 := Lib.hid (below_join (below_join (below_join B3.out (AL.out w3 _)) (AL.out _ _)) hb4)
  clear k3 f3 hb4
  go_wp2_with fail
  obtain ⟨k4, f4⟩ := one_hunk (w4.alloc (.cells (zeros8 256) 5)) (nulB 256) (by rw [nul_size]; omega)
  simp only [World.size_alloc] at k4 f4
  refine (check_any _ _ _ k4 f4 (by simp)).mono ?_
  rintro e w5 ⟨rfl, hb5⟩
  rw [show chkL ([(⟨0, .slice none 0 0, .slice (some ⟨w4.heap.size + 1, 0, none⟩) 1 1, [], [nulB 256]⟩ : HunkV)].map HunkV.txt) = (0, 0) from ok_256]
  have B5 := Lib.hid (below_join (below_join (below_join (below_join B4.out (AL.out w4 _)) (AL.out _ _)) (AL.out _ _)) hb5)
  clear k4 f4 hb5
  go_wp2_with fail
  obtain ⟨k5, f5⟩ := one_hunk_old (w5.alloc (.cells (zeros8 257) 5)) (nulB 257) (by rw [nul_size]; omega)
  simp only [World.size_alloc] at k5 f5
  refine (check_any _ _ _ k5 f5 (by simp)).mono ?_
  rintro e w6 ⟨rfl, hb6⟩
  rw [show chkL ([(⟨0, .slice (some ⟨w5.heap.size + 1, 0, none⟩) 1 1, .slice none 0 0, [nulB 257], []⟩ : HunkV)].map HunkV.txt) = (0, 80) from bad_257]
  have B6 := Lib.hid (below_join (below_join (below_join (below_join B5.out (AL.out w5 _)) (AL.out _ _)) (AL.out _ _)) hb6)
  clear k5 f5 hb6 M1 M2 V1 V2
  go_wp2_with fail
  refine (touched_any _ [] 1048576 w6 (hks_nil _) (fun m hm => by cases hm) (by simp)).mono ?_
  rintro e w7 ⟨r7, rfl, _, ho7, hb7⟩
  obtain ⟨g7, rfl, _⟩ := ho7 (by decide)
  rw [show touchE (List.map HunkV.txt []) 1048576 = 0 by decide, show (1048576 : Int).toNat = 1048576 from rfl]
  have B7 := Lib.hid (below_join B6.out hb7)
  clear ho7 hb7
  go_wp2_with fail
  refine (touched_any _ [] 1048577 w7 (hks_nil _) (fun m hm => by cases hm) (by simp)).mono ?_
  rintro e w8 ⟨r8, rfl, _, _, hb8⟩
  rw [show touchE (List.map HunkV.txt []) 1048577 = 80 by decide]
  have B8 := Lib.hid (below_join B7.out hb8)
  clear hb8
  go_wp2_with fail
  go_ret
  exact ⟨by simp, B8.out⟩
end Go.Proofs.Ytabdgocfbmcobaa
