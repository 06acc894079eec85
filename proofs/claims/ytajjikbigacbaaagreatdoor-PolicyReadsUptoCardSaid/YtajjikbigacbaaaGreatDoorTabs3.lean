/- A row that lists de Bruijn's table, the powers of ten and strconv's two errors gives the contracts what they ask. -/
import Derived.LaidLaws
import Derived.LaidSub
import Derived.Test.YtajjikbigacbaaaGreatDoorComp
import Derived.Test.YtajjikbigacbaaaGreatDoorNumE
import Derived.Test.YtajjikbigacbaaaGreatDoorTz
namespace Go.Proofs.YtajjikbigacbaaaGreatDoor
theorem deb_of {l : List (String × DataW Unit)} {W : World} (hl : l.filter (fun p => p.1 == "math/bits.deBruijn64tab") = [("math/bits.deBruijn64tab", Lib.tabData .u8 debTab)]) (hL : laidMetH Tryz.prog l W) : Deb W := by
  have h := laidMetH.filter (fun p => p.1 == "math/bits.deBruijn64tab") hL
  rw [hl] at h
  exact Lib.tabIs_of_head (rest := []) (g := 0) (by kernel_rfl) (by kernel_rfl) Tryz.underlying212 Tryz.underlying5 (by kernel_rfl) (by kernel_rfl) h
end Go.Proofs.YtajjikbigacbaaaGreatDoor
namespace Go.Proofs.YtajjikbigacbaaaGreatDoor

theorem err_var {l : List (String × DataW Unit)} {W : World} {name nm : String} {d : DataW Unit} {g : Nat} (hl : l.filter (fun p => p.1 == name) = [(name, .iface nm d)]) (hh : (DataW.iface nm d : DataW Unit).handleName? = none)
    (hg : Tryz.prog.globalNamed name = some g) (hty : (Tryz.prog.globals[g]?).map (·.type) = some 169) (hL : laidMetH Tryz.prog l W) : ∃ tp p, W.var? Tryz.prog name = some #[.iface tp p] := by
  have h := laidMetH.filter (fun p => p.1 == name) hL
  rw [hl] at h
  unfold laidMetH at h
  simp only [List.filter_cons, hh, Option.isSome_none, Bool.false_eq_true, if_false, List.filter_nil] at h
  obtain ⟨ps, ⟨g', t', cs, fuel, p, q, e1, e2, e3, e4, _⟩, _⟩ := h
  rw [hg] at e1
  cases e1
  rw [hty] at e2
  cases e2
  obtain ⟨_, u, v, hcs, _⟩ := iface_of_trod Tryz.underlying169 e4
  refine ⟨u, v, ?_⟩
  rw [e3]
  congr 1
  exact Array.ext' hcs

theorem errs_of {l : List (String × DataW Unit)} {W : World} (h1 : l.filter (fun p => p.1 == "strconv.ErrSyntax") = [("strconv.ErrSyntax", Rows.laid_strconv_ErrSyntax)]) (h2 : l.filter (fun p => p.1 == "strconv.ErrRange") = [("strconv.ErrRange", Rows.laid_strconv_ErrRange)])
    (hL : laidMetH Tryz.prog l W) : ErrVars W :=
  ⟨err_var h1 rfl (g := 5) (by kernel_rfl) (by kernel_rfl) hL, err_var h2 rfl (g := 6) (by kernel_rfl) (by kernel_rfl) hL⟩
end Go.Proofs.YtajjikbigacbaaaGreatDoor
namespace Go.Proofs.YtajjikbigacbaaaGreatDoor
theorem pow_of {l : List (String × DataW Unit)} {W : World} (hl : l.filter (fun p => p.1 == "internal/strconv.uint64pow10") = [("internal/strconv.uint64pow10", Lib.tabData .u64 Lib.pow10Tab)]) (hL : laidMetH Tryz.prog l W) : Pow W := by
  have h := laidMetH.filter (fun p => p.1 == "internal/strconv.uint64pow10") hL
  rw [hl] at h
  exact Lib.tabIs_of_head (rest := []) (g := 2) (by kernel_rfl) (by kernel_rfl) Tryz.underlying243 Tryz.underlying23 (by kernel_rfl) (by kernel_rfl) h
end Go.Proofs.YtajjikbigacbaaaGreatDoor
