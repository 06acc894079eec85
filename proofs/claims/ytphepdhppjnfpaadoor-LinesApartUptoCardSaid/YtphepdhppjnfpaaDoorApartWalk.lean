import Derived.Test.YtphepdhppjnfpaaDoorApartA
namespace Go.Proofs.YtphepdhppjnfpaaDoor
open Go.RowKit Num

theorem eq_take_succ {a b : List ByteArray} {k : Nat} (ha : k < a.length) (hb : k < b.length) :
    (decide (a.take k = b.take k) && decide (a[k] = b[k])) = decide (a.take (k + 1) = b.take (k + 1)) := by
  rw [List.take_succ_eq_append_getElem ha, List.take_succ_eq_append_getElem hb, Bool.eq_iff_iff, Bool.and_eq_true, decide_eq_true_eq, decide_eq_true_eq, decide_eq_true_eq]
  constructor
  · rintro ⟨h1, h2⟩; rw [h1, h2]
  · intro h
    obtain ⟨h1, h2⟩ := List.append_inj h (by rw [List.length_take, List.length_take]; omega)
    exact ⟨h1, by simpa using h2⟩

/-- have both lists one length, and the same first k texts? -/
def sm (a b : List ByteArray) (k : Nat) : Bool := decide (a.length = b.length) && decide (a.take k = b.take k)
theorem sm_zero (a b : List ByteArray) : ((a.length : Int) == (b.length : Int)) = sm a b 0 := by
  rw [sm, Bool.eq_iff_iff]
  simp
  omega
theorem sm_succ {a b : List ByteArray} {k : Nat} (ha : k < a.length) (hb : k < b.length) (h : sm a b k = true) : decide (a[k] = b[k]) = sm a b (k + 1) := by
  rw [sm, Bool.and_eq_true] at h
  rw [sm, h.1, ← eq_take_succ ha hb, h.2]
  simp
theorem sm_no {a b : List ByteArray} {k : Nat} (h : sm a b k = false) : false = sm a b (k + 1) := by
  symm
  rw [sm, Bool.and_eq_false_iff, decide_eq_false_iff_not, decide_eq_false_iff_not] at h ⊢
  rcases h with h | h
  · exact .inl h
  · right
    intro e
    apply h
    have := congrArg (List.take k) e
    rwa [List.take_take, List.take_take, Nat.min_eq_left (by omega)] at this
theorem sm_len {a b : List ByteArray} {k : Nat} (h : sm a b k = true) : a.length = b.length := by
  rw [sm, Bool.and_eq_true, decide_eq_true_eq] at h
  exact h.1
theorem sm_end {a b : List ByteArray} {k : Nat} (hk : b.length ≤ k) : sm a b k = decide (a = b) := by
  rw [sm, List.take_of_length_le hk, Bool.eq_iff_iff, Bool.and_eq_true, decide_eq_true_eq, decide_eq_true_eq, decide_eq_true_eq]
  constructor
  · rintro ⟨h1, h2⟩
    rwa [List.take_of_length_le (by omega)] at h2
  · rintro rfl
    exact ⟨rfl, List.take_of_length_le hk⟩

set_option maxRecDepth 100000 in
set_option maxHeartbeats 32000000 in
theorem apart_walk (u v : Value) (a b : List ByteArray) (w : World) (hu : Texts w u a) (hv : Texts w v b) (hNa : joinN a ≤ 1073741824) (hNb : joinN b ≤ 1073741824)
    (hsa : ∀ s ∈ a, s.size ≤ 4611686018427387904) (hsb : ∀ s ∈ b, s.size ≤ 4611686018427387904) (hI : Inv w w) :
    Calls Tryd.prog 7 #[u, v] w fun e w' => e = .returned (.bool true) ∧ Below w.heap.size w w' := by
  obtain ⟨ao, acap, ab, aof, rfl, hao, hac⟩ := hu.form
  obtain ⟨bo, bcap, bb, bof, rfl, hbo, hbc⟩ := hv.form
  have hla := joinN_len a
  have hlb := joinN_len b
  have Hao := Lib.hid hao
  have Hbo := Lib.hid hbo
  have Hac := Lib.hid hac
  have Hbc := Lib.hid hbc
  have HI := Lib.hid hI
  have Hsa := Lib.hid hsa
  have Hsb := Lib.hid hsb
  have Hza := Lib.hid fun k => catB_take_size a k hsa
  have Hzb := Lib.hid fun k => catB_take_size b k hsb
  clear hu hv hao hbo hac hbc hI hsa hsb
  obtain ⟨na, hna⟩ : ∃ n, a.length = n := ⟨_, rfl⟩
  obtain ⟨nb, hnb⟩ : ∃ n, b.length = n := ⟨_, rfl⟩
  have Hna := Lib.hid hna
  have Hnb := Lib.hid hnb
  rw [hna] at hla ⊢
  rw [hnb] at hlb ⊢
  clear hna hnb
  go_enter Tryd.func7, Tryd.ntmps7
  go_wp2_with fail
  refine (works_any _ HI.out.pow HI.out.maxl).mono ?_
  rintro e w1 ⟨rfl, hb⟩
  have HI1 := Lib.hid (HI.out.step hb)
  clear hb
  go_wp2_with fail
  go_loopw [5, 6] (fun x i wr => ∃ k : Nat, k ≤ na ∧ i = .int .i64 k ∧ x = .string (catB (a.take k)) ∧ Inv w wr) (fun _ i _ => na - (intOf i).toNat)
  case atStart => exact ⟨0, Nat.zero_le _, rfl, rfl, HI1.out⟩
  case round =>
    obtain ⟨k, hk, rfl, rfl, hIr⟩ := hrel
    have HIr := Lib.hid hIr
    clear hIr
    by_cases hlt : k < na
    · have hka : k < a.length := by rw [Hna.out]; exact hlt
      obtain rfl := Hao.out (by omega)
      have c1 : wr.cell? ⟨ab, aof + k, none⟩ = some (.string (a[k]'hka)) := by
        have := World.block_lt_of_cell? w _ (Hac.out k hka)
        rw [HIr.out.below.cell this]
        exact Hac.out k hka
      have hsz := Hza.out k
      have Hcat := Lib.hid (catB_snoc (a.take k) (a[k]'hka))
      have Htk := Lib.hid (List.take_succ_eq_append_getElem hka)
      have hs1 := Hsa.out _ (List.getElem_mem hka)
      have hs2 := showB_size _ hs1
      obtain ⟨y, hy⟩ : ∃ y, catB (a.take k) = y := ⟨_, rfl⟩
      have Hy := Lib.hid hy
      obtain ⟨x, hx⟩ : ∃ x, a[k]'hka = x := ⟨_, rfl⟩
      have Hx := Lib.hid hx
      obtain ⟨z, hz⟩ : ∃ z, showB x = z := ⟨_, rfl⟩
      have Hz := Lib.hid hz
      have hxl := joinN_take a k hka
      rw [hx] at c1 hs1 hs2 hxl
      rw [hz] at hs2
      rw [hy] at hsz ⊢
      clear hx hy hz
      go_wp2_with fail
      refine (show_any _ _ hs1 HIr.out.pow).mono ?_
      rintro e w2 ⟨rfl, hb⟩
      rw [Hz.out]
      have HI2 := Lib.hid (HIr.out.step hb)
      clear hb c1
      go_wp2_with fail
      go_roundw
      case rel =>
        refine ⟨k + 1, by omega, by go_num, ?_, HI2.out⟩
        rw [Htk.out, ← Hcat.out, Hy.out, Hx.out, Hz.out]
      case measure => simp [intOf]; omega
    · have hall : a.take k = a := List.take_of_length_le (by rw [Hna.out]; omega)
      rw [hall]
      clear hall
      go_wp2_with fail
      have Hs0 := Lib.hid (sm_zero a b)
      obtain ⟨wo, hwo⟩ : ∃ wo : World, wo = wr := ⟨_, rfl⟩
      subst hwo
      go_loopw [7, 8, 9] (fun x s i wr => ∃ k : Nat, k ≤ nb ∧ i = .int .i64 k ∧ x = .string (catB (b.take k)) ∧ s = .bool (sm a b k) ∧ Inv w wr) (fun _ _ i _ => nb - (intOf i).toNat)
      case atStart => exact ⟨0, Nat.zero_le _, rfl, rfl, by rw [← Hs0.out, Hna.out, Hnb.out], HIr.out⟩
      case round =>
        obtain ⟨m, hm, rfl, rfl, rfl, hIr⟩ := hrel
        have HIs := Lib.hid hIr
        clear hIr
        by_cases hmt : m < nb
        · have hkb : m < b.length := by rw [Hnb.out]; exact hmt
          obtain rfl := Hbo.out (by omega)
          have c1 : wr.cell? ⟨bb, bof + m, none⟩ = some (.string (b[m]'hkb)) := by
            have := World.block_lt_of_cell? w _ (Hbc.out m hkb)
            rw [HIs.out.below.cell this]
            exact Hbc.out m hkb
          have hsz := Hzb.out m
          have Hcat := Lib.hid (catB_snoc (b.take m) (b[m]'hkb))
          have Htk := Lib.hid (List.take_succ_eq_append_getElem hkb)
          have hs1 := Hsb.out _ (List.getElem_mem hkb)
          have hs2 := showB_size _ hs1
          obtain ⟨y, hy⟩ : ∃ y, catB (b.take m) = y := ⟨_, rfl⟩
          have Hy := Lib.hid hy
          obtain ⟨x, hx⟩ : ∃ x, b[m]'hkb = x := ⟨_, rfl⟩
          have Hx := Lib.hid hx
          obtain ⟨z, hz⟩ : ∃ z, showB x = z := ⟨_, rfl⟩
          have Hz := Lib.hid hz
          have hxl := joinN_take b m hkb
          rw [hx] at c1 hs1 hs2 hxl
          rw [hz] at hs2
          rw [hy] at hsz ⊢
          clear hx hy hz
          cases hsm : sm a b m with
          | false =>
            have Hnext := Lib.hid (sm_no hsm)
            clear hsm
            go_wp2_with fail
            refine (show_any _ _ hs1 HIs.out.pow).mono ?_
            rintro e w2 ⟨rfl, hb⟩
            rw [Hz.out]
            have HI2 := Lib.hid (HIs.out.step hb)
            clear hb c1
            go_wp2_with fail
            go_quiet (fail)
            go_wp2_with fail
            go_roundw
            case rel =>
              refine ⟨m + 1, by omega, by go_num, ?_, by rw [← Hnext.out], HI2.out.step (below_drewN (Below.refl _ _) _)⟩
              rw [Htk.out, ← Hcat.out, Hy.out, Hx.out, Hz.out]
            case measure => simp [intOf]; omega
          | true =>
            have hlen := sm_len hsm
            have hka : m < a.length := by omega
            have hka2 : m < na := by rw [← Hna.out]; exact hka
            have Hnext := Lib.hid (sm_succ hka hkb hsm)
            obtain rfl := Hao.out (by omega)
            have hbt := World.block_lt_of_cell? w _ (Hac.out m hka)
            have Hac2 := Lib.hid (Hac.out m hka)
            obtain ⟨q, hq⟩ : ∃ q, a[m]'hka = q := ⟨_, rfl⟩
            have Hq := Lib.hid hq
            have Hbt := Lib.hid hbt
            have Hbb := Lib.hid (bytes_eq (a := a[m]'hka) (b := b[m]'hkb))
            have hb0 : (0 : Int) ≤ (m : Int) := by omega
            have hb1 : (m : Int) < (na : Int) := by omega
            have hb2 : (m : Int) < (nb : Int) := by omega
            clear hsm hlen hq hbt
            go_wp2_with fail
            refine (show_any _ _ hs1 HIs.out.pow).mono ?_
            rintro e w2 ⟨rfl, hb⟩
            rw [Hz.out]
            have HI2 := Lib.hid (HIs.out.step hb)
            have d1 : w2.cell? ⟨bb, bof + m, none⟩ = some (.string x) := cell_kept hb c1
            have d2 : w2.cell? ⟨ab, aof + m, none⟩ = some (.string q) := by
              rw [HI2.out.below.cell Hbt.out, ← Hq.out]
              exact Hac2.out
            clear hb c1
            go_wp2_with fail
            go_quiet (fail)
            go_wp2_with fail
            go_roundw
            case rel =>
              refine ⟨m + 1, by omega, by go_num, ?_, ?_, HI2.out.step (below_drewN (Below.refl _ _) _)⟩
              · rw [Htk.out, ← Hcat.out, Hy.out, Hx.out, Hz.out]
              · rw [← Hnext.out, ← Hbb.out, Hq.out, Hx.out]
            case measure => simp [intOf]; omega
        · have hall : b.take m = b := List.take_of_length_le (by rw [Hnb.out]; omega)
          rw [hall, sm_end (by rw [Hnb.out]; omega)]
          clear hall
          have heq := catB_eq Hsa.out Hsb.out
          obtain ⟨ca, hca⟩ : ∃ x, catB a = x := ⟨_, rfl⟩
          obtain ⟨cb, hcb⟩ : ∃ x, catB b = x := ⟨_, rfl⟩
          obtain ⟨sd, hsd⟩ : ∃ x, decide (a = b) = x := ⟨_, rfl⟩
          have Hca := Lib.hid hca
          rw [hca, hcb, hsd] at heq
          rw [hca, hcb, hsd]
          have hca0 : catB (a.drop 0) = ca := by rw [List.drop_zero]; exact hca
          have Hca0 := Lib.hid hca0
          clear hca hcb hsd hca0
          go_wp2_with fail
          obtain ⟨wp, hwp⟩ : ∃ wp : World, wp = wr := ⟨_, rfl⟩
          subst hwp
          go_loopw [5, 10] (fun x i wr => ∃ k : Nat, k ≤ na ∧ i = .int .i64 k ∧ x = .string (catB (a.drop k)) ∧ Inv w wr) (fun _ i _ => na - (intOf i).toNat)
          case atStart => exact ⟨0, Nat.zero_le _, rfl, by rw [Hca0.out], HIs.out⟩
          case round =>
            obtain ⟨k, hk, rfl, rfl, hIr⟩ := hrel
            have HIt := Lib.hid hIr
            clear hIr
            by_cases hkt : k < na
            · have hka : k < a.length := by rw [Hna.out]; exact hkt
              obtain rfl := Hao.out (by omega)
              have hbt := World.block_lt_of_cell? w _ (Hac.out k hka)
              have hs1 := Hsa.out _ (List.getElem_mem hka)
              have hdr : a.drop k = a[k]'hka :: a.drop (k + 1) := List.drop_eq_getElem_cons hka
              have hf := catB_first (a[k]'hka) (a.drop (k + 1)) hs1
              have hc0 := Hac.out k hka
              obtain ⟨q, hq⟩ : ∃ q, a[k]'hka = q := ⟨_, rfl⟩
              rw [hdr, hq]
              rw [hq] at hf hs1 hc0
              have hsz : (catB (q :: a.drop (k + 1))).size ≤ maxLen := by
                have h1 := catB_size (q :: a.drop (k + 1)) (by
                  intro s hs
                  rcases List.mem_cons.1 hs with rfl | hs
                  · exact hs1
                  · exact Hsa.out s (List.mem_of_mem_drop hs))
                have h2 : joinN (a.drop k) ≤ joinN a := by
                  have e : joinN a = joinN (a.take k) + joinN (a.drop k) := by
                    conv => lhs; rw [← List.take_append_drop k a]
                    rw [joinN, List.map_append, joinL_append, List.length_append]
                    rfl
                  omega
                rw [hdr, hq] at h2
                unfold maxLen
                omega
              have Hf := Lib.hid hf
              have Hsz := Lib.hid hsz
              have Hc0 := Lib.hid hc0
              have Hbt := Lib.hid hbt
              have hb0 : (0 : Int) ≤ (k : Int) := by omega
              have hb1 : (k : Int) < (na : Int) := by omega
              clear hf hsz hdr hq hc0 hbt
              go_wp2_with fail
              refine (shown_any _ _ Hsz.out).mono ?_
              rintro e w2 ⟨rfl, hb⟩
              rw [Hf.out.1, Hf.out.2.1, Hf.out.2.2]
              have HI2 := Lib.hid (HIt.out.step hb)
              have d2 : w2.cell? ⟨ab, aof + k, none⟩ = some (.string q) := by
                rw [HI2.out.below.cell Hbt.out]
                exact Hc0.out
              clear hb
              go_wp2_with fail
              go_roundw
              case rel => exact ⟨k + 1, by omega, by go_num, rfl, HI2.out⟩
              case measure => simp [intOf]; omega
            · have hdr : a.drop k = [] := List.drop_eq_nil_of_le (by rw [Hna.out]; omega)
              rw [hdr]
              clear hdr
              go_wp2_with fail
              refine (shown_any _ _ (by decide)).mono ?_
              rintro e w2 ⟨rfl, hb⟩
              rw [catB_none.1, catB_none.2.1, catB_none.2.2, show catB [] = ⟨#[]⟩ from rfl]
              have HI2 := Lib.hid (HIt.out.step hb)
              clear hb
              go_wp2_with fail
              go_ret
              exact ⟨rfl, HI2.out.below⟩
end Go.Proofs.YtphepdhppjnfpaaDoor
