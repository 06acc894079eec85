/- Own work: diff.Common. -/
import Derived.Test.YtncamoafdimpcaaDiffStay
import Derived.Test.YtncamoafdimpcaaDiffMore
import Derived.StillTailTactics
namespace Go.Proofs.Ytncamoafdimpcaa
open Go.RowKit

theorem shiftP_snoc (p : Nat) (l : List (Nat × Nat)) (x : Nat × Nat) : shiftP p (l ++ [x]) = shiftP p l ++ [(p + x.1, p + x.2)] := by simp [shiftP]

/-- a row stands while another one grows -/
theorem own_grown {w w' : World} {B n s : Nat} {e : TypeId} {v : Value} {xs : List Value} {r : Option Nat} (h : w.ownsRow B e s v n xs) (hg : w.grownBy w' r) (hne : ∀ g, v.ownBlock = some g → r ≠ some g) : w'.ownsRow B e s v n xs := by
  refine ⟨h.1, ?_⟩
  rcases h.2 with h2 | ⟨g, cap, cur, hv, hB, hc, rest⟩
  · exact .inl h2
  · refine .inr ⟨g, cap, cur, hv, hB, ?_, rest⟩
    rw [hg.block g (lt_of_block hc) (fun e => hne g (by rw [hv]; rfl) e.symm)]
    exact hc
/-- append(v, [2]int{..}), and where it lies -/
theorem wpList_append_pair2 {w0 : World} {ops : Array Oper} {rest : List Oper} {o : Oper} {a : Act} {Q : Exit → Act → World → Prop} (hgd : o.guard = none) (s x : Operand)
    (ho : o.op = .call { callee := .builtin .append, args := #[s, x], argTypes := #[31, 31] })
    (base : Nat) (v : Value) (xs : List (Nat × Nat)) (p : Nat × Nat) (hs : a.eval s = v) (hown : OwnP w0 base v xs) (t : TypeId) (H : Nat) (hH : w0.heap.size = H)
    (hx : a.eval x = .slice (some ⟨H, 0, none⟩) 1 1)
    (hn : (xs.length + 1) * 16 ≤ 140737488355328) (hbase : base ≤ w0.heap.size)
    (h : ∀ v' w', OwnP w' base v' (xs ++ [p]) → w0.grownBy w' v.ownBlock → (∀ g, v'.ownBlock = some g → v.ownBlock = some g ∨ w0.heap.size ≤ g) → wpList Try.prog ops Q rest (a.put o.dst v') w') : wpList Try.prog ops Q (o :: rest) a (w0.alloc (.cells #[.int .i64 (p.1 : Int), .int .i64 (p.2 : Int)] t)) := by
  subst hH
  obtain ⟨i0, hi, hz0, hz1, hz2⟩ := info_parts Try.info39
  refine wpList_append_lies _ hgd s x 31 ho base 39 i0 _ 2 16 Try.underlying31 hi hz0 hz1 hz2 rfl (by decide) v xs.length (flatP xs) hs (hown.alloc _) ⟨w0.heap.size, 0, none⟩ 1 1 (cellsP p) hx rfl (news_two w0 _ _ t) ?_ (by decide) (by unfold maxLen; omega) hn (by simp; omega) (w0.heap.size + 1) (by simp) ?_
  · intro y hy
    simp [cellsP] at hy
    rcases hy with rfl | rfl <;> rfl
  · intro g cap w' h1 h2 h3 _
    refine h _ w' ?_ (grown_step (grown_alloc w0 _ v.ownBlock) h2 (fun _ h => .inl h)) ?_
    · unfold OwnP
      rw [flatP_append, flatP_one, List.length_append]
      exact h1
    · intro g' hg'
      have : g = g' := Option.some.inj hg'
      subst this
      rcases h3 with h3 | h3
      · exact .inl h3
      · exact .inr (by omega)

set_option maxRecDepth 100000 in
set_option maxHeartbeats 8000000 in
theorem common_any (u v : Value) (a b : List ByteArray) (w : World) (hu : Texts w u a) (hv : Texts w v b) (hla : a.length * 16 ≤ 140737488355328) (hlb : b.length * 16 ≤ 140737488355328) :
    Calls Try.prog 12 #[u, v] w fun e w' => ∃ p, e = .returned p ∧ OwnP w' w.heap.size p (commonL a b) ∧ Below w.heap.size w w' := by
  have Hu := Lib.hid hu
  have Hv := Lib.hid hv
  obtain ⟨uo, uc, _, _, rfl, _⟩ := hu.form
  obtain ⟨vo, vc, _, _, rfl, _⟩ := hv.form
  clear hu hv
  obtain ⟨n, hn⟩ : ∃ n, a.length = n := ⟨_, rfl⟩
  obtain ⟨m, hm⟩ : ∃ m, b.length = m := ⟨_, rfl⟩
  have Hn := Lib.hid hn
  have Hm := Lib.hid hm
  obtain ⟨p, hp⟩ : ∃ p, preL a b = p := ⟨_, rfl⟩
  obtain ⟨s, hs⟩ : ∃ s, sufL a b p = s := ⟨_, rfl⟩
  have HC : Hid (commonL a b = commonAt a b p s) := by show _ = _; rw [commonL, hp, hs]
  have HE := Lib.hid (edges_any _ _ a b w Hu.out Hv.out)
  have hpn : p ≤ n := by have h := (preL_spec a b).1; omega
  have hpm : p ≤ m := by have h := (preL_spec a b).2.1; omega
  have hsn : p + s ≤ n := by have h := (sufL_spec a b p (by omega) (by omega)).1; omega
  have hsm : p + s ≤ m := by have h := (sufL_spec a b p (by omega) (by omega)).2.1; omega
  have Hcl := Lib.hid (common_le a b)
  rw [hp, hs] at HE
  rw [hn] at hla Hu HE ⊢
  rw [hm] at hlb Hv HE ⊢
  have hun := Hu.out.cap
  have hvn := Hv.out.cap
  have hucn : n ≤ uc := hun.2
  have hvcm : m ≤ vc := hvn.2
  have hs1 := run_sub uo n uc p (n - s) (by omega) (by omega)
  have hs2 := run_sub vo m vc p (m - s) (by omega) (by omega)
  have e1 : (n : Int) - (s : Int) = ((n - s : Nat) : Int) := by omega
  have e2 : (m : Int) - (s : Int) = ((m - s : Nat) : Int) := by omega
  have Ht1 := Lib.hid (texts_sub Hu.out p (n - s) (by omega) (by omega))
  have Ht2 := Lib.hid (texts_sub Hv.out p (m - s) (by omega) (by omega))
  have HM1 : Hid ((a.drop p).take (n - s - p) = midL a p s) := by show _ = _; rw [midL, hn]
  have HM2 : Hid ((b.drop p).take (m - s - p) = midL b p s) := by show _ = _; rw [midL, hm]
  rw [HM1.out] at Ht1
  rw [HM2.out] at Ht2
  clear hn hm hp hs hun hvn HM1 HM2
  go_enter Try.func12, Try.ntmps12
  go_wp2_with fail
  refine HE.out.mono ?_
  rintro e w1 ⟨rfl, hb1⟩
  have B1 := Lib.hid hb1
  clear hb1
  go_wp2_with fail
  refine (run_any _ [] 0 0 p w1.heap.size w1 (ownP_nil _ _) (Nat.le_refl _) (by simp; omega) (by omega) (by omega)).mono ?_
  rintro e w2 ⟨p1, rfl, ho2, hb2⟩
  have HO2 := Lib.hid ho2
  have B2 := Lib.hid hb2
  clear ho2 hb2
  go_upto_region 4 with fail
  go_cut [36, 37, 38] from 28 to 38 (fun pv nv zv wx => OwnP wx w2.heap.size pv (stayL (midL a p s) (midL b p s)) ∧ nv = .int .i64 ((stayL (midL a p s) (midL b p s)).length : Int) ∧ zv = .int .i64 0 ∧ Below w2.heap.size w2 wx)
  case first =>
    go_region_with (go_at_call 26; refine (stay_any _ _ _ _ _ (Ht1.out.kept (below_drewN (below_join B1.out B2.out) _)) (Ht2.out.kept (below_drewN (below_join B1.out B2.out) _))).mono ?_; rintro e w3 ⟨pv, rfl, hpv, hpb⟩; have HPV := Lib.hid hpv; obtain ⟨po, pc, _, hpe, _⟩ := hpv.form; clear hpv; subst hpe)
    all_goals
      go_wp2_with fail
      go_meet
      exact ⟨HPV.out, rfl, rfl, below_join (a := w2) (b := w2.drewN 1) (below_drewN (Below.refl _ _) 1) hpb⟩
  case rest =>
    obtain ⟨hpv, rfl, rfl, hb3⟩ := hcut
    obtain ⟨po, pc, pb, rfl, hpo, hpm3, hpc⟩ := hpv.form
    obtain ⟨L, hL⟩ : ∃ L, stayL (midL a p s) (midL b p s) = L := ⟨_, rfl⟩
    have HPV := Lib.hid hpv
    have HPo := Lib.hid hpo
    have HPc := Lib.hid hpc
    have B3 := Lib.hid hb3
    have HL := Lib.hid hL
    have hLn : L.length + p + s ≤ n := by
      have h := Hcl.out.1
      rw [HC.out] at h
      simp only [commonAt, List.length_append, runL_len, shiftP_len, hL] at h
      have := Hn.out
      omega
    rw [hL] at HPV HPo HPc ⊢
    clear hpv hpo hpc hb3 hL hpm3
    obtain ⟨q, hq⟩ : ∃ q, L.length = q := ⟨_, rfl⟩
    have Hq := Lib.hid hq
    rw [hq] at hLn HPV HPo ⊢
    clear hq
    go_wp2_with fail
    go_loopw [9, 38] (fun qv kv wr => ∃ (k : Nat), k ≤ q ∧ kv = .int .i64 (k : Int) ∧ Hid (OwnP wr w1.heap.size qv (runL 0 0 p ++ shiftP p (L.take k))) ∧ Hid (OwnP wr w2.heap.size (.slice po q pc) L) ∧ Hid (Below w1.heap.size w1 wr) ∧ Hid (wc.heap.size ≤ wr.heap.size ∧ ∀ g, qv.ownBlock = some g → g < w2.heap.size ∨ wc.heap.size ≤ g)) (fun _ kv _ => q - (intOf kv).toNat)
    case atStart =>
      refine ⟨0, Nat.zero_le _, rfl, ?_, HPV, ?_, Nat.le_refl _, ?_⟩
      · show OwnP _ _ _ _
        have h := HO2.out.below B3.out
        simpa [shiftP] using h
      · exact below_join B2.out B3.out
      · intro g hg
        exact .inl (HO2.out.lt g hg).2
    case round =>
      obtain ⟨k, hk, rfl, HO, HP, HB, HS⟩ := hrel
      by_cases hlt : k < q
      · have hkl : k < L.length := by have := Hq.out; omega
        obtain ⟨po', pc', pb', hpe, hpo', _, hpc'⟩ := HP.out.form
        rw [Hq.out] at hpe hpo'
        cases hpe
        obtain rfl := hpo' (by omega)
        obtain ⟨c1, c2⟩ := hpc' k hkl
        have HT : Hid (L.take (k + 1) = L.take k ++ [L[k]'hkl]) := List.take_succ_eq_append_getElem hkl
        have Hx5 : Hid ((L[k]'hkl).1 < n ∧ (L[k]'hkl).2 < m) := by
          have h := paired_stay (midL a p s) (midL b p s)
          rw [HL.out] at h
          have h2 := paired_all h _ (List.getElem_mem hkl)
          rw [midL_len, midL_len, Hn.out, Hm.out] at h2
          exact ⟨by omega, by omega⟩
        obtain ⟨x, hx⟩ : ∃ x, L[k]'hkl = x := ⟨_, rfl⟩
        rw [hx] at c1 c2 HT Hx5
        obtain ⟨x1, x2⟩ := x
        obtain ⟨hx1, hx2⟩ := Hx5.out
        dsimp only at c1 c2 hx1 hx2
        have ki0 : (0 : Int) ≤ (k : Int) := by omega
        have ki1 : (k : Int) < (q : Int) := by omega
        clear hx hpo' hpc' Hx5
        have hal : Below wr.heap.size wr (wr.alloc (.cells #[.int .i64 (x1 : Int), .int .i64 (x2 : Int)] 39)) := (Below.refl _ _).alloc (Nat.le_refl _) _
        have hlen : (runL 0 0 p ++ shiftP p (L.take k)).length = p + k := by rw [List.length_append, runL_len, shiftP_len, List.length_take, Hq.out]; omega
        go_wp2_with (at_builtin; refine wpList_append_pair2 rfl _ _ rfl w1.heap.size u9 _ (p + x1, p + x2) rfl (HO.out.below hal) _ (wr.heap.size + 1) (by simp) rfl (by rw [hlen]; omega) (by have := HB.out.size; simp; omega) ?_)
        intro v' w' ho' hg' hv'
        have HO' := Lib.hid ho'
        have HG' := Lib.hid hg'
        have HV' := Lib.hid hv'
        clear ho' hg' hv'
        go_wp2_with fail
        go_roundw
        case rel =>
          refine ⟨k + 1, by omega, by go_num, ?_, ?_, ?_, ?_⟩
          · show OwnP _ _ _ _
            have h := HO'.out
            rw [HT.out, shiftP_snoc, ← List.append_assoc]
            rw [← List.append_assoc] at h
            exact h
          · show OwnP _ _ _ _
            refine own_grown (HP.out.below hal) HG'.out ?_
            intro g hg e
            have h1 := HP.out.lt g hg
            rcases HS.out.2 g e with h2 | h2
            · omega
            · have h3 : g < wc.heap.size := (HPV.out.lt g hg).2
              omega
          · exact (HB.out.trans (hal.mono HB.out.size)).grown HG'.out (by have := HB.out.size; simp; omega) (fun g hg => (HO.out.lt g hg).1)
          · refine ⟨Nat.le_trans HS.out.1 (Nat.le_trans hal.size HG'.out.size), fun g hg => ?_⟩
            rcases HV'.out g hg with h | h
            · exact HS.out.2 g h
            · have := hal.size
              exact .inr (by have := HS.out.1; omega)
        case measure => simp [intOf]; omega
      · obtain rfl : k = q := by omega
        have HT : Hid (L.take k = L) := List.take_of_length_le (by rw [Hq.out]; exact Nat.le_refl _)
        go_wp2_with fail
        refine (run_any _ _ (n - s) (m - s) s w1.heap.size _ HO.out HB.out.size ?_ (by omega) (by omega)).mono ?_
        · rw [List.length_append, runL_len, shiftP_len, HT.out, Hq.out]
          omega
        · rintro e w4 ⟨v4, rfl, ho4, hb4⟩
          have HO4 := Lib.hid ho4
          have HB4 := Lib.hid (HB.out.trans hb4)
          clear ho4 hb4
          go_wp2_with fail
          go_ret
          refine ⟨_, rfl, ?_, below_join B1.out HB4.out⟩
          have h := own_base HO4.out B1.out.size
          rw [HT.out] at h
          rw [HC.out, commonAt, HL.out, Hn.out, Hm.out]
          exact h
end Go.Proofs.Ytncamoafdimpcaa
