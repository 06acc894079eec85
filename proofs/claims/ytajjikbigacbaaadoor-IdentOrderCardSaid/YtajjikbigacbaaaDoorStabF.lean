/- Own work: slices.stableCmpFunc, SortStableFunc, Clone at lines; ident.Sorted. -/
import Derived.Test.YtajjikbigacbaaaDoorStabE
import Derived.Lib.SliceRun
namespace Go.Proofs.YtajjikbigacbaaaDoor
open Go.RowKit Go.Sort Go.Shelf

theorem merge_any : ∀ (L blk off cap a m b : Nat) (d : Array TL) (w : World), b - a < L → HoldsK encT 4 w blk off d → blk < w.heap.size → a < m → m < b → b ≤ d.size → d.size < 4611686018427387904 → SortedIn PT a m d → SortedIn PT m b d → Lo tgT d a m b →
      Calls Tryd.prog 59 #[.slice (some ⟨blk, off, none⟩) d.size cap, .int .i64 a, .int .i64 m, .int .i64 b, fvT] w (SymP w blk off a b d)
  | 0, _, _, _, _, _, _, _, _, h, _, _, _, _, _, _, _, _, _ => absurd h (Nat.not_lt_zero _)
  | L + 1, blk, off, cap, a, m, b, d, w, hL, hH, hblk, h1, h2, h3, hsz, hs1, hs2, hlo => by
    by_cases hm : m = a + 1
    · subst hm
      exact merge_one blk off cap a b d w hH hblk h2 h3 hsz hs2 hlo
    · by_cases hb : b = m + 1
      · subst hb
        exact merge_last blk off cap a m d w hH hblk (by omega) h3 hsz hs1 hlo
      · exact merge_gen L (merge_any L) blk off cap a m b d w hL hH hblk (by omega) (by omega) h3 hsz hs1 hs2 hlo

/-- blocks of s places each, up to the place n: each is sorted, and holds what it held at first -/
structure Runs (s n : Nat) (d : Array TL) : Prop where
  srt : ∀ i j, i < j → j < n → i / s = j / s → PT d[j]! d[i]! = false
  tag : ∀ t, t < n → tgT d[t]! / s = t / s
/-- half way: blocks of 2s places ahead of c, blocks of s places from c on -/
structure Half (s c n : Nat) (d : Array TL) : Prop where
  srt2 : ∀ i j, i < j → j < n → j < c → i / (2 * s) = j / (2 * s) → PT d[j]! d[i]! = false
  srt1 : ∀ i j, i < j → j < n → c ≤ i → i / s = j / s → PT d[j]! d[i]! = false
  tag2 : ∀ t, t < n → tgT d[t]! / (2 * s) = t / (2 * s)
  tag1 : ∀ t, t < n → c ≤ t → tgT d[t]! / s = t / s
theorem div_two (x s : Nat) : x / (2 * s) = x / s / 2 := by rw [Nat.mul_comm, Nat.div_div_eq_div_mul]
theorem Runs.half {s n : Nat} {d : Array TL} (h : Runs s n d) : Half s 0 n d :=
  ⟨fun i j _ _ h2 _ => absurd h2 (Nat.not_lt_zero _), fun i j h1 h2 _ h4 => h.srt i j h1 h2 h4, fun t ht => by rw [div_two, div_two, h.tag t ht], fun t ht _ => h.tag t ht⟩
theorem blk_at {s c t : Nat} (h1 : c * s ≤ t) (h2 : t < c * s + s) : t / s = c := Nat.div_eq_of_lt_le h1 (by rw [Nat.succ_mul]; exact h2)
theorem blk_in {s c t : Nat} (hs : 0 < s) (h : t / s = c) : c * s ≤ t ∧ t < c * s + s := by
  subst h
  have h1 := Nat.div_mul_le_self t s
  have h2 := Nat.lt_div_mul_add hs (a := t)
  exact ⟨h1, by omega⟩
/-- two blocks that are to be merged -/
theorem Half.merge {s y n e : Nat} {d : Array TL} (h : Half s (y * (2 * s)) n d) (hs : 0 < s) (he : e ≤ n) (he2 : e ≤ y * (2 * s) + 2 * s) (hm : y * (2 * s) + s < e) :
    SortedIn PT (y * (2 * s)) (y * (2 * s) + s) d ∧ SortedIn PT (y * (2 * s) + s) e d ∧ Lo tgT d (y * (2 * s)) (y * (2 * s) + s) e := by
  have e1 : y * (2 * s) = (2 * y) * s := by rw [Nat.mul_comm 2 y, Nat.mul_assoc]
  have e2 : y * (2 * s) + s = (2 * y + 1) * s := by rw [e1]; exact (Nat.succ_mul _ _).symm
  refine ⟨fun i j k1 k2 k3 => ?_, fun i j k1 k2 k3 => ?_, fun i j k1 k2 k3 k4 => ?_⟩
  · refine h.srt1 i j k2 (by omega) k1 ?_
    rw [blk_at (c := 2 * y) (by omega) (by omega), blk_at (c := 2 * y) (by omega) (by omega)]
  · refine h.srt1 i j k2 (by omega) (by omega) ?_
    rw [blk_at (c := 2 * y + 1) (by omega) (by omega), blk_at (c := 2 * y + 1) (by omega) (by omega)]
  · have h1 := h.tag1 i (by omega) k1
    have h2 := h.tag1 j (by omega) (by omega)
    rw [blk_at (s := s) (c := 2 * y) (t := i) (by omega) (by omega)] at h1
    rw [blk_at (s := s) (c := 2 * y + 1) (t := j) (by omega) (by omega)] at h2
    have a1 := (blk_in hs h1).2
    have a2 := (blk_in hs h2).1
    omega
/-- .. and that are merged -/
theorem Half.next {s y n e : Nat} {d d' : Array TL} (h : Half s (y * (2 * s)) n d) (hs : 0 < s) (hn : n ≤ d.size) (he : e ≤ n) (he2 : e = y * (2 * s) + 2 * s ∨ e = n ∧ n ≤ y * (2 * s) + 2 * s) (hp : PermIn (y * (2 * s)) e d d') (hso : SortedIn PT (y * (2 * s)) e d') :
    Half s ((y + 1) * (2 * s)) n d' := by
  have e1 : (y + 1) * (2 * s) = y * (2 * s) + 2 * s := Nat.succ_mul _ _
  have hin : ∀ t, y * (2 * s) ≤ t → t < e → t / (2 * s) = y := fun t h1 h2 => blk_at h1 (by omega)
  have hout : ∀ t, t < n → ¬ (y * (2 * s) ≤ t ∧ t < e) → d'[t]! = d[t]! := fun t _ h2 => hp.2.1 t (by omega)
  refine ⟨fun i j k1 k2 k3 k4 => ?_, fun i j k1 k2 k3 k4 => ?_, fun t k1 => ?_, fun t k1 k2 => ?_⟩
  · by_cases hj : j < y * (2 * s)
    · rw [hout i (by omega) (by omega), hout j k2 (by omega)]
      exact h.srt2 i j k1 k2 hj k4
    · have hje : j < e := by omega
      have hiy : y * (2 * s) ≤ i := by
        rw [hin j (by omega) hje] at k4
        exact (blk_in (by omega) k4).1
      exact hso i j hiy k1 hje
  · rw [hout i (by omega) (by omega), hout j k2 (by omega)]
    exact h.srt1 i j k1 k2 (by omega) k4
  · by_cases ht : y * (2 * s) ≤ t ∧ t < e
    · have := permIn_all d d' (y * (2 * s)) e (fun z => tgT z / (2 * s) = y) (by omega) hp (fun i i1 i2 => by rw [h.tag2 i (by omega)]; exact hin i i1 i2) t ht.1 ht.2
      rw [this, hin t ht.1 ht.2]
    · rw [hout t k1 ht]; exact h.tag2 t k1
  · rw [hout t k1 (by omega)]; exact h.tag1 t k1 (by omega)
theorem Half.done {s y n : Nat} {d : Array TL} (h : Half s (y * (2 * s)) n d) (hn : n ≤ y * (2 * s)) : Runs (2 * s) n d :=
  ⟨fun i j k1 k2 k3 => h.srt2 i j k1 k2 (by omega) k3, h.tag2⟩
theorem Half.single {s y n : Nat} {d : Array TL} (h : Half s (y * (2 * s)) n d) (hs : 0 < s) (hn : n ≤ y * (2 * s) + s) : Runs (2 * s) n d := by
  have e1 : y * (2 * s) = (2 * y) * s := by rw [Nat.mul_comm 2 y, Nat.mul_assoc]
  refine ⟨fun i j k1 k2 k3 => ?_, h.tag2⟩
  by_cases hj : j < y * (2 * s)
  · exact h.srt2 i j k1 k2 hj k3
  · have hjy : j / (2 * s) = y := blk_at (by omega) (by omega)
    rw [hjy] at k3
    have hi := (blk_in (by omega) k3).1
    refine h.srt1 i j k1 k2 hi ?_
    rw [blk_at (c := 2 * y) (by omega) (by omega), blk_at (c := 2 * y) (by omega) (by omega)]
theorem Runs.whole {s n : Nat} {d : Array TL} (h : Runs s n d) (hn : n ≤ s) : SortedIn PT 0 n d :=
  fun i j _ k2 k3 => h.srt i j k2 k3 (by rw [Nat.div_eq_of_lt (by omega), Nat.div_eq_of_lt (by omega)])
/-- the blocks ahead of c are sorted, all else stands as at first -/
structure Part (c n : Nat) (d : Array TL) : Prop where
  srt : ∀ i j, i < j → j < n → j < c → i / 20 = j / 20 → PT d[j]! d[i]! = false
  tag : ∀ t, t < n → tgT d[t]! / 20 = t / 20
  raw : ∀ t, t < n → c ≤ t → tgT d[t]! = t
theorem Part.start {n : Nat} {d : Array TL} (h : ∀ t, t < n → tgT d[t]! = t) : Part 0 n d :=
  ⟨fun i j _ _ h _ => absurd h (Nat.not_lt_zero _), fun t ht => by rw [h t ht], fun t ht _ => h t ht⟩
theorem Part.next {y n e : Nat} {d : Array TL} (h : Part (y * 20) n d) (hn : n ≤ d.size) (he : e ≤ n) (he2 : e = y * 20 + 20 ∨ e = n ∧ n ≤ y * 20 + 20) (hm : y * 20 ≤ e) : PermIn 0 n d (insertionSort ltT d (y * 20) e) ∧ Part ((y + 1) * 20) n (insertionSort ltT d (y * 20) e) := by
  obtain ⟨hp, hso⟩ := block_sorted (tg := tgT) ltT_swo d (y * 20) e hm (by omega) (fun s t k1 k2 k3 => by rw [h.raw s (by omega) k1, h.raw t (by omega) (by omega)]; exact k2)
  refine ⟨permIn_mono _ _ _ _ 0 n (Nat.zero_le _) he hn hp, ?_⟩
  generalize insertionSort ltT d (y * 20) e = d' at hp hso
  have hout : ∀ t, t < n → ¬ (y * 20 ≤ t ∧ t < e) → d'[t]! = d[t]! := fun t _ h2 => hp.2.1 t (by omega)
  refine ⟨fun i j k1 k2 k3 k4 => ?_, fun t k1 => ?_, fun t k1 k2 => ?_⟩
  · by_cases hj : j < y * 20
    · rw [hout i (by omega) (by omega), hout j k2 (by omega)]
      exact h.srt i j k1 k2 hj k4
    · exact hso i j (by omega) k1 (by omega)
  · by_cases ht : y * 20 ≤ t ∧ t < e
    · have := permIn_all d d' (y * 20) e (fun z => tgT z / 20 = y) (by omega) hp (fun i i1 i2 => by rw [h.tag i (by omega)]; omega) t ht.1 ht.2
      rw [this]; omega
    · rw [hout t k1 ht]; exact h.tag t k1
  · rw [hout t k1 (by omega)]; exact h.raw t k1 (by omega)
theorem Part.done {c n : Nat} {d : Array TL} (h : Part c n d) (hc : n ≤ c) : Runs 20 n d := ⟨fun i j k1 k2 k3 => h.srt i j k1 k2 (by omega) k3, h.tag⟩

set_option maxHeartbeats 64000000 in
set_option maxRecDepth 100000 in
theorem stable_any (blk off cap : Nat) (d : Array TL) (w : World) (hH : HoldsK encT 4 w blk off d) (hblk : blk < w.heap.size) (hsz : d.size < 1152921504606846976) (htag : ∀ t, t < d.size → tgT d[t]! = t) :
    Calls Tryd.prog 43 #[.slice (some ⟨blk, off, none⟩) d.size cap, .int .i64 d.size, fvT] w (SymP w blk off 0 d.size d) := by
  have HH := Lib.hid hH
  have HS := Lib.hid (SWK.start hH)
  have Htag := Lib.hid htag
  obtain ⟨N, hN⟩ : ∃ N, d.size = N := ⟨_, rfl⟩
  have HN := Lib.hid hN
  rw [hN] at hsz Htag ⊢
  clear hH hN htag
  go_enter Tryd.func43, Tryd.ntmps43
  go_wp2_with fail
  go_loopw [7, 8] (fun u v wr => ∃ (y A : Nat) (dk : Array TL), u = .int .i64 A ∧ v = .int .i64 ((A : Int) + 20) ∧ A = y * 20 ∧ A ≤ N ∧ SWK encT 4 w blk off dk wr ∧ Hid (PermIn 0 N d dk) ∧ Hid (Part (y * 20) N dk)) (fun u v _ => N + 20 - (intOf u).toNat)
  case atStart => exact ⟨0, 0, d, rfl, rfl, rfl, Nat.zero_le _, HS.out, permIn_refl _ _ _, Part.start Htag.out⟩
  case round =>
    obtain ⟨y, A, dk, rfl, rfl, hA, hAN, hS, HP, HQ⟩ := hrel
    have HK := Lib.hid hS
    have hds : dk.size = N := HP.out.1.trans HN.out
    obtain ⟨hHk, hbk⟩ := swk_holds hS HH.out hblk (hds.trans HN.out.symm)
    have HHk := Lib.hid hHk
    clear hS hHk
    by_cases hle : A + 20 ≤ N
    · as_aux_lemma =>
      have hlez : (A : Int) + 20 ≤ (N : Int) := by omega
      have hc := ins_any blk off cap A (A + 20) dk wr HHk.out hbk (by omega) (by omega) (by omega)
      rw [hds] at hc
      rw [show ((A + 20 : Nat) : Int) = (A : Int) + 20 by omega] at hc
      have Hc := Lib.hid hc
      clear hc
      obtain ⟨f1, f2⟩ := HQ.out.next (e := A + 20) (by omega) hle (.inl (by omega)) (by omega)
      rw [← hA] at f1 f2
      have F1 := Lib.hid (permIn_trans _ _ _ _ _ HP.out f1)
      have F2 := Lib.hid f2
      obtain ⟨dd, hdd⟩ : ∃ dd, insertionSort ltT dk A (A + 20) = dd := ⟨_, rfl⟩
      rw [hdd] at F1 F2 Hc
      have HA := Lib.hid hA
      clear f1 f2 hdd hA
      go_wp2_with fail
      refine Hc.out.mono ?_
      rintro en w2 ⟨rfl, hk2⟩
      have HK2 := Lib.hid (swk_on HK.out hblk hk2 (by have := F1.out.1; have := HN.out; omega))
      clear hk2
      go_wp2_with fail
      go_roundw
      case rel => exact ⟨y + 1, A + 20, dd, rfl, by congr 1, by have := HA.out; omega, hle, HK2.out, F1.out, F2.out⟩
      case measure => simp [intOf]; omega
    · as_aux_lemma =>
      have hlez : ¬ (A : Int) + 20 ≤ (N : Int) := by omega
      have hc := ins_any blk off cap A N dk wr HHk.out hbk hAN (by omega) (by omega)
      rw [hds] at hc
      have Hc := Lib.hid hc
      clear hc
      obtain ⟨f1, f2⟩ := HQ.out.next (e := N) (by omega) (Nat.le_refl _) (.inr ⟨rfl, by omega⟩) (by omega)
      rw [← hA] at f1 f2
      have F1 := Lib.hid (permIn_trans _ _ _ _ _ HP.out f1)
      have F2 := Lib.hid (f2.done (by omega))
      obtain ⟨dd, hdd⟩ : ∃ dd, insertionSort ltT dk A N = dd := ⟨_, rfl⟩
      rw [hdd] at F1 F2 Hc
      clear f1 f2 hdd hA
      go_wp2_with fail
      refine Hc.out.mono ?_
      rintro en w2 ⟨rfl, hk2⟩
      have HK2 := Lib.hid (swk_on HK.out hblk hk2 (by have := F1.out.1; have := HN.out; omega))
      clear hk2 HK HQ HP HHk hbk
      clear Hc
      go_wp2_with fail
      go_loopw [6] (fun u wr => ∃ (s : Nat) (dk : Array TL), u = .int .i64 s ∧ 20 ≤ s ∧ s ≤ 2 * N + 20 ∧ SWK encT 4 w blk off dk wr ∧ Hid (PermIn 0 N d dk) ∧ Hid (Runs s N dk)) (fun u _ => N - (intOf u).toNat)
      case atStart => exact ⟨20, dd, rfl, Nat.le_refl _, by omega, HK2.out, F1.out, F2.out⟩
      case round =>
        obtain ⟨s, dk, rfl, hs1, hs2, hS, HP, HR⟩ := hrel
        have HK := Lib.hid hS
        clear hS
        by_cases hlt : s < N
        rotate_left
        · have hltz : ¬ (s : Int) < (N : Int) := by omega
          go_wp2_with fail
          go_end0
          have hz := HR.out.whole (by omega)
          exact ⟨rfl, dk, HK.out, HP.out, hz⟩
        · have hltz : (s : Int) < (N : Int) := by omega
          obtain ⟨D, hD⟩ : ∃ D, 2 * s = D := ⟨_, rfl⟩
          have hDz : (2 : Int) * (s : Int) = (D : Int) := by omega
          have hDz2 : (s : Int) * 2 = (D : Int) := by omega
          have HH0 := Lib.hid HR.out.half
          clear HR
          go_wp2_with fail
          go_loopw [7, 8] (fun u v wr => ∃ (y A : Nat) (dk : Array TL), u = .int .i64 A ∧ v = .int .i64 ((A : Int) + (D : Int)) ∧ Hid (A = y * (2 * s)) ∧ A ≤ N ∧ SWK encT 4 w blk off dk wr ∧ Hid (PermIn 0 N d dk) ∧ Hid (Half s (y * (2 * s)) N dk)) (fun u v _ => N + D - (intOf u).toNat)
          case atStart => exact ⟨0, 0, dk, rfl, by simp, (show 0 = 0 * (2 * s) by simp), Nat.zero_le _, HK.out, HP.out, (show Half s (0 * (2 * s)) N dk by rw [Nat.zero_mul]; exact HH0.out)⟩
          case round =>
            obtain ⟨y, A, dk, rfl, rfl, HA, hAN, hS, HP, HQ⟩ := hrel
            have HK := Lib.hid hS
            have hds : dk.size = N := HP.out.1.trans HN.out
            obtain ⟨hHk, hbk⟩ := swk_holds hS HH.out hblk (hds.trans HN.out.symm)
            have HHk := Lib.hid hHk
            clear hS hHk
            obtain ⟨M, hM⟩ : ∃ M, A + s = M := ⟨_, rfl⟩
            have hMz : (A : Int) + (s : Int) = (M : Int) := by omega
            obtain ⟨B, hB⟩ : ∃ B, A + D = B := ⟨_, rfl⟩
            have hBz : (A : Int) + (D : Int) = (B : Int) := by omega
            by_cases hle : B ≤ N
            · as_aux_lemma =>
              have hlez : (B : Int) ≤ (N : Int) := by omega
              have hA := HA.out
              obtain ⟨m1, m2, m3⟩ := HQ.out.merge (e := B) (by omega) hle (by omega) (by omega)
              rw [← hA, hM] at m1 m2 m3
              have hc := merge_any (B - A + 1) blk off cap A M B dk wr (by omega) HHk.out hbk (by omega) (by omega) (by omega) (by omega) m1 m2 m3
              rw [hds] at hc
              have Hc := Lib.hid hc
              clear hc m1 m2 m3 hA
              go_wp2_with fail
              refine Hc.out.mono ?_
              rintro en w2 ⟨rfl, d2, hk2, hp2, hs2⟩
              have hA := HA.out
              rw [hA] at hp2 hs2
              have HQ2 := Lib.hid (HQ.out.next (e := B) (by omega) (by omega) hle (.inl (by omega)) hp2 hs2)
              have HP2 := Lib.hid (permIn_trans _ _ _ _ _ HP.out (permIn_mono dk d2 _ _ 0 N (Nat.zero_le _) hle (by omega) hp2))
              have HK2 := Lib.hid (swk_on HK.out hblk hk2 hp2.1)
              have HA2 : Hid (B = (y + 1) * (2 * s)) := by show _ = _; rw [Nat.succ_mul, ← hA]; omega
              clear hk2 hp2 hs2 hA
              go_wp2_with fail
              go_roundw
              case rel => exact ⟨y + 1, B, d2, rfl, rfl, HA2.out, hle, HK2.out, HP2.out, HQ2.out⟩
              case measure => simp [intOf]; omega
            · as_aux_lemma =>
              have hlez : ¬ (B : Int) ≤ (N : Int) := by omega
              by_cases hmn : M < N
              · have hmnz : (M : Int) < (N : Int) := by omega
                have hA := HA.out
                obtain ⟨m1, m2, m3⟩ := HQ.out.merge (e := N) (by omega) (Nat.le_refl _) (by omega) (by omega)
                rw [← hA, hM] at m1 m2 m3
                have hc := merge_any (N - A + 1) blk off cap A M N dk wr (by omega) HHk.out hbk (by omega) hmn (by omega) (by omega) m1 m2 m3
                rw [hds] at hc
                have Hc := Lib.hid hc
                clear hc m1 m2 m3 hA
                go_wp2_with fail
                refine Hc.out.mono ?_
                rintro en w2 ⟨rfl, d2, hk2, hp2, hs2⟩
                have hA := HA.out
                rw [hA] at hp2 hs2
                have hnx := HQ.out.next (e := N) (by omega) (by omega) (Nat.le_refl _) (.inr ⟨rfl, by omega⟩) hp2 hs2
                have HQ2 := Lib.hid (hnx.done (by rw [Nat.succ_mul, ← hA]; omega))
                have HP2 := Lib.hid (permIn_trans _ _ _ _ _ HP.out (permIn_mono dk d2 _ _ 0 N (Nat.zero_le _) (Nat.le_refl _) (by omega) hp2))
                have HK2 := Lib.hid (swk_on HK.out hblk hk2 hp2.1)
                rw [hD] at HQ2
                clear hk2 hp2 hs2 hA hnx
                go_wp2_with fail
                go_roundw
                case rel => exact ⟨D, d2, rfl, by omega, by omega, HK2.out, HP2.out, HQ2.out⟩
                case measure => simp [intOf]; omega
              · have hmnz : ¬ (M : Int) < (N : Int) := by omega
                have HQ2 := Lib.hid (HQ.out.single (by omega) (by have := HA.out; omega))
                rw [hD] at HQ2
                go_wp2_with fail
                go_roundw
                case rel => exact ⟨D, dk, rfl, by omega, by omega, HK.out, HP.out, HQ2.out⟩
                case measure => simp [intOf]; omega
end Go.Proofs.YtajjikbigacbaaaDoor
/- Own work: slices.Clone, SortStableFunc at lines; ident.Sorted. -/
namespace Go.Proofs.YtajjikbigacbaaaDoor
open Go.RowKit Go.Sort Go.Shelf

theorem flatK_list (d : Array TL) : (flatK encT 4 d).toList = flatL (d.toList.map Prod.fst) := by
  apply List.ext_getElem?
  intro t
  by_cases ht : t < d.size * 4
  · have e1 : (flatK encT 4 d).toList[t]? = some ((flatK encT 4 d)[t]!) := by
      rw [getElem!_pos _ t (by simpa using ht)]
      simp [ht]
    rw [e1, get_flatK _ _ _ _ ht]
    obtain ⟨q, r, hr, rfl⟩ : ∃ q r, r < 4 ∧ t = q * 4 + r := ⟨t / 4, t % 4, by omega, by omega⟩
    have hq : q < d.size := by omega
    rw [show (q * 4 + r) / 4 = q by omega, show (q * 4 + r) % 4 = r by omega]
    obtain ⟨f0, f1, f2, f3⟩ := flatL_get (d.toList.map Prod.fst) q (by simpa using hq)
    have hx : (d.toList.map Prod.fst)[q]'(by simpa using hq) = (d[q]!).1 := by rw [getElem!_pos d q hq]; simp
    rw [hx] at f0 f1 f2 f3
    match r, hr with
    | 0, _ => rw [Nat.add_zero, f0]; rfl
    | 1, _ => rw [f1]; rfl
    | 2, _ => rw [f2]; rfl
    | 3, _ => rw [f3]; rfl
  · rw [List.getElem?_eq_none (by simpa using Nat.le_of_not_lt ht), List.getElem?_eq_none (by rw [flatL_len]; simpa using Nat.le_of_not_lt ht)]
/-- the lines, each with its place -/
def tagged (l : List LineV) : Array TL := l.zipIdx.toArray
theorem tagged_size (l : List LineV) : (tagged l).size = l.length := by simp [tagged]
theorem tagged_fst (l : List LineV) : (tagged l).toList.map Prod.fst = l := by simp [tagged]
theorem tagged_tag (l : List LineV) : ∀ t, t < (tagged l).size → tgT (tagged l)[t]! = t := by
  intro t ht
  rw [getElem!_pos _ t ht]
  simp [tagged, tgT]
theorem own_holds {w : World} {B g n cap : Nat} {e : TypeId} {l : List LineV} (h : w.ownsRow B e 4 (.slice (some ⟨g, 0, none⟩) n cap) n (flatL l)) : HoldsK encT 4 w g 0 (tagged l) ∧ g < w.heap.size := by
  rcases h.2 with ⟨e, _⟩ | ⟨g', cap', cur, hv, _, hg, hnc, hcm, _, htake⟩
  · cases e
  · cases hv
    refine ⟨fun j hj => ⟨?_, by simp [World.frozen?, hg]⟩, (Array.getElem?_eq_some_iff.1 hg).1⟩
    have hj2 : j < (tagged l).size * 4 := by simpa using hj
    have hn : n = l.length := by have := h.1; rw [flatL_len] at this; omega
    rw [tagged_size, ← hn] at hj2
    have h1 := h.cellAt j (by omega)
    rw [Nat.zero_add, h1]
    have h2 : flatL l = (flatK encT 4 (tagged l)).toList := by rw [flatK_list, tagged_fst]
    rw [h2, id, getElem!_pos _ j hj]
    simp
theorem swk_block {w W : World} {g : Nat} {d : Array TL} {cur : Array Value} {e : TypeId} (h : SWK encT 4 w g 0 d W) (hg : w.heap[g]? = some (.cells cur e (0, 0))) : W.heap[g]? = some (.cells (putCells id 0 (flatK encT 4 d) cur) e (0, 0)) := by
  obtain ⟨n, os, rfl⟩ := h
  have hlt := (Array.getElem?_eq_some_iff.1 hg).1
  unfold sortWorldK
  rw [heap_grow_old _ _ (by rw [size_putRowK]; exact hlt)]
  unfold putRowK putRow mapBlock
  simp only [Sort.ahead, Array.getElem?_modify, if_true, hg, Option.map_some, onCells]
theorem swk_grown {w W : World} {g : Nat} {d : Array TL} (h : SWK encT 4 w g 0 d W) : w.grownBy W (some g) := by
  obtain ⟨n, os, rfl⟩ := h
  refine ⟨rfl, rfl, rfl, (SWK.le ⟨n, os, rfl⟩), fun k hk hne => ?_⟩
  unfold sortWorldK
  rw [heap_grow_old _ _ (by rw [size_putRowK]; exact hk)]
  unfold putRowK putRow mapBlock
  have : ¬ g = k := fun e => hne (by rw [e])
  simp [Sort.ahead, Array.getElem?_modify, this]
theorem own_sorted {w W : World} {B g n cap : Nat} {e : TypeId} {xs : List Value} {d : Array TL} (h : w.ownsRow B e 4 (.slice (some ⟨g, 0, none⟩) n cap) n xs) (hs : SWK encT 4 w g 0 d W) (hd : d.size = n) :
    W.ownsRow B e 4 (.slice (some ⟨g, 0, none⟩) n cap) n (flatL (d.toList.map Prod.fst)) := by
  rcases h.2 with ⟨e, _⟩ | ⟨g', cap', cur, hv, hB, hg, hnc, hcm, hsz, htake⟩
  · cases e
  · cases hv
    refine ⟨by rw [flatL_len]; simp [hd], .inr ⟨g, cap, _, rfl, hB, swk_block hs hg, hnc, hcm, by simp [putCells, hsz], ?_⟩⟩
    rw [← flatK_list]
    apply List.ext_getElem?
    intro k
    by_cases hk : k < n * 4
    · have hk2 : k < cur.size := by rw [hsz]; omega
      have hk3 : k < d.size * 4 := by omega
      have hk4 : k < (flatK encT 4 d).size := by simpa using hk3
      rw [List.getElem?_take_of_lt hk]
      simp [putCells, hk2, hk3]
    · rw [List.getElem?_eq_none (by simp; omega), List.getElem?_eq_none (by simp [hd]; omega)]

theorem own_none4 {W : World} {B H : Nat} {e : TypeId} (h : W.heap[H]? = some (.cells #[] e (0, 0))) (hB : B ≤ H) : W.ownsRow B e 4 (.slice (some ⟨H, 0, none⟩) 0 0) 0 [] :=
  ⟨rfl, .inr ⟨H, 0, #[], rfl, hB, h, Nat.le_refl _, Nat.zero_le _, rfl, rfl⟩⟩
/-- the lines in order: equals as they stood -/
def Stable (l out : List LineV) : Prop := ∃ os : List TL, os.Perm l.zipIdx ∧ os.Pairwise (fun x y => PT y x = false) ∧ out = os.map Prod.fst
theorem Stable.length {l out : List LineV} (h : Stable l out) : out.length = l.length := by
  obtain ⟨os, h1, _, rfl⟩ := h
  simpa using h1.length_eq
theorem Stable.one {l a b : List LineV} (h : Stable l a) (k : Stable l b) : a = b := by
  obtain ⟨os, h1, h2, rfl⟩ := h
  obtain ⟨ps, k1, k2, rfl⟩ := k
  congr 1
  refine List.Perm.eq_of_pairwise (le := fun x y => PT y x = false) (fun x y hx hy h3 h4 => ?_) h2 k2 (h1.trans k1.symm)
  have hx := (h1.mem_iff).1 hx
  have hy := (k1.mem_iff).1 hy
  rw [pB_f] at h3 h4
  have e : x.2 = y.2 := by
    rcases h3.2 with h | h
    · rw [h4.1] at h; cases h
    · rcases h4.2 with h' | h'
      · rw [h3.1] at h'; cases h'
      · exact Nat.le_antisymm h h'
  obtain ⟨x1, x2⟩ := x
  obtain ⟨y1, y2⟩ := y
  simp only at e
  subst e
  have a1 := (List.mem_zipIdx hx).2.2
  have a2 := (List.mem_zipIdx hy).2.2
  rw [a1, a2]
theorem stable_of {l : List LineV} {d : Array TL} (hp : PermIn 0 l.length (tagged l) d) (hs : SortedIn PT 0 l.length d) : Stable l (d.toList.map Prod.fst) := by
  have hsz : d.size = l.length := hp.1.trans (tagged_size l)
  refine ⟨d.toList, ?_, ?_, rfl⟩
  · have h := hp.2.2
    rw [Array.extract_eq_self_of_le (by omega), Array.extract_eq_self_of_le (by rw [tagged_size]; exact Nat.le_refl _)] at h
    simpa [tagged] using h
  · rw [List.pairwise_iff_getElem]
    intro i j hi hj hij
    have := hs i j (Nat.zero_le _) hij (by simpa [hsz] using hj)
    rw [getElem!_pos d i (by simpa using hi), getElem!_pos d j (by simpa using hj)] at this
    simpa using this

set_option maxHeartbeats 4000000 in
set_option maxRecDepth 100000 in
theorem clone_any (v : Value) (l : List LineV) (w : World) (hv : Lns w v l) (hf : SliceForm v) (hlen : l.length * 40 ≤ 140737488355328) :
    Calls Tryd.prog 28 #[v] w fun e w' => ∃ v', e = .returned v' ∧ w'.ownsRow w.heap.size 25 4 v' l.length (flatL l) ∧ Below w.heap.size w w' := by
  have q22 : ∀ (w : World) (a : Option Addr) (n c n' c' : Nat), (binOp .eql 31 (.slice a n c) (.slice none n' c')).run Tryd.prog w = .ok (.bool a.isNone) w := fun w a n c n' c' => Lib.run_eql_slice_nil w _ _ a n c n' c' Tryd.underlying31
  rcases hf with rfl | ⟨ad, m, cap, rfl⟩
  · have hl : l = [] := by
      rcases hv with ⟨_, _, _, h2⟩ | ⟨_, _, _, h1, _⟩
      · exact h2
      · cases h1
    subst hl
    go_enter Tryd.func28, Tryd.ntmps28
    go_wp2
    go_ret
    exact ⟨_, rfl, ⟨rfl, .inl ⟨rfl, rfl⟩⟩, Below.refl _ _⟩
  · have Hv := Lib.hid hv
    have hal : Below w.heap.size w (w.alloc (.cells #[] 25)) := (Below.refl _ _).alloc (Nat.le_refl _) _
    clear hv
    go_enter Tryd.func28, Tryd.ntmps28
    go_wp2_with (at_builtin; first
      | (refine wpList_append_lines rfl _ _ rfl w.heap.size _ 0 [] rfl (own_none4 (heap_alloc_new w _) (Nat.le_refl _)) _ l rfl (Hv.out.kept hal) (.inr ⟨_, _, _, rfl⟩) (by omega) (by simp) ?_
         intro v1 w1 hown1 hg1
         have B1 := Lib.hid (hal.grown hg1 (by simp) (fun q hq => by cases hq; exact Nat.le_refl _))
         have Hown1 := Lib.hid hown1
         clear hown1 hg1))
    go_ret
    exact ⟨_, rfl, by simpa using Hown1.out, B1.out⟩
end Go.Proofs.YtajjikbigacbaaaDoor
/- Own work: slices.SortStableFunc at lines; ident.Sorted. -/
namespace Go.Proofs.YtajjikbigacbaaaDoor
open Go.RowKit Go.Sort Go.Shelf

set_option maxHeartbeats 4000000 in
theorem ins_nil (w : World) : Calls Tryd.prog 58 #[.slice none 0 0, .int .i64 0, .int .i64 0, fvT] w fun e w' => e = .returned (.tuple #[]) ∧ w' = w := by
  go_enter Tryd.func58, Tryd.ntmps58
  go_wp2_with fail
  go_loop [8] (fun i => i = .int .i64 1) (fun _ => 0)
  case atStart => rfl
  case round =>
    subst hrel
    go_wp2_with fail
    go_end0
    exact ⟨rfl, rfl⟩
set_option maxHeartbeats 4000000 in
theorem stable_nil (w : World) : Calls Tryd.prog 43 #[.slice none 0 0, .int .i64 0, fvT] w fun e w' => e = .returned (.tuple #[]) ∧ w' = w := by
  go_enter Tryd.func43, Tryd.ntmps43
  go_wp2_with fail
  go_loop [7, 8] (fun u v => u = .int .i64 0 ∧ v = .int .i64 20) (fun _ _ => 0)
  case atStart => exact ⟨rfl, rfl⟩
  case round =>
    obtain ⟨rfl, rfl⟩ := hrel
    go_wp2_with fail
    refine (ins_nil _).mono ?_
    rintro e w1 ⟨rfl, rfl⟩
    go_wp2_with fail
    go_loop [6] (fun u => u = .int .i64 20) (fun _ => 0)
    case atStart => rfl
    case round =>
      subst hrel
      go_wp2_with fail
      go_end0
      exact ⟨rfl, rfl⟩
set_option maxHeartbeats 4000000 in
theorem sort_nil (w : World) : Calls Tryd.prog 29 #[.slice none 0 0, fvT] w fun e w' => e = .returned (.tuple #[]) ∧ w' = w := by
  go_enter Tryd.func29, Tryd.ntmps29
  go_wp2_with fail
  refine (stable_nil _).mono ?_
  rintro e w1 ⟨rfl, rfl⟩
  go_wp2_with fail
  go_end0
  exact ⟨rfl, rfl⟩
set_option maxHeartbeats 4000000 in
theorem sort_own (B g n cap : Nat) (l : List LineV) (e : TypeId) (w : World) (h : w.ownsRow B e 4 (.slice (some ⟨g, 0, none⟩) n cap) n (flatL l)) (hsz : n < 1152921504606846976) :
    Calls Tryd.prog 29 #[.slice (some ⟨g, 0, none⟩) n cap, fvT] w fun x w' => x = .returned (.tuple #[]) ∧ ∃ out, w'.ownsRow B e 4 (.slice (some ⟨g, 0, none⟩) n cap) n (flatL out) ∧ Stable l out ∧ w.grownBy w' (some g) := by
  obtain ⟨hH, hblk⟩ := own_holds h
  have hn : l.length = n := by have := h.1; rw [flatL_len] at this; omega
  have hs := stable_any g 0 cap (tagged l) w hH hblk (by rw [tagged_size, hn]; exact hsz) (tagged_tag l)
  rw [tagged_size, hn] at hs
  have Hs := Lib.hid hs
  have H := Lib.hid h
  have HN := Lib.hid hn
  clear h hH hs hn
  go_enter Tryd.func29, Tryd.ntmps29
  go_wp2_with fail
  refine Hs.out.mono ?_
  rintro x w1 ⟨rfl, d, hk, hp, hso⟩
  have G1 := Lib.hid (swk_grown hk)
  have O1 := Lib.hid (own_sorted H.out hk (hp.1.trans ((tagged_size l).trans HN.out)))
  rw [← HN.out] at hp hso
  have S1 := Lib.hid (stable_of hp hso)
  clear hk hp hso
  go_wp2_with fail
  go_end0
  exact ⟨rfl, _, O1.out, S1.out, G1.out⟩
theorem stable_empty : Stable [] [] := ⟨[], .refl _, .nil, rfl⟩
set_option maxHeartbeats 4000000 in
theorem sorted_any (v : Value) (l : List LineV) (w : World) (hv : Lns w v l) (hf : SliceForm v) (hlen : l.length * 40 ≤ 140737488355328) :
    Calls Tryd.prog 15 #[v] w fun e w' => ∃ v' out, e = .returned v' ∧ w'.ownsRow w.heap.size 25 4 v' l.length (flatL out) ∧ Stable l out ∧ Below w.heap.size w w' := by
  have Hc := Lib.hid (clone_any v l w hv hf hlen)
  go_enter Tryd.func15, Tryd.ntmps15
  go_wp2_with fail
  refine Hc.out.mono ?_
  rintro e w1 ⟨v1, rfl, ho, hb⟩
  have B1 := Lib.hid hb
  rcases Joins.ownsRow_forms ho with ⟨rfl, h0⟩ | ⟨g, cap, rfl⟩
  · have hl : l = [] := List.eq_nil_of_length_eq_zero h0
    subst hl
    have HO := Lib.hid ho
    clear ho hb
    go_wp2_with fail
    refine (sort_nil _).mono ?_
    rintro e w2 ⟨rfl, rfl⟩
    go_wp2_with fail
    go_ret
    exact ⟨_, _, rfl, HO.out, stable_empty, B1.out⟩
  · have hs := sort_own _ _ _ _ _ _ _ ho (by omega)
    have Hs := Lib.hid hs
    have hg := (ho.lt g rfl).1
    clear hs ho hb
    go_wp2_with fail
    refine Hs.out.mono ?_
    rintro e w2 ⟨rfl, out, ho2, hs2, hg2⟩
    have O2 := Lib.hid ho2
    have S2 := Lib.hid hs2
    have B2 := Lib.hid (B1.out.grown hg2 B1.out.size (fun q hq => by cases hq; exact hg))
    clear ho2 hs2 hg2
    go_wp2_with fail
    go_ret
    exact ⟨_, out, rfl, O2.out, S2.out, B2.out⟩
end Go.Proofs.YtajjikbigacbaaaDoor
