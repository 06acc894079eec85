/- Own work: slices.stableCmpFunc, SortStableFunc, Clone at lines; ident.Sorted. -/
import Derived.Test.YtaconebkgajicaaStabE
namespace Go.Proofs.Ytaconebkgajicaa
open Go.RowKit Go.Sort Go.Shelf

theorem merge_any : ∀ (L blk off cap a m b : Nat) (d : Array TL) (w : World), b - a < L → HoldsK encT 4 w blk off d → blk < w.heap.size → a < m → m < b → b ≤ d.size → d.size < 4611686018427387904 → SortedIn PT a m d → SortedIn PT m b d → Lo tgT d a m b →
      Calls Try.prog 30 #[.slice (some ⟨blk, off, none⟩) d.size cap, .int .i64 a, .int .i64 m, .int .i64 b, fvT] w (SymP w blk off a b d)
  | 0, _, _, _, _, _, _, _, _, h, _, _, _, _, _, _, _, _, _ => absurd h (Nat.not_lt_zero _)
  | L + 1, blk, off, cap, a, m, b, d, w, hL, hH, hblk, h1, h2, h3, hsz, hs1, hs2, hlo => by
    by_cases hm : m = a + 1
    · subst hm
      exact merge_one blk off cap a b d w hH hblk h2 h3 hsz hs2 hlo
    · by_cases hb : b = m + 1
      · subst hb
        exact merge_last blk off cap a m d w hH hblk (by omega) h3 hsz hs1 hlo
      · exact merge_gen L (merge_any L) blk off cap a m b d w hL hH hblk (by omega) (by omega) h3 hsz hs1 hs2 hlo

/-- blocks of s places each, up to the place n: each is sorted, and holds what it held at first -/
structure Runs (s n : Nat) (d : Array TL) : Prop where
  srt : ∀ i j, i < j → j < n → i / s = j / s → PT d[j]! d[i]! = false
  tag : ∀ t, t < n → tgT d[t]! / s = t / s
/-- half way: blocks of 2s places ahead of c, blocks of s places from c on -/
structure Half (s c n : Nat) (d : Array TL) : Prop where
  srt2 : ∀ i j, i < j → j < n → j < c → i / (2 * s) = j / (2 * s) → PT d[j]! d[i]! = false
  srt1 : ∀ i j, i < j → j < n → c ≤ i → i / s = j / s → PT d[j]! d[i]! = false
  tag2 : ∀ t, t < n → tgT d[t]! / (2 * s) = t / (2 * s)
  tag1 : ∀ t, t < n → c ≤ t → tgT d[t]! / s = t / s
theorem div_two (x s : Nat) : x / (2 * s) = x / s / 2 := by rw [Nat.mul_comm, Nat.div_div_eq_div_mul]
theorem Runs.half {s n : Nat} {d : Array TL} (h : Runs s n d) : Half s 0 n d :=
  ⟨fun i j _ _ h2 _ => absurd h2 (Nat.not_lt_zero _), fun i j h1 h2 _ h4 => h.srt i j h1 h2 h4, fun t ht => by rw [div_two, div_two, h.tag t ht], fun t ht _ => h.tag t ht⟩
theorem blk_at {s c t : Nat} (h1 : c * s ≤ t) (h2 : t < c * s + s) : t / s = c := Nat.div_eq_of_lt_le h1 (by rw [Nat.succ_mul]; exact h2)
theorem blk_in {s c t : Nat} (hs : 0 < s) (h : t / s = c) : c * s ≤ t ∧ t < c * s + s := by
  subst h
  have h1 := Nat.div_mul_le_self t s
  have h2 := Nat.lt_div_mul_add hs (a := t)
  exact ⟨h1, by omega⟩
/-- two blocks that are to be merged -/
theorem Half.merge {s y n e : Nat} {d : Array TL} (h : Half s (y * (2 * s)) n d) (hs : 0 < s) (he : e ≤ n) (he2 : e ≤ y * (2 * s) + 2 * s) (hm : y * (2 * s) + s < e) :
    SortedIn PT (y * (2 * s)) (y * (2 * s) + s) d ∧ SortedIn PT (y * (2 * s) + s) e d ∧ Lo tgT d (y * (2 * s)) (y * (2 * s) + s) e := by
  have e1 : y * (2 * s) = (2 * y) * s := by rw [Nat.mul_comm 2 y, Nat.mul_assoc]
  have e2 : y * (2 * s) + s = (2 * y + 1) * s := by rw [e1]; exact (Nat.succ_mul _ _).symm
  refine ⟨fun i j k1 k2 k3 => ?_, fun i j k1 k2 k3 => ?_, fun i j k1 k2 k3 k4 => ?_⟩
  · refine h.srt1 i j k2 (by omega) k1 ?_
    rw [blk_at (c := 2 * y) (by omega) (by omega), blk_at (c := 2 * y) (by omega) (by omega)]
  · refine h.srt1 i j k2 (by omega) (by omega) ?_
    rw [blk_at (c := 2 * y + 1) (by omega) (by omega), blk_at (c := 2 * y + 1) (by omega) (by omega)]
  · have h1 := h.tag1 i (by omega) k1
    have h2 := h.tag1 j (by omega) (by omega)
    rw [blk_at (s := s) (c := 2 * y) (t := i) (by omega) (by omega)] at h1
    rw [blk_at (s := s) (c := 2 * y + 1) (t := j) (by omega) (by omega)] at h2
    have a1 := (blk_in hs h1).2
    have a2 := (blk_in hs h2).1
    omega
/-- .. and that are merged -/
theorem Half.next {s y n e : Nat} {d d' : Array TL} (h : Half s (y * (2 * s)) n d) (hs : 0 < s) (hn : n ≤ d.size) (he : e ≤ n) (he2 : e = y * (2 * s) + 2 * s ∨ e = n ∧ n ≤ y * (2 * s) + 2 * s) (hp : PermIn (y * (2 * s)) e d d') (hso : SortedIn PT (y * (2 * s)) e d') :
    Half s ((y + 1) * (2 * s)) n d' := by
  have e1 : (y + 1) * (2 * s) = y * (2 * s) + 2 * s := Nat.succ_mul _ _
  have hin : ∀ t, y * (2 * s) ≤ t → t < e → t / (2 * s) = y := fun t h1 h2 => blk_at h1 (by omega)
  have hout : ∀ t, t < n → ¬ (y * (2 * s) ≤ t ∧ t < e) → d'[t]! = d[t]! := fun t _ h2 => hp.2.1 t (by omega)
  refine ⟨fun i j k1 k2 k3 k4 => ?_, fun i j k1 k2 k3 k4 => ?_, fun t k1 => ?_, fun t k1 k2 => ?_⟩
  · by_cases hj : j < y * (2 * s)
    · rw [hout i (by omega) (by omega), hout j k2 (by omega)]
      exact h.srt2 i j k1 k2 hj k4
    · have hje : j < e := by omega
      have hiy : y * (2 * s) ≤ i := by
        rw [hin j (by omega) hje] at k4
        exact (blk_in (by omega) k4).1
      exact hso i j hiy k1 hje
  · rw [hout i (by omega) (by omega), hout j k2 (by omega)]
    exact h.srt1 i j k1 k2 (by omega) k4
  · by_cases ht : y * (2 * s) ≤ t ∧ t < e
    · have := permIn_all d d' (y * (2 * s)) e (fun z => tgT z / (2 * s) = y) (by omega) hp (fun i i1 i2 => by rw [h.tag2 i (by omega)]; exact hin i i1 i2) t ht.1 ht.2
      rw [this, hin t ht.1 ht.2]
    · rw [hout t k1 ht]; exact h.tag2 t k1
  · rw [hout t k1 (by omega)]; exact h.tag1 t k1 (by omega)
theorem Half.done {s y n : Nat} {d : Array TL} (h : Half s (y * (2 * s)) n d) (hn : n ≤ y * (2 * s)) : Runs (2 * s) n d :=
  ⟨fun i j k1 k2 k3 => h.srt2 i j k1 k2 (by omega) k3, h.tag2⟩
theorem Half.single {s y n : Nat} {d : Array TL} (h : Half s (y * (2 * s)) n d) (hs : 0 < s) (hn : n ≤ y * (2 * s) + s) : Runs (2 * s) n d := by
  have e1 : y * (2 * s) = (2 * y) * s := by rw [Nat.mul_comm 2 y, Nat.mul_assoc]
  refine ⟨fun i j k1 k2 k3 => ?_, h.tag2⟩
  by_cases hj : j < y * (2 * s)
  · exact h.srt2 i j k1 k2 hj k3
  · have hjy : j / (2 * s) = y := blk_at (by omega) (by omega)
    rw [hjy] at k3
    have hi := (blk_in (by omega) k3).1
    refine h.srt1 i j k1 k2 hi ?_
    rw [blk_at (c := 2 * y) (by omega) (by omega), blk_at (c := 2 * y) (by omega) (by omega)]
theorem Runs.whole {s n : Nat} {d : Array TL} (h : Runs s n d) (hn : n ≤ s) : SortedIn PT 0 n d :=
  fun i j _ k2 k3 => h.srt i j k2 k3 (by rw [Nat.div_eq_of_lt (by omega), Nat.div_eq_of_lt (by omega)])
/-- the blocks ahead of c are sorted, all else stands as at first -/
structure Part (c n : Nat) (d : Array TL) : Prop where
  srt : ∀ i j, i < j → j < n → j < c → i / 20 = j / 20 → PT d[j]! d[i]! = false
  tag : ∀ t, t < n → tgT d[t]! / 20 = t / 20
  raw : ∀ t, t < n → c ≤ t → tgT d[t]! = t
theorem Part.start {n : Nat} {d : Array TL} (h : ∀ t, t < n → tgT d[t]! = t) : Part 0 n d :=
  ⟨fun i j _ _ h _ => absurd h (Nat.not_lt_zero _), fun t ht => by rw [h t ht], fun t ht _ => h t ht⟩
theorem Part.next {y n e : Nat} {d : Array TL} (h : Part (y * 20) n d) (hn : n ≤ d.size) (he : e ≤ n) (he2 : e = y * 20 + 20 ∨ e = n ∧ n ≤ y * 20 + 20) (hm : y * 20 ≤ e) : PermIn 0 n d (insertionSort ltT d (y * 20) e) ∧ Part ((y + 1) * 20) n (insertionSort ltT d (y * 20) e) := by
  obtain ⟨hp, hso⟩ := block_sorted (tg := tgT) ltT_swo d (y * 20) e hm (by omega) (fun s t k1 k2 k3 => by rw [h.raw s (by omega) k1, h.raw t (by omega) (by omega)]; exact k2)
  refine ⟨permIn_mono _ _ _ _ 0 n (Nat.zero_le _) he hn hp, ?_⟩
  generalize insertionSort ltT d (y * 20) e = d' at hp hso
  have hout : ∀ t, t < n → ¬ (y * 20 ≤ t ∧ t < e) → d'[t]! = d[t]! := fun t _ h2 => hp.2.1 t (by omega)
  refine ⟨fun i j k1 k2 k3 k4 => ?_, fun t k1 => ?_, fun t k1 k2 => ?_⟩
  · by_cases hj : j < y * 20
    · rw [hout i (by omega) (by omega), hout j k2 (by omega)]
      exact h.srt i j k1 k2 hj k4
    · exact hso i j (by omega) k1 (by omega)
  · by_cases ht : y * 20 ≤ t ∧ t < e
    · have := permIn_all d d' (y * 20) e (fun z => tgT z / 20 = y) (by omega) hp (fun i i1 i2 => by rw [h.tag i (by omega)]; omega) t ht.1 ht.2
      rw [this]; omega
    · rw [hout t k1 ht]; exact h.tag t k1
  · rw [hout t k1 (by omega)]; exact h.raw t k1 (by omega)
theorem Part.done {c n : Nat} {d : Array TL} (h : Part c n d) (hc : n ≤ c) : Runs 20 n d := ⟨fun i j k1 k2 k3 => h.srt i j k1 k2 (by omega) k3, h.tag⟩

set_option maxHeartbeats 64000000 in
set_option maxRecDepth 100000 in
theorem stable_any (blk off cap : Nat) (d : Array TL) (w : World) (hH : HoldsK encT 4 w blk off d) (hblk : blk < w.heap.size) (hsz : d.size < 1152921504606846976) (htag : ∀ t, t < d.size → tgT d[t]! = t) :
    Calls Try.prog 28 #[.slice (some ⟨blk, off, none⟩) d.size cap, .int .i64 d.size, fvT] w (SymP w blk off 0 d.size d) := by
  have HH := Lib.hid hH
  have HS := Lib.hid (SWK.start hH)
  have Htag := Lib.hid htag
  obtain ⟨N, hN⟩ : ∃ N, d.size = N := ⟨_, rfl⟩
  have HN := Lib.hid hN
  rw [hN] at hsz Htag ⊢
  clear hH hN htag
  go_enter Try.func28, Try.ntmps28
  go_wp2_with fail
  go_loopw [7, 8] (fun u v wr => ∃ (y A : Nat) (dk : Array TL), u = .int .i64 A ∧ v = .int .i64 ((A : Int) + 20) ∧ A = y * 20 ∧ A ≤ N ∧ SWK encT 4 w blk off dk wr ∧ Hid (PermIn 0 N d dk) ∧ Hid (Part (y * 20) N dk)) (fun u v _ => N + 20 - (intOf u).toNat)
  case atStart => exact ⟨0, 0, d, rfl, rfl, rfl, Nat.zero_le _, HS.out, permIn_refl _ _ _, Part.start Htag.out⟩
  case round =>
    obtain ⟨y, A, dk, rfl, rfl, hA, hAN, hS, HP, HQ⟩ := hrel
    have HK := Lib.hid hS
    have hds : dk.size = N := HP.out.1.trans HN.out
    obtain ⟨hHk, hbk⟩ := swk_holds hS HH.out hblk (hds.trans HN.out.symm)
    have HHk := Lib.hid hHk
    clear hS hHk
    by_cases hle : A + 20 ≤ N
    · as_aux_lemma =>
      have hlez : (A : Int) + 20 ≤ (N : Int) := by omega
      have hc := ins_any blk off cap A (A + 20) dk wr HHk.out hbk (by omega) (by omega) (by omega)
      rw [hds] at hc
      rw [show ((A + 20 : Nat) : Int) = (A : Int) + 20 by omega] at hc
      have Hc := Lib.hid hc
      clear hc
      obtain ⟨f1, f2⟩ := HQ.out.next (e := A + 20) (by omega) hle (.inl (by omega)) (by omega)
      rw [← hA] at f1 f2
      have F1 := Lib.hid (permIn_trans _ _ _ _ _ HP.out f1)
      have F2 := Lib.hid f2
      obtain ⟨dd, hdd⟩ : ∃ dd, insertionSort ltT dk A (A + 20) = dd := ⟨_, rfl⟩
      rw [hdd] at F1 F2 Hc
      have HA := Lib.hid hA
      clear f1 f2 hdd hA
      go_wp2_with fail
      refine Hc.out.mono ?_
      rintro en w2 ⟨rfl, hk2⟩
      have HK2 := Lib.hid (swk_on HK.out hblk hk2 (by have := F1.out.1; have := HN.out; omega))
      clear hk2
      go_wp2_with fail
      go_roundw
      case rel => exact ⟨y + 1, A + 20, dd, rfl, by congr 1, by have := HA.out; omega, hle, HK2.out, F1.out, F2.out⟩
      case measure => simp [intOf]; omega
    · as_aux_lemma =>
      have hlez : ¬ (A : Int) + 20 ≤ (N : Int) := by omega
      have hc := ins_any blk off cap A N dk wr HHk.out hbk hAN (by omega) (by omega)
      rw [hds] at hc
      have Hc := Lib.hid hc
      clear hc
      obtain ⟨f1, f2⟩ := HQ.out.next (e := N) (by omega) (Nat.le_refl _) (.inr ⟨rfl, by omega⟩) (by omega)
      rw [← hA] at f1 f2
      have F1 := Lib.hid (permIn_trans _ _ _ _ _ HP.out f1)
      have F2 := Lib.hid (f2.done (by omega))
      obtain ⟨dd, hdd⟩ : ∃ dd, insertionSort ltT dk A N = dd := ⟨_, rfl⟩
      rw [hdd] at F1 F2 Hc
      clear f1 f2 hdd hA
      go_wp2_with fail
      refine Hc.out.mono ?_
      rintro en w2 ⟨rfl, hk2⟩
      have HK2 := Lib.hid (swk_on HK.out hblk hk2 (by have := F1.out.1; have := HN.out; omega))
      clear hk2 HK HQ HP HHk hbk
      clear Hc
      go_wp2_with fail
      go_loopw [6] (fun u wr => ∃ (s : Nat) (dk : Array TL), u = .int .i64 s ∧ 20 ≤ s ∧ s ≤ 2 * N + 20 ∧ SWK encT 4 w blk off dk wr ∧ Hid (PermIn 0 N d dk) ∧ Hid (Runs s N dk)) (fun u _ => N - (intOf u).toNat)
      case atStart => exact ⟨20, dd, rfl, Nat.le_refl _, by omega, HK2.out, F1.out, F2.out⟩
      case round =>
        obtain ⟨s, dk, rfl, hs1, hs2, hS, HP, HR⟩ := hrel
        have HK := Lib.hid hS
        clear hS
        by_cases hlt : s < N
        rotate_left
        · have hltz : ¬ (s : Int) < (N : Int) := by omega
          go_wp2_with fail
          go_end0
          have hz := HR.out.whole (by omega)
          exact ⟨rfl, dk, HK.out, HP.out, hz⟩
        · have hltz : (s : Int) < (N : Int) := by omega
          obtain ⟨D, hD⟩ : ∃ D, 2 * s = D := ⟨_, rfl⟩
          have hDz : (2 : Int) * (s : Int) = (D : Int) := by omega
          have hDz2 : (s : Int) * 2 = (D : Int) := by omega
          have HH0 := Lib.hid HR.out.half
          clear HR
          go_wp2_with fail
          go_loopw [7, 8] (fun u v wr => ∃ (y A : Nat) (dk : Array TL), u = .int .i64 A ∧ v = .int .i64 ((A : Int) + (D : Int)) ∧ Hid (A = y * (2 * s)) ∧ A ≤ N ∧ SWK encT 4 w blk off dk wr ∧ Hid (PermIn 0 N d dk) ∧ Hid (Half s (y * (2 * s)) N dk)) (fun u v _ => N + D - (intOf u).toNat)
          case atStart => exact ⟨0, 0, dk, rfl, by simp, (show 0 = 0 * (2 * s) by simp), Nat.zero_le _, HK.out, HP.out, (show Half s (0 * (2 * s)) N dk by rw [Nat.zero_mul]; exact HH0.out)⟩
          case round =>
            obtain ⟨y, A, dk, rfl, rfl, HA, hAN, hS, HP, HQ⟩ := hrel
            have HK := Lib.hid hS
            have hds : dk.size = N := HP.out.1.trans HN.out
            obtain ⟨hHk, hbk⟩ := swk_holds hS HH.out hblk (hds.trans HN.out.symm)
            have HHk := Lib.hid hHk
            clear hS hHk
            obtain ⟨M, hM⟩ : ∃ M, A + s = M := ⟨_, rfl⟩
            have hMz : (A : Int) + (s : Int) = (M : Int) := by omega
            obtain ⟨B, hB⟩ : ∃ B, A + D = B := ⟨_, rfl⟩
            have hBz : (A : Int) + (D : Int) = (B : Int) := by omega
            by_cases hle : B ≤ N
            · as_aux_lemma =>
              have hlez : (B : Int) ≤ (N : Int) := by omega
              have hA := HA.out
              obtain ⟨m1, m2, m3⟩ := HQ.out.merge (e := B) (by omega) hle (by omega) (by omega)
              rw [← hA, hM] at m1 m2 m3
              have hc := merge_any (B - A + 1) blk off cap A M B dk wr (by omega) HHk.out hbk (by omega) (by omega) (by omega) (by omega) m1 m2 m3
              rw [hds] at hc
              have Hc := Lib.hid hc
              clear hc m1 m2 m3 hA
              go_wp2_with fail
              refine Hc.out.mono ?_
              rintro en w2 ⟨rfl, d2, hk2, hp2, hs2⟩
              have hA := HA.out
              rw [hA] at hp2 hs2
              have HQ2 := Lib.hid (HQ.out.next (e := B) (by omega) (by omega) hle (.inl (by omega)) hp2 hs2)
              have HP2 := Lib.hid (permIn_trans _ _ _ _ _ HP.out (permIn_mono dk d2 _ _ 0 N (Nat.zero_le _) hle (by omega) hp2))
              have HK2 := Lib.hid (swk_on HK.out hblk hk2 hp2.1)
              have HA2 : Hid (B = (y + 1) * (2 * s)) := by show _ = _; rw [Nat.succ_mul, ← hA]; omega
              clear hk2 hp2 hs2 hA
              go_wp2_with fail
              go_roundw
              case rel => exact ⟨y + 1, B, d2, rfl, rfl, HA2.out, hle, HK2.out, HP2.out, HQ2.out⟩
              case measure => simp [intOf]; omega
            · as_aux_lemma =>
              have hlez : ¬ (B : Int) ≤ (N : Int) := by omega
              by_cases hmn : M < N
              · have hmnz : (M : Int) < (N : Int) := by omega
                have hA := HA.out
                obtain ⟨m1, m2, m3⟩ := HQ.out.merge (e := N) (by omega) (Nat.le_refl _) (by omega) (by omega)
                rw [← hA, hM] at m1 m2 m3
                have hc := merge_any (N - A + 1) blk off cap A M N dk wr (by omega) HHk.out hbk (by omega) hmn (by omega) (by omega) m1 m2 m3
                rw [hds] at hc
                have Hc := Lib.hid hc
                clear hc m1 m2 m3 hA
                go_wp2_with fail
                refine Hc.out.mono ?_
                rintro en w2 ⟨rfl, d2, hk2, hp2, hs2⟩
                have hA := HA.out
                rw [hA] at hp2 hs2
                have hnx := HQ.out.next (e := N) (by omega) (by omega) (Nat.le_refl _) (.inr ⟨rfl, by omega⟩) hp2 hs2
                have HQ2 := Lib.hid (hnx.done (by rw [Nat.succ_mul, ← hA]; omega))
                have HP2 := Lib.hid (permIn_trans _ _ _ _ _ HP.out (permIn_mono dk d2 _ _ 0 N (Nat.zero_le _) (Nat.le_refl _) (by omega) hp2))
                have HK2 := Lib.hid (swk_on HK.out hblk hk2 hp2.1)
                rw [hD] at HQ2
                clear hk2 hp2 hs2 hA hnx
                go_wp2_with fail
                go_roundw
                case rel => exact ⟨D, d2, rfl, by omega, by omega, HK2.out, HP2.out, HQ2.out⟩
                case measure => simp [intOf]; omega
              · have hmnz : ¬ (M : Int) < (N : Int) := by omega
                have HQ2 := Lib.hid (HQ.out.single (by omega) (by have := HA.out; omega))
                rw [hD] at HQ2
                go_wp2_with fail
                go_roundw
                case rel => exact ⟨D, dk, rfl, by omega, by omega, HK.out, HP.out, HQ2.out⟩
                case measure => simp [intOf]; omega
end Go.Proofs.Ytaconebkgajicaa
