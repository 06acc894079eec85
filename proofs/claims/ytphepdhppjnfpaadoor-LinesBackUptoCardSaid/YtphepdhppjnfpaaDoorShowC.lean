import Derived.Test.YtphepdhppjnfpaaDoorShowB
namespace Go.Proofs.YtphepdhppjnfpaaDoor
open Go.RowKit Num

theorem extract_mid (u : ByteArray) (k : Nat) : (u.extract 1 (1 + k)).data.toList = (u.data.toList.drop 1).take k := by
  rw [Lib.extract_data]
  congr 1
  omega

set_option maxRecDepth 100000 in
set_option maxHeartbeats 8000000 in
theorem refShown_any (s : ByteArray) (w : World) (hs : s.size ≤ maxLen) :
    Calls Tryd.prog 19 #[.string s] w fun e w' => e = .returned (.tuple #[.string ⟨(shownT s.data.toList).toArray⟩, .string ⟨(shownR s.data.toList).toArray⟩, .int .i64 (shownE s.data.toList)]) ∧ Below w.heap.size w w' := by
  rcases takeE_cases s.data.toList with he | he
  · have HT := Lib.hid (take_some he)
    have He := Lib.hid he
    have hrange := take_range s.data.toList
    have hRl := takeR_len s.data.toList
    obtain ⟨n, hn⟩ : ∃ n, takeN s.data.toList = n := ⟨_, rfl⟩
    have Hn := Lib.hid hn
    rw [hn] at hrange
    obtain ⟨rl, hrl⟩ : ∃ rl, takeR s.data.toList = rl := ⟨_, rfl⟩
    have Hrl := Lib.hid hrl
    rw [hrl, Array.length_toList] at hRl
    obtain ⟨b, hb⟩ : ∃ b : ByteArray, (⟨rl.toArray⟩ : ByteArray) = b := ⟨_, rfl⟩
    have Hb := Lib.hid hb
    have hbl : b.data.toList = rl := by rw [← hb]
    have Hbl := Lib.hid hbl
    have hss : s.data.size = s.size := rfl
    have hbs : b.size ≤ s.size := by
      rw [← hb, size_mk]
      exact hRl
    obtain ⟨hr1, hr2⟩ := hrange
    clear he hn hrl hb hbl hss hRl
    unfold maxLen at hs
    have HTT : Hid (takeL s.data.toList = some (n, b.data.toList)) := by
      show _ = _
      rw [HT.out, Hn.out, Hrl.out, ← Hbl.out]
    by_cases hneg : n < 0
    · have HN : Hid (shownL s.data.toList = none) := by
        show _ = _
        cases hl : b.data.toList with
        | nil => exact shownL_nil (n := n) (by rw [HTT.out, hl])
        | cons c r => exact shownL_no (n := n) (c := c) (r := r) (by rw [HTT.out, hl]) (by rintro ⟨_, h, _⟩; omega)
      go_enter Tryd.func19, Tryd.ntmps19
      go_wp2_with fail
      refine (refTake_any _ _ (by unfold maxLen; omega)).mono ?_
      rintro e w1 ⟨rfl, hb1⟩
      rw [Hn.out, Hrl.out, He.out, Hb.out]
      go_wp2_with fail
      go_ret3
      exact ⟨sh_none HN.out, hb1⟩
    · obtain ⟨k, rfl⟩ : ∃ k : Nat, n = k := ⟨n.toNat, by omega⟩
      by_cases hp : 0 < b.size
      · have hbc : b.data.toList = b[0]'hp :: b.data.toList.drop 1 := by
          have h0 : b.data.toList[0]? = some (b[0]'hp) := List.getElem?_eq_getElem (by simpa using hp)
          cases hl : b.data.toList with
          | nil => rw [hl] at h0; cases h0
          | cons c r => rw [hl] at h0; cases h0; rfl
        have Hbc := Lib.hid hbc
        have hdl : (b.data.toList.drop 1).length = b.size - 1 := by rw [List.length_drop]; simp
        have Hdl := Lib.hid hdl
        clear hbc hdl
        have hlt256 : ((b[0]'hp).toNat : Int) < 256 := by have := (b[0]'hp).toNat_lt; omega
        by_cases h58 : ((b[0]'hp).toNat : Int) = 58
        · have e58 : (((b[0]'hp).toNat : Int) == 58) = true := by simp [h58]
          have e58' : (((b[0]'hp).toNat : Int) != 58) = false := by simp [h58]
          have H58 : Hid (b[0]'hp = 58) := by
            show _ = _
            apply UInt8.toNat.inj
            show _ = 58
            omega
          clear h58
          by_cases hk : k ≤ b.size - 1
          · have HS := Lib.hid (shownL_yes (l := s.data.toList) (n := k) (r := b.data.toList.drop 1) (by rw [HTT.out]; congr 2; rw [Hbc.out, H58.out]; rfl) (by rw [Hdl.out]; exact hk))
            go_enter Tryd.func19, Tryd.ntmps19
            go_wp2_with fail
            refine (refTake_any _ _ (by unfold maxLen; omega)).mono ?_
            rintro e w1 ⟨rfl, hb1⟩
            rw [Hn.out, Hrl.out, He.out, Hb.out]
            go_wp2_with fail
            go_quiet (fail)
            go_wp2
            go_ret3
            refine ⟨sh_some HS.out (extract_mid _ _) ?_, below_drewN hb1 _⟩
            rw [extract_drop, List.drop_drop]
          · have HN := Lib.hid (shownL_no (l := s.data.toList) (n := k) (c := b[0]'hp) (r := b.data.toList.drop 1) (HTT.out.trans (congrArg (fun l => some ((k : Int), l)) Hbc.out)) (by rintro ⟨_, _, h⟩; rw [Hdl.out] at h; simp at h; omega))
            go_enter Tryd.func19, Tryd.ntmps19
            go_wp2_with fail
            refine (refTake_any _ _ (by unfold maxLen; omega)).mono ?_
            rintro e w1 ⟨rfl, hb1⟩
            rw [Hn.out, Hrl.out, He.out, Hb.out]
            go_wp2_with fail
            go_ret3
            exact ⟨sh_none HN.out, hb1⟩
        · have e58 : (((b[0]'hp).toNat : Int) == 58) = false := by simp [h58]
          have e58' : (((b[0]'hp).toNat : Int) != 58) = true := by simp [h58]
          have HN := Lib.hid (shownL_no (l := s.data.toList) (n := k) (c := b[0]'hp) (r := b.data.toList.drop 1) (HTT.out.trans (congrArg (fun l => some ((k : Int), l)) Hbc.out)) (by rintro ⟨h, _⟩; exact h58 (by rw [h]; rfl)))
          clear h58
          go_enter Tryd.func19, Tryd.ntmps19
          go_wp2_with fail
          refine (refTake_any _ _ (by unfold maxLen; omega)).mono ?_
          rintro e w1 ⟨rfl, hb1⟩
          rw [Hn.out, Hrl.out, He.out, Hb.out]
          go_wp2_with fail
          go_ret3
          exact ⟨sh_none HN.out, hb1⟩
      · have HN : Hid (shownL s.data.toList = none) := by
          show _ = _
          have : b.data.toList = [] := by
            have h2 : b.data.toList.length = b.size := by simp
            exact List.eq_nil_of_length_eq_zero (by omega)
          exact shownL_nil (n := k) (by rw [HTT.out, this])
        go_enter Tryd.func19, Tryd.ntmps19
        go_wp2_with fail
        refine (refTake_any _ _ (by unfold maxLen; omega)).mono ?_
        rintro e w1 ⟨rfl, hb1⟩
        rw [Hn.out, Hrl.out, He.out, Hb.out]
        go_wp2_with fail
        go_ret3
        exact ⟨sh_none HN.out, hb1⟩
  · have HN := Lib.hid (shownL_none (take_none he))
    have He := Lib.hid he
    clear he
    go_enter Tryd.func19, Tryd.ntmps19
    go_wp2_with fail
    refine (refTake_any _ _ hs).mono ?_
    rintro e w' ⟨rfl, hb⟩
    rw [He.out]
    go_wp2_with fail
    go_ret3
    exact ⟨sh_none HN.out, hb⟩
end Go.Proofs.YtphepdhppjnfpaaDoor
