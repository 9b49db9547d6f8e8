/-
  The walks of word and of the reference's number.
-/
import Derived.Test.YtdfkkamafiiflaaKey
namespace Go.Proofs.Ytdfkkamafiiflaa
open Go.RowKit

set_option maxHeartbeats 2000000 in
theorem rnumber_calls (s : ByteArray) (i : Nat) (w : World) (hi : i < s.size) (hs : s.size ≤ 1048576) :
    Calls Try.prog 29 #[.string s, .int .i64 i] w fun e w' => e = .returned (.int .i64 (keyR (numberP (by8 s) i))) ∧ w' = w := by
  have HL : Hid ((by8 s).length = s.size) := by8_length s
  have h1 := le_runEnd isD (by8 s) i
  have h2 : runEnd isD (by8 s) i ≤ s.size := by rw [← by8_length]; exact runEnd_le (by rw [by8_length]; omega)
  have HP : Hid (numberP (by8 s) i = if numBad (by8 s) i (runEnd isD (by8 s) i) = true then (0, i) else (2, runEnd isD (by8 s) i)) := rfl
  obtain ⟨m, HM⟩ : ∃ m, Hid (runEnd isD (by8 s) i = m) := ⟨_, rfl⟩
  rw [HM.out] at h1 h2 HP
  generalize numberP (by8 s) i = p at HP
  go_enter Try.func29, Try.ntmps29
  go_upto_block 0 with fail
  go_cut [5] (fun s5 wd => s5 = .int .i64 m ∧ wd = w)
  case first =>
    go_wp2_with fail
    go_loop [5] (fun v => ∃ j : Nat, i ≤ j ∧ j ≤ s.size ∧ v = .int .i64 j ∧ Hid (runEnd isD (by8 s) j = m)) (fun v => s.size - (intOf v).toNat)
    case atStart => exact ⟨i, Nat.le_refl _, by omega, rfl, HM⟩
    case round =>
      obtain ⟨j, hkj, hj, rfl, HJ⟩ := hrel
      by_cases hlt2 : j < s.size
      · have hix := run_index_bt s j hlt2
        have hl : j < (by8 s).length := by rw [HL.out]; exact hlt2
        obtain ⟨d, hd⟩ : ∃ d, d = bt (by8 s) j := ⟨_, rfl⟩
        rw [← hd] at hix
        by_cases h9 : isD d = true
        · have HE : Hid (runEnd isD (by8 s) (j + 1) = m) := by
            show _ = _
            rw [← HJ.out]
            exact (runEnd_step hl (by rw [← hd]; exact h9)).symm
          clear hd HJ
          go_wp2_with (go_at_call 15; refine (rdigit_calls _ _).mono ?_; rintro e w' ⟨rfl, rfl⟩; rw [h9])
          go_round
          case rel => exact ⟨j + 1, by omega, by omega, by go_num, HE⟩
          case measure => simp [intOf]; omega
        · have h9 : isD d = false := by simpa using h9
          have HE : Hid (m = j) := by
            show _ = _
            rw [← HJ.out, runEnd_stop hl (by rw [← hd]; exact h9)]
          clear hd HJ
          go_wp2_with (go_at_call 15; refine (rdigit_calls _ _).mono ?_; rintro e w' ⟨rfl, rfl⟩; rw [h9])
          go_meet
          exact ⟨by rw [HE.out], rfl⟩
      · have HE : Hid (m = j) := by
          show _ = _
          rw [← HJ.out, runEnd_out (by rw [HL.out]; omega)]
        clear HJ
        go_wp2
        go_meet
        exact ⟨by rw [HE.out], rfl⟩
  case rest =>
    obtain ⟨rfl, rfl⟩ := hcut
    have hix := run_index_bt s i hi
    by_cases h4 : 4 < m - i
    · have HP2 : Hid (p = (0, i)) := by have := HP.out; rwa [if_pos (numBad_long h4)] at this
      have h5 : (4 : Int) < (m : Int) - i := by omega
      clear HP h4 HM hix
      go_wp2_with fail
      go_ret
      exact ⟨by rw [HP2.out]; rfl, rfl⟩
    · by_cases h6 : 1 < m - i ∧ (bt (by8 s) i == 48) = true
      · have HP2 : Hid (p = (0, i)) := by have := HP.out; rwa [if_pos (numBad_zero h6.1 h6.2)] at this
        have h5 : ¬ (4 : Int) < (m : Int) - i := by omega
        have h7 : (1 : Int) < (m : Int) - i := by omega
        have h8 := h6.2
        clear HP h4 HM h6
        generalize bt (by8 s) i = c at hix h8
        go_wp2_with fail
        go_ret
        exact ⟨by rw [HP2.out]; rfl, rfl⟩
      · have h7 : ((bt (by8 s) i == 48) = true ∧ ¬ 1 < m - i) ∨ (bt (by8 s) i == 48) = false := by
          cases h : (bt (by8 s) i == 48)
          · exact .inr rfl
          · exact .inl ⟨rfl, fun h' => h6 ⟨h', h⟩⟩
        have h7' : ¬ 1 < m - i ∨ (bt (by8 s) i == 48) = false := h7.imp And.right id
        have h5 : ¬ (4 : Int) < (m : Int) - i := by omega
        by_cases h8 : m < s.size
        · have hix2 := run_index_bt s m h8
          have h8l : m < (by8 s).length := by rw [HL.out]; exact h8
          by_cases h9 : isL (bt (by8 s) m) = true
          · have HP2 : Hid (p = (0, i)) := by have := HP.out; rwa [if_pos (numBad_tail h8l h9)] at this
            clear HP h4 HM h6 h7' h8l
            generalize bt (by8 s) m = d at hix2 h9
            generalize bt (by8 s) i = c at hix h7
            rcases h7 with ⟨h10, h7⟩ | h10
            · have h7 : ¬ (1 : Int) < (m : Int) - i := by omega
              go_wp2_with (go_at_call 14; refine (letter_calls _ _).mono ?_; rintro e w' ⟨rfl, rfl⟩; rw [h9])
              go_ret
              exact ⟨by rw [HP2.out]; rfl, rfl⟩
            · go_wp2_with (go_at_call 14; refine (letter_calls _ _).mono ?_; rintro e w' ⟨rfl, rfl⟩; rw [h9])
              go_ret
              exact ⟨by rw [HP2.out]; rfl, rfl⟩
          · have h9 : isL (bt (by8 s) m) = false := by simpa using h9
            have HP2 : Hid (p = (2, m)) := by have := HP.out; rwa [numBad_not h4 h7' (.inr h9), if_neg (by simp)] at this
            clear HP h4 HM h6 h7' h8l
            generalize bt (by8 s) m = d at hix2 h9
            generalize bt (by8 s) i = c at hix h7
            rcases h7 with ⟨h10, h7⟩ | h10
            · have h7 : ¬ (1 : Int) < (m : Int) - i := by omega
              go_wp2_with (go_at_call 14; refine (letter_calls _ _).mono ?_; rintro e w' ⟨rfl, rfl⟩; rw [h9])
              go_ret
              exact ⟨by rw [HP2.out]; rfl, rfl⟩
            · go_wp2_with (go_at_call 14; refine (letter_calls _ _).mono ?_; rintro e w' ⟨rfl, rfl⟩; rw [h9])
              go_ret
              exact ⟨by rw [HP2.out]; rfl, rfl⟩
        · have h8l : ¬ m < (by8 s).length := by rw [HL.out]; exact h8
          have HP2 : Hid (p = (2, m)) := by have := HP.out; rwa [numBad_not h4 h7' (.inl h8l), if_neg (by simp)] at this
          clear HP h4 HM h6 h7' h8l
          generalize bt (by8 s) i = c at hix h7
          rcases h7 with ⟨h10, h7⟩ | h10
          · have h7 : ¬ (1 : Int) < (m : Int) - i := by omega
            go_wp2_with fail
            go_ret
            exact ⟨by rw [HP2.out]; rfl, rfl⟩
          · go_wp2_with fail
            go_ret
            exact ⟨by rw [HP2.out]; rfl, rfl⟩

theorem isS_parts {c : Int} (h : isS c = true) : (c == 58) = true ∨ ((c == 58) = false ∧ (c == 124) = true) ∨ ((c == 58) = false ∧ (c == 124) = false ∧ (c == 59) = true) := by
  unfold isS at h
  cases h1 : (c == 58) <;> cases h2 : (c == 124) <;> cases h3 : (c == 59) <;> simp_all
theorem isS_none {c : Int} (h : isS c = false) : (c == 58) = false ∧ (c == 124) = false ∧ (c == 59) = false := by
  unfold isS at h
  cases h1 : (c == 58) <;> cases h2 : (c == 124) <;> cases h3 : (c == 59) <;> simp_all

set_option maxHeartbeats 2000000 in
theorem word_calls (s : ByteArray) (i : Nat) (w : World) (hi : i < s.size) (hs : s.size ≤ 1048576) :
    Calls Try.prog 17 #[.string s, .int .i64 i] w fun e w' => e = ansW (wordP (by8 s) i) ∧ w' = w := by
  have hix := run_index_bt s i hi
  have HN : Hid (∀ W : World, Calls Try.prog 23 #[.string s, .int .i64 i] W fun e w' => e = ansW (nameP (by8 s) i) ∧ w' = W) := fun W => name_calls s i W (by omega) hs
  have HD : Hid (∀ W : World, Calls Try.prog 24 #[.string s, .int .i64 i] W fun e w' => e = ansW (numberP (by8 s) i) ∧ w' = W) := fun W => number_calls s i W hi hs
  have HK : Hid (∀ W : World, Calls Try.prog 25 #[.string s, .int .i64 i] W fun e w' => e = ansW (keyP (by8 s) i) ∧ w' = W) := fun W => key_calls s i W hi hs
  by_cases h1 : isL (bt (by8 s) i) = true
  · have HP : Hid (wordP (by8 s) i = nameP (by8 s) i) := wordP_name h1
    generalize wordP (by8 s) i = p at HP
    generalize nameP (by8 s) i = r at HP HN
    generalize bt (by8 s) i = c at hix h1
    clear HD HK
    go_enter Try.func17, Try.ntmps17
    go_wp2_with (first | (go_at_call 12; refine (begins_calls _ _).mono ?_; rintro e w' ⟨rfl, rfl⟩; rw [h1]) | (go_at_call 23; refine (HN.out _).mono ?_; rintro e w' ⟨rfl, rfl⟩; unfold ansW))
    go_ret2
    exact ⟨by rw [HP.out]; rfl, rfl⟩
  · have h1 : isL (bt (by8 s) i) = false := by simpa using h1
    by_cases h2 : isD (bt (by8 s) i) = true
    · have HP : Hid (wordP (by8 s) i = numberP (by8 s) i) := wordP_num h1 h2
      generalize wordP (by8 s) i = p at HP
      generalize numberP (by8 s) i = r at HP HD
      generalize bt (by8 s) i = c at hix h1 h2
      clear HN HK
      go_enter Try.func17, Try.ntmps17
      go_wp2_with (first | (go_at_call 12; refine (begins_calls _ _).mono ?_; rintro e w' ⟨rfl, rfl⟩; rw [h1]) | (go_at_call 20; refine (digit_calls _ _).mono ?_; rintro e w' ⟨rfl, rfl⟩; rw [h2]) | (go_at_call 24; refine (HD.out _).mono ?_; rintro e w' ⟨rfl, rfl⟩; unfold ansW))
      go_ret2
      exact ⟨by rw [HP.out]; rfl, rfl⟩
    · have h2 : isD (bt (by8 s) i) = false := by simpa using h2
      by_cases h3 : (bt (by8 s) i == 37) = true
      · have HP : Hid (wordP (by8 s) i = keyP (by8 s) i) := wordP_key h1 h2 h3
        generalize wordP (by8 s) i = p at HP
        generalize keyP (by8 s) i = r at HP HK
        generalize bt (by8 s) i = c at hix h1 h2 h3
        clear HN HD
        go_enter Try.func17, Try.ntmps17
        go_wp2_with (first | (go_at_call 12; refine (begins_calls _ _).mono ?_; rintro e w' ⟨rfl, rfl⟩; rw [h1]) | (go_at_call 20; refine (digit_calls _ _).mono ?_; rintro e w' ⟨rfl, rfl⟩; rw [h2]) | (go_at_call 25; refine (HK.out _).mono ?_; rintro e w' ⟨rfl, rfl⟩; unfold ansW))
        go_ret2
        exact ⟨by rw [HP.out]; rfl, rfl⟩
      · have h3 : (bt (by8 s) i == 37) = false := by simpa using h3
        by_cases h4 : isS (bt (by8 s) i) = true
        · have HP : Hid (wordP (by8 s) i = (3, i + 1)) := wordP_sign h1 h2 h3 h4
          have h4 := isS_parts h4
          generalize wordP (by8 s) i = p at HP
          generalize bt (by8 s) i = c at hix h1 h2 h3 h4
          clear HN HD HK
          rcases h4 with h4 | ⟨h4, h5⟩ | ⟨h4, h5, h6⟩
          all_goals
            go_enter Try.func17, Try.ntmps17
            go_wp2_with (first | (go_at_call 12; refine (begins_calls _ _).mono ?_; rintro e w' ⟨rfl, rfl⟩; rw [h1]) | (go_at_call 20; refine (digit_calls _ _).mono ?_; rintro e w' ⟨rfl, rfl⟩; rw [h2]))
            go_ret2
            exact ⟨by rw [HP.out]; rfl, rfl⟩
        · have h4 : isS (bt (by8 s) i) = false := by simpa using h4
          have HP : Hid (wordP (by8 s) i = (0, i)) := wordP_none h1 h2 h3 h4
          obtain ⟨h5, h6, h7⟩ := isS_none h4
          generalize wordP (by8 s) i = p at HP
          generalize bt (by8 s) i = c at hix h1 h2 h3 h4 h5 h6 h7
          clear HN HD HK h4
          go_enter Try.func17, Try.ntmps17
          go_wp2_with (first | (go_at_call 12; refine (begins_calls _ _).mono ?_; rintro e w' ⟨rfl, rfl⟩; rw [h1]) | (go_at_call 20; refine (digit_calls _ _).mono ?_; rintro e w' ⟨rfl, rfl⟩; rw [h2]))
          go_ret2
          exact ⟨by rw [HP.out]; rfl, rfl⟩

end Go.Proofs.Ytdfkkamafiiflaa
