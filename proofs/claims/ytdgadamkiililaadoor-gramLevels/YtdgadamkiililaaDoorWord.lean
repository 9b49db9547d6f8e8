/-
  The walks of the functions that tell one word: a name, a number, a key, any.
-/
import Derived.Test.YtdgadamkiililaaDoorSkip
import Derived.Deep.CutBlock
import Derived.Deep.DeepCutAuto
namespace Go.Proofs.YtdgadamkiililaaDoor
open Go.RowKit

/-- What tells a word answers. -/
def ansW (p : Nat × Nat) : Ending := .returned (.tuple #[.int .i64 p.1, .int .i64 p.2])

set_option maxHeartbeats 1000000 in
theorem name_calls (s : ByteArray) (i : Nat) (w : World) (hi : i ≤ s.size) (hs : s.size ≤ 1048576) :
    Calls Tryd.prog 70 #[.string s, .int .i64 i] w fun e w' => e = ansW (nameP (by8 s) i) ∧ w' = w := by
  have HE : Hid (∀ W : World, Calls Tryd.prog 48 #[.string s, .int .i64 i] W fun e w' => e = .returned (.int .i64 (runEnd isN (by8 s) i)) ∧ w' = W) := fun W => nameEnd_calls s i W hi hs
  have h1 := le_runEnd isN (by8 s) i
  have h2 : runEnd isN (by8 s) i ≤ s.size := by rw [← by8_length]; exact runEnd_le (by rw [by8_length]; exact hi)
  have HP : Hid (nameP (by8 s) i = if 12 < runEnd isN (by8 s) i - i then (0, i) else (1, runEnd isN (by8 s) i)) := rfl
  generalize runEnd isN (by8 s) i = m at HE h1 h2 HP
  generalize nameP (by8 s) i = p at HP
  by_cases h : 12 < m - i
  · have h3 : (12 : Int) < (m : Int) - i := by omega
    have HP2 : Hid (p = (0, i)) := by have := HP.out; rwa [if_pos h] at this
    clear HP h
    go_enter Tryd.func70, Tryd.ntmps70
    go_wp2_with (go_at_call 48; refine (HE.out _).mono ?_; rintro e w' ⟨rfl, rfl⟩)
    go_ret2
    exact ⟨by rw [HP2.out]; rfl, rfl⟩
  · have h3 : ¬ (12 : Int) < (m : Int) - i := by omega
    have HP2 : Hid (p = (1, m)) := by have := HP.out; rwa [if_neg h] at this
    clear HP h
    go_enter Tryd.func70, Tryd.ntmps70
    go_wp2_with (go_at_call 48; refine (HE.out _).mono ?_; rintro e w' ⟨rfl, rfl⟩)
    go_ret2
    exact ⟨by rw [HP2.out]; rfl, rfl⟩

theorem numBad_long {l : List UInt8} {i m : Nat} (h : 4 < m - i) : numBad l i m = true := by unfold numBad; simp [h]
theorem numBad_zero {l : List UInt8} {i m : Nat} (h : 1 < m - i) (h2 : (bt l i == 48) = true) : numBad l i m = true := by unfold numBad; simp [h]; simp_all
theorem numBad_tail {l : List UInt8} {i m : Nat} (h : m < l.length) (h2 : isL (bt l m) = true) : numBad l i m = true := by unfold numBad; simp [h, h2]
theorem numBad_not {l : List UInt8} {i m : Nat} (h : ¬ 4 < m - i) (h2 : ¬ 1 < m - i ∨ (bt l i == 48) = false) (h3 : ¬ m < l.length ∨ isL (bt l m) = false) : numBad l i m = false := by
  unfold numBad
  rcases h2 with h2 | h2 <;> rcases h3 with h3 | h3 <;> simp [h, h2, h3]

set_option maxHeartbeats 2000000 in
theorem number_calls (s : ByteArray) (i : Nat) (w : World) (hi : i < s.size) (hs : s.size ≤ 1048576) :
    Calls Tryd.prog 71 #[.string s, .int .i64 i] w fun e w' => e = ansW (numberP (by8 s) i) ∧ w' = w := by
  have HL : Hid ((by8 s).length = s.size) := by8_length s
  have h1 := le_runEnd isD (by8 s) i
  have h2 : runEnd isD (by8 s) i ≤ s.size := by rw [← by8_length]; exact runEnd_le (by rw [by8_length]; omega)
  have HP : Hid (numberP (by8 s) i = if numBad (by8 s) i (runEnd isD (by8 s) i) = true then (0, i) else (2, runEnd isD (by8 s) i)) := rfl
  obtain ⟨m, HM⟩ : ∃ m, Hid (runEnd isD (by8 s) i = m) := ⟨_, rfl⟩
  rw [HM.out] at h1 h2 HP
  generalize numberP (by8 s) i = p at HP
  go_enter Tryd.func71, Tryd.ntmps71
  go_upto_block 0 with fail
  go_cut [5] (fun s5 wd => s5 = .int .i64 m ∧ wd = w)
  case first =>
    go_wp2_with fail
    go_loop [5] (fun v => ∃ j : Nat, i ≤ j ∧ j ≤ s.size ∧ v = .int .i64 j ∧ Hid (runEnd isD (by8 s) j = m)) (fun v => s.size - (intOf v).toNat)
    case atStart => exact ⟨i, Nat.le_refl _, by omega, rfl, HM⟩
    case round =>
      obtain ⟨j, hkj, hj, rfl, HJ⟩ := hrel
      by_cases hlt2 : j < s.size
      · have hix := run_index_bt s j hlt2
        have hl : j < (by8 s).length := by rw [HL.out]; exact hlt2
        obtain ⟨d, hd⟩ : ∃ d, d = bt (by8 s) j := ⟨_, rfl⟩
        rw [← hd] at hix
        by_cases h9 : isD d = true
        · have HE : Hid (runEnd isD (by8 s) (j + 1) = m) := by
            show _ = _
            rw [← HJ.out]
            exact (runEnd_step hl (by rw [← hd]; exact h9)).symm
          clear hd HJ
          go_wp2_with (go_at_call 60; refine (digit_calls _ _).mono ?_; rintro e w' ⟨rfl, rfl⟩; rw [h9])
          go_round
          case rel => exact ⟨j + 1, by omega, by omega, by go_num, HE⟩
          case measure => simp [intOf]; omega
        · have h9 : isD d = false := by simpa using h9
          have HE : Hid (m = j) := by
            show _ = _
            rw [← HJ.out, runEnd_stop hl (by rw [← hd]; exact h9)]
          clear hd HJ
          go_wp2_with (go_at_call 60; refine (digit_calls _ _).mono ?_; rintro e w' ⟨rfl, rfl⟩; rw [h9])
          go_meet
          exact ⟨by rw [HE.out], rfl⟩
      · have HE : Hid (m = j) := by
          show _ = _
          rw [← HJ.out, runEnd_out (by rw [HL.out]; omega)]
        clear HJ
        go_wp2
        go_meet
        exact ⟨by rw [HE.out], rfl⟩
  case rest =>
    obtain ⟨rfl, rfl⟩ := hcut
    have hix := run_index_bt s i hi
    by_cases h4 : 4 < m - i
    · have HP2 : Hid (p = (0, i)) := by have := HP.out; rwa [if_pos (numBad_long h4)] at this
      have h5 : (4 : Int) < (m : Int) - i := by omega
      clear HP h4 HM hix
      go_wp2_with fail
      go_ret2
      exact ⟨by rw [HP2.out]; rfl, rfl⟩
    · by_cases h6 : 1 < m - i ∧ (bt (by8 s) i == 48) = true
      · have HP2 : Hid (p = (0, i)) := by have := HP.out; rwa [if_pos (numBad_zero h6.1 h6.2)] at this
        have h5 : ¬ (4 : Int) < (m : Int) - i := by omega
        have h7 : (1 : Int) < (m : Int) - i := by omega
        have h8 := h6.2
        clear HP h4 HM h6
        generalize bt (by8 s) i = c at hix h8
        go_wp2_with fail
        go_ret2
        exact ⟨by rw [HP2.out]; rfl, rfl⟩
      · have h7 : ¬ 1 < m - i ∨ (1 < m - i ∧ (bt (by8 s) i == 48) = false) := by
          by_cases h : 1 < m - i
          · exact .inr ⟨h, by simpa [h] using h6⟩
          · exact .inl h
        have h7' : ¬ 1 < m - i ∨ (bt (by8 s) i == 48) = false := h7.imp id And.right
        have h5 : ¬ (4 : Int) < (m : Int) - i := by omega
        by_cases h8 : m < s.size
        · have hix2 := run_index_bt s m h8
          have h8l : m < (by8 s).length := by rw [HL.out]; exact h8
          by_cases h9 : isL (bt (by8 s) m) = true
          · have HP2 : Hid (p = (0, i)) := by have := HP.out; rwa [if_pos (numBad_tail h8l h9)] at this
            clear HP h4 HM h6 h7' h8l
            generalize bt (by8 s) m = d at hix2 h9
            generalize bt (by8 s) i = c at hix h7
            rcases h7 with h7 | ⟨h7, h10⟩
            · have h7 : ¬ (1 : Int) < (m : Int) - i := by omega
              go_wp2_with (go_at_call 47; refine (begins_calls _ _).mono ?_; rintro e w' ⟨rfl, rfl⟩; rw [h9])
              go_ret2
              exact ⟨by rw [HP2.out]; rfl, rfl⟩
            · have h7 : (1 : Int) < (m : Int) - i := by omega
              go_wp2_with (go_at_call 47; refine (begins_calls _ _).mono ?_; rintro e w' ⟨rfl, rfl⟩; rw [h9])
              go_ret2
              exact ⟨by rw [HP2.out]; rfl, rfl⟩
          · have h9 : isL (bt (by8 s) m) = false := by simpa using h9
            have HP2 : Hid (p = (2, m)) := by have := HP.out; rwa [numBad_not h4 h7' (.inr h9), if_neg (by simp)] at this
            clear HP h4 HM h6 h7' h8l
            generalize bt (by8 s) m = d at hix2 h9
            generalize bt (by8 s) i = c at hix h7
            rcases h7 with h7 | ⟨h7, h10⟩
            · have h7 : ¬ (1 : Int) < (m : Int) - i := by omega
              go_wp2_with (go_at_call 47; refine (begins_calls _ _).mono ?_; rintro e w' ⟨rfl, rfl⟩; rw [h9])
              go_ret2
              exact ⟨by rw [HP2.out]; rfl, rfl⟩
            · have h7 : (1 : Int) < (m : Int) - i := by omega
              go_wp2_with (go_at_call 47; refine (begins_calls _ _).mono ?_; rintro e w' ⟨rfl, rfl⟩; rw [h9])
              go_ret2
              exact ⟨by rw [HP2.out]; rfl, rfl⟩
        · have h8l : ¬ m < (by8 s).length := by rw [HL.out]; exact h8
          have HP2 : Hid (p = (2, m)) := by have := HP.out; rwa [numBad_not h4 h7' (.inl h8l), if_neg (by simp)] at this
          clear HP h4 HM h6 h7' h8l
          generalize bt (by8 s) i = c at hix h7
          rcases h7 with h7 | ⟨h7, h10⟩
          · have h7 : ¬ (1 : Int) < (m : Int) - i := by omega
            go_wp2_with fail
            go_ret2
            exact ⟨by rw [HP2.out]; rfl, rfl⟩
          · have h7 : (1 : Int) < (m : Int) - i := by omega
            go_wp2_with fail
            go_ret2
            exact ⟨by rw [HP2.out]; rfl, rfl⟩

end Go.Proofs.YtdgadamkiililaaDoor
