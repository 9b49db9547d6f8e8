/-
  The walk of the reference's way past what stands between words.
-/
import Derived.Test.YtdfkkamafiiflaaSkip
namespace Go.Proofs.Ytdfkkamafiiflaa
open Go.RowKit

theorem pre2_parts {x y : Int} {l : List UInt8} {i : Nat} (h : pre2 x y l i = false) :
    (bt l i == x) = false ∨ ((bt l i == x) = true ∧ ¬ i + 1 < l.length) ∨ ((bt l i == x) = true ∧ i + 1 < l.length ∧ (bt l (i + 1) == y) = false) := by
  unfold pre2 at h
  by_cases h1 : i + 1 < l.length
  · cases h2 : (bt l i == x) <;> cases h3 : (bt l (i + 1) == y) <;> simp_all
  · cases h2 : (bt l i == x) <;> simp_all
theorem pre2_all {x y : Int} {l : List UInt8} {i : Nat} (h : pre2 x y l i = true) : (bt l i == x) = true ∧ i + 1 < l.length ∧ (bt l (i + 1) == y) = true := by
  unfold pre2 at h
  cases h2 : (bt l i == x) <;> cases h3 : (bt l (i + 1) == y) <;> simp_all

theorem run_index_bt1 (s : ByteArray) (i : Nat) (h : i + 1 < s.size) (W : World) : (Instr.index 9 (.string s) (.int .i64 ((i : Int) + 1))).run Try.prog W = .ok (.int .u8 (bt (by8 s) (i + 1))) W := by
  have := run_index_bt s (i + 1) h W
  simpa using this

set_option maxHeartbeats 2000000 in
theorem rskip_calls (s : ByteArray) (i : Nat) (w : World) (hi : i ≤ s.size) (hs : s.size ≤ 1048576) :
    Calls Try.prog 27 #[.string s, .int .i64 i] w fun e w' => e = .returned (.int .i64 (skip (by8 s) i)) ∧ w' = w := by
  have HL : Hid ((by8 s).length = s.size) := by8_length s
  go_enter Try.func27, Try.ntmps27
  go_wp2
  go_loop [1] (fun v => ∃ k f : Nat, k ≤ s.size ∧ v = .int .i64 k ∧ s.size < k + f ∧ Hid (skip (by8 s) i = skipF f (by8 s) k)) (fun v => s.size - (intOf v).toNat)
  case atStart => exact ⟨i, s.size + 1, hi, rfl, by omega, by show _ = _; unfold skip; rw [HL.out]⟩
  case round =>
    obtain ⟨k, f, hk, rfl, hf, HR⟩ := hrel
    by_cases hlt : k < s.size
    · have hix := run_index_bt s k hlt
      have hl : k < (by8 s).length := by rw [HL.out]; exact hlt
      obtain ⟨f, rfl⟩ : ∃ g, f = g + 1 := ⟨f - 1, by omega⟩
      obtain ⟨c, hc⟩ : ∃ c, c = bt (by8 s) k := ⟨_, rfl⟩
      rw [← hc] at hix
      by_cases h1 : isB c = true
      · have HN : Hid (skip (by8 s) i = skipF f (by8 s) (k + 1)) := by
          show _ = _
          rw [HR.out, skip_blank hl (by rw [← hc]; exact h1)]
        have h1 := isB_parts h1
        clear HR hl hc
        rcases h1 with h1 | ⟨h1, h2⟩ | ⟨h1, h2, h3⟩
        all_goals
          go_wp2
          go_round
          case rel => exact ⟨k + 1, f, by omega, by go_num, by omega, HN⟩
          case measure => simp [intOf]; omega
      · have h1 : isB c = false := by simpa using h1
        obtain ⟨h2, h3, h4⟩ := isB_none h1
        by_cases h5 : pre2 47 47 (by8 s) k = true
        · have HN : Hid (skip (by8 s) i = skipF f (by8 s) (runEnd noNl (by8 s) k)) := by
            show _ = _
            rw [HR.out, skip_line hl (by rw [← hc]; exact h1) h5]
          have hm := (line_more h5).2
          obtain ⟨h6, h7, h8⟩ := pre2_all h5
          rw [← hc] at h6
          rw [HL.out] at h7
          have hix2 := run_index_bt1 s k h7
          generalize bt (by8 s) (k + 1) = c2 at hix2 h8
          obtain ⟨m, HM⟩ : ∃ m, Hid (runEnd noNl (by8 s) k = m) := ⟨_, rfl⟩
          rw [HM.out] at HN hm
          clear HR hl hc h1 h5
          go_wp2
          go_loop [1] (fun v => ∃ j : Nat, k ≤ j ∧ j ≤ s.size ∧ v = .int .i64 j ∧ Hid (runEnd noNl (by8 s) j = m)) (fun v => s.size - (intOf v).toNat)
          case atStart => exact ⟨k, Nat.le_refl _, hk, rfl, HM⟩
          case round =>
            obtain ⟨j, hkj, hj, rfl, HJ⟩ := hrel
            clear hix hix2
            by_cases hlt2 : j < s.size
            · have hix := run_index_bt s j hlt2
              have hl : j < (by8 s).length := by rw [HL.out]; exact hlt2
              obtain ⟨d, hd⟩ : ∃ d, d = bt (by8 s) j := ⟨_, rfl⟩
              rw [← hd] at hix
              by_cases h9 : (d == 10) = true
              · have HE : Hid (m = j) := by
                  show _ = _
                  rw [← HJ.out, runEnd_stop hl (by unfold noNl; rw [← hd]; simpa using h9)]
                have hb : (d != 10) = false := by simpa using h9
                clear hd HJ h9
                go_wp2
                rw [HE.out] at HN hm
                go_round
                case rel => exact ⟨j, f, by omega, by go_num, by omega, HN⟩
                case measure => simp [intOf]; omega
              · have HE : Hid (runEnd noNl (by8 s) (j + 1) = m) := by
                  show _ = _
                  rw [← HJ.out]
                  exact (runEnd_step hl (by unfold noNl; rw [← hd]; simpa using h9)).symm
                have hb : (d != 10) = true := by simpa using h9
                clear hd HJ h9
                go_wp2
                go_round
                case rel => exact ⟨j + 1, by omega, by omega, by go_num, HE⟩
                case measure => simp [intOf]; omega
            · have HE : Hid (m = j) := by
                show _ = _
                rw [← HJ.out, runEnd_out (by rw [HL.out]; omega)]
              clear HJ
              go_wp2
              rw [HE.out] at HN hm
              go_round
              case rel => exact ⟨j, f, by omega, by go_num, by omega, HN⟩
              case measure => simp [intOf]; omega
        · have h5 : pre2 47 47 (by8 s) k = false := by simpa using h5
          have HN : Hid (skip (by8 s) i = k) := by
            show _ = _
            rw [HR.out, skip_word (by rw [← hc]; exact h1) h5]
          have h6 := pre2_parts h5
          rw [← hc, HL.out] at h6
          clear HR hl hc h1 h5
          rcases h6 with h6 | ⟨h6, h7⟩ | ⟨h6, h7, h8⟩
          · go_wp2
            go_ret
            exact ⟨by rw [HN.out]; rfl, rfl⟩
          · have h7 : ¬ (k : Int) + 1 < s.size := by omega
            go_wp2
            go_ret
            exact ⟨by rw [HN.out]; rfl, rfl⟩
          · have hix2 := run_index_bt1 s k h7
            generalize bt (by8 s) (k + 1) = c2 at hix2 h8
            go_wp2
            go_ret
            exact ⟨by rw [HN.out]; rfl, rfl⟩
    · have HN : Hid (skip (by8 s) i = k) := by
        show _ = _
        rw [HR.out, skip_out (by rw [HL.out]; omega)]
      clear HR
      go_wp2
      go_ret
      exact ⟨by rw [HN.out]; rfl, rfl⟩

end Go.Proofs.Ytdfkkamafiiflaa
