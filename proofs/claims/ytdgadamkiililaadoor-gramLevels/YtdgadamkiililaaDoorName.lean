/-
  The walks of Cut, of both functions that tell a name, and of Digits.
-/
import Derived.Test.YtdgadamkiililaaDoorScan
namespace Go.Proofs.YtdgadamkiililaaDoor
open Go.RowKit

/-- The first n bytes. -/
def cutS (s : ByteArray) (n : Nat) : ByteArray := if n < s.size then s.extract 0 n else s

theorem cutS_size (s : ByteArray) (n : Nat) : (cutS s n).size ≤ n := by
  unfold cutS
  split
  · rw [← by8_length, by8_extract]; unfold part; simp; omega
  · omega

theorem cut_calls (s : ByteArray) (n : Nat) (w : World) : Calls Tryd.prog 19 #[.string s, .int .i64 n] w fun e w' => e = .returned (.string (cutS s n)) ∧ w' = w := by
  by_cases h : n < s.size
  · have H : Hid (cutS s n = s.extract 0 n) := by show _ = _; unfold cutS; rw [if_pos h]
    generalize cutS s n = r at H
    go_enter Tryd.func19, Tryd.ntmps19
    go_wp2
    go_ret
    exact ⟨by rw [H.out]; rfl, rfl⟩
  · have H : Hid (cutS s n = s) := by show _ = _; unfold cutS; rw [if_neg h]
    generalize cutS s n = r at H
    go_enter Tryd.func19, Tryd.ntmps19
    go_wp2
    go_ret
    exact ⟨by rw [H.out]; rfl, rfl⟩

theorem empty_toList (s : ByteArray) : (s.toList == []) = (by8 s == []) := by rw [by8_toList]

set_option maxHeartbeats 2000000 in
theorem lname_calls (s : ByteArray) (w : World) (hs : s.size ≤ 1048576) : Calls Tryd.prog 36 #[.string s] w fun e w' => e = .returned (.bool (nameOk (by8 s))) ∧ w' = w := by
  have HL : Hid ((by8 s).length = s.size) := by8_length s
  by_cases h0 : (by8 s == []) = true
  · have h1 : (s.toList == []) = true := by rw [empty_toList]; exact h0
    have H : Hid (nameOk (by8 s) = false) := by show _ = _; unfold nameOk; rw [h0]; rfl
    generalize nameOk (by8 s) = r at H
    clear h0
    go_enter Tryd.func36, Tryd.ntmps36
    go_wp2
    go_ret
    exact ⟨by rw [H.out]; rfl, rfl⟩
  · have h0 : (by8 s == []) = false := by simpa using h0
    have h1 : (s.toList == []) = false := by rw [empty_toList]; exact h0
    have hp : 0 < s.size := by
      rw [← HL.out]
      have : by8 s ≠ [] := by simpa using h0
      exact List.length_pos_iff.2 this
    have hix := run_index_bt s 0 hp
    have hix' : ∀ W : World, (Instr.index 9 (.string s) (.int .i64 0)).run Tryd.prog W = .ok (.int .u8 (bt (by8 s) 0)) W := hix
    by_cases h2 : isL (bt (by8 s) 0) = true
    · have H : Hid (nameOk (by8 s) = ((((runEnd isN (by8 s) 0 : Nat) : Int) == (s.size : Int)) && decide ((s.size : Int) ≤ 12))) := by show _ = _; unfold nameOk; rw [h0, h2, HL.out]; rfl
      have HE : Hid (∀ W : World, Calls Tryd.prog 48 #[.string s, .int .i64 0] W fun e w' => e = .returned (.int .i64 (runEnd isN (by8 s) 0)) ∧ w' = W) := fun W => nameEnd_calls s 0 W (Nat.zero_le _) hs
      generalize runEnd isN (by8 s) 0 = m at H HE
      generalize bt (by8 s) 0 = c at hix' h2
      generalize nameOk (by8 s) = r at H
      clear h0 hix
      by_cases h3 : ((m : Int) == (s.size : Int)) = true
      · have H2 : Hid (r = decide ((s.size : Int) ≤ 12)) := by have := H.out; rwa [h3, Bool.true_and] at this
        clear H
        go_enter Tryd.func36, Tryd.ntmps36
        go_wp2_with (first | (go_at_call 47; refine (begins_calls _ _).mono ?_; rintro e w' ⟨rfl, rfl⟩; rw [h2]) | (go_at_call 48; refine (HE.out _).mono ?_; rintro e w' ⟨rfl, rfl⟩))
        go_ret
        exact ⟨by rw [H2.out]; rfl, rfl⟩
      · have h3 : ((m : Int) == (s.size : Int)) = false := by simpa using h3
        have H2 : Hid (r = false) := by have := H.out; rwa [h3, Bool.false_and] at this
        clear H
        go_enter Tryd.func36, Tryd.ntmps36
        go_wp2_with (first | (go_at_call 47; refine (begins_calls _ _).mono ?_; rintro e w' ⟨rfl, rfl⟩; rw [h2]) | (go_at_call 48; refine (HE.out _).mono ?_; rintro e w' ⟨rfl, rfl⟩))
        go_ret
        exact ⟨by rw [H2.out]; rfl, rfl⟩
    · have h2 : isL (bt (by8 s) 0) = false := by simpa using h2
      have H : Hid (nameOk (by8 s) = false) := by show _ = _; unfold nameOk; rw [h2]; simp
      generalize bt (by8 s) 0 = c at hix' h2
      generalize nameOk (by8 s) = r at H
      clear h0 hix
      go_enter Tryd.func36, Tryd.ntmps36
      go_wp2_with (go_at_call 47; refine (begins_calls _ _).mono ?_; rintro e w' ⟨rfl, rfl⟩; rw [h2])
      go_ret
      exact ⟨by rw [H.out]; rfl, rfl⟩

/-- Of a name no byte is another one. -/
theorem nameOk_not {l : List UInt8} {i : Nat} (hi : i < l.length) (h1 : isL (bt l i) = false) (h2 : i = 0 ∨ isD (bt l i) = false) : nameOk l = false := by
  unfold nameOk
  rcases h2 with rfl | h2
  · rw [h1]; simp
  · have : (((runEnd isN l 0 : Nat) : Int) == (l.length : Int)) = false := by
      rw [beq_eq_false_iff_ne]
      intro e
      have := runEnd_in (p := isN) l.length 0 (by omega) (by omega) i (Nat.zero_le _) hi
      unfold isN at this
      rw [h1, h2] at this
      cases this
    rw [this]; simp

theorem nameOk_all {l : List UInt8} (h : ∀ i, i < l.length → isL (bt l i) = true ∨ (i ≠ 0 ∧ isD (bt l i) = true)) : nameOk l = (decide ((1 : Int) ≤ (l.length : Int)) && decide ((l.length : Int) ≤ 12)) := by
  unfold nameOk
  cases l with
  | nil => simp
  | cons a r =>
    have h0 : isL (bt (a :: r) 0) = true := by
      rcases h 0 (by simp) with h | h
      · exact h
      · exact absurd rfl h.1
    have hr : runEnd isN (a :: r) 0 = (a :: r).length := runEnd_all (a :: r).length 0 (by omega) (fun j _ hj => by
      unfold isN
      rcases h j hj with h | h
      · rw [h]; rfl
      · rw [h.2]; simp)
    rw [h0, hr]
    have h1 : (1 : Int) ≤ ((a :: r).length : Int) := by simp; omega
    rw [decide_eq_true h1]
    simp

set_option maxHeartbeats 2000000 in
theorem rname_calls (s : ByteArray) (w : World) (hs : s.size ≤ 1048576) : Calls Tryd.prog 17 #[.string s] w fun e w' => e = .returned (.bool (nameOk (by8 s))) ∧ w' = w := by
  have HL : Hid ((by8 s).length = s.size) := by8_length s
  obtain ⟨r, HR⟩ : ∃ r, Hid (nameOk (by8 s) = r) := ⟨_, rfl⟩
  rw [HR.out]
  go_enter Tryd.func17, Tryd.ntmps17
  go_wp2
  go_loop [3] (fun v => ∃ k : Nat, k ≤ s.size ∧ v = .int .i64 k ∧ Hid (∀ i, i < k → isL (bt (by8 s) i) = true ∨ (i ≠ 0 ∧ isD (bt (by8 s) i) = true))) (fun v => s.size - (intOf v).toNat)
  case atStart => exact ⟨0, Nat.zero_le _, rfl, (fun i hi => absurd hi (Nat.not_lt_zero _) : ∀ i, i < 0 → isL (bt (by8 s) i) = true ∨ (i ≠ 0 ∧ isD (bt (by8 s) i) = true))⟩
  case round =>
    obtain ⟨k, hk, rfl, J⟩ := hrel
    by_cases hlt : k < s.size
    · have hix := run_index_bt s k hlt
      have hl : k < (by8 s).length := by rw [HL.out]; exact hlt
      by_cases h1 : isL (bt (by8 s) k) = true
      · have J2 : Hid (∀ i, i < k + 1 → isL (bt (by8 s) i) = true ∨ (i ≠ 0 ∧ isD (bt (by8 s) i) = true)) := fun i hi => by
          rcases Nat.lt_or_ge i k with h | h
          · exact J.out i h
          · rw [show i = k by omega]; exact .inl h1
        generalize bt (by8 s) k = c at hix h1
        clear hl J
        go_wp2_with (go_at_call 33; refine (letter_calls _ _).mono ?_; rintro e w' ⟨rfl, rfl⟩; rw [h1])
        go_round
        case rel => exact ⟨k + 1, by omega, by go_num, J2⟩
        case measure => simp [intOf]; omega
      · have h1 : isL (bt (by8 s) k) = false := by simpa using h1
        by_cases h0 : k = 0
        · have HF : Hid (r = false) := by show _ = _; rw [← HR.out]; exact nameOk_not hl h1 (.inl h0)
          generalize bt (by8 s) k = c at hix h1
          have hz : ((k : Int) == 0) = true := by simpa using h0
          clear hl J h0
          go_wp2_with (go_at_call 33; refine (letter_calls _ _).mono ?_; rintro e w' ⟨rfl, rfl⟩; rw [h1])
          go_ret
          exact ⟨by rw [HF.out]; rfl, rfl⟩
        · have hz : ((k : Int) == 0) = false := by simpa using h0
          by_cases h2 : isD (bt (by8 s) k) = true
          · have J2 : Hid (∀ i, i < k + 1 → isL (bt (by8 s) i) = true ∨ (i ≠ 0 ∧ isD (bt (by8 s) i) = true)) := fun i hi => by
              rcases Nat.lt_or_ge i k with h | h
              · exact J.out i h
              · rw [show i = k by omega]; exact .inr ⟨h0, h2⟩
            generalize bt (by8 s) k = c at hix h1 h2
            clear hl J h0
            go_wp2_with (first | (go_at_call 33; refine (letter_calls _ _).mono ?_; rintro e w' ⟨rfl, rfl⟩; rw [h1]) | (go_at_call 34; refine (rdigit_calls _ _).mono ?_; rintro e w' ⟨rfl, rfl⟩; rw [h2]))
            go_round
            case rel => exact ⟨k + 1, by omega, by go_num, J2⟩
            case measure => simp [intOf]; omega
          · have h2 : isD (bt (by8 s) k) = false := by simpa using h2
            have HF : Hid (r = false) := by show _ = _; rw [← HR.out]; exact nameOk_not hl h1 (.inr h2)
            generalize bt (by8 s) k = c at hix h1 h2
            clear hl J h0
            go_wp2_with (first | (go_at_call 33; refine (letter_calls _ _).mono ?_; rintro e w' ⟨rfl, rfl⟩; rw [h1]) | (go_at_call 34; refine (rdigit_calls _ _).mono ?_; rintro e w' ⟨rfl, rfl⟩; rw [h2]))
            go_ret
            exact ⟨by rw [HF.out]; rfl, rfl⟩
    · obtain rfl : k = s.size := by omega
      have HF : Hid (r = (decide ((1 : Int) ≤ (s.size : Int)) && decide ((s.size : Int) ≤ 12))) := by
        show _ = _
        rw [← HR.out, nameOk_all (by rw [HL.out]; exact J.out), HL.out]
      clear J
      by_cases h1 : (1 : Int) ≤ (s.size : Int)
      · have HF2 : Hid (r = decide ((s.size : Int) ≤ 12)) := by have := HF.out; rwa [decide_eq_true h1, Bool.true_and] at this
        clear HF
        go_wp2
        go_ret
        exact ⟨by rw [HF2.out]; rfl, rfl⟩
      · have HF2 : Hid (r = false) := by have := HF.out; rwa [decide_eq_false h1, Bool.false_and] at this
        clear HF
        go_wp2
        go_ret
        exact ⟨by rw [HF2.out]; rfl, rfl⟩

end Go.Proofs.YtdgadamkiililaaDoor
