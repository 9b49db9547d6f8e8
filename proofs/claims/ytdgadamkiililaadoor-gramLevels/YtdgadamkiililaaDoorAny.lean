/-
  The walks of word and of the reference's number.
-/
import Derived.Test.YtdgadamkiililaaDoorKey
namespace Go.Proofs.YtdgadamkiililaaDoor
open Go.RowKit

theorem isS_parts {c : Int} (h : isS c = true) : (c == 58) = true ∨ ((c == 58) = false ∧ (c == 124) = true) ∨ ((c == 58) = false ∧ (c == 124) = false ∧ (c == 59) = true) := by
  unfold isS at h
  cases h1 : (c == 58) <;> cases h2 : (c == 124) <;> cases h3 : (c == 59) <;> simp_all
theorem isS_none {c : Int} (h : isS c = false) : (c == 58) = false ∧ (c == 124) = false ∧ (c == 59) = false := by
  unfold isS at h
  cases h1 : (c == 58) <;> cases h2 : (c == 124) <;> cases h3 : (c == 59) <;> simp_all

set_option maxHeartbeats 2000000 in
theorem word_calls (s : ByteArray) (i : Nat) (w : World) (hi : i < s.size) (hs : s.size ≤ 1048576) :
    Calls Tryd.prog 58 #[.string s, .int .i64 i] w fun e w' => e = ansW (wordP (by8 s) i) ∧ w' = w := by
  have hix := run_index_bt s i hi
  have HN : Hid (∀ W : World, Calls Tryd.prog 70 #[.string s, .int .i64 i] W fun e w' => e = ansW (nameP (by8 s) i) ∧ w' = W) := fun W => name_calls s i W (by omega) hs
  have HD : Hid (∀ W : World, Calls Tryd.prog 71 #[.string s, .int .i64 i] W fun e w' => e = ansW (numberP (by8 s) i) ∧ w' = W) := fun W => number_calls s i W hi hs
  have HK : Hid (∀ W : World, Calls Tryd.prog 72 #[.string s, .int .i64 i] W fun e w' => e = ansW (keyP (by8 s) i) ∧ w' = W) := fun W => key_calls s i W hi hs
  by_cases h1 : isL (bt (by8 s) i) = true
  · have HP : Hid (wordP (by8 s) i = nameP (by8 s) i) := wordP_name h1
    generalize wordP (by8 s) i = p at HP
    generalize nameP (by8 s) i = r at HP HN
    generalize bt (by8 s) i = c at hix h1
    clear HD HK
    go_enter Tryd.func58, Tryd.ntmps58
    go_wp2_with (first | (go_at_call 47; refine (begins_calls _ _).mono ?_; rintro e w' ⟨rfl, rfl⟩; rw [h1]) | (go_at_call 70; refine (HN.out _).mono ?_; rintro e w' ⟨rfl, rfl⟩; unfold ansW))
    go_ret2
    exact ⟨by rw [HP.out]; rfl, rfl⟩
  · have h1 : isL (bt (by8 s) i) = false := by simpa using h1
    by_cases h2 : isD (bt (by8 s) i) = true
    · have HP : Hid (wordP (by8 s) i = numberP (by8 s) i) := wordP_num h1 h2
      generalize wordP (by8 s) i = p at HP
      generalize numberP (by8 s) i = r at HP HD
      generalize bt (by8 s) i = c at hix h1 h2
      clear HN HK
      go_enter Tryd.func58, Tryd.ntmps58
      go_wp2_with (first | (go_at_call 47; refine (begins_calls _ _).mono ?_; rintro e w' ⟨rfl, rfl⟩; rw [h1]) | (go_at_call 60; refine (digit_calls _ _).mono ?_; rintro e w' ⟨rfl, rfl⟩; rw [h2]) | (go_at_call 71; refine (HD.out _).mono ?_; rintro e w' ⟨rfl, rfl⟩; unfold ansW))
      go_ret2
      exact ⟨by rw [HP.out]; rfl, rfl⟩
    · have h2 : isD (bt (by8 s) i) = false := by simpa using h2
      by_cases h3 : (bt (by8 s) i == 37) = true
      · have HP : Hid (wordP (by8 s) i = keyP (by8 s) i) := wordP_key h1 h2 h3
        generalize wordP (by8 s) i = p at HP
        generalize keyP (by8 s) i = r at HP HK
        generalize bt (by8 s) i = c at hix h1 h2 h3
        clear HN HD
        go_enter Tryd.func58, Tryd.ntmps58
        go_wp2_with (first | (go_at_call 47; refine (begins_calls _ _).mono ?_; rintro e w' ⟨rfl, rfl⟩; rw [h1]) | (go_at_call 60; refine (digit_calls _ _).mono ?_; rintro e w' ⟨rfl, rfl⟩; rw [h2]) | (go_at_call 72; refine (HK.out _).mono ?_; rintro e w' ⟨rfl, rfl⟩; unfold ansW))
        go_ret2
        exact ⟨by rw [HP.out]; rfl, rfl⟩
      · have h3 : (bt (by8 s) i == 37) = false := by simpa using h3
        by_cases h4 : isS (bt (by8 s) i) = true
        · have HP : Hid (wordP (by8 s) i = (3, i + 1)) := wordP_sign h1 h2 h3 h4
          have h4 := isS_parts h4
          generalize wordP (by8 s) i = p at HP
          generalize bt (by8 s) i = c at hix h1 h2 h3 h4
          clear HN HD HK
          rcases h4 with h4 | ⟨h4, h5⟩ | ⟨h4, h5, h6⟩
          all_goals
            go_enter Tryd.func58, Tryd.ntmps58
            go_wp2_with (first | (go_at_call 47; refine (begins_calls _ _).mono ?_; rintro e w' ⟨rfl, rfl⟩; rw [h1]) | (go_at_call 60; refine (digit_calls _ _).mono ?_; rintro e w' ⟨rfl, rfl⟩; rw [h2]))
            go_ret2
            exact ⟨by rw [HP.out]; rfl, rfl⟩
        · have h4 : isS (bt (by8 s) i) = false := by simpa using h4
          have HP : Hid (wordP (by8 s) i = (0, i)) := wordP_none h1 h2 h3 h4
          obtain ⟨h5, h6, h7⟩ := isS_none h4
          generalize wordP (by8 s) i = p at HP
          generalize bt (by8 s) i = c at hix h1 h2 h3 h4 h5 h6 h7
          clear HN HD HK h4
          go_enter Tryd.func58, Tryd.ntmps58
          go_wp2_with (first | (go_at_call 47; refine (begins_calls _ _).mono ?_; rintro e w' ⟨rfl, rfl⟩; rw [h1]) | (go_at_call 60; refine (digit_calls _ _).mono ?_; rintro e w' ⟨rfl, rfl⟩; rw [h2]))
          go_ret2
          exact ⟨by rw [HP.out]; rfl, rfl⟩

end Go.Proofs.YtdgadamkiililaaDoor
