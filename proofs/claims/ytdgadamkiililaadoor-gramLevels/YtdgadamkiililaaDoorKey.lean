/-
  The walks of both functions that tell a key.
-/
import Derived.Test.YtdgadamkiililaaDoorWord
import Derived.BigQuiet
import Derived.Deep.LoopGhost
namespace Go.Proofs.YtdgadamkiililaaDoor
open Go.RowKit

/-- Which key it is, told one behind the other. -/
theorem key_parts (t : List UInt8) : (keyWords.contains t = true ∧ (((t == [116, 111, 107, 101, 110]) = true) ∨ ((t == [116, 111, 107, 101, 110]) = false ∧ (t == [108, 101, 102, 116]) = true) ∨ ((t == [116, 111, 107, 101, 110]) = false ∧ (t == [108, 101, 102, 116]) = false ∧ (t == [114, 105, 103, 104, 116]) = true) ∨ ((t == [116, 111, 107, 101, 110]) = false ∧ (t == [108, 101, 102, 116]) = false ∧ (t == [114, 105, 103, 104, 116]) = false ∧ (t == [110, 111, 110, 97, 115, 115, 111, 99]) = true) ∨ ((t == [116, 111, 107, 101, 110]) = false ∧ (t == [108, 101, 102, 116]) = false ∧ (t == [114, 105, 103, 104, 116]) = false ∧ (t == [110, 111, 110, 97, 115, 115, 111, 99]) = false ∧ (t == [115, 116, 97, 114, 116]) = true) ∨ ((t == [116, 111, 107, 101, 110]) = false ∧ (t == [108, 101, 102, 116]) = false ∧ (t == [114, 105, 103, 104, 116]) = false ∧ (t == [110, 111, 110, 97, 115, 115, 111, 99]) = false ∧ (t == [115, 116, 97, 114, 116]) = false ∧ (t == [101, 120, 112, 101, 99, 116]) = true) ∨ ((t == [116, 111, 107, 101, 110]) = false ∧ (t == [108, 101, 102, 116]) = false ∧ (t == [114, 105, 103, 104, 116]) = false ∧ (t == [110, 111, 110, 97, 115, 115, 111, 99]) = false ∧ (t == [115, 116, 97, 114, 116]) = false ∧ (t == [101, 120, 112, 101, 99, 116]) = false ∧ (t == [112, 114, 101, 99]) = true))) ∨ (keyWords.contains t = false ∧ (t == [116, 111, 107, 101, 110]) = false ∧ (t == [108, 101, 102, 116]) = false ∧ (t == [114, 105, 103, 104, 116]) = false ∧ (t == [110, 111, 110, 97, 115, 115, 111, 99]) = false ∧ (t == [115, 116, 97, 114, 116]) = false ∧ (t == [101, 120, 112, 101, 99, 116]) = false ∧ (t == [112, 114, 101, 99]) = false) := by
  have e : keyWords.contains t = ((t == [116, 111, 107, 101, 110]) || (t == [108, 101, 102, 116]) || (t == [114, 105, 103, 104, 116]) || (t == [110, 111, 110, 97, 115, 115, 111, 99]) || (t == [115, 116, 97, 114, 116]) || (t == [101, 120, 112, 101, 99, 116]) || (t == [112, 114, 101, 99])) := by
    unfold keyWords
    simp only [List.contains_cons, List.contains_nil, Bool.or_false, Bool.or_assoc]
  rw [e]
  cases h0 : (t == [116, 111, 107, 101, 110])
  case true => simp
  cases h1 : (t == [108, 101, 102, 116])
  case true => simp
  cases h2 : (t == [114, 105, 103, 104, 116])
  case true => simp
  cases h3 : (t == [110, 111, 110, 97, 115, 115, 111, 99])
  case true => simp
  cases h4 : (t == [115, 116, 97, 114, 116])
  case true => simp
  cases h5 : (t == [101, 120, 112, 101, 99, 116])
  case true => simp
  cases h6 : (t == [112, 114, 101, 99])
  case true => simp
  simp

set_option maxHeartbeats 2000000 in
theorem key_calls (s : ByteArray) (i : Nat) (w : World) (hi : i < s.size) (hs : s.size ≤ 1048576) :
    Calls Tryd.prog 72 #[.string s, .int .i64 i] w fun e w' => e = ansW (keyP (by8 s) i) ∧ w' = w := by
  have HL : Hid ((by8 s).length = s.size) := by8_length s
  have HP := fun W => prefix_calls (s.extract i s.size) ⟨#[37, 37]⟩ W
  rw [begB_two s i 37 37 hi] at HP
  have e47 : ((37 : UInt8).toNat : Int) = 37 := rfl
  rw [e47] at HP
  have HE : Hid (∀ W : World, Calls Tryd.prog 48 #[.string s, .int .i64 ((i : Int) + 1)] W fun e w' => e = .returned (.int .i64 (runEnd isN (by8 s) (i + 1))) ∧ w' = W) := fun W => by
    have := nameEnd_calls s (i + 1) W (by omega) hs
    simpa using this
  have h1 := le_runEnd isN (by8 s) (i + 1)
  have h2 : runEnd isN (by8 s) (i + 1) ≤ s.size := by rw [← by8_length]; exact runEnd_le (by rw [by8_length]; omega)
  have HK : Hid (keyP (by8 s) i = if pre2 37 37 (by8 s) i = true then (4, i + 2) else if keyWords.contains (part (by8 s) (i + 1) (runEnd isN (by8 s) (i + 1))) = true then (4, runEnd isN (by8 s) (i + 1)) else (0, i)) := rfl
  generalize runEnd isN (by8 s) (i + 1) = m at HE h1 h2 HK
  generalize keyP (by8 s) i = p at HK
  clear e47
  by_cases h3 : pre2 37 37 (by8 s) i = true
  · have HK2 : Hid (p = (4, i + 2)) := by have := HK.out; rwa [if_pos h3] at this
    rw [h3] at HP
    have HP2 : Hid (∀ W : World, Calls Tryd.prog 68 #[.string (s.extract i s.size), .string ⟨#[37, 37]⟩] W fun e w' => e = .returned (.bool true) ∧ w' = W) := HP
    clear HP HK h3
    go_enter Tryd.func72, Tryd.ntmps72
    go_wp2_with (go_at_call 68; refine (HP2.out _).mono ?_; rintro e w' ⟨rfl, rfl⟩)
    go_ret2
    exact ⟨by rw [HK2.out]; rfl, rfl⟩
  · have h3 : pre2 37 37 (by8 s) i = false := by simpa using h3
    have HK2 : Hid (p = if keyWords.contains (part (by8 s) (i + 1) m) = true then (4, m) else (0, i)) := by have := HK.out; rwa [h3, if_neg (by simp)] at this
    rw [h3] at HP
    have HP2 : Hid (∀ W : World, Calls Tryd.prog 68 #[.string (s.extract i s.size), .string ⟨#[37, 37]⟩] W fun e w' => e = .returned (.bool false) ∧ w' = W) := HP
    clear HP HK h3
    have ht : (s.extract (i + 1) m).toList = part (by8 s) (i + 1) m := by rw [by8_toList, by8_extract]
    have hk := key_parts (part (by8 s) (i + 1) m)
    rcases hk with ⟨h4, hk⟩ | ⟨h4, hk⟩
    · have HK3 : Hid (p = (4, m)) := by have := HK2.out; rwa [if_pos h4] at this
      rw [← ht] at hk
      clear HK2 h4 ht
      rcases hk with k0 | ⟨k0, k1⟩ | ⟨k0, k1, k2⟩ | ⟨k0, k1, k2, k3⟩ | ⟨k0, k1, k2, k3, k4⟩ | ⟨k0, k1, k2, k3, k4, k5⟩ | ⟨k0, k1, k2, k3, k4, k5, k6⟩
      all_goals
        go_enter Tryd.func72, Tryd.ntmps72
        go_wp2_with (first | (go_at_call 68; refine (HP2.out _).mono ?_; rintro e w' ⟨rfl, rfl⟩) | (go_at_call 48; refine (HE.out _).mono ?_; rintro e w' ⟨rfl, rfl⟩))
        go_ret2
        exact ⟨by rw [HK3.out]; rfl, rfl⟩
    · have HK3 : Hid (p = (0, i)) := by have := HK2.out; rwa [h4, if_neg (by simp)] at this
      rw [← ht] at hk
      clear HK2 h4 ht
      obtain ⟨k0, k1, k2, k3, k4, k5, k6⟩ := hk
      go_enter Tryd.func72, Tryd.ntmps72
      go_wp2_with (first | (go_at_call 68; refine (HP2.out _).mono ?_; rintro e w' ⟨rfl, rfl⟩) | (go_at_call 48; refine (HE.out _).mono ?_; rintro e w' ⟨rfl, rfl⟩))
      go_ret2
      exact ⟨by rw [HK3.out]; rfl, rfl⟩

theorem below_drewN {B : Nat} {a w : World} (h : Below B a w) (n : Nat) : Below B a (w.drewN n) := ⟨h.os, h.tape, h.output, h.size, h.block⟩
theorem below_step {w w1 w2 : World} (h : Below w.heap.size w w1) (k : Below w1.heap.size w1 w2) : Below w.heap.size w w2 := h.trans (k.mono h.size)

end Go.Proofs.YtdgadamkiililaaDoor
