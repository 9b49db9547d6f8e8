/-
  The walks of Itoa, of numbers from 1 to 9,999.
-/
import Derived.Test.YtdgadamkiililaaDoorJoin
import Derived.Laws.Shifts
import Derived.Laws.Bits
import Derived.Lib.ItoaWalk
import Derived.Lib.ItoaNum
import Derived.Lib.BitFns
namespace Go.Proofs.YtdgadamkiililaaDoor
open Go.RowKit

/-- The powers of ten that the program lays. -/
def Pow (w : World) : Prop := ∀ i : Nat, i < 20 → w.cell? ⟨0, i, none⟩ = some (.int .u64 ((10 ^ i : Nat) : Int))
theorem Pow.below {w w' : World} (h : Pow w) (hb : Below w.heap.size w w') : Pow w' := fun i hi => cell_below hb (h i hi)

theorem bool2_calls (b : Bool) (w : World) : Calls Tryd.prog 77 #[.bool b] w fun e w' => e = .returned (.int .i64 (if b then 1 else 0)) ∧ w' = w := by
  cases b
  · go_enter Tryd.func77, Tryd.ntmps77
    go_wp2
    go_ret
    exact ⟨rfl, rfl⟩
  · go_enter Tryd.func77, Tryd.ntmps77
    go_wp2
    go_ret
    exact ⟨rfl, rfl⟩

set_option maxHeartbeats 1000000 in
theorem log10_calls (x : Nat) (w : World) (hx : x ≤ 64) : Calls Tryd.prog 75 #[.int .i64 x] w fun e w' => e = .returned (.int .i64 ((x * 78913) / 262144 : Nat)) ∧ w' = w := by
  go_enter Tryd.func75, Tryd.ntmps75
  go_wp2
  go_ret
  exact ⟨rfl, rfl⟩

theorem run_index_k (k : IntKind) (s : ByteArray) (i : Nat) (h : i < s.size) (W : World) : (Instr.index 9 (.string s) (.int k (i : Int))).run Tryd.prog W = .ok (.int .u8 (bt (by8 s) i)) W := by
  rw [run_index_string W 9 s k (i : Int) Tryd.underlying9, dif_pos ⟨by omega, by omega⟩]
  rw [← bt_at s i h]
  rfl

/-- How many bits a byte takes. -/
def bitsOf (n : Nat) : Nat := if n = 0 then 0 else if n < 2 then 1 else if n < 4 then 2 else if n < 8 then 3 else if n < 16 then 4 else if n < 32 then 5 else if n < 64 then 6 else if n < 128 then 7 else 8

/-- How many bits a number below 65,536 takes. -/
def len16 (n : Nat) : Nat := if 256 ≤ n then 8 + bitsOf (n / 256) else bitsOf n

theorem bitsOf_le (n : Nat) : bitsOf n ≤ 8 := by unfold bitsOf; repeat' split
                                                 all_goals omega

set_option maxHeartbeats 1000000 in
set_option maxRecDepth 100000 in
theorem len64_calls (n : Nat) (w : World) (hn : n ≤ 9999) : Calls Tryd.prog 76 #[.int .u64 n] w fun e w' => e = .returned (.int .i64 (len16 n : Nat)) ∧ w' = w := by
  go_enter Tryd.func76, Tryd.ntmps76
  go_name_bytes L8 hL8
  have hall : ∀ i : Nat, i < 256 → ∀ W : World, (Instr.index 9 (.string L8) (.int .u8 (i : Int))).run Tryd.prog W = .ok (.int .u8 (bitsOf i : Nat)) W := fun i h W => by
    have hsz : L8.size = 256 := by rw [← hL8]; kernel_rfl
    rw [run_index_k .u8 _ i (by omega) W]
    have all : ((List.range 256).all fun i => bt (by8 L8) i == ((bitsOf i : Nat) : Int)) = true := by rw [← hL8]; kernel_rfl
    have := List.all_eq_true.1 all i (List.mem_range.2 h)
    rw [beq_iff_eq] at this
    rw [this]
  have HA : Hid (∀ i : Nat, i < 256 → ∀ W : World, (Instr.index 9 (.string L8) (.int .u8 (i : Int))).run Tryd.prog W = .ok (.int .u8 (bitsOf i : Nat)) W) := hall
  clear hall hL8
  obtain ⟨x, hx⟩ : ∃ x : Int, x = n := ⟨_, rfl⟩
  have HX : Hid (x = n) := hx
  have hx0 : 0 ≤ x := by omega
  have hx1 : x ≤ 9999 := by omega
  rw [← hx]
  clear hx
  by_cases h : 256 ≤ x
  · have hi : ∀ W : World, (Instr.index 9 (.string L8) (.int .u8 (x / 256))).run Tryd.prog W = .ok (.int .u8 (bitsOf (n / 256) : Nat)) W := fun W => by
      have := HA.out (n / 256) (by omega) W
      rwa [show ((n / 256 : Nat) : Int) = x / 256 by have := HX.out; omega] at this
    have hb := bitsOf_le (n / 256)
    have HL : Hid (len16 n = 8 + bitsOf (n / 256)) := by show _ = _; unfold len16; rw [if_pos (by have := HX.out; omega)]
    generalize bitsOf (n / 256) = m at hi hb HL
    go_wp2
    go_ret
    exact ⟨by rw [HL.out]; simp, rfl⟩
  · have hi : ∀ W : World, (Instr.index 9 (.string L8) (.int .u8 x)).run Tryd.prog W = .ok (.int .u8 (bitsOf n : Nat)) W := fun W => by
      have := HA.out n (by have := HX.out; omega) W
      rwa [← HX.out] at this
    have hb := bitsOf_le n
    have HL : Hid (len16 n = bitsOf n) := by show _ = _; unfold len16; rw [if_neg (by have := HX.out; omega)]
    generalize bitsOf n = m at hi hb HL
    go_wp2
    go_ret
    exact ⟨by rw [HL.out]; simp, rfl⟩

/-- How many digits a number from 100 to 9,999 takes. -/
theorem nd_all : ((List.range 10000).all fun n => decide (n < 100) || (decide (len16 n * 78913 / 262144 < 20) && (len16 n * 78913 / 262144 + (if 10 ^ (len16 n * 78913 / 262144) ≤ n then 1 else 0) == (if n < 1000 then 3 else 4)))) = true := by kernel_rfl

set_option maxHeartbeats 1000000 in
set_option maxRecDepth 100000 in
theorem numDigits_calls (n : Nat) (w : World) (h1 : 100 ≤ n) (hn : n ≤ 9999) (hp : Pow w) : Calls Tryd.prog 65 #[.int .u64 n] w fun e w' => e = .returned (.int .i64 (if n < 1000 then 3 else 4 : Nat)) ∧ w' = w := by
  have H1 : Hid (∀ W : World, Calls Tryd.prog 76 #[.int .u64 n] W fun e w' => e = .returned (.int .i64 (len16 n : Nat)) ∧ w' = W) := fun W => len64_calls n W hn
  have hl : len16 n ≤ 64 := by
    unfold len16
    have := bitsOf_le (n / 256)
    have := bitsOf_le n
    split <;> omega
  have H2 : Hid (∀ W : World, Calls Tryd.prog 75 #[.int .i64 (len16 n : Nat)] W fun e w' => e = .returned (.int .i64 ((len16 n * 78913) / 262144 : Nat)) ∧ w' = W) := fun W => log10_calls (len16 n) W hl
  have hall := List.all_eq_true.1 nd_all n (List.mem_range.2 (by omega))
  rw [decide_eq_false (by omega), Bool.false_or, Bool.and_eq_true, decide_eq_true_eq, beq_iff_eq] at hall
  have hc := hp _ hall.1
  have HF : Hid (len16 n * 78913 / 262144 + (if 10 ^ (len16 n * 78913 / 262144) ≤ n then 1 else 0) = (if n < 1000 then 3 else 4)) := hall.2
  have hq := hall.1
  obtain ⟨T, hT0⟩ : ∃ T, 10 ^ (len16 n * 78913 / 262144) = T := ⟨_, rfl⟩
  have HT : Hid (10 ^ (len16 n * 78913 / 262144) = T) := hT0
  clear hT0
  rw [HT.out] at hc HF
  generalize len16 n * 78913 / 262144 = q at H2 hc HF hq
  generalize (if n < 1000 then 3 else 4 : Nat) = R at HF ⊢
  generalize len16 n = m at H1 H2
  clear hall HT hp hl
  by_cases hT : T ≤ n
  · have HF2 : Hid (q + 1 = R) := by have := HF.out; rwa [if_pos hT] at this
    have hT' : (T : Int) ≤ (n : Int) := by omega
    clear HF hT
    go_enter Tryd.func65, Tryd.ntmps65
    go_wp2_with (first | (go_at_call 76; refine (H1.out _).mono ?_; rintro e w1 ⟨rfl, rfl⟩) | (go_at_call 75; refine (H2.out _).mono ?_; rintro e w1 ⟨rfl, rfl⟩) | (go_at_call 77; refine (bool2_calls _ _).mono ?_; rintro e w1 ⟨rfl, rfl⟩))
    go_ret
    exact ⟨by rw [← HF2.out]; simp, rfl⟩
  · have HF2 : Hid (q = R) := by have := HF.out; rwa [if_neg hT] at this
    have hT' : ¬ (T : Int) ≤ (n : Int) := by omega
    clear HF hT
    go_enter Tryd.func65, Tryd.ntmps65
    go_wp2_with (first | (go_at_call 76; refine (H1.out _).mono ?_; rintro e w1 ⟨rfl, rfl⟩) | (go_at_call 75; refine (H2.out _).mono ?_; rintro e w1 ⟨rfl, rfl⟩) | (go_at_call 77; refine (bool2_calls _ _).mono ?_; rintro e w1 ⟨rfl, rfl⟩))
    go_ret
    exact ⟨by rw [← HF2.out]; simp, rfl⟩

theorem small_all1 : ((List.range 10).all fun n => part (by8 Lib.digits36) n (n + 1) == dg 6 n []) = true := by kernel_rfl
theorem small_all2 : ((List.range 100).all fun n => decide (n < 10) || (part (by8 Lib.smalls) (n * 2) (n * 2 + 2) == dg 6 n [])) = true := by kernel_rfl

set_option maxHeartbeats 1000000 in
set_option maxRecDepth 100000 in
theorem small_calls (n : Nat) (w : World) (hn : n < 100) : Calls Tryd.prog 64 #[.int .i64 n] w fun e w' => ∃ t, e = .returned (.string t) ∧ by8 t = dg 6 n [] ∧ w' = w := by
  go_enter Tryd.func64, Tryd.ntmps64
  go_name_bytes_deep 45 SM hSM
  have eSM : SM = Lib.smalls := by rw [← hSM]; decide +kernel
  subst eSM
  clear hSM
  go_name_bytes_deep 30 DG hDG
  have eDG : DG = Lib.digits36 := by rw [← hDG]; decide +kernel
  subst eDG
  clear hDG
  by_cases h : n < 10
  · have hsl : ∀ w, (Instr.slice 9 (.string Lib.digits36) (some (.int .i64 (n : Int))) (some (.int .i64 ((n : Int) + 1))) none).run Tryd.prog w = .ok (.string (Lib.digits36.extract n (n + 1))) w := fun w => by
      rw [run_slice_string w 9 Lib.digits36 .i64 .i64 _ _ Tryd.underlying9 (by omega) (by omega) (by rw [Lib.digits36_size]; omega), show ((n : Int)).toNat = n by omega, show ((n : Int) + 1).toNat = n + 1 by omega]
    have HF : Hid (by8 (Lib.digits36.extract n (n + 1)) = dg 6 n []) := by
      show _ = _
      rw [by8_extract]
      have := List.all_eq_true.1 small_all1 n (List.mem_range.2 h)
      rwa [beq_iff_eq] at this
    generalize Lib.digits36.extract n (n + 1) = t at hsl HF
    go_wp2
    go_ret
    exact ⟨t, rfl, HF.out, rfl⟩
  · have hsl : ∀ w, (Instr.slice 9 (.string Lib.smalls) (some (.int .i64 ((n : Int) * 2))) (some (.int .i64 ((n : Int) * 2 + 2))) none).run Tryd.prog w = .ok (.string (Lib.smalls.extract (n * 2) (n * 2 + 2))) w := fun w => by
      rw [run_slice_string w 9 Lib.smalls .i64 .i64 _ _ Tryd.underlying9 (by omega) (by omega) (by rw [Lib.smalls_size]; omega), show ((n : Int) * 2).toNat = n * 2 by omega, show ((n : Int) * 2 + 2).toNat = n * 2 + 2 by omega]
    have HF : Hid (by8 (Lib.smalls.extract (n * 2) (n * 2 + 2)) = dg 6 n []) := by
      show _ = _
      rw [by8_extract]
      have := List.all_eq_true.1 small_all2 n (List.mem_range.2 hn)
      rw [decide_eq_false h, Bool.false_or] at this
      rwa [beq_iff_eq] at this
    generalize Lib.smalls.extract (n * 2) (n * 2 + 2) = t at hsl HF
    go_wp2
    go_ret
    exact ⟨t, rfl, HF.out, rfl⟩

end Go.Proofs.YtdgadamkiililaaDoor
