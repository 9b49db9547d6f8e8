/-
  The walks of the small functions: fold, unfold.
-/
import Derived.Test.YtljacfnlianpdaaBase
namespace Go.Proofs.Ytljacfnlianpdaa
open Go.RowKit

theorem ret_int {k : IntKind} {a b : Int} (h : a = b) : Ending.returned (.int k a) = .returned (.int k b) := by rw [h]

theorem fold_neg {n : Int} (h : n < 0) (h0 : -9223372036854775808 ≤ n) : ((Num.fold n : Nat) : Int) = 2 * (-(n + 1)) + 1 := by
  unfold Num.fold; rw [if_pos h]; omega
theorem fold_pos {n : Int} (h : ¬ n < 0) : ((Num.fold n : Nat) : Int) = 2 * n := by
  unfold Num.fold; rw [if_neg h]; omega

set_option maxHeartbeats 400000 in
theorem fold_calls (n : Int) (w : World) (h0 : -9223372036854775808 ≤ n) (h1 : n ≤ 9223372036854775807) :
    Calls Try.prog 24 #[.int .i64 n] w fun e w' => e = .returned (.int .u64 (Num.fold n)) ∧ w' = w := by
  by_cases h : n < 0
  · have H := fold_neg h h0
    have HH : Hid _ := H
    clear H
    go_enter Try.func24, Try.ntmps24
    go_wp2
    go_ret
    exact ⟨ret_int (by rw [HH.out]), rfl⟩
  · have H := fold_pos h
    have HH : Hid _ := H
    clear H
    go_enter Try.func24, Try.ntmps24
    go_wp2
    go_ret
    exact ⟨ret_int (by rw [HH.out]), rfl⟩

set_option maxHeartbeats 400000 in
theorem unfold_calls (u : Int) (w : World) (h0 : 0 ≤ u) (h1 : u < 18446744073709551616) :
    Calls Try.prog 23 #[.int .u64 u] w fun e w' => e = .returned (.int .i64 (Num.unf u.toNat)) ∧ w' = w := by
  have HH : Hid (Num.unf u.toNat = if u % 2 = 1 then -(u / 2) - 1 else u / 2) := by
    show _ = _
    unfold Num.unf; split <;> split <;> omega
  by_cases h : u % 2 = 1
  · have hb : (u % 2 == 1) = true := by simp [h]
    go_enter Try.func23, Try.ntmps23
    go_wp2
    go_ret
    exact ⟨ret_int (by rw [HH.out, if_pos h]), rfl⟩
  · have hb : (u % 2 == 1) = false := by simp [h]
    go_enter Try.func23, Try.ntmps23
    go_wp2
    go_ret
    exact ⟨ret_int (by rw [HH.out, if_neg h]), rfl⟩

end Go.Proofs.Ytljacfnlianpdaa
