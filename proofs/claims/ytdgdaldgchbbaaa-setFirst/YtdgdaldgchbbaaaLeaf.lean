/-
  The small functions: the two orders of numbers, New, the deferred closure of find.
-/
import Derived.Test.YtdgdaldgchbbaaaBase
import Derived.Defers
import Derived.Recover
import Derived.Deep.LoopGhost
import Derived.RegionTactic
import Derived.ChangeAlike
import Derived.Deep.QuietTactic
import Derived.BigQuiet
import Derived.Deep.DeepCutAuto
namespace Go.Proofs.Ytdgdaldgchbbaaa
open Go.RowKit

/-- A function as a value. -/
def fnv (g : Nat) : Value := .func (.func g) #[] #[]

theorem compare_spec (a b : Int) (w : World) : Calls Try.prog 9 #[.int .i64 a, .int .i64 b] w fun e w' => e = .returned (.int .i64 (cmpI a b)) ∧ w' = w := by
  unfold cmpI
  go_enter Try.func9, Try.ntmps9
  by_cases h1 : a < b
  · go_wp2
    go_ret
    exact ⟨by simp, rfl⟩
  · by_cases h2 : b < a
    · go_wp2
      go_ret
      exact ⟨by simp, rfl⟩
    · go_wp2
      go_ret
      exact ⟨by simp, rfl⟩

theorem back_spec (a b : Int) (w : World) : Calls Try.prog 10 #[.int .i64 a, .int .i64 b] w fun e w' => e = .returned (.int .i64 (bakI a b)) ∧ w' = w := by
  have hc := compare_spec b a w
  unfold bakI
  generalize cmpI b a = r at hc ⊢
  go_enter Try.func10, Try.ntmps10
  go_wp2_with (go_at_call 9; refine hc.mono ?_; rintro e w' ⟨rfl, rfl⟩)
  go_ret
  exact ⟨rfl, rfl⟩

theorem eqfn (g : Nat) (w : World) : (binOp BinOp.eql 24 (.func (.func g) #[] #[]) .nilFunc).run Try.prog w = .ok (.bool false) w := by kernel_rfl
theorem eqfn_nil (w : World) : (binOp BinOp.eql 24 .nilFunc .nilFunc).run Try.prog w = .ok (.bool true) w := by kernel_rfl

theorem new_spec (g : Nat) (w : World) : Calls Try.prog 11 #[fnv g] w fun e w' => e = .returned (.pointer (some ⟨w.heap.size, 0, none⟩)) ∧ w' = w.alloc (.cells #[fnv g, .slice none 0 0] 59) := by
  unfold fnv
  have hq := eqfn g
  go_enter Try.func11, Try.ntmps11
  go_wp2
  go_ret
  exact ⟨rfl, rfl⟩

theorem new_nil (w : World) : Calls Try.prog 11 #[.nilFunc] w fun e w' => e = .returned (.pointer none) ∧ w' = w := by
  have hq := eqfn_nil
  go_enter Try.func11, Try.ntmps11
  go_wp2
  go_ret
  exact ⟨rfl, rfl⟩

/-- The deferred closure where nothing panicked. -/
theorem catch_idle (p : Nat) (x : Value) (w : World) (hc : w.cell? ⟨p, 0, none⟩ = some x) (hz : w.frozen? ⟨p, 0, none⟩ = false) :
    CallsD Try.prog 43 #[.pointer (some ⟨p, 0, none⟩)] .returning w fun e u' w' => e = .returned (.tuple #[]) ∧ u' = .returning ∧ w' = w.setCell ⟨p, 0, none⟩ (.bool true) := by
  refine callsD_of_wpS Try.func43 rfl fun c₀ cs hu => ?_
  apply wpS_region
  simp [wpOpsS, go_sem, recoverD, hu, Try.ntmps43, hc, hz]
  cases c₀
  simp_all [bodyPostS, results, Try.results43]

end Go.Proofs.Ytdgdaldgchbbaaa
