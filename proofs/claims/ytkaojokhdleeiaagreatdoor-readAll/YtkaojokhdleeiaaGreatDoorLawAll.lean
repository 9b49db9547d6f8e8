/-
  ReadAll: whatever the input, the call returns true and leaves all that was there as it was.
-/
import Derived.Test.YtkaojokhdleeiaaGreatDoorOwn12
namespace Go.Proofs.YtkaojokhdleeiaaGreatDoor.All
open Go.RowKit

set_option maxRecDepth 20000

set_option maxHeartbeats 4000000 in
theorem walk (a0 : ByteArray) (w : World) (hp : Pow w) : Calls Tryz.prog 3 #[.string a0] w fun e w' => e = .returned (.bool true) ∧ Below w.heap.size w w' := by
  have H1 : Hid (Calls Tryz.prog 9 #[] w fun e w' => e = .returned (.bool true) ∧ Below w.heap.size w w') := begun6_calls w hp
  have H2 : Hid (∀ W : World, Calls Tryz.prog 11 #[.string a0, .int .i64 2010] W fun e w' => e = .returned (.string (cutS a0 2010)) ∧ w' = W) := fun W => cut_calls a0 2010 W
  have H3 : Hid (∀ W : World, Calls Tryz.prog 10 #[.string (cutS a0 2010)] W fun e w' => e = .returned (.bool true) ∧ Below W.heap.size W w') := fun W => same_calls (cutS a0 2010) W (by have := cutS_size a0 2010; omega)
  generalize cutS a0 2010 = c at *
  clear hp
  go_enter Tryz.func3, Tryz.ntmps3
  go_wp2_with fail
  refine H1.out.mono ?_
  rintro e V ⟨rfl, hB⟩
  have HB : Hid (Below w.heap.size w V) := hB
  clear hB
  go_wp2_with fail
  refine (H2.out _).mono ?_
  rintro e V1 ⟨rfl, hV⟩
  subst hV
  go_wp2_with fail
  refine (H3.out _).mono ?_
  rintro e V2 ⟨rfl, hB⟩
  have HB2 : Hid (Below w.heap.size w V2) := below_step HB.out hB
  clear hB
  go_wp2_with fail
  go_ret
  exact ⟨rfl, HB2.out⟩

end Go.Proofs.YtkaojokhdleeiaaGreatDoor.All
