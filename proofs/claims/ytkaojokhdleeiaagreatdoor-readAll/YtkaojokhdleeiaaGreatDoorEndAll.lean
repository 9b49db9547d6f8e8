/-
  ReadAll: for every text, read.Read and the document's answer agree (the call returns true), under no condition but the tied tables and sentinels.
-/
import Derived.Test.YtkaojokhdleeiaaGreatDoorOwn12
import Derived.Test.YtkaojokhdleeiaaGreatDoorCards
import Derived.Test.YtkaojokhdleeiaaGreatDoorTie
import Derived.OpenShut
import Derived.ShutString
import Derived.ChangeOld
import Derived.Below
import Derived.SevenTiedAt
/-
  ReadAll: whatever the input, the call returns true and leaves all that was there as it was.
-/
namespace Go.Proofs.YtkaojokhdleeiaaGreatDoor.All
open Go.RowKit

set_option maxRecDepth 20000

set_option maxHeartbeats 4000000 in
theorem walk (a0 : ByteArray) (w : World) (hp : Pow w) : Calls Tryz.prog 3 #[.string a0] w fun e w' => e = .returned (.bool true) ∧ Below w.heap.size w w' := by
  have H1 : Hid (Calls Tryz.prog 9 #[] w fun e w' => e = .returned (.bool true) ∧ Below w.heap.size w w') := begun6_calls w hp
  have H2 : Hid (∀ W : World, Calls Tryz.prog 11 #[.string a0, .int .i64 2010] W fun e w' => e = .returned (.string (cutS a0 2010)) ∧ w' = W) := fun W => cut_calls a0 2010 W
  have H3 : Hid (∀ W : World, Calls Tryz.prog 10 #[.string (cutS a0 2010)] W fun e w' => e = .returned (.bool true) ∧ Below W.heap.size W w') := fun W => same_calls (cutS a0 2010) W (by have := cutS_size a0 2010; omega)
  generalize cutS a0 2010 = c at *
  clear hp
  go_enter Tryz.func3, Tryz.ntmps3
  go_wp2_with fail
  refine H1.out.mono ?_
  rintro e V ⟨rfl, hB⟩
  have HB : Hid (Below w.heap.size w V) := hB
  clear hB
  go_wp2_with fail
  refine (H2.out _).mono ?_
  rintro e V1 ⟨rfl, hV⟩
  subst hV
  go_wp2_with fail
  refine (H3.out _).mono ?_
  rintro e V2 ⟨rfl, hB⟩
  have HB2 : Hid (Below w.heap.size w V2) := below_step HB.out hB
  clear hB
  go_wp2_with fail
  go_ret
  exact ⟨rfl, HB2.out⟩

end Go.Proofs.YtkaojokhdleeiaaGreatDoor.All

/-
  ReadAll: for every text, read.Read and the document's answer agree (the call returns true), under no condition but the tied tables and sentinels.
-/
namespace Go.Proofs.YtkaojokhdleeiaaGreatDoor.All
open Go.ChangeShapes Go.WideShapes Go.ChangeAt Go.RowKit
open Go.ChangeMaps (open_string shut_string)

set_option maxRecDepth 100000 in
theorem lifted (os : Os) (started : os.Started) (H : Type) (enc : TypeId × Value → H) :
    ReturnsInHanded {} Tryz.checked os 3 .any (fun w args => (Rows.readAllSpec.pre enc Tryz.prog Tryz.f3 [] false w args ∧ laidMetH Tryz.prog laid5 w) ∧ sizedMet enc Tryz.prog Tryz.f3 (OpenSpec.ofChange Rows.readAllSpec) false w args) (Rows.readAllSpec.post enc Tryz.prog Tryz.f3 false true false false) := by
  refine returnsInHanded_of_change_and (C := Tryz.checked) (X := fun w _ => laidMetH Tryz.prog laid5 w) (fun _ _ _ hh h => h.of_heap hh) own started (by kernel_rfl) Tryz.func3
    (ChangeSpec.witness_shaped (enc := enc) (C := Tryz.checked) (os := os) (X := fun w _ => laidMetH Tryz.prog laid5 w) false (World.doorLaid Tryz.prog 64 os) #[.string ⟨#[]⟩] 8 rfl (World.shaped_of_RefB (by kernel_rfl) (by kernel_rfl)) (by kernel_rfl) (by kernel_rfl) (by kernel_rfl) (door_met os _)) ?_
  intro W base args ds gs before hval0 hW _ _ hL _
  have hval : ∀ (j : Nat) t v, Tryz.f3.params[j]? = some t → args[j]? = some v → Value.okWide Tryz.prog W .any base t v := hval0
  have hW' := hW
  obtain ⟨p, q, hA0, hV, rfl, _, _⟩ := hW
  have hA : DataW.TrodAll enc Tryz.prog W 0 (fun _ => true) true Tryz.f3.params.toList args.toList ds p := hA0
  rw [Tryz.params3] at hA hval
  obtain ⟨v0, vs0, d0, ds0, p0, q0, _, rfl, rfl, h0, r0⟩ := trodAll_cons hA
  obtain ⟨rfl, rfl, rfl⟩ := trodAll_nil r0
  obtain rfl : args = #[v0] := by cases args; simp_all
  obtain ⟨rfl, rfl⟩ := trodVars_none hV
  obtain ⟨a0, rfl, rfl, rfl, w0⟩ := open_string Tryz.underlying9 (hval 0 9 v0 rfl rfl) h0
  clear hA0 hval0
  simp only [List.append_nil] at hW'
  refine (walk a0 W (pow_of_laid hL)).mono fun e W' ⟨he, bel⟩ => ?_
  subst he
  exact ⟨_, rfl, _, _, _, [], _, [], hW', trodAll_mk1 (shut_bool Tryz.underlying4 _), (trodAll_cons_mk (shut_string Tryz.underlying9 w0) trodAll_mk0), rfl, bel.frame _, fun h => by cases h⟩

theorem over : Rows.readAllRow.holds Tryz.pinned (OpenSpec.ofChange Rows.readAllSpec) :=
  OpenClaim.holds_of_wide 3 Tryz.f3 rfl rfl rfl rfl rfl rfl rfl ⟨rfl, rfl, rfl, rfl, rfl⟩ rfl rfl rfl rfl rfl (by kernel_rfl) Tryz.func3 (by kernel_rfl)
    (of_decide_eq_true (by kernel_rfl)) (by unfold Func.isWrapper; first | (rw [if_pos (by decide +kernel)]; kernel_rfl) | (rw [if_neg (by decide +kernel)]; exact ⟨rfl, rfl⟩))
    (fun os started H enc _ => lifted os started H enc)

theorem card : Claim7.holds Tryz.pinned (.plain (OpenSpec.ofChange Rows.readAllSpec)) Rows.readAllCard :=
  Claim7.holds_tied_plain_at .later [] [.data, .data, .data, .sentinel, .sentinel] true (true, "a34ec45f1bf4a802a45acaf3f737525841640676f706a3d95b9ddd94c0393142") true
    over (fun _ h => by cases h) (by kernel_rfl) (fun _ h => by cases h) readAll_row_tie rfl ⟨rfl, rfl⟩ (by kernel_rfl) rfl
    (fun f fn hf hfn => by
      obtain rfl : f = 3 := Option.some.inj ((show Tryz.prog.funcNamed "donatus/donatuslaw6.ReadAll" = some 3 by kernel_rfl).symm.trans hf) |>.symm
      obtain rfl : fn = Tryz.f3 := (Option.some.inj (Tryz.func3.symm.trans hfn)).symm
      exact ⟨by kernel_rfl, fun j t ht => by
        rw [Tryz.params3] at ht
        have hm : t ∈ [9] := by simpa using Array.mem_of_getElem? ht
        have hall : ([9].all fun u => !Tryz.prog.wantsStandIn u) = true := by kernel_rfl
        exact (show Tryz.prog.wantsStandIn t = false by simpa using List.all_eq_true.1 hall t hm)⟩)
    (by kernel_rfl)

end Go.Proofs.YtkaojokhdleeiaaGreatDoor.All
namespace Go.Proofs.YtkaojokhdleeiaaGreatDoor
theorem readAll_holds : Rows.ReadAllCardSaid := All.card
#print axioms readAll_holds
end Go.Proofs.YtkaojokhdleeiaaGreatDoor
