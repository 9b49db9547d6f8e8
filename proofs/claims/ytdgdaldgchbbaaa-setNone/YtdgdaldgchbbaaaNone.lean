/-
  SetNone: whatever the world, the call returns true and leaves all that was there as it was. No condition.
-/
import Derived.Test.YtdgdaldgchbbaaaBegun
import Derived.ProofKit
import Derived.OpenShut
import Derived.ShutString
import Derived.ChangeOld
namespace Go.Proofs.Ytdgdaldgchbbaaa.None
open Go.ChangeShapes Go.WideShapes Go.ChangeAt Go.RowKit Go.Shelf
open Go.ChangeMaps (open_string shut_string)

theorem own : ownKnob Try.prog.godebug = none := by kernel_rfl

set_option maxHeartbeats 4000000 in
theorem walk (w : World) : Calls Try.prog 6 #[] w fun e w' => e = .returned (.bool true) ∧ Below w.heap.size w w' := by
  have H1 := at_nil w 0
  go_enter Try.func6, Try.ntmps6
  go_wp2_with fail
  refine H1.mono ?_
  rintro e w1 ⟨rfl, rfl⟩
  have H2 := of_nil (seg_lit w1 [1] (by decide) #[.int .i64 1] rfl) (by decide)
  go_wp2_with fail
  refine H2.mono ?_
  rintro e w2 ⟨rfl, B2⟩
  have K2 : Hid (Below w1.heap.size w1 w2) := (below_alloc w1 (.cells #[.int .i64 1] 3)).trans (B2.mono (by simp))
  clear H1 H2 B2
  have H3 := begun_spec w2
  go_wp2_with fail
  refine H3.mono ?_
  rintro e w3 ⟨rfl, B3⟩
  have K3 : Hid (Below w1.heap.size w1 w3) := below_step K2.out B3
  clear H3 B3 K2
  have H4 := add_nil 1 w3
  go_wp2_with fail
  refine H4.mono ?_
  rintro e w4 ⟨rfl, B4⟩
  have K4 : Hid (Below w1.heap.size w1 w4) := below_step K3.out B4
  clear H4 B4 K3
  have H5 := del_nil 1 w4
  go_wp2_with fail
  refine H5.mono ?_
  rintro e w5 ⟨rfl, B5⟩
  have K5 : Hid (Below w1.heap.size w1 w5) := below_step K4.out B5
  clear H5 B5 K4
  have H6 := has_nil 1 w5
  go_wp2_with fail
  refine H6.mono ?_
  rintro e w6 ⟨rfl, B6⟩
  have K6 : Hid (Below w1.heap.size w1 w6) := below_step K5.out B6
  clear H6 B6 K5
  have H7 := len_nil w6
  go_wp2_with fail
  refine H7.mono ?_
  rintro e w7 ⟨rfl, rfl⟩
  have H8 := list_nil w7
  go_wp2_with fail
  refine H8.mono ?_
  rintro e w8 ⟨rfl, rfl⟩
  clear H7 H8
  have H9 := of_spec cmp9 (seg_lit w8 [1] (by decide) #[.int .i64 1] rfl) (by decide)
  rw [show join cmpI [] [1] = [1] by decide] at H9
  unfold fnv at H9
  go_wp2_with fail
  refine H9.mono ?_
  rintro e w9 ⟨v9, rfl, S9, B9, -⟩
  have K9 : Hid (Below w1.heap.size w1 w9) := below_step K6.out ((below_alloc w8 (.cells #[.int .i64 1] 3)).trans (B9.mono (by simp)))
  have S9' : SetI w9 (w8.heap.size + 1) 9 v9 [1] := by simpa using S9
  have H10 := union_nil S9' (by decide)
  clear H9 S9 B9 S9' K6
  go_wp2_with fail
  refine H10.mono ?_
  rintro e w10 ⟨rfl, B10⟩
  have K10 : Hid (Below w1.heap.size w1 w10) := below_step K9.out B10
  clear H10 B10 K9
  have H11 := of_spec cmp9 (seg_lit w10 [1] (by decide) #[.int .i64 1] rfl) (by decide)
  unfold fnv at H11
  go_wp2_with fail
  refine H11.mono ?_
  rintro e w11 ⟨v11, rfl, -, B11, -⟩
  have K11 : Hid (Below w1.heap.size w1 w11) := below_step K10.out ((below_alloc w10 (.cells #[.int .i64 1] 3)).trans (B11.mono (by simp)))
  clear H11 B11 K10
  have H12 := union_none (w := w11) (p := w10.heap.size + 1)
  go_wp2_with fail
  refine H12.mono ?_
  rintro e w12 ⟨rfl, rfl⟩
  go_wp2
  go_ret
  exact ⟨rfl, K11.out⟩

set_option maxRecDepth 100000 in
theorem lifted (os : Os) (started : os.Started) (H : Type) (enc : TypeId × Value → H) :
    ReturnsInHanded {} Try.checked os 6 .any (Rows.setNoneSpec.pre6 enc Try.prog Try.f6 Rows.setNoneRow.domain false) (Rows.setNoneSpec.post enc Try.prog Try.f6 false true false false) := by
  refine returnsInHanded_of_change (C := Try.checked) own started (by kernel_rfl) Try.func6
    (ChangeSpec.witness6 (enc := enc) (C := Try.checked) false ⟨#[], #[], []⟩ 8 (by kernel_rfl) (by kernel_rfl) (by kernel_rfl) (by kernel_rfl)) ?_
  intro W base args ds gs before hval0 hW hcnd _
  have hW' := hW
  obtain ⟨p, q, hA0, hV, rfl, hfz, hnd⟩ := hW
  have hA : DataW.TrodAll enc Try.prog W 0 (fun _ => true) true Try.f6.params.toList args.toList ds p := hA0
  rw [Try.params6] at hA
  obtain ⟨rfl, rfl, rfl⟩ := trodAll_none hA
  obtain ⟨rfl, rfl⟩ := trodVars_none hV
  clear hA0 hval0
  simp only [List.append_nil] at hW'
  refine (walk W).mono fun e W' ⟨he, bel⟩ => ?_
  subst he
  exact ⟨_, rfl, _, _, _, [], [], [], hW', trodAll_mk1 (shut_bool Try.underlying4 _), trodAll_mk0, rfl, bel.frame _, fun h => by cases h⟩

theorem over : Rows.setNoneRow.holds Try.pinned (OpenSpec.ofChange Rows.setNoneSpec) :=
  OpenClaim.holds_of_wide 6 Try.f6 rfl rfl rfl rfl rfl rfl rfl ⟨rfl, rfl, rfl, rfl, rfl⟩ rfl rfl rfl rfl rfl (by kernel_rfl) Try.func6 (by kernel_rfl)
    (of_decide_eq_true (by kernel_rfl)) (by unfold Func.isWrapper; first | (rw [if_pos (by decide +kernel)]; kernel_rfl) | (rw [if_neg (by decide +kernel)]; exact ⟨rfl, rfl⟩))
    (fun os started H enc _ => lifted os started H enc)

end Go.Proofs.Ytdgdaldgchbbaaa.None
namespace Go.Proofs.Ytdgdaldgchbbaaa
theorem setNone_holds : Rows.SetNoneSaid := None.over
#print axioms setNone_holds
end Go.Proofs.Ytdgdaldgchbbaaa
