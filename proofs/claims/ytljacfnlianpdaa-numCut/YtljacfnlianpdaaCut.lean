/-
  Proved: whatever number, text and cut are handed in, the Go function NumCut returns true and leaves them as they were. No condition.
-/
import Derived.Test.YtljacfnlianpdaaBegun
import Derived.ProofKit
import Derived.OpenShut
import Derived.ShutString
import Derived.ChangeOld
namespace Go.Proofs.Ytljacfnlianpdaa.Cut
open Go.ChangeShapes Go.WideShapes Go.ChangeAt Go.RowKit
open Go.ChangeMaps (open_string shut_string)

theorem own : ownKnob Try.prog.godebug = none := by kernel_rfl

theorem text_cut (t : List Int) (m : Int) (hm : m = t.length) (ht : t.length ≤ 1048576) (j : Nat) (hj : j < (Num.put m).length + t.length) : Num.getText ((Num.put m ++ t).take j) = ([], 0, 2) := by
  subst hm
  have h0 : (-9223372036854775808 : Int) ≤ t.length := by omega
  have h1 : (t.length : Int) ≤ 9223372036854775807 := by omega
  rw [List.take_append]
  by_cases h : j < (Num.put t.length).length
  · rw [show j - (Num.put t.length).length = 0 by omega, List.take_zero, List.append_nil]
    exact getText_err (Num.get_cut h0 h1 j h) (by decide)
  · rw [List.take_of_length_le (by omega)]
    refine getText_more (Num.get_put h0 h1 _) (by omega) ?_
    rw [List.length_append, List.length_take]
    omega

set_option maxHeartbeats 800000 in
theorem walk (n : Int) (s : ByteArray) (cut : Int) (w : World) (n0 : -9223372036854775808 ≤ n) (n1 : n ≤ 9223372036854775807) (hs : s.size ≤ 9223372036854775807) (c0 : -9223372036854775808 ≤ cut) (c1 : cut ≤ 9223372036854775807) :
    Calls Try.prog 7 #[.int .i64 n, .string s, .int .i64 cut] w fun e w' => e = .returned (.bool true) ∧ Below w.heap.size w w' := by
  rcases (show ((100 : Int) < s.size ∧ (s.extract 0 100).size ≤ 100) ∨ ((s.size : Int) ≤ 100 ∧ s.size ≤ 100) from by
    by_cases h : (100 : Int) < s.size
    · exact .inl ⟨h, by rw [ByteArray.size_extract]; omega⟩
    · exact .inr ⟨by omega, by omega⟩) with ⟨hA, ht⟩ | ⟨hE, ht⟩
  all_goals
    go_enter Try.func7, Try.ntmps7
    go_wp2_with fail
    refine (begun_calls _).mono ?_
    rintro e w1 ⟨rfl, hb1⟩
    go_wp2_with fail
    refine (put_nil n _ n0 n1).mono ?_
    rintro e w2 ⟨ao2, cap2, rfl, hs2, hb2⟩
    go_wp2_with fail
    first
      | (clear hA; generalize s.extract 0 100 = t at *)
      | (clear hE; generalize s = t at *)
    refine (putText_nil t _ (by omega)).mono ?_
    rintro e w3 ⟨ao3, cap3, rfl, hs3, hb3⟩
    have hB : Below w.heap.size w w3 := below_step (below_step hb1 hb2) hb3
    have HC : Hid (∀ j, j < (Num.put n).length → Num.get ((Num.put n).take j) = (0, 0, 2)) := fun j hj => Num.get_cut n0 n1 j hj
    have HT : Hid (∀ j, j < (Num.put t.size).length + t.size → Num.getText ((Num.put t.size ++ ofStr t).take j) = ([], 0, 2)) := fun j hj =>
      text_cut (ofStr t) _ (by rw [ofStr_length]) (by rw [ofStr_length]; omega) j (by rw [ofStr_length]; exact hj)
    have H2 : Hid (Seg w3 ao2 (Num.put n).length cap2 (Num.put n)) := hs2.below hb3
    have H3 : Hid (Seg w3 ao3 ((Num.put t.size).length + t.size) cap3 (Num.put t.size ++ ofStr t)) := hs3
    have hlb := Num.put_ten n0 n1
    have hlc : (Num.put t.size).length + t.size ≤ 110 := by have := Num.put_ten (n := (t.size : Int)) (by omega) (by omega); omega
    have hc2 := hs2.le
    have hc3 := hs3.le
    have hm2 := hs2.max
    have hm3 := hs3.max
    unfold maxLen at hm2 hm3
    clear hs2 hs3 hb2 hb3
    generalize Num.put n = pn at *
    generalize (Num.put t.size ++ ofStr t) = pt at *
    generalize pn.length = lb at *
    generalize (Num.put t.size).length + t.size = lc at *
    by_cases h1 : cut < 1
    · go_wp2
      go_ret
      exact ⟨rfl, hB⟩
    · obtain ⟨c, rfl⟩ := Int.eq_ofNat_of_zero_le (show 0 ≤ cut by omega)
      by_cases h2 : (c : Int) ≤ lb
      · by_cases h3 : (c : Int) ≤ lc
        · go_wp2_with fail
          refine (get_calls _ _ _ _ _ (H2.out.front (lb - c) (by omega))).mono ?_
          rintro e w4 ⟨rfl, rfl⟩
          rw [HC.out (lb - c) (by omega)]
          unfold ans3
          go_wp2_with fail
          refine (getText_calls _ _ _ _ _ (H3.out.front (lc - c) (by omega))).mono ?_
          rintro e w4 ⟨rfl, rfl⟩
          rw [HT.out (lc - c) (by omega)]
          unfold ansText
          have hst : strOfNums [] = { data := #[] } := rfl
          go_wp2
          go_ret
          exact ⟨rfl, hB⟩
        · go_wp2_with fail
          refine (get_calls _ _ _ _ _ (H2.out.front (lb - c) (by omega))).mono ?_
          rintro e w4 ⟨rfl, rfl⟩
          rw [HC.out (lb - c) (by omega)]
          unfold ans3
          go_wp2
          go_ret
          exact ⟨rfl, hB⟩
      · by_cases h3 : (c : Int) ≤ lc
        · go_wp2_with fail
          refine (getText_calls _ _ _ _ _ (H3.out.front (lc - c) (by omega))).mono ?_
          rintro e w4 ⟨rfl, rfl⟩
          rw [HT.out (lc - c) (by omega)]
          unfold ansText
          have hst : strOfNums [] = { data := #[] } := rfl
          go_wp2
          go_ret
          exact ⟨rfl, hB⟩
        · go_wp2
          go_ret
          exact ⟨rfl, hB⟩

set_option maxRecDepth 100000 in
theorem lifted (os : Os) (started : os.Started) (H : Type) (enc : TypeId × Value → H) :
    ReturnsInHanded {} Try.checked os 7 .any (Rows.numCutSpec.pre6 enc Try.prog Try.f7 Rows.numCutRow.domain false) (Rows.numCutSpec.post enc Try.prog Try.f7 false true false false) := by
  refine returnsInHanded_of_change (C := Try.checked) own started (by kernel_rfl) Try.func7
    (ChangeSpec.witness6 (enc := enc) (C := Try.checked) false ⟨#[], #[.int .i64 0, .string ByteArray.empty, .int .i64 0], []⟩ 8 (by kernel_rfl) (by kernel_rfl) (by kernel_rfl) (by kernel_rfl)) ?_
  intro W base args ds gs before hval0 hW hcnd _
  have hval : ∀ (j : Nat) t v, Try.f7.params[j]? = some t → args[j]? = some v → Value.okWide Try.prog W .any base t v := hval0
  have hW' := hW
  obtain ⟨p, q, hA0, hV, rfl, hfz, hnd⟩ := hW
  have hA : DataW.TrodAll enc Try.prog W 0 (fun _ => true) true Try.f7.params.toList args.toList ds p := hA0
  rw [Try.params7] at hA hval
  obtain ⟨v0, vs0, d0, ds0, p0, q0, hargs, rfl, rfl, h0, r0⟩ := trodAll_cons hA
  obtain ⟨v1, vs1, d1, ds1, p1, q1, rfl, rfl, rfl, h1, r1⟩ := trodAll_cons r0
  obtain ⟨v2, vs2, d2, ds2, p2, q2, rfl, rfl, rfl, h2, r2⟩ := trodAll_cons r1
  obtain ⟨rfl, rfl, rfl⟩ := trodAll_nil r2
  obtain rfl : args = #[v0, v1, v2] := by cases args; simp_all
  obtain ⟨rfl, rfl⟩ := trodVars_none hV
  obtain ⟨a0, rfl, rfl, rfl, w0⟩ := open_int Try.underlying2 (hval 0 2 v0 rfl rfl) h0
  obtain ⟨a1, rfl, rfl, rfl, w1⟩ := open_string Try.underlying9 (hval 1 9 v1 rfl rfl) h1
  obtain ⟨a2, rfl, rfl, rfl, w2⟩ := open_int Try.underlying3 (hval 2 3 v2 rfl rfl) h2
  clear hA0 hval0
  simp only [List.append_nil] at hW'
  have c0 := bounds_i64 w0
  have c2 := bounds_i64 w2
  unfold maxLen at w1
  refine (walk a0 a1 a2 W c0.1 c0.2 w1 c2.1 c2.2).mono fun e W' ⟨he, bel⟩ => ?_
  subst he
  exact ⟨_, rfl, _, _, _, [], [], [], hW', trodAll_mk1 (shut_bool Try.underlying4 _), (trodAll_cons_mk (shut_int Try.underlying2 w0) (trodAll_cons_mk (shut_string Try.underlying9 w1) (trodAll_cons_mk (shut_int Try.underlying3 w2) trodAll_mk0))), rfl, bel.frame _, fun h => by cases h⟩

theorem over : Rows.numCutRow.holds Try.pinned (OpenSpec.ofChange Rows.numCutSpec) :=
  OpenClaim.holds_of_wide 7 Try.f7 rfl rfl rfl rfl rfl rfl rfl ⟨rfl, rfl, rfl, rfl, rfl⟩ rfl rfl rfl rfl rfl (by kernel_rfl) Try.func7 (by kernel_rfl)
    (of_decide_eq_true (by kernel_rfl)) (by unfold Func.isWrapper; first | (rw [if_pos (by decide +kernel)]; kernel_rfl) | (rw [if_neg (by decide +kernel)]; exact ⟨rfl, rfl⟩))
    (fun os started H enc _ => lifted os started H enc)

end Go.Proofs.Ytljacfnlianpdaa.Cut
namespace Go.Proofs.Ytljacfnlianpdaa
theorem numCut_holds : Rows.NumCutSaid := Cut.over
#print axioms numCut_holds
end Go.Proofs.Ytljacfnlianpdaa
