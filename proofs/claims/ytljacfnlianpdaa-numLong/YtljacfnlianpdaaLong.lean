/-
  Proved: whatever count and bytes are handed in, the Go function NumLong returns true and leaves them as they were. No condition.
-/
import Derived.Test.YtljacfnlianpdaaBegun
import Derived.ProofKit
import Derived.OpenShut
import Derived.ShutString
import Derived.ChangeOld
namespace Go.Proofs.Ytljacfnlianpdaa.Long
open Go.ChangeShapes Go.WideShapes Go.ChangeAt Go.RowKit

theorem own : ownKnob Try.prog.godebug = none := by kernel_rfl

theorem or_byte {f : Int} (h0 : 0 ≤ f) (h1 : f ≤ 255) : 0 ≤ bits .or .u8 f 128 ∧ bits .or .u8 f 128 ≤ 255 := by
  rw [u8_or f 128 h0 (by omega) (by omega) (by omega)]
  have : f.toNat ||| (128 : Int).toNat < 2 ^ 8 := Nat.or_lt_two_pow (by omega) (by decide)
  omega

theorem rep_byte {c d : Int} (h : 0 ≤ c ∧ c ≤ 255) (h' : 0 ≤ d ∧ d ≤ 255) (k : Nat) : ∀ x ∈ List.replicate k c ++ [d], 0 ≤ x ∧ x ≤ 255 := by
  intro x hx
  rcases List.mem_append.1 hx with hx | hx
  · rw [List.eq_of_mem_replicate hx]; exact h
  · rw [List.mem_singleton.1 hx]; exact h'

theorem rep_next (c : Int) (k : Nat) : cellsOf (List.replicate (k + 1) c) = cellsOf (List.replicate k c) ++ [Value.int .u8 c] := by
  rw [List.replicate_succ', cellsOf_append]; rfl

set_option maxHeartbeats 400000 in
theorem walk (n l f : Int) (w : World) (n0 : -9223372036854775808 ≤ n) (n1 : n ≤ 9223372036854775807) (l0 : 0 ≤ l) (l1 : l ≤ 255) (f0 : 0 ≤ f) (f1 : f ≤ 255) :
    Calls Try.prog 5 #[.int .i64 n, .int .u8 l, .int .u8 f] w fun e w' => e = .returned (.bool true) ∧ Below w.heap.size w w' := by
  obtain ⟨i0, hi, hz0, hz1, hz2⟩ := info_parts Try.info5
  have hcb := or_byte f0 f1
  by_cases h1 : n < 0
  · go_enter Try.func5, Try.ntmps5
    go_wp2_with (go_at_call 9; refine (begun_calls _).mono ?_; rintro e w1 ⟨rfl, hb1⟩)
    go_ret
    exact ⟨rfl, hb1⟩
  · by_cases h2 : 14 < n
    · go_enter Try.func5, Try.ntmps5
      go_wp2_with (go_at_call 9; refine (begun_calls _).mono ?_; rintro e w1 ⟨rfl, hb1⟩)
      go_ret
      exact ⟨rfl, hb1⟩
    · obtain ⟨n, rfl⟩ := Int.eq_ofNat_of_zero_le (show 0 ≤ n by omega)
      obtain ⟨c, HC, hc⟩ : ∃ c, Hid (bits .or .u8 f 128 = c) ∧ (0 ≤ c ∧ c ≤ 255) := ⟨_, rfl, hcb⟩
      clear hcb
      have hd1 : decide ((n : Int) < 0) = false := by simp
      have hd2 : decide (14 < (n : Int)) = false := by simpa using h2
      go_enter Try.func5, Try.ntmps5
      go_wp2_with fail
      refine (begun_calls _).mono ?_
      rintro e w1 ⟨rfl, hb1⟩
      go_wp2_with fail
      go_loopw [8, 9] (fun v i wr => ∃ k : Nat, k ≤ n ∧ i = .int .i64 k ∧ wr.ownsRow w1.heap.size 5 1 v k (cellsOf (List.replicate k c)) ∧ Below w1.heap.size w1 wr) (fun _ i _ => n - (intOf i).toNat)
      case atStart => exact ⟨0, Nat.zero_le _, rfl, World.ownsRow_nil _ _ _ _, Below.refl _ _⟩
      case round =>
        obtain ⟨k, hk, rfl, hown, hnx⟩ := hrel
        have hm1 : k + 1 ≤ maxLen := by unfold maxLen; omega
        have hm2 : (k + 1) * 1 ≤ 140737488355328 := by omega
        by_cases hlt : (k : Int) < n
        · have hC := HC.out
          go_wp2_with (at_builtin; go_must (refine wpList_append_own _ rfl _ _ 22 rfl w1.heap.size 5 i0 (.int .u8 0) 1 1 Try.underlying22 hi hz0 hz1 hz2 rfl (by decide) _ _ _ rfl (hown.alloc _) ⟨wr.heap.size, 0, none⟩ 1 1 [.int .u8 c] rfl rfl (cell_one_new _ _ _) (cellsOf_one [c]) hm1 hm2 (by have := hnx.size; simp; omega) ?_); intro v' w2 hown' hgrow' _)
          go_roundw
          case rel =>
            refine ⟨k + 1, by omega, by go_num, ?_, ?_⟩
            · rw [rep_next]; exact hown'
            · exact (hnx.alloc (by have := hnx.size; omega) _).grown hgrow' (by have := hnx.size; simp; omega) (fun k hk => (hown.lt k hk).1)
          case measure => simp [intOf]; omega
        · go_wp2_with (at_builtin; go_must (refine wpList_append_own _ rfl _ _ 22 rfl w1.heap.size 5 i0 (.int .u8 0) 1 1 Try.underlying22 hi hz0 hz1 hz2 rfl (by decide) _ _ _ rfl (hown.alloc _) ⟨wr.heap.size, 0, none⟩ 1 1 [.int .u8 l] rfl rfl (cell_one_new _ _ _) (cellsOf_one [l]) hm1 hm2 (by have := hnx.size; simp; omega) ?_); intro v' w2 hown' hgrow' _; obtain ⟨ao, cap, hv, hs⟩ := Seg.owned (bs := List.replicate k c ++ [l]) (by rw [cellsOf_append]; exact hown') (rep_byte hc ⟨l0, l1⟩ k); subst hv)
          have hb2 : Below w1.heap.size w1 w2 := (hnx.alloc (by have := hnx.size; omega) _).grown hgrow' (by have := hnx.size; simp; omega) (fun k hk => (hown.lt k hk).1)
          clear hgrow' hown' hown
          refine (get_calls _ _ _ _ _ hs).mono ?_
          rintro e w3 ⟨rfl, rfl⟩
          unfold ans3
          generalize hg : Num.get (List.replicate k c ++ [l]) = p
          have HG := rget_calls _ _ _ _ _ hs
          rw [hg] at HG
          clear hg hs
          have HH : Hid (Calls Try.prog 19 #[.slice ao (k + 1) cap] w3 fun e w' => e = ans3 p ∧ w' = w3) := HG
          clear HG
          go_wp2_with fail
          refine HH.out.mono ?_
          rintro e w4 ⟨rfl, rfl⟩
          unfold ans3
          go_wp2
          go_ret
          exact ⟨rfl, below_step hb1 hb2⟩

set_option maxRecDepth 100000 in
theorem lifted (os : Os) (started : os.Started) (H : Type) (enc : TypeId × Value → H) :
    ReturnsInHanded {} Try.checked os 5 .any (Rows.numLongSpec.pre6 enc Try.prog Try.f5 Rows.numLongRow.domain false) (Rows.numLongSpec.post enc Try.prog Try.f5 false true false false) := by
  refine returnsInHanded_of_change (C := Try.checked) own started (by kernel_rfl) Try.func5
    (ChangeSpec.witness6 (enc := enc) (C := Try.checked) false ⟨#[], #[.int .i64 0, .int .u8 0, .int .u8 0], []⟩ 8 (by kernel_rfl) (by kernel_rfl) (by kernel_rfl) (by kernel_rfl)) ?_
  intro W base args ds gs before hval0 hW hcnd _
  have hval : ∀ (j : Nat) t v, Try.f5.params[j]? = some t → args[j]? = some v → Value.okWide Try.prog W .any base t v := hval0
  have hW' := hW
  obtain ⟨p, q, hA0, hV, rfl, hfz, hnd⟩ := hW
  have hA : DataW.TrodAll enc Try.prog W 0 (fun _ => true) true Try.f5.params.toList args.toList ds p := hA0
  rw [Try.params5] at hA hval
  obtain ⟨v0, vs0, d0, ds0, p0, q0, hargs, rfl, rfl, h0, r0⟩ := trodAll_cons hA
  obtain ⟨v1, vs1, d1, ds1, p1, q1, rfl, rfl, rfl, h1, r1⟩ := trodAll_cons r0
  obtain ⟨v2, vs2, d2, ds2, p2, q2, rfl, rfl, rfl, h2, r2⟩ := trodAll_cons r1
  obtain ⟨rfl, rfl, rfl⟩ := trodAll_nil r2
  obtain rfl : args = #[v0, v1, v2] := by cases args; simp_all
  obtain ⟨rfl, rfl⟩ := trodVars_none hV
  obtain ⟨a0, rfl, rfl, rfl, w0⟩ := open_int Try.underlying3 (hval 0 3 v0 rfl rfl) h0
  obtain ⟨a1, rfl, rfl, rfl, w1⟩ := open_int Try.underlying5 (hval 1 5 v1 rfl rfl) h1
  obtain ⟨a2, rfl, rfl, rfl, w2⟩ := open_int Try.underlying5 (hval 2 5 v2 rfl rfl) h2
  clear hA0 hval0
  simp only [List.append_nil] at hW'
  have c0 := bounds_i64 w0
  have c1 := bounds_u8 w1
  have c2 := bounds_u8 w2
  refine (walk a0 a1 a2 W c0.1 c0.2 c1.1 c1.2 c2.1 c2.2).mono fun e W' ⟨he, bel⟩ => ?_
  subst he
  exact ⟨_, rfl, _, _, _, [], [], [], hW', trodAll_mk1 (shut_bool Try.underlying4 _), (trodAll_cons_mk (shut_int Try.underlying3 w0) (trodAll_cons_mk (shut_int Try.underlying5 w1) (trodAll_cons_mk (shut_int Try.underlying5 w2) trodAll_mk0))), rfl, bel.frame _, fun h => by cases h⟩

theorem over : Rows.numLongRow.holds Try.pinned (OpenSpec.ofChange Rows.numLongSpec) :=
  OpenClaim.holds_of_wide 5 Try.f5 rfl rfl rfl rfl rfl rfl rfl ⟨rfl, rfl, rfl, rfl, rfl⟩ rfl rfl rfl rfl rfl (by kernel_rfl) Try.func5 (by kernel_rfl)
    (of_decide_eq_true (by kernel_rfl)) (by unfold Func.isWrapper; first | (rw [if_pos (by decide +kernel)]; kernel_rfl) | (rw [if_neg (by decide +kernel)]; exact ⟨rfl, rfl⟩))
    (fun os started H enc _ => lifted os started H enc)

end Go.Proofs.Ytljacfnlianpdaa.Long
namespace Go.Proofs.Ytljacfnlianpdaa
theorem numLong_holds : Rows.NumLongSaid := Long.over
#print axioms numLong_holds
end Go.Proofs.Ytljacfnlianpdaa
