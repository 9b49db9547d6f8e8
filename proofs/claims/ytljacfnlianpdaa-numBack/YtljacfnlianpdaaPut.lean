/-
  The walks of copied, putNumber, Put and of the reference's Put: what is appended are the number's bytes.
-/
import Derived.Test.YtljacfnlianpdaaLeaf
import Derived.Laws.BitsAllLaws
namespace Go.Proofs.Ytljacfnlianpdaa
open Go.RowKit

set_option maxHeartbeats 400000 in
theorem copied_calls (ao : Option Addr) (len cap : Nat) (bs : List Int) (room : Int) (w : World) (hs : Seg w ao len cap bs) (hr : 0 ≤ room) (hb : len + room ≤ 140737488355328) :
    Calls Try.prog 22 #[.slice ao len cap, .int .i64 room] w fun e w' => ∃ v, e = .returned v ∧ w'.ownsRow w.heap.size 5 1 v len (cellsOf bs) ∧ Below w.heap.size w w' := by
  obtain ⟨i0, hi, hz0, hz1, hz2⟩ := info_parts Try.info5
  obtain ⟨r, rfl⟩ := Int.eq_ofNat_of_zero_le hr
  have hmax := hs.max
  have HS : Hid (Seg w ao len cap bs) := hs
  clear hs
  have hbb : i0.bytes * (len + r) ≤ 281474976710656 := by rw [hz2]; omega
  have hmx : len + r ≤ maxLen := by unfold maxLen; omega
  have hcl : (cellsOf bs).length = len * 1 := by rw [cellsOf_length, HS.out.size, Nat.mul_one]
  have hnil := HS.out.nil
  have hlr : 0 + len ≤ len + r := by omega
  go_enter Try.func22, Try.ntmps22
  go_wp2_with (first
    | (at_make; refine wpList_make_own _ rfl _ _ 22 rfl w.heap.size 5 i0 (.int .u8 0) 1 Try.underlying22 hi hz0 hz1 .i64 .i64 _ (len + r) rfl rfl (by omega) hbb hmx (Nat.le_refl _) ?_; intro w1 hown1 hgrow1)
    | (at_builtin; refine wpList_append_fits_any _ rfl _ _ 22 rfl w.heap.size 5 i0 1 Try.underlying22 hi hz1 w.heap.size 0 (len + r) [] rfl hown1 ao len cap (cellsOf bs) rfl hcl hnil (HS.out.below ((Below.refl _ _).grown hgrow1 (Nat.le_refl _) (fun _ h => by cases h))).news (cellsOf_one bs) hlr ?_; intro w2 hown2 hgrow2))
  go_ret
  have hb1 : Below w.heap.size w w1 := (Below.refl _ _).grown hgrow1 (Nat.le_refl _) (fun _ h => by cases h)
  refine ⟨_, rfl, by simpa using hown2, hb1.grown hgrow2 hb1.size (fun k h => by cases h; exact Nat.le_refl _)⟩

theorem putNumber_calls (base n : Nat) (v : Value) (bs : List Int) (x : Int) (w : World) (hown : w.ownsRow base 5 1 v n (cellsOf bs)) (hbase : base ≤ w.heap.size) (hn : n + 10 ≤ 140737488355328)
    (h0 : -9223372036854775808 ≤ x) (h1 : x ≤ 9223372036854775807) :
    Calls Try.prog 21 #[v, .int .i64 x] w fun e w' => ∃ v', e = .returned v' ∧ w'.ownsRow base 5 1 v' (n + (Num.put x).length) (cellsOf (bs ++ Num.put x)) ∧ Below base w w' := by
  obtain ⟨i0, hi, hz0, hz1, hz2⟩ := info_parts Try.info5
  have HL : Hid (bs.length = n) := by have := hown.1; rw [cellsOf_length] at this; show _ = _; omega
  have HO : Hid (w.ownsRow base 5 1 v n (cellsOf bs)) := hown
  have ht := (Num.put_ten h0 h1).2
  have hf := Num.fold_lt h0 h1
  clear hown
  go_enter Try.func21, Try.ntmps21
  go_wp2_with (go_at_call 24; refine (fold_calls _ _ h0 h1).mono ?_; rintro e w' ⟨rfl, rfl⟩)
  go_loopw [0, 5] (fun v u wr => ∃ (U : Nat) (pre : List Int), u = .int .u64 U ∧ U < 18446744073709551616 ∧ Hid (pre ++ Num.enc U = bs ++ Num.put x) ∧ wr.ownsRow base 5 1 v pre.length (cellsOf pre) ∧ Below base w' wr) (fun _ u _ => (intOf u).toNat)
  case atStart => exact ⟨Num.fold x, bs, rfl, hf, rfl, by rw [HL.out]; exact HO.out, Below.refl _ _⟩
  case round =>
    obtain ⟨U, pre, rfl, hU, HP, hown, hnx⟩ := hrel
    have hlen : pre.length + (Num.enc U).length = n + (Num.put x).length := by have := congrArg List.length HP.out; simp only [List.length_append] at this; have := HL.out; omega
    have hep := Num.enc_pos U
    have hm1 : pre.length + 1 ≤ maxLen := by unfold maxLen; omega
    have hm2 : (pre.length + 1) * 1 ≤ 140737488355328 := by omega
    by_cases hge : (128 : Int) ≤ (U : Int)
    · have he := Num.enc_big (u := U) (by omega)
      have HP2 : Hid ((pre ++ [(U : Int) % 128 + 128]) ++ Num.enc (U / 128) = bs ++ Num.put x) := by
        show _ = _
        rw [← HP.out, he]; simp
      clear he HP
      go_wp2_with (at_builtin; go_must (refine wpList_append_own _ rfl _ _ 22 rfl base 5 i0 (.int .u8 0) 1 1 Try.underlying22 hi hz0 hz1 hz2 rfl (by decide) _ _ _ rfl (hown.alloc _) ⟨wr.heap.size, 0, none⟩ 1 1 [.int .u8 ((U : Int) % 128 + 128)] rfl rfl (cell_one_new _ _ _) (cellsOf_one [(U : Int) % 128 + 128]) hm1 hm2 (by have := hnx.size; simp; omega) ?_); intro v' w1 hown' hgrow' _)
      go_roundw
      case rel => 
        refine ⟨U / 128, pre ++ [(U : Int) % 128 + 128], by go_num, by omega, HP2, ?_, ?_⟩
        · rw [cellsOf_append, List.length_append]; exact hown'
        · exact (hnx.alloc (by have := hnx.size; omega) _).grown hgrow' (by have := hnx.size; simp; omega) (fun k hk => (hown.lt k hk).1)
      case measure => simp [intOf]; omega
    · have he := Num.enc_small (u := U) (by omega)
      have HP2 : Hid (pre ++ [(U : Int)] = bs ++ Num.put x) := by
        show _ = _
        rw [← HP.out, he]
      clear he HP
      go_wp2_with (at_builtin; go_must (refine wpList_append_own _ rfl _ _ 22 rfl base 5 i0 (.int .u8 0) 1 1 Try.underlying22 hi hz0 hz1 hz2 rfl (by decide) _ _ _ rfl (hown.alloc _) ⟨wr.heap.size, 0, none⟩ 1 1 [.int .u8 (U : Int)] rfl rfl (cell_one_new _ _ _) (cellsOf_one [(U : Int)]) hm1 hm2 (by have := hnx.size; simp; omega) ?_); intro v' w1 hown' hgrow' _)
      go_ret
      have hl2 : pre.length + 1 = n + (Num.put x).length := by have := congrArg List.length HP2.out; simp only [List.length_append, List.length_cons, List.length_nil] at this; have := HL.out; omega
      refine ⟨v', rfl, ?_, ?_⟩
      · rw [← hl2, ← HP2.out, cellsOf_append]; exact hown'
      · exact (hnx.alloc (by have := hnx.size; omega) _).grown hgrow' (by have := hnx.size; simp; omega) (fun k hk => (hown.lt k hk).1)

set_option maxHeartbeats 400000 in
theorem put_calls (ao : Option Addr) (len cap : Nat) (bs : List Int) (x : Int) (w : World) (hs : Seg w ao len cap bs) (hn : len + 10 ≤ 140737488355328)
    (h0 : -9223372036854775808 ≤ x) (h1 : x ≤ 9223372036854775807) :
    Calls Try.prog 12 #[.slice ao len cap, .int .i64 x] w fun e w' => ∃ v', e = .returned v' ∧ w'.ownsRow w.heap.size 5 1 v' (len + (Num.put x).length) (cellsOf (bs ++ Num.put x)) ∧ Below w.heap.size w w' := by
  go_enter Try.func12, Try.ntmps12
  go_wp2_with fail
  refine (copied_calls ao len cap bs 10 _ hs (by omega) (by omega)).mono ?_
  rintro e w1 ⟨v1, rfl, hown1, hb1⟩
  go_wp2_with fail
  refine (putNumber_calls w.heap.size len v1 bs x _ hown1 hb1.size hn h0 h1).mono ?_
  rintro e w2 ⟨v2, rfl, hown2, hb2⟩
  go_wp2_with fail
  go_ret
  exact ⟨v2, rfl, hown2, hb1.trans hb2⟩

theorem ones_xor (b : Nat) (hb : b < 2 ^ 64) : (2 ^ 64 - 1) ^^^ b = 2 ^ 64 - 1 - b := by
  apply Nat.eq_of_testBit_eq
  intro i
  rw [Nat.testBit_xor, Nat.testBit_two_pow_sub_one, show 2 ^ 64 - 1 - b = 2 ^ 64 - (b + 1) by omega, Nat.testBit_two_pow_sub_succ hb]
  by_cases hi : i < 64
  · simp [hi]
  · have : b.testBit i = false := Nat.testBit_lt_two_pow (Nat.lt_of_lt_of_le hb (Nat.pow_le_pow_right (by decide) (by omega)))
    simp [hi, this]

theorem fold_neg_ref {x : Int} (h : x < 0) (h0 : -9223372036854775808 ≤ x) :
    bits .xor .u64 IntKind.u64.max (IntKind.u64.wrap (IntKind.u64.wrap x * 2)) = ((Num.fold x : Nat) : Int) := by
  have e1 : IntKind.u64.wrap (IntKind.u64.wrap x * 2) = (((2 * x + 18446744073709551616).toNat : Nat) : Int) := by
    rw [IntKind.wrap_u64, IntKind.wrap_u64]
    omega
  have e2 : IntKind.u64.max = ((2 ^ 64 - 1 : Nat) : Int) := by decide
  rw [e1, e2, u64_xor_nat _ _ (by decide) (by omega), ones_xor _ (by omega)]
  unfold Num.fold
  rw [if_pos h]
  omega

set_option maxHeartbeats 400000 in
theorem refPut_calls (x : Int) (w : World)
    (h0 : -9223372036854775808 ≤ x) (h1 : x ≤ 9223372036854775807) :
    Calls Try.prog 13 #[.int .i64 x] w fun e w' => ∃ v', e = .returned v' ∧ w'.ownsRow w.heap.size 5 1 v' (Num.put x).length (cellsOf (Num.put x)) ∧ Below w.heap.size w w' := by
  obtain ⟨i0, hi, hz0, hz1, hz2⟩ := info_parts Try.info5
  have ht := (Num.put_ten h0 h1).2
  have hf := Num.fold_lt h0 h1
  have HN : Hid (x < 0 → bits .xor .u64 IntKind.u64.max (IntKind.u64.wrap (IntKind.u64.wrap x * 2)) = ((Num.fold x : Nat) : Int)) := fun h => fold_neg_ref h h0
  have HQ : Hid (0 ≤ x → x * 2 = ((Num.fold x : Nat) : Int)) := fun h => by rw [fold_pos (by omega)]; omega
  have hx : (x < 0 ∧ decide (x < 0) = true) ∨ (0 ≤ x ∧ decide (x < 0) = false) := by
    by_cases h : x < 0
    · exact .inl ⟨h, by simpa using h⟩
    · exact .inr ⟨by omega, by simpa using h⟩
  rcases hx with ⟨hx, hd⟩ | ⟨hx, hd⟩
  all_goals
    go_enter Try.func13, Try.ntmps13
    go_wp2_with fail
    go_loopw [4, 3] (fun v u wr => ∃ (U : Nat) (pre : List Int), u = .int .u64 U ∧ U < 18446744073709551616 ∧ Hid (pre ++ Num.enc U = Num.put x) ∧ wr.ownsRow w.heap.size 5 1 v pre.length (cellsOf pre) ∧ Below w.heap.size w wr) (fun _ u _ => (intOf u).toNat)
    case atStart =>
      refine ⟨Num.fold x, [], ?_, hf, rfl, World.ownsRow_nil _ _ _ _, Below.refl _ _⟩
      first
        | exact congrArg _ (HN.out (by assumption))
        | exact congrArg _ (HQ.out (by assumption))
    case round =>
      obtain ⟨U, pre, rfl, hU, HP, hown, hnx⟩ := hrel
      have hlen : pre.length + (Num.enc U).length = (Num.put x).length := by have := congrArg List.length HP.out; simp only [List.length_append] at this; omega
      have hep := Num.enc_pos U
      have hm1 : pre.length + 1 ≤ maxLen := by unfold maxLen; omega
      have hm2 : (pre.length + 1) * 1 ≤ 140737488355328 := by omega
      by_cases hge : (128 : Int) ≤ (U : Int)
      · have he := Num.enc_big (u := U) (by omega)
        have HP2 : Hid ((pre ++ [(U : Int) % 128 + 128]) ++ Num.enc (U / 128) = Num.put x) := by
          show _ = _
          rw [← HP.out, he]; simp
        clear he HP
        go_wp2_with (at_builtin; go_must (refine wpList_append_own _ rfl _ _ 22 rfl w.heap.size 5 i0 (.int .u8 0) 1 1 Try.underlying22 hi hz0 hz1 hz2 rfl (by decide) _ _ _ rfl (hown.alloc _) ⟨wr.heap.size, 0, none⟩ 1 1 [.int .u8 ((U : Int) % 128 + 128)] rfl rfl (cell_one_new _ _ _) (cellsOf_one [(U : Int) % 128 + 128]) hm1 hm2 (by have := hnx.size; simp; omega) ?_); intro v' w1 hown' hgrow' _)
        go_roundw
        case rel =>
          refine ⟨U / 128, pre ++ [(U : Int) % 128 + 128], by go_num, by omega, HP2, ?_, ?_⟩
          · rw [cellsOf_append, List.length_append]; exact hown'
          · exact (hnx.alloc (by have := hnx.size; omega) _).grown hgrow' (by have := hnx.size; simp; omega) (fun k hk => (hown.lt k hk).1)
        case measure => simp [intOf]; omega
      · have he := Num.enc_small (u := U) (by omega)
        have HP2 : Hid (pre ++ [(U : Int)] = Num.put x) := by
          show _ = _
          rw [← HP.out, he]
        clear he HP
        go_wp2_with (at_builtin; go_must (refine wpList_append_own _ rfl _ _ 22 rfl w.heap.size 5 i0 (.int .u8 0) 1 1 Try.underlying22 hi hz0 hz1 hz2 rfl (by decide) _ _ _ rfl (hown.alloc _) ⟨wr.heap.size, 0, none⟩ 1 1 [.int .u8 (U : Int)] rfl rfl (cell_one_new _ _ _) (cellsOf_one [(U : Int)]) hm1 hm2 (by have := hnx.size; simp; omega) ?_); intro v' w1 hown' hgrow' _)
        go_ret
        have hl2 : pre.length + 1 = (Num.put x).length := by have := congrArg List.length HP2.out; simp only [List.length_append, List.length_cons, List.length_nil] at this; omega
        refine ⟨v', rfl, ?_, ?_⟩
        · rw [← hl2, ← HP2.out, cellsOf_append]; exact hown'
        · exact (hnx.alloc (by have := hnx.size; omega) _).grown hgrow' (by have := hnx.size; simp; omega) (fun k hk => (hown.lt k hk).1)

end Go.Proofs.Ytljacfnlianpdaa
