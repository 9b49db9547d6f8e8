/-
  The walks of Get and of the reference's Get: both answer what the plain function get says of the bytes.
-/
import Derived.Test.YtljacfnlianpdaaLeaf
import Derived.Laws.BitsAllLaws
namespace Go.Proofs.Ytljacfnlianpdaa
open Go.RowKit

theorem drop_step {bs : List Int} {k : Nat} (hk : k < bs.length) : bs.drop k = bs[k]?.getD 0 :: bs.drop (k + 1) := by
  rw [List.drop_eq_getElem_cons hk, List.getElem?_eq_getElem hk]; rfl

theorem or_lay (a b i m : Nat) (hm : m = 2 ^ i) (h : a < m) : a ||| (b * m) = b * m + a := by
  subst hm
  rw [Nat.or_comm, ← Nat.shiftLeft_eq, Nat.shiftLeft_add_eq_or_of_lt h]

theorem pow_7 (k : Nat) : (128 : Nat) ^ k = 2 ^ (7 * k) := by rw [Nat.pow_mul]

/-- What is laid on by '|=' is added. -/
theorem or_next (U k : Nat) (c : Int) (hU : U < 128 ^ k) (ht : U + (c % 128).toNat * 128 ^ k < 18446744073709551616) :
    bits .or .u64 (U : Int) (IntKind.u64.wrap (c % 128 * 2 ^ (7 * k))) = ((U + (c % 128).toNat * 128 ^ k : Nat) : Int) := by
  have e : c % 128 * 2 ^ (7 * k) = (((c % 128).toNat * 128 ^ k : Nat) : Int) := by
    rw [pow_7]
    have : ((c % 128).toNat : Int) = c % 128 := by omega
    push_cast
    rw [this]
  rw [e, IntKind.wrap_u64, Int.emod_eq_of_lt (by omega) (by omega), u64_or_nat _ _ (by omega) (by omega), or_lay U _ (7 * k) (128 ^ k) (pow_7 k) hU]
  omega

theorem next_lt (U k : Nat) (c : Int) (hU : U < 128 ^ k) : U + (c % 128).toNat * 128 ^ k < 128 ^ (k + 1) := by
  have : (c % 128).toNat * 128 ^ k ≤ 127 * 128 ^ k := Nat.mul_le_mul_right _ (by omega)
  rw [Nat.pow_succ]; omega

theorem pow_mono9 {k : Nat} (h : k ≤ 9) : 128 ^ k ≤ 9223372036854775808 := by
  have := Nat.pow_le_pow_right (show 0 < 128 by decide) h
  rw [Num.pow9] at this; exact this

theorem next_small (U k : Nat) (c : Int) (hU : U < 128 ^ k) (h0 : 0 ≤ c) (hk : k ≤ 9) (h9 : k = 9 → c ≤ 1) : U + (c % 128).toNat * 128 ^ k < 18446744073709551616 := by
  by_cases h : k = 9
  · subst h
    have := h9 rfl
    rw [Num.pow9] at *
    have h1 : (c % 128).toNat ≤ 1 := by omega
    have : (c % 128).toNat * 9223372036854775808 ≤ 1 * 9223372036854775808 := Nat.mul_le_mul_right _ h1
    omega
  · have h1 := next_lt U k c hU
    have := pow_mono9 (show k + 1 ≤ 9 by omega)
    omega

theorem dec_form {k U : Nat} {c : Int} {r : List Int} (h : k = 9) (h1 : 1 < c) : Num.dec k U (c :: r) = (0, 0, 1) := by
  rw [Num.dec, if_pos ⟨h, h1⟩]
theorem dec_on {k U : Nat} {c : Int} {r : List Int} (h : k ≠ 9 ∨ c ≤ 1) (h1 : 128 ≤ c) : Num.dec k U (c :: r) = Num.dec (k + 1) (U + (c % 128).toNat * 128 ^ k) r := by
  rw [Num.dec, if_neg (by omega), if_pos h1]
theorem dec_zero {k U : Nat} {c : Int} {r : List Int} (h : c = 0) (h1 : 0 < k) : Num.dec k U (c :: r) = (0, 0, 1) := by
  rw [Num.dec, if_neg (by omega), if_neg (by omega), if_pos ⟨h, h1⟩]
theorem dec_last {k U : Nat} {c : Int} {r : List Int} (h : k ≠ 9 ∨ c ≤ 1) (h1 : c < 128) (h2 : c ≠ 0 ∨ k = 0) : Num.dec k U (c :: r) = (Num.unf (U + (c % 128).toNat * 128 ^ k), (k : Int) + 1, 0) := by
  rw [Num.dec, if_neg (by omega), if_neg (by omega), if_neg (by omega)]

/-- What Get answers. -/
def ans3 (p : Int × Int × Int) : Ending := .returned (.tuple #[.int .i64 p.1, .int .i64 p.2.1, .int .i64 p.2.2])

set_option maxHeartbeats 400000 in
theorem get_empty (ao : Option Addr) (cap : Nat) (w : World) :
    Calls Try.prog 14 #[.slice ao 0 cap] w fun e w' => e = ans3 (Num.get []) ∧ w' = w := by
  go_enter Try.func14, Try.ntmps14
  go_wp2
  refine wp_loop_rounds 1 ?_
  rw [rounds_succ]
  go_wp2
  go_ret3
  exact ⟨rfl, rfl⟩

set_option maxHeartbeats 400000 in
theorem get_some (b off len cap : Nat) (bs : List Int) (w : World) (hl : bs.length = len) (hm : len ≤ 9223372036854775807)
    (hc : ∀ j, j < len → w.cell? ⟨b, off + j, none⟩ = some (.int .u8 (bs.getD j 0)))
    (hr : ∀ j : Nat, 0 ≤ bs[j]?.getD 0 ∧ bs[j]?.getD 0 ≤ 255) :
    Calls Try.prog 14 #[.slice (some ⟨b, off, none⟩) len cap] w fun e w' => e = ans3 (Num.get bs) ∧ w' = w := by
  have HL : Hid (bs.length = len) := hl
  clear hl
  go_enter Try.func14, Try.ntmps14
  go_wp2
  go_loop [5, 10] (fun u i => ∃ k U : Nat, k ≤ len ∧ k ≤ 9 ∧ i = .int .i64 k ∧ u = .int .u64 U ∧ Hid (U < 128 ^ k) ∧ Hid (Num.get bs = Num.dec k U (bs.drop k))) (fun _ i => len - (intOf i).toNat)
  case atStart => exact ⟨0, 0, by omega, by omega, rfl, rfl, by show 0 < 128 ^ 0; decide, rfl⟩
  case round =>
    obtain ⟨k, U, hk, hk9, rfl, rfl, HU, HD⟩ := hrel
    by_cases hlt : k < len
    · have hcell := hc k hlt
      have hrk := hr k
      have HS : Hid (bs.drop k = bs[k]?.getD 0 :: bs.drop (k + 1)) := drop_step (by rw [HL.out]; exact hlt)
      rw [List.getD_eq_getElem?_getD] at hcell
      clear hc hr
      generalize bs[k]?.getD 0 = c at *
      by_cases hform : (k : Int) = 9 ∧ 1 < c
      · obtain ⟨h9, h1⟩ := hform
        have hv : Hid (Num.get bs = (0, 0, 1)) := by show _ = _; rw [HD.out, HS.out, dec_form (by omega) h1]
        have hb : ((k : Int) == 9) = true := by rw [beq_iff_eq]; exact h9
        clear h9
        go_wp2
        go_ret3
        exact ⟨by rw [hv.out]; rfl, rfl⟩
      · have ht := next_small U k c HU.out hrk.1 hk9 (by omega)
        obtain ⟨V, HV, HO, HT⟩ : ∃ V : Nat, Hid (U + (c % 128).toNat * 128 ^ k = V) ∧ Hid (bits .or .u64 (U : Int) (IntKind.u64.wrap (c % 128 * 2 ^ (7 * k))) = (V : Int)) ∧ V < 18446744073709551616 :=
          ⟨_, rfl, or_next U k c HU.out ht, ht⟩
        have HN : Hid (k ≠ 9 ∨ c ≤ 1) := by show _ ∨ _; omega
        have hb : ((k : Int) == 9) = true ∧ c ≤ 1 ∨ ((k : Int) == 9) = false := by
          by_cases h9 : (k : Int) = 9
          · exact .inl ⟨by rw [beq_iff_eq]; exact h9, by omega⟩
          · exact .inr (by rw [beq_eq_false_iff_ne]; exact h9)
        have hq : (128 ≤ c) ∨ (c = 0 ∧ 0 < (k : Int)) ∨ (c = 0 ∧ k = 0) ∨ (c < 128 ∧ (c == 0) = false ∧ c ≠ 0) := by
          by_cases h1 : 128 ≤ c
          · exact .inl h1
          · by_cases h2 : c = 0
            · by_cases h3 : k = 0
              · exact .inr (.inr (.inl ⟨h2, h3⟩))
              · exact .inr (.inl ⟨h2, by omega⟩)
            · exact .inr (.inr (.inr ⟨by omega, by rw [beq_eq_false_iff_ne]; exact h2, h2⟩))
        clear hform ht
        rcases hq with h128 | ⟨hc0, hkp⟩ | ⟨hc0, hk0⟩ | ⟨h128, hcz, hcn⟩
        · have hk8 : k < 9 := by have := HN.out; omega
          have hb' : ((k : Int) == 9) = false := by rw [beq_eq_false_iff_ne]; omega
          clear hb
          have HV' : Hid (Num.get bs = Num.dec (k + 1) V (bs.drop (k + 1))) := by
            show _ = _
            rw [HD.out, HS.out, dec_on HN.out h128, HV.out]
          have HU' : Hid (V < 128 ^ (k + 1)) := by show _ < _; rw [← HV.out]; exact next_lt U k c HU.out
          go_wp2
          go_round
          case rel => exact ⟨k + 1, _, by omega, by omega, by go_num, congrArg _ HO.out, HU', HV'⟩
          case measure => simp [intOf]; omega
        · have hv : Hid (Num.get bs = (0, 0, 1)) := by show _ = _; rw [HD.out, HS.out, dec_zero hc0 (by omega)]
          subst hc0
          rcases hb with ⟨hb, hc1⟩ | hb
          all_goals
            go_wp2
            go_ret3
            exact ⟨by rw [hv.out]; rfl, rfl⟩
        · subst hk0
          subst hc0
          have hU0 : U = 0 := by have := HU.out; simpa using this
          subst hU0
          have hv : Hid (Num.get bs = (0, 1, 0)) := by show _ = _; rw [HD.out, HS.out, dec_last HN.out (by omega) (.inr rfl)]; rfl
          rw [Nat.add_zero] at hcell
          have hu0 : bits .or .u64 0 0 = 0 := by decide
          go_wp2_with fail
          refine (unfold_calls _ _ (by omega) (by omega)).mono ?_
          rintro e w' ⟨rfl, rfl⟩
          go_wp2
          go_ret3
          exact ⟨by rw [hv.out]; rfl, rfl⟩
        · have hv : Hid (Num.get bs = (Num.unf V, (k : Int) + 1, 0)) := by show _ = _; rw [HD.out, HS.out, dec_last HN.out h128 (.inl hcn), HV.out]
          clear hcn
          rcases hb with ⟨hb, hc1⟩ | hb
          all_goals
            go_wp2_with fail
            rw [HO.out]
            refine (unfold_calls _ _ (by omega) (by omega)).mono ?_
            rintro e w' ⟨rfl, rfl⟩
            go_wp2
            go_ret3
            exact ⟨by rw [hv.out]; rfl, rfl⟩
    · have hkl : k = len := by omega
      have hv : Hid (Num.get bs = (0, 0, 2)) := by show _ = _; rw [HD.out, List.drop_of_length_le (by rw [HL.out]; omega)]; rfl
      clear hc hr
      go_wp2
      go_ret3
      exact ⟨by rw [hv.out]; rfl, rfl⟩

theorem get_calls (ao : Option Addr) (len cap : Nat) (bs : List Int) (w : World) (hs : Seg w ao len cap bs) :
    Calls Try.prog 14 #[.slice ao len cap] w fun e w' => e = ans3 (Num.get bs) ∧ w' = w := by
  have hl := hs.size
  have hm := hs.max
  have hle := hs.le
  unfold maxLen at hm
  by_cases h0 : len = 0
  · subst h0
    obtain rfl : bs = [] := List.eq_nil_of_length_eq_zero hl
    exact get_empty ao cap w
  · obtain ⟨b, off, rfl, _, hc⟩ := hs.at (by omega)
    exact get_some b off len cap bs w hl (by omega) hc hs.byteAt

end Go.Proofs.Ytljacfnlianpdaa
