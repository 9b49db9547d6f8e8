/-
  The walk of the reference's Get: it answers what the plain function get says of the bytes.
-/
import Derived.Test.YtljacfnlianpdaaGet
namespace Go.Proofs.Ytljacfnlianpdaa
open Go.RowKit

set_option maxHeartbeats 400000 in
theorem rget_empty (ao : Option Addr) (cap : Nat) (w : World) :
    Calls Try.prog 19 #[.slice ao 0 cap] w fun e w' => e = ans3 (Num.get []) ∧ w' = w := by
  go_enter Try.func19, Try.ntmps19
  go_wp2
  refine wp_loop_rounds 1 ?_
  rw [rounds_succ]
  go_wp2
  go_ret3
  exact ⟨rfl, rfl⟩

theorem unf_odd {V : Nat} (h : (V : Int) % 2 = 1) : Num.unf V = -((V : Int) / 2) - 1 := by
  unfold Num.unf; rw [if_pos (by omega)]; omega
theorem unf_even {V : Nat} (h : ¬ (V : Int) % 2 = 1) : Num.unf V = (V : Int) / 2 := by
  unfold Num.unf; rw [if_neg (by omega)]; omega

set_option maxHeartbeats 800000 in
theorem rget_some (b off len cap : Nat) (bs : List Int) (w : World) (hl : bs.length = len) (hm : len ≤ 9223372036854775807)
    (hc : ∀ j, j < len → w.cell? ⟨b, off + j, none⟩ = some (.int .u8 (bs.getD j 0)))
    (hr : ∀ j : Nat, 0 ≤ bs[j]?.getD 0 ∧ bs[j]?.getD 0 ≤ 255) :
    Calls Try.prog 19 #[.slice (some ⟨b, off, none⟩) len cap] w fun e w' => e = ans3 (Num.get bs) ∧ w' = w := by
  have HL : Hid (bs.length = len) := hl
  clear hl
  go_enter Try.func19, Try.ntmps19
  go_wp2
  go_loop [5, 6, 7] (fun u t i => ∃ k U W : Nat, k ≤ len ∧ k ≤ 9 ∧ i = .int .i64 k ∧ u = .int .u64 U ∧ t = .int .u64 W ∧ W ≤ 9223372036854775808 ∧ Hid (W = 128 ^ k) ∧ Hid (U < 128 ^ k) ∧ Hid (Num.get bs = Num.dec k U (bs.drop k))) (fun _ _ i => len - (intOf i).toNat)
  case atStart => exact ⟨0, 0, 1, by omega, by omega, rfl, rfl, rfl, by omega, by show 1 = 128 ^ 0; decide, by show 0 < 128 ^ 0; decide, rfl⟩
  case round =>
    obtain ⟨k, U, W, hk, hk9, rfl, rfl, rfl, hW, HW, HU, HD⟩ := hrel
    by_cases hlt : k < len
    · have hcell := hc k hlt
      have hrk := hr k
      have HS : Hid (bs.drop k = bs[k]?.getD 0 :: bs.drop (k + 1)) := drop_step (by rw [HL.out]; exact hlt)
      rw [List.getD_eq_getElem?_getD] at hcell
      clear hc hr
      generalize bs[k]?.getD 0 = c at *
      by_cases hform : (k : Int) = 9 ∧ 1 < c
      · obtain ⟨h9, h1⟩ := hform
        have hv : Hid (Num.get bs = (0, 0, 1)) := by show _ = _; rw [HD.out, HS.out, dec_form (by omega) h1]
        have hb : ((k : Int) == 9) = true := by rw [beq_iff_eq]; exact h9
        clear h9
        go_wp2
        go_ret3
        exact ⟨by rw [hv.out]; rfl, rfl⟩
      · have ht := next_small U k c HU.out hrk.1 hk9 (by omega)
        obtain ⟨V, HV, HO, HT⟩ : ∃ V : Nat, Hid (U + (c % 128).toNat * 128 ^ k = V) ∧ Hid (IntKind.u64.wrap ((U : Int) + IntKind.u64.wrap (c % 128 * (W : Int))) = (V : Int)) ∧ V < 18446744073709551616 := by
          refine ⟨_, rfl, ?_, ht⟩
          show _ = _
          have e : c % 128 * (W : Int) = (((c % 128).toNat * 128 ^ k : Nat) : Int) := by
            rw [HW.out, Int.natCast_mul]
            congr 1
            omega
          rw [e, IntKind.wrap_u64, IntKind.wrap_u64, Int.emod_eq_of_lt (b := 18446744073709551616) (a := (((c % 128).toNat * 128 ^ k : Nat) : Int)) (by omega) (by omega), Int.emod_eq_of_lt (by omega) (by omega)]
          omega
        have HN : Hid (k ≠ 9 ∨ c ≤ 1) := by show _ ∨ _; omega
        have hb : ((k : Int) == 9) = true ∧ c ≤ 1 ∧ 8 < k ∨ ((k : Int) == 9) = false ∧ k < 9 := by
          by_cases h9 : (k : Int) = 9
          · exact .inl ⟨by rw [beq_iff_eq]; exact h9, by omega, by omega⟩
          · exact .inr ⟨by rw [beq_eq_false_iff_ne]; exact h9, by omega⟩
        have hq : (128 ≤ c ∧ (c == 0) = false) ∨ ((c == 0) = true ∧ 0 < k ∧ c < 1) ∨ (c < 128 ∧ ((c == 0) = false ∧ 0 < c ∨ k < 1)) := by
          by_cases h1 : 128 ≤ c
          · exact .inl ⟨h1, by rw [beq_eq_false_iff_ne]; omega⟩
          · by_cases h2 : c = 0
            · by_cases h3 : k = 0
              · exact .inr (.inr ⟨by omega, .inr (by omega)⟩)
              · exact .inr (.inl ⟨by rw [beq_iff_eq]; exact h2, by omega, by omega⟩)
            · exact .inr (.inr ⟨by omega, .inl ⟨by rw [beq_eq_false_iff_ne]; exact h2, by omega⟩⟩)
        clear hform ht
        rcases hq with ⟨h128, hcz⟩ | ⟨hcz, hkp, hc1⟩ | ⟨h128, hcz⟩
        · have hk8 : k < 9 := by have := HN.out; omega
          have hb' : ((k : Int) == 9) = false := by rw [beq_eq_false_iff_ne]; omega
          clear hb
          have HV' : Hid (Num.get bs = Num.dec (k + 1) V (bs.drop (k + 1))) := by
            show _ = _
            rw [HD.out, HS.out, dec_on HN.out h128, HV.out]
          have HU' : Hid (V < 128 ^ (k + 1)) := by show _ < _; rw [← HV.out]; exact next_lt U k c HU.out
          have HW' : Hid (W * 128 = 128 ^ (k + 1)) := by show _ = _; rw [HW.out, Nat.pow_succ]
          have hW' : W * 128 ≤ 9223372036854775808 := by rw [HW'.out]; exact pow_mono9 hk8
          have hO := HO.out
          go_wp2
          all_goals
            go_round
            case rel => exact ⟨k + 1, V, W * 128, by omega, by omega, by go_num, rfl, by go_num, hW', HW', HU', HV'⟩
            case measure => simp [intOf]; omega
        · have hv : Hid (Num.get bs = (0, 0, 1)) := by show _ = _; rw [HD.out, HS.out, dec_zero (by omega) (by omega)]
          rcases hb with ⟨hb, hc1, hk8⟩ | ⟨hb, hk8⟩
          all_goals
            go_wp2
            go_ret3
            exact ⟨by rw [hv.out]; rfl, rfl⟩
        · have hv : Hid (Num.get bs = (Num.unf V, (k : Int) + 1, 0)) := by show _ = _; rw [HD.out, HS.out, dec_last HN.out h128 (by omega), HV.out]
          have hO := HO.out
          have HE : Hid ((V : Int) % 2 = 1 → Num.unf V = -((V : Int) / 2) - 1) := unf_odd
          have HF : Hid (¬ (V : Int) % 2 = 1 → Num.unf V = (V : Int) / 2) := unf_even
          have hp : ((V : Int) % 2 = 1 ∧ ((V : Int) % 2 == 1) = true) ∨ (¬ (V : Int) % 2 = 1 ∧ ((V : Int) % 2 == 1) = false) := by
            by_cases h : (V : Int) % 2 = 1
            · exact .inl ⟨h, by rw [beq_iff_eq]; exact h⟩
            · exact .inr ⟨h, by rw [beq_eq_false_iff_ne]; exact h⟩
          rcases hb with ⟨hb, hc1, hk8⟩ | ⟨hb, hk8⟩ <;> rcases hcz with ⟨hcz, hcp⟩ | hk0
          all_goals (try (exfalso; omega))
          all_goals
            rcases hp with ⟨hp, hpb⟩ | ⟨hp, hpb⟩
            · have hu := HE.out hp
              have HG : Hid _ := hu
              clear hu hp
              go_wp2
              all_goals (go_ret3; exact ⟨by rw [hv.out, HG.out]; rfl, rfl⟩)
            · have hu := HF.out hp
              have HG : Hid _ := hu
              clear hu hp
              go_wp2
              all_goals (go_ret3; exact ⟨by rw [hv.out, HG.out]; rfl, rfl⟩)
    · have hkl : k = len := by omega
      have hv : Hid (Num.get bs = (0, 0, 2)) := by show _ = _; rw [HD.out, List.drop_of_length_le (by rw [HL.out]; omega)]; rfl
      clear hc hr
      go_wp2
      go_ret3
      exact ⟨by rw [hv.out]; rfl, rfl⟩

theorem rget_calls (ao : Option Addr) (len cap : Nat) (bs : List Int) (w : World) (hs : Seg w ao len cap bs) :
    Calls Try.prog 19 #[.slice ao len cap] w fun e w' => e = ans3 (Num.get bs) ∧ w' = w := by
  have hl := hs.size
  have hm := hs.max
  have hle := hs.le
  unfold maxLen at hm
  by_cases h0 : len = 0
  · subst h0
    obtain rfl : bs = [] := List.eq_nil_of_length_eq_zero hl
    exact rget_empty ao cap w
  · obtain ⟨b, off, rfl, _, hc⟩ := hs.at (by omega)
    exact rget_some b off len cap bs w hl (by omega) hc hs.byteAt

end Go.Proofs.Ytljacfnlianpdaa
