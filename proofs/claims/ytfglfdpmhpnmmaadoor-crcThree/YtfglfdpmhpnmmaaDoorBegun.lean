/-
  The walks of the reference's Sum, of Short, and of the look that each statement opens with; and what the walks are told of slices that came in.
-/
import Derived.Test.YtfglfdpmhpnmmaaDoorMore
import Derived.OpenShut
import Derived.Lib.SlBytesConst
namespace Go.Proofs.YtfglfdpmhpnmmaaDoor
open Go.RowKit

theorem bit_odd (C : Nat) (hC : C < 4294967296) (h : C % 2 = 1) : bits .xor .u32 ((C : Int) / 2) 3988292384 = ((Crc.bit C : Nat) : Int) := by
  have : (C : Int) / 2 = ((C / 2 : Nat) : Int) := by omega
  rw [this]
  have := u32_xor_nat (C / 2) 3988292384 (by omega) (by decide)
  unfold Crc.bit
  rw [if_pos h]
  exact this
theorem bit_even (C : Nat) (h : ¬ C % 2 = 1) : (C : Int) / 2 = ((Crc.bit C : Nat) : Int) := by
  unfold Crc.bit
  rw [if_neg h]
  omega

/-- j bits more. -/
def bitsUp : Nat → Nat → Nat
  | 0, s => s
  | n + 1, s => bitsUp n (Crc.bit s)
theorem bitsUp_8 (s : Nat) : bitsUp 8 s = Crc.bit8 s := rfl

set_option maxHeartbeats 400000 in
theorem ref_some (b off len cap : Nat) (bs : List Int) (w : World) (hl : bs.length = len) (hm : len ≤ 9223372036854775807)
    (hc : ∀ j, j < len → w.cell? ⟨b, off + j, none⟩ = some (.int .u8 (bs.getD j 0)))
    (hr : ∀ j : Nat, 0 ≤ bs[j]?.getD 0 ∧ bs[j]?.getD 0 ≤ 255) :
    Calls Tryd.prog 10 #[.slice (some ⟨b, off, none⟩) len cap] w fun e w' => e = .returned (.int .u32 (Crc.sum (nats bs) : Nat)) ∧ w' = w := by
  have HL : Hid (bs.length = len) := hl
  have HV : Hid (Crc.sum (nats bs) = Crc.ones ^^^ Crc.run 4294967295 (nats bs)) := rfl
  clear hl
  go_enter Tryd.func10, Tryd.ntmps10
  go_wp2
  go_loop [3, 4] (fun u i => ∃ k U : Nat, k ≤ len ∧ i = .int .i64 k ∧ u = .int .u32 U ∧ U < 4294967296 ∧ Hid (Crc.run 4294967295 (nats bs) = Crc.run U (nats (bs.drop k)))) (fun _ i => len - (intOf i).toNat)
  case atStart => exact ⟨0, 4294967295, by omega, rfl, rfl, by decide, rfl⟩
  case round =>
    obtain ⟨k, U, hk, rfl, rfl, hU, HD⟩ := hrel
    by_cases hlt : k < len
    · have hcell := hc k hlt
      have hrk := hr k
      have HS : Hid (bs.drop k = bs[k]?.getD 0 :: bs.drop (k + 1)) := drop_step (by rw [HL.out]; exact hlt)
      rw [List.getD_eq_getElem?_getD] at hcell
      clear hc hr
      generalize bs[k]?.getD 0 = c at *
      obtain ⟨c, rfl⟩ := Int.eq_ofNat_of_zero_le hrk.1
      have hc8 : c < 256 := by omega
      clear hrk
      have e1 : bits .xor .u32 (U : Int) (c : Int) = ((U ^^^ c : Nat) : Int) := u32_xor_nat U c hU (by omega)
      have hA : U ^^^ c < 4294967296 := xor_lt hU (by omega)
      have HB : Hid (Crc.run 4294967295 (nats bs) = Crc.run (bitsUp 8 (U ^^^ c)) (nats (bs.drop (k + 1)))) := by
        show _ = _
        rw [HD.out, HS.out]; rfl
      generalize U ^^^ c = A at *
      clear HD HS
      go_wp2
      go_loop [3, 5] (fun u j => ∃ m C : Nat, m ≤ 8 ∧ j = .int .i64 m ∧ u = .int .u32 C ∧ C < 4294967296 ∧ Hid (bitsUp 8 A = bitsUp (8 - m) C)) (fun _ j => 8 - (intOf j).toNat)
      case atStart => exact ⟨0, A, by omega, rfl, rfl, hA, rfl⟩
      case round =>
        obtain ⟨m, C, hm8, rfl, rfl, hC, HE⟩ := hrel
        by_cases h8 : m < 8
        · have HN : Hid (bitsUp 8 A = bitsUp (8 - (m + 1)) (Crc.bit C)) := by
            show _ = _
            rw [HE.out, show 8 - m = (8 - (m + 1)) + 1 by omega]; rfl
          have hN := Crc.bit_lt hC
          by_cases ho : C % 2 = 1
          · have e2 := bit_odd C hC ho
            have hb : ((C : Int) % 2 == 1) = true := by rw [beq_iff_eq]; omega
            generalize Crc.bit C = C2 at *
            clear ho HE
            go_wp2
            go_round
            case rel => exact ⟨m + 1, C2, by omega, by simp, rfl, hN, HN⟩
            case measure => simp [intOf]; omega
          · have e2 := bit_even C ho
            have hb : ((C : Int) % 2 == 1) = false := by rw [beq_eq_false_iff_ne]; omega
            generalize Crc.bit C = C2 at *
            clear ho HE
            go_wp2
            go_round
            case rel => exact ⟨m + 1, C2, by omega, by simp, rfl, hN, HN⟩
            case measure => simp [intOf]; omega
        · obtain rfl : m = 8 := by omega
          have HE' : Hid (bitsUp 8 A = C) := HE.out
          have HB' : Hid (Crc.run 4294967295 (nats bs) = Crc.run C (nats (bs.drop (k + 1)))) := by
            show _ = _
            rw [HB.out, HE'.out]
          clear HE HE' HB
          go_wp2
          go_round
          case rel => exact ⟨k + 1, C, by omega, by simp, rfl, hC, HB'⟩
          case measure => simp [intOf]; omega
    · have hN := not_spelt U hU
      have HE : Hid (Crc.sum (nats bs) = Crc.ones ^^^ U) := by
        show _ = _
        rw [HV.out, HD.out, List.drop_eq_nil_of_le (by rw [HL.out]; omega)]; rfl
      clear hc hr HD
      generalize Crc.ones ^^^ U = R at *
      go_wp2
      go_ret
      exact ⟨by rw [HE.out]; rfl, rfl⟩

set_option maxHeartbeats 400000 in
theorem ref_none (ao : Option Addr) (cap : Nat) (w : World) :
    Calls Tryd.prog 10 #[.slice ao 0 cap] w fun e w' => e = .returned (.int .u32 (Crc.sum (nats []) : Nat)) ∧ w' = w := by
  have h1 : bits .xor .u32 IntKind.u32.max 4294967295 = 0 := not_spelt 4294967295 (by decide)
  go_enter Tryd.func10, Tryd.ntmps10
  go_wp2
  refine wp_loop_rounds 1 ?_
  rw [rounds_succ]
  go_wp2
  go_ret
  exact ⟨rfl, rfl⟩

/-- The reference's Sum answers the plain function's. -/
theorem ref_calls (ao : Option Addr) (len cap : Nat) (bs : List Int) (w : World) (hs : Seg w ao len cap bs) :
    Calls Tryd.prog 10 #[.slice ao len cap] w fun e w' => e = .returned (.int .u32 (Crc.sum (nats bs) : Nat)) ∧ w' = w := by
  by_cases h0 : len = 0
  · subst h0
    obtain rfl : bs = [] := List.eq_nil_of_length_eq_zero hs.size
    exact ref_none ao cap w
  · obtain ⟨b, off, rfl, _, hc⟩ := hs.at (by omega)
    have hm : cap ≤ maxLen := hs.max
    have hle := hs.le
    unfold maxLen at hm
    exact ref_some b off len cap bs w hs.size (by omega) hc hs.byteAt

theorem Seg.front {w : World} {ao : Option Addr} {len cap : Nat} {bs : List Int} (h : Seg w ao len cap bs) (n : Nat) (hn : n ≤ len) : Seg w ao n cap (bs.take n) := by
  refine ⟨by have := h.size; simp; omega, by have := h.le; omega, h.max, fun ha => ?_, fun a ha j hj => ?_, fun x hx => h.byte x (List.mem_of_mem_take hx)⟩
  · have := h.nil ha; omega
  · have := h.cell a ha j (by omega)
    rw [this]
    simp only [List.getD_eq_getElem?_getD]
    rw [List.getElem?_take, if_pos hj]

set_option maxHeartbeats 400000 in
theorem short_calls (ao : Option Addr) (len cap : Nat) (bs : List Int) (n : Nat) (w : World) (hs : Seg w ao len cap bs) (hn : n ≤ 300) :
    Calls Tryd.prog 8 #[.slice ao len cap, .int .i64 n] w fun e w' => ∃ len', len' ≤ n ∧ e = .returned (.slice ao len' cap) ∧ Seg w ao len' cap (bs.take n) ∧ w' = w := by
  have hmax := hs.max
  have hle := hs.le
  unfold maxLen at hmax
  have HS : Hid (Seg w ao len cap bs) := hs
  clear hs
  by_cases h : (n : Int) < len
  · go_enter Tryd.func8, Tryd.ntmps8
    go_wp2
    go_ret
    exact ⟨n, Nat.le_refl _, rfl, HS.out.front n (by omega), rfl⟩
  · go_enter Tryd.func8, Tryd.ntmps8
    go_wp2
    go_ret
    refine ⟨len, by omega, rfl, ?_, rfl⟩
    have := HS.out.size
    rw [List.take_of_length_le (by omega)]
    exact HS.out

theorem seg_nil (w : World) : Seg w none 0 0 [] := ⟨rfl, Nat.le_refl _, Nat.zero_le _, fun _ => ⟨rfl, rfl⟩, fun a h => (by cases h), fun x h => (by cases h)⟩

def nine : List Int := [49, 50, 51, 52, 53, 54, 55, 56, 57]
theorem nine_sum : Crc.sum (nats nine) = 3421780262 := by decide +kernel

/-- The nine digits as a constant text's bytes, just laid. -/
theorem seg_nine (w : World) : Seg (w.alloc (.cells #[.int .u8 49, .int .u8 50, .int .u8 51, .int .u8 52, .int .u8 53, .int .u8 54, .int .u8 55, .int .u8 56, .int .u8 57] 5 (9, 10))) (some ⟨w.heap.size, 0, none⟩) 9 9 nine := by
  refine ⟨rfl, Nat.le_refl _, by decide, fun h => (by cases h), fun a ha j hj => ?_, by decide⟩
  cases ha
  rw [Addr.add_lit, Nat.zero_add, World.cell?_alloc_mark]
  match j, hj with
  | 0, _ | 1, _ | 2, _ | 3, _ | 4, _ | 5, _ | 6, _ | 7, _ | 8, _ => rfl

set_option maxHeartbeats 400000 in
theorem begun_calls (w : World) (hT : Halves w) :
    Calls Tryd.prog 7 #[] w fun e w' => e = .returned (.bool true) ∧ Below w.heap.size w w' := by
  have hB : Below w.heap.size w (w.alloc (.cells #[.int .u8 49, .int .u8 50, .int .u8 51, .int .u8 52, .int .u8 53, .int .u8 54, .int .u8 55, .int .u8 56, .int .u8 57] 5 (9, 10))) := (Below.refl _ _).alloc (Nat.le_refl _) _
  have HT : Hid (Halves (w.alloc (.cells #[.int .u8 49, .int .u8 50, .int .u8 51, .int .u8 52, .int .u8 53, .int .u8 54, .int .u8 55, .int .u8 56, .int .u8 57] 5 (9, 10)))) := hT.below hB
  have kc := fun (w : World) (C : Array Value) (n c : Nat) => Lib.run_convert_bytes_const (P := Tryd.prog) w 22 5 C n c Tryd.underlying22 Tryd.underlying5
  clear hT
  go_enter Tryd.func7, Tryd.ntmps7
  go_wp2_with fail
  refine (sum_calls _ _ _ nine _ HT.out (seg_nine w)).mono ?_
  rintro e w1 ⟨rfl, rfl⟩
  rw [nine_sum]
  go_wp2_with fail
  refine (sum_calls _ _ _ [] _ HT.out (seg_nil _)).mono ?_
  rintro e w1 ⟨rfl, rfl⟩
  rw [show Crc.sum (nats []) = 0 from rfl]
  go_wp2
  go_ret
  exact ⟨rfl, hB⟩

/-- A slice of integers that came in: nil, or a row of cap cells, the first len of them its elements. -/
def IsRow (k : IntKind) (w : World) (a : Option Addr) (len cap : Nat) (zs : List Int) : Prop :=
  (a = none ∧ len = 0 ∧ cap = 0 ∧ zs = []) ∨
  ∃ x, a = some x ∧ len ≤ cap ∧ cap ≤ maxLen ∧ zs.length = cap ∧ (∀ i, i < zs.length → w.cell? (x.add i) = some (.int k (zs.getD i 0))) ∧ ∀ n ∈ zs, (Lit.int k n).wf = true

theorem IsRow.seg {w : World} {a : Option Addr} {len cap : Nat} {zs : List Int} (h : IsRow .u8 w a len cap zs) : Seg w a len cap (zs.take len) := by
  rcases h with ⟨rfl, rfl, rfl, rfl⟩ | ⟨x, rfl, hl, hm, hz, hcell, hwz⟩
  · exact seg_nil w
  · refine ⟨by simp; omega, hl, hm, fun h => (by cases h), fun a ha j hj => ?_, fun y hy => bounds_u8 (hwz y (List.mem_of_mem_take hy))⟩
    cases ha
    rw [hcell j (by omega)]
    simp only [List.getD_eq_getElem?_getD]
    rw [List.getElem?_take, if_pos hj]

end Go.Proofs.YtfglfdpmhpnmmaaDoor
