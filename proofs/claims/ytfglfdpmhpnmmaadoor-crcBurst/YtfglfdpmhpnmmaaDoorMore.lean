/-
  The walks of More and of Sum: they answer the plain function's sum of the bytes.
-/
import Derived.Test.YtfglfdpmhpnmmaaDoorBase
import Derived.Laws.BitsAllLaws
namespace Go.Proofs.YtfglfdpmhpnmmaaDoor
open Go.RowKit

/-- The table of halves lies as the program's text lays it. -/
def Halves (w : World) : Prop := ∀ i : Nat, i < 16 → w.cell? ⟨0, i, none⟩ = some (.int .u32 (Crc.tab.getD i 0 : Nat))

theorem Halves.pos {w : World} (h : Halves w) : 0 < w.heap.size := World.block_lt_of_cell? w _ (h 0 (by decide))
theorem Halves.below {w w' : World} (h : Halves w) (hb : Below w.heap.size w w') : Halves w' := fun i hi => by
  rw [hb.cell (show (⟨0, i, none⟩ : Addr).block < w.heap.size from h.pos)]
  exact h i hi

/-- Bytes as natural numbers. -/
def nats (bs : List Int) : List Nat := bs.map Int.toNat

theorem nats_byte {bs : List Int} (h : ∀ x ∈ bs, 0 ≤ x ∧ x ≤ 255) : ∀ x ∈ nats bs, x < 256 := by
  intro x hx
  obtain ⟨y, hy, rfl⟩ := List.mem_map.1 hx
  have := h y hy
  omega

theorem drop_step {bs : List Int} {k : Nat} (hk : k < bs.length) : bs.drop k = bs[k]?.getD 0 :: bs.drop (k + 1) := by
  rw [List.drop_eq_getElem_cons hk, List.getElem?_eq_getElem hk]; rfl

theorem xor_lt {a b : Nat} (ha : a < 4294967296) (hb : b < 4294967296) : a ^^^ b < 4294967296 := Nat.xor_lt_two_pow (n := 32) ha hb

theorem tab_lt (i : Nat) (h : i < 16) : Crc.tab.getD i 0 < 4294967296 := by
  have : ∀ j, j < 16 → Crc.tab.getD j 0 < 4294967296 := by decide
  exact this i h

/-- What half a round does, spelt as the walk spells it. -/
theorem half_spelt (A : Nat) (h : A < 4294967296) : bits .xor .u32 ((A : Int) / 16) ((Crc.tab.getD (A % 16) 0 : Nat) : Int) = ((Crc.bit4 A : Nat) : Int) := by
  have : (A : Int) / 16 = ((A / 16 : Nat) : Int) := by omega
  rw [this, u32_xor_nat _ _ (by omega) (tab_lt _ (by omega)), ← Crc.half_eq]; rfl

theorem half_here {w : World} (hT : Halves w) (A : Nat) (h : A < 4294967296) : ∃ T : Nat, w.cell? ⟨0, A % 16, none⟩ = some (.int .u32 T) ∧ bits .xor .u32 ((A : Int) / 16) (T : Int) = ((Crc.bit4 A : Nat) : Int) :=
  ⟨_, hT _ (Nat.mod_lt _ (by decide)), half_spelt A h⟩

theorem not_spelt (S : Nat) (h : S < 4294967296) : bits .xor .u32 IntKind.u32.max (S : Int) = ((Crc.ones ^^^ S : Nat) : Int) := u32_xor_nat 4294967295 S (by decide) h

set_option maxHeartbeats 400000 in
theorem more_some (S b off len cap : Nat) (bs : List Int) (w : World) (hT : Halves w) (hS : S < 4294967296) (hl : bs.length = len) (hm : len ≤ 9223372036854775807)
    (hc : ∀ j, j < len → w.cell? ⟨b, off + j, none⟩ = some (.int .u8 (bs.getD j 0)))
    (hr : ∀ j : Nat, 0 ≤ bs[j]?.getD 0 ∧ bs[j]?.getD 0 ≤ 255) :
    Calls Tryd.prog 11 #[.int .u32 S, .slice (some ⟨b, off, none⟩) len cap] w fun e w' => e = .returned (.int .u32 (Crc.more S (nats bs) : Nat)) ∧ w' = w := by
  have HL : Hid (bs.length = len) := hl
  have h0 := not_spelt S hS
  have hS0 : Crc.ones ^^^ S < 4294967296 := xor_lt (by decide) hS
  have HV : Hid (Crc.more S (nats bs) = Crc.ones ^^^ Crc.run (Crc.ones ^^^ S) (nats bs)) := rfl
  have HT : Hid (Halves w) := hT
  clear hl hT
  generalize Crc.ones ^^^ S = S0 at *
  go_enter Tryd.func11, Tryd.ntmps11
  go_wp2
  go_loop [0, 11] (fun u i => ∃ k U : Nat, k ≤ len ∧ i = .int .i64 k ∧ u = .int .u32 U ∧ U < 4294967296 ∧ Hid (Crc.run S0 (nats bs) = Crc.run U (nats (bs.drop k)))) (fun _ i => len - (intOf i).toNat)
  case atStart => exact ⟨0, S0, by omega, rfl, rfl, hS0, rfl⟩
  case round =>
    obtain ⟨k, U, hk, rfl, rfl, hU, HD⟩ := hrel
    by_cases hlt : k < len
    · have hcell := hc k hlt
      have hrk := hr k
      have HS : Hid (bs.drop k = bs[k]?.getD 0 :: bs.drop (k + 1)) := drop_step (by rw [HL.out]; exact hlt)
      rw [List.getD_eq_getElem?_getD] at hcell
      clear hc hr
      generalize bs[k]?.getD 0 = c at *
      obtain ⟨c, rfl⟩ := Int.eq_ofNat_of_zero_le hrk.1
      have hc8 : c < 256 := by omega
      clear hrk
      have e1 : bits .xor .u32 (U : Int) (c : Int) = ((U ^^^ c : Nat) : Int) := u32_xor_nat U c hU (by omega)
      have hA : U ^^^ c < 4294967296 := xor_lt hU (by omega)
      have HB : Hid (Crc.run S0 (nats bs) = Crc.run (Crc.bit4 (Crc.bit4 (U ^^^ c))) (nats (bs.drop (k + 1)))) := by
        show _ = _
        rw [HD.out, HS.out]; rfl
      generalize U ^^^ c = A at *
      obtain ⟨T1, c1, e2⟩ := half_here HT.out A hA
      have hA2 := Crc.bit4_lt hA
      generalize Crc.bit4 A = A2 at *
      obtain ⟨T2, c2, e3⟩ := half_here HT.out A2 hA2
      have hA3 := Crc.bit4_lt hA2
      generalize Crc.bit4 A2 = A3 at *
      clear HD HS
      go_wp2
      go_round
      case rel => exact ⟨k + 1, A3, by omega, by simp, rfl, hA3, HB⟩
      case measure => simp [intOf]; omega
    · have hN := not_spelt U hU
      have HE : Hid (Crc.more S (nats bs) = Crc.ones ^^^ U) := by
        show _ = _
        rw [HV.out, HD.out, List.drop_eq_nil_of_le (by rw [HL.out]; omega)]; rfl
      clear hc hr HD
      generalize Crc.ones ^^^ U = R at *
      go_wp2
      go_ret
      exact ⟨by rw [HE.out]; rfl, rfl⟩

set_option maxHeartbeats 400000 in
theorem more_none (S : Nat) (ao : Option Addr) (cap : Nat) (w : World) (hS : S < 4294967296) :
    Calls Tryd.prog 11 #[.int .u32 S, .slice ao 0 cap] w fun e w' => e = .returned (.int .u32 S) ∧ w' = w := by
  have h0 := not_spelt S hS
  have hS0 : Crc.ones ^^^ S < 4294967296 := xor_lt (by decide) hS
  have h1 := not_spelt _ hS0
  rw [Crc.xor_self_left] at h1
  generalize Crc.ones ^^^ S = S0 at *
  go_enter Tryd.func11, Tryd.ntmps11
  go_wp2
  refine wp_loop_rounds 1 ?_
  rw [rounds_succ]
  go_wp2
  go_ret
  exact ⟨rfl, rfl⟩

/-- More answers the plain function's. -/
theorem more_calls (S : Nat) (ao : Option Addr) (len cap : Nat) (bs : List Int) (w : World) (hT : Halves w) (hS : S < 4294967296) (hs : Seg w ao len cap bs) :
    Calls Tryd.prog 11 #[.int .u32 S, .slice ao len cap] w fun e w' => e = .returned (.int .u32 (Crc.more S (nats bs) : Nat)) ∧ w' = w := by
  by_cases h0 : len = 0
  · subst h0
    obtain rfl : bs = [] := List.eq_nil_of_length_eq_zero hs.size
    have := more_none S ao cap w hS
    rw [show Crc.more S (nats []) = S from Crc.more_nil S]
    exact this
  · obtain ⟨b, off, rfl, _, hc⟩ := hs.at (by omega)
    have hm : cap ≤ maxLen := hs.max
    have hle := hs.le
    unfold maxLen at hm
    exact more_some S b off len cap bs w hT hS hs.size (by omega) hc hs.byteAt

set_option maxHeartbeats 400000 in
/-- Sum answers the plain function's. -/
theorem sum_calls (ao : Option Addr) (len cap : Nat) (bs : List Int) (w : World) (hT : Halves w) (hs : Seg w ao len cap bs) :
    Calls Tryd.prog 9 #[.slice ao len cap] w fun e w' => e = .returned (.int .u32 (Crc.sum (nats bs) : Nat)) ∧ w' = w := by
  have HM : Hid (Calls Tryd.prog 11 #[.int .u32 0, .slice ao len cap] w fun e w' => e = .returned (.int .u32 (Crc.more 0 (nats bs) : Nat)) ∧ w' = w) := more_calls 0 ao len cap bs w hT (by decide) hs
  clear hT hs
  go_enter Tryd.func9, Tryd.ntmps9
  go_wp2_with fail
  refine HM.out.mono ?_
  rintro e w' ⟨rfl, rfl⟩
  go_wp2
  go_ret
  exact ⟨rfl, rfl⟩

end Go.Proofs.YtfglfdpmhpnmmaaDoor
