/-
  Proved: whatever bytes and cuts are handed in, the Go function CrcMany returns true and leaves them as they were. The table of halves starts as the program's text lays it (tied by the card).
-/
import Derived.Test.YtfglfdpmhpnmmaaDoorLaid
import Derived.Test.YtfglfdpmhpnmmaaDoorCards
import Derived.Test.YtfglfdpmhpnmmaaDoorTie
import Derived.OpenShut
import Derived.ShutString
import Derived.ChangeOld
import Derived.Below
import Derived.SevenTiedAt
namespace Go.Proofs.YtfglfdpmhpnmmaaDoor.Many
open Go.ChangeShapes Go.WideShapes Go.ChangeAt Go.RowKit

theorem tmod_range (c : Int) : -39 ≤ c.tmod 40 ∧ c.tmod 40 ≤ 39 := by
  have h1 := Int.tmod_lt_of_pos c (show (0 : Int) < 40 by decide)
  have h2 : -40 < c.tmod 40 := Int.lt_tmod_of_pos c (by decide)
  omega

theorem take_add (xs : List Int) (k n : Nat) : xs.take k ++ (xs.drop k).take n = xs.take (k + n) := (List.take_add ..).symm

/-- A part of a slice. -/
theorem seg_part {w : World} {b off len cap : Nat} {bs : List Int} (h : Seg w (some ⟨b, off, none⟩) len cap bs) (k n c : Nat) (hk : k + n ≤ len) (hc : n ≤ c) (hm : c ≤ maxLen) : Seg w (some ⟨b, off + k, none⟩) n c ((bs.drop k).take n) := by
  refine ⟨by have := h.size; simp; omega, hc, hm, fun h => (by cases h), fun a ha j hj => ?_, fun x hx => h.byte x (List.mem_of_mem_drop (List.mem_of_mem_take hx))⟩
  cases ha
  have := h.cell _ rfl (k + j) (by omega)
  rw [Addr.add_lit] at this ⊢
  have e : ((bs.drop k).take n).getD j 0 = bs.getD (k + j) 0 := by
    simp only [List.getD_eq_getElem?_getD]
    rw [List.getElem?_take, if_pos hj, List.getElem?_drop]
  rw [e, Nat.add_assoc]
  exact this

/-- A piece more. -/
theorem piece {w : World} {b off L cap : Nat} {xs : List Int} (hT : Halves w) (hs : Seg w (some ⟨b, off, none⟩) L cap xs) (k d : Nat) (ht : k + d ≤ L) (S : Nat) (hS : Crc.sum (nats (xs.take k)) = S) :
    ∃ S' : Nat, S' < 4294967296 ∧ Hid (Crc.sum (nats (xs.take (k + d))) = S') ∧ Hid (Calls Tryd.prog 11 #[.int .u32 S, .slice (some ⟨b, off + k, none⟩) d (cap - k)] w fun e w' => e = .returned (.int .u32 S') ∧ w' = w) := by
  have hle := hs.le
  have hm := hs.max
  have hb : ∀ n, ∀ y ∈ nats (xs.take n), y < 256 := fun n => nats_byte fun y hy => hs.byte y (List.mem_of_mem_take hy)
  have hp := seg_part hs k d (cap - k) (by omega) (by omega) (by omega)
  have hc := more_calls S _ _ _ _ w hT (by rw [← hS]; exact Crc.sum_lt _ (hb k)) hp
  have e : Crc.more S (nats ((xs.drop k).take d)) = Crc.sum (nats (xs.take (k + d))) := by
    rw [← hS, Crc.sum_more]
    unfold nats
    rw [← List.map_append, take_add]
  rw [e] at hc
  exact ⟨_, Crc.sum_lt _ (hb _), rfl, hc⟩

theorem row_at {w : World} {a : Option Addr} {len cap : Nat} {zs : List Int} (h : IsRow .i64 w a len cap zs) (i : Nat) (hi : i < len) :
    ∃ b off c, a = some ⟨b, off, none⟩ ∧ w.cell? ⟨b, off + i, none⟩ = some (.int .i64 c) ∧ -9223372036854775808 ≤ c ∧ c ≤ 9223372036854775807 := by
  rcases h with ⟨_, rfl, _, _⟩ | ⟨x, rfl, hl, _, hz, hcell, hwz⟩
  · omega
  · obtain ⟨b, off, spot⟩ := x
    have hspot : spot = none := by simpa [Addr.add] using World.cell?_spot (hcell 0 (by omega))
    subst hspot
    have hc := hcell i (by omega)
    rw [Addr.add_lit] at hc
    refine ⟨b, off, _, rfl, hc, ?_⟩
    have hm : zs.getD i 0 ∈ zs := by
      rw [List.getD_eq_getElem?_getD, List.getElem?_eq_getElem (by omega)]
      exact List.getElem_mem _
    exact bounds_i64 (hwz _ hm)

theorem row_below {w w' : World} {a : Option Addr} {len cap : Nat} {zs : List Int} (h : IsRow .i64 w a len cap zs) (hb : Below w.heap.size w w') : IsRow .i64 w' a len cap zs := by
  rcases h with h | ⟨x, hx, hl, hm, hz, hcell, hwz⟩
  · exact .inl h
  · refine .inr ⟨x, hx, hl, hm, hz, fun i hi => ?_, hwz⟩
    have hc := hcell i hi
    rw [hb.cell (World.block_lt_of_cell? w _ hc)]
    exact hc

set_option maxRecDepth 100000 in
set_option maxHeartbeats 400000 in
theorem walk_some (b off len0 cap0 : Nat) (xs : List Int) (a1 : Option Addr) (len1 cap1 : Nat) (z1 : List Int) (w : World) (hT : Halves w) (hs : Seg w (some ⟨b, off, none⟩) len0 cap0 xs) (w1 : IsRow .i64 w a1 len1 cap1 z1) :
    Calls Tryd.prog 5 #[.slice (some ⟨b, off, none⟩) len0 cap0, .slice a1 len1 cap1] w fun e w' => e = .returned (.bool true) ∧ Below w.heap.size w w' := by
  have H0 : Hid (Seg w (some ⟨b, off, none⟩) len0 cap0 xs) := hs
  have H1 : Hid (IsRow .i64 w a1 len1 cap1 z1) := w1
  have HT : Hid (Halves w) := hT
  have hm0 : cap0 ≤ 9223372036854775807 := hs.max
  have hle0 := hs.le
  clear w1 hT hs
  by_cases hlen : (300 : Int) < len0
  · go_enter Tryd.func5, Tryd.ntmps5
    go_wp2_with fail
    refine (begun_calls _ HT.out).mono ?_
    rintro e w1 ⟨rfl, hb1⟩
    have HT1 : Hid (Halves w1) := HT.out.below hb1
    have HX : Hid (Seg w1 (some ⟨b, off, none⟩) 300 cap0 (xs.take 300)) := (H0.out.below hb1).front 300 (by omega)
    have HC : Hid (IsRow .i64 w1 a1 len1 cap1 z1) := row_below H1.out hb1
    clear H0 H1 HT
    generalize xs.take 300 = ys at *
    go_wp2_with fail
    refine (sum_calls _ _ _ [] _ HT1.out (seg_nil _)).mono ?_
    rintro e w2 ⟨rfl, rfl⟩
    rw [show Crc.sum (nats []) = 0 from rfl]
    go_wp2_with fail
    go_loop [6, 7, 8] (fun s k i => ∃ K I S : Nat, K ≤ 300 ∧ I ≤ K ∧ s = .int .u32 S ∧ k = .int .i64 K ∧ i = .int .i64 I ∧ S < 4294967296 ∧ Hid (Crc.sum (nats (ys.take K)) = S)) (fun _ k _ => 300 - (intOf k).toNat)
    case atStart => exact ⟨0, 0, 0, by omega, by omega, rfl, rfl, rfl, by decide, by show Crc.sum _ = 0; rw [List.take_zero]; rfl⟩
    case round =>
      obtain ⟨K, I, S, hK, hI, rfl, rfl, rfl, hS, HS⟩ := hrel
      by_cases hlt : K < 300
      · by_cases hi : I < len1
        · obtain ⟨b1, off1, c, rfl, hcell, c0, c1⟩ := row_at HC.out I hi
          have hr := tmod_range c
          obtain ⟨m, hm⟩ : ∃ m : Nat, c.tmod 40 % 40 = m := ⟨(c.tmod 40 % 40).toNat, by omega⟩
          by_cases hto : K + (1 + m) < 300
          · skip
            obtain ⟨S2, hS2, HS2, HM⟩ := piece HT1.out HX.out K (1 + m) (by omega) S HS.out
            go_wp2_with fail
            refine HM.out.mono ?_
            rintro e w3 ⟨rfl, rfl⟩
            clear HM
            go_wp2
            go_round
            case rel => exact ⟨K + (1 + m), I + 1, S2, by omega, by omega, rfl, by simp, by simp, hS2, by rw [show K + (1 + m) = K + (1 + m) by omega]; exact HS2⟩
            case measure => simp [intOf]; omega
          · skip
            obtain ⟨S2, hS2, HS2, HM⟩ := piece HT1.out HX.out K (300 - K) (by omega) S HS.out
            go_wp2_with fail
            refine HM.out.mono ?_
            rintro e w3 ⟨rfl, rfl⟩
            clear HM
            go_wp2
            go_round
            case rel => exact ⟨300, I + 1, S2, by omega, by omega, rfl, rfl, by simp, hS2, by rw [show 300 = K + (300 - K) by omega]; exact HS2⟩
            case measure => simp [intOf]; omega
        · by_cases hto : K + 1 < 300
          · skip
            obtain ⟨S2, hS2, HS2, HM⟩ := piece HT1.out HX.out K (1) (by omega) S HS.out
            go_wp2_with fail
            refine HM.out.mono ?_
            rintro e w3 ⟨rfl, rfl⟩
            clear HM
            go_wp2
            go_round
            case rel => exact ⟨K + 1, I + 1, S2, by omega, by omega, rfl, by simp, by simp, hS2, by rw [show K + 1 = K + (1) by omega]; exact HS2⟩
            case measure => simp [intOf]; omega
          · skip
            obtain ⟨S2, hS2, HS2, HM⟩ := piece HT1.out HX.out K (300 - K) (by omega) S HS.out
            go_wp2_with fail
            refine HM.out.mono ?_
            rintro e w3 ⟨rfl, rfl⟩
            clear HM
            go_wp2
            go_round
            case rel => exact ⟨300, I + 1, S2, by omega, by omega, rfl, rfl, by simp, hS2, by rw [show 300 = K + (300 - K) by omega]; exact HS2⟩
            case measure => simp [intOf]; omega
      · have HE : Hid (Calls Tryd.prog 9 #[.slice (some ⟨b, off, none⟩) 300 cap0] w2 fun e w' => e = .returned (.int .u32 S) ∧ w' = w2) := by
          have := sum_calls _ _ _ _ _ HT1.out HX.out
          rw [← HS.out, List.take_of_length_le (by rw [HX.out.size]; omega)]
          exact this
        have hSS : ((S : Int) == (S : Int)) = true := by simp
        go_wp2_with fail
        refine HE.out.mono ?_
        rintro e w3 ⟨rfl, rfl⟩
        go_wp2
        go_ret
        exact ⟨rfl, hb1⟩
  · go_enter Tryd.func5, Tryd.ntmps5
    go_wp2_with fail
    refine (begun_calls _ HT.out).mono ?_
    rintro e w1 ⟨rfl, hb1⟩
    have HT1 : Hid (Halves w1) := HT.out.below hb1
    have HX : Hid (Seg w1 (some ⟨b, off, none⟩) len0 cap0 (xs.take len0)) := (H0.out.below hb1).front len0 (by omega)
    have HC : Hid (IsRow .i64 w1 a1 len1 cap1 z1) := row_below H1.out hb1
    clear H0 H1 HT
    generalize xs.take len0 = ys at *
    go_wp2_with fail
    refine (sum_calls _ _ _ [] _ HT1.out (seg_nil _)).mono ?_
    rintro e w2 ⟨rfl, rfl⟩
    rw [show Crc.sum (nats []) = 0 from rfl]
    go_wp2_with fail
    go_loop [6, 7, 8] (fun s k i => ∃ K I S : Nat, K ≤ len0 ∧ I ≤ K ∧ s = .int .u32 S ∧ k = .int .i64 K ∧ i = .int .i64 I ∧ S < 4294967296 ∧ Hid (Crc.sum (nats (ys.take K)) = S)) (fun _ k _ => len0 - (intOf k).toNat)
    case atStart => exact ⟨0, 0, 0, by omega, by omega, rfl, rfl, rfl, by decide, by show Crc.sum _ = 0; rw [List.take_zero]; rfl⟩
    case round =>
      obtain ⟨K, I, S, hK, hI, rfl, rfl, rfl, hS, HS⟩ := hrel
      by_cases hlt : K < len0
      · by_cases hi : I < len1
        · obtain ⟨b1, off1, c, rfl, hcell, c0, c1⟩ := row_at HC.out I hi
          have hr := tmod_range c
          obtain ⟨m, hm⟩ : ∃ m : Nat, c.tmod 40 % 40 = m := ⟨(c.tmod 40 % 40).toNat, by omega⟩
          by_cases hto : K + (1 + m) < len0
          · skip
            obtain ⟨S2, hS2, HS2, HM⟩ := piece HT1.out HX.out K (1 + m) (by omega) S HS.out
            go_wp2_with fail
            refine HM.out.mono ?_
            rintro e w3 ⟨rfl, rfl⟩
            clear HM
            go_wp2
            go_round
            case rel => exact ⟨K + (1 + m), I + 1, S2, by omega, by omega, rfl, by simp, by simp, hS2, by rw [show K + (1 + m) = K + (1 + m) by omega]; exact HS2⟩
            case measure => simp [intOf]; omega
          · skip
            obtain ⟨S2, hS2, HS2, HM⟩ := piece HT1.out HX.out K (len0 - K) (by omega) S HS.out
            go_wp2_with fail
            refine HM.out.mono ?_
            rintro e w3 ⟨rfl, rfl⟩
            clear HM
            go_wp2
            go_round
            case rel => exact ⟨len0, I + 1, S2, by omega, by omega, rfl, rfl, by simp, hS2, by rw [show len0 = K + (len0 - K) by omega]; exact HS2⟩
            case measure => simp [intOf]; omega
        · by_cases hto : K + 1 < len0
          · skip
            obtain ⟨S2, hS2, HS2, HM⟩ := piece HT1.out HX.out K (1) (by omega) S HS.out
            go_wp2_with fail
            refine HM.out.mono ?_
            rintro e w3 ⟨rfl, rfl⟩
            clear HM
            go_wp2
            go_round
            case rel => exact ⟨K + 1, I + 1, S2, by omega, by omega, rfl, by simp, by simp, hS2, by rw [show K + 1 = K + (1) by omega]; exact HS2⟩
            case measure => simp [intOf]; omega
          · skip
            obtain ⟨S2, hS2, HS2, HM⟩ := piece HT1.out HX.out K (len0 - K) (by omega) S HS.out
            go_wp2_with fail
            refine HM.out.mono ?_
            rintro e w3 ⟨rfl, rfl⟩
            clear HM
            go_wp2
            go_round
            case rel => exact ⟨len0, I + 1, S2, by omega, by omega, rfl, rfl, by simp, hS2, by rw [show len0 = K + (len0 - K) by omega]; exact HS2⟩
            case measure => simp [intOf]; omega
      · have HE : Hid (Calls Tryd.prog 9 #[.slice (some ⟨b, off, none⟩) len0 cap0] w2 fun e w' => e = .returned (.int .u32 S) ∧ w' = w2) := by
          have := sum_calls _ _ _ _ _ HT1.out HX.out
          rw [← HS.out, List.take_of_length_le (by rw [HX.out.size]; omega)]
          exact this
        have hSS : ((S : Int) == (S : Int)) = true := by simp
        go_wp2_with fail
        refine HE.out.mono ?_
        rintro e w3 ⟨rfl, rfl⟩
        go_wp2
        go_ret
        exact ⟨rfl, hb1⟩

set_option maxHeartbeats 400000 in
theorem walk_none (a0 : Option Addr) (cap0 : Nat) (a1 : Option Addr) (len1 cap1 : Nat) (w : World) (hT : Halves w) (hs : Seg w a0 0 cap0 []) :
    Calls Tryd.prog 5 #[.slice a0 0 cap0, .slice a1 len1 cap1] w fun e w' => e = .returned (.bool true) ∧ Below w.heap.size w w' := by
  have HT : Hid (Halves w) := hT
  have H0 : Hid (Seg w a0 0 cap0 []) := hs
  clear hT hs
  go_enter Tryd.func5, Tryd.ntmps5
  go_wp2_with fail
  refine (begun_calls _ HT.out).mono ?_
  rintro e w1 ⟨rfl, hb1⟩
  have HT1 : Hid (Halves w1) := HT.out.below hb1
  have HX : Hid (Seg w1 a0 0 cap0 []) := H0.out.below hb1
  clear H0 HT
  go_wp2_with fail
  refine (sum_calls _ _ _ [] _ HT1.out (seg_nil _)).mono ?_
  rintro e w2 ⟨rfl, rfl⟩
  rw [show Crc.sum (nats []) = 0 from rfl]
  go_wp2_with fail
  refine wp_loop_rounds 1 ?_
  rw [rounds_succ]
  go_wp2_with fail
  refine (sum_calls _ _ _ [] _ HT1.out HX.out).mono ?_
  rintro e w3 ⟨rfl, rfl⟩
  rw [show Crc.sum (nats []) = 0 from rfl]
  go_wp2
  go_ret
  exact ⟨rfl, hb1⟩

theorem walk (a0 : Option Addr) (len0 cap0 : Nat) (z0 : List Int) (a1 : Option Addr) (len1 cap1 : Nat) (z1 : List Int) (w : World) (hT : Halves w) (w0 : IsRow .u8 w a0 len0 cap0 z0) (w1 : IsRow .i64 w a1 len1 cap1 z1) :
    Calls Tryd.prog 5 #[.slice a0 len0 cap0, .slice a1 len1 cap1] w fun e w' => e = .returned (.bool true) ∧ Below w.heap.size w w' := by
  have hs := w0.seg
  by_cases h0 : len0 = 0
  · subst h0
    exact walk_none a0 cap0 a1 len1 cap1 w hT hs
  · obtain ⟨b, off, rfl, _, _⟩ := hs.at (by omega)
    exact walk_some b off len0 cap0 _ a1 len1 cap1 z1 w hT hs w1

set_option maxRecDepth 100000 in
theorem lifted (os : Os) (started : os.Started) (H : Type) (enc : TypeId × Value → H) :
    ReturnsInHanded {} Tryd.checked os 5 .any (fun w args => (Rows.crcManySpec.pre enc Tryd.prog Tryd.f5 [] false w args ∧ laidMetH Tryd.prog laid1 w) ∧ sizedMet enc Tryd.prog Tryd.f5 (OpenSpec.ofChange Rows.crcManySpec) false w args) (Rows.crcManySpec.post enc Tryd.prog Tryd.f5 false true false false) := by
  refine returnsInHanded_of_change_and (C := Tryd.checked) (X := fun w _ => laidMetH Tryd.prog laid1 w) (fun _ _ _ hh h => h.of_heap hh) own started (by kernel_rfl) Tryd.func5
    (ChangeSpec.witness_shaped (enc := enc) (C := Tryd.checked) (os := os) (X := fun w _ => laidMetH Tryd.prog laid1 w) false (World.doorLaid Tryd.prog 14 os) #[.slice none 0 0, .slice none 0 0] 8 rfl (World.shaped_of_RefB (by kernel_rfl) (by kernel_rfl)) (by kernel_rfl) (by kernel_rfl) (by kernel_rfl) (door_met os _)) ?_
  intro W base args ds gs before hval0 hW _ _ hL _
  have hval : ∀ (j : Nat) t v, Tryd.f5.params[j]? = some t → args[j]? = some v → Value.okWide Tryd.prog W .any base t v := hval0
  have hW' := hW
  obtain ⟨p, q, hA0, hV, rfl, _, _⟩ := hW
  have hA : DataW.TrodAll enc Tryd.prog W 0 (fun _ => true) true Tryd.f5.params.toList args.toList ds p := hA0
  rw [Tryd.params5] at hA hval
  obtain ⟨v0, vs0, d0, ds0, p0, q0, _, rfl, rfl, h0, r0⟩ := trodAll_cons hA
  obtain ⟨v1, vs1, d1, ds1, p1, q1, rfl, rfl, rfl, h1, r1⟩ := trodAll_cons r0
  obtain ⟨rfl, rfl, rfl⟩ := trodAll_nil r1
  obtain rfl : args = #[v0, v1] := by cases args; simp_all
  obtain ⟨rfl, rfl⟩ := trodVars_none hV
  obtain ⟨a0, len0, cap0, rfl⟩ := okWide_slice Tryd.underlying22 (hval 0 22 v0 rfl rfl)
  have k0 := h0
  have lt0 : ∀ x ∈ p0, x.block < W.heap.size := by obtain ⟨m, hm⟩ := k0; exact DataW.trod_lt m _ _ _ hm
  obtain ⟨z0, w0⟩ : ∃ zs, IsRow .u8 W a0 len0 cap0 zs := by
    obtain ⟨fuel, hf⟩ := h0
    rcases open_ints Tryd.underlying22 Tryd.underlying5 (by kernel_rfl) hf with ⟨hcs, _⟩ | ⟨x, l, c, zs, hcs, _, hl, hm, hz, _, hcell, hwz⟩
    · simp [Value.cells] at hcs
      obtain ⟨rfl, rfl, rfl⟩ := hcs
      exact ⟨[], .inl ⟨rfl, rfl, rfl, rfl⟩⟩
    · simp [Value.cells] at hcs
      obtain ⟨rfl, rfl, rfl⟩ := hcs
      exact ⟨zs, .inr ⟨_, rfl, hl, hm, by simpa using hz, hcell, hwz⟩⟩
  obtain ⟨a1, len1, cap1, rfl⟩ := okWide_slice Tryd.underlying30 (hval 1 30 v1 rfl rfl)
  have k1 := h1
  have lt1 : ∀ x ∈ p1, x.block < W.heap.size := by obtain ⟨m, hm⟩ := k1; exact DataW.trod_lt m _ _ _ hm
  obtain ⟨z1, w1⟩ : ∃ zs, IsRow .i64 W a1 len1 cap1 zs := by
    obtain ⟨fuel, hf⟩ := h1
    rcases open_ints Tryd.underlying30 Tryd.underlying3 (by kernel_rfl) hf with ⟨hcs, _⟩ | ⟨x, l, c, zs, hcs, _, hl, hm, hz, _, hcell, hwz⟩
    · simp [Value.cells] at hcs
      obtain ⟨rfl, rfl, rfl⟩ := hcs
      exact ⟨[], .inl ⟨rfl, rfl, rfl, rfl⟩⟩
    · simp [Value.cells] at hcs
      obtain ⟨rfl, rfl, rfl⟩ := hcs
      exact ⟨zs, .inr ⟨_, rfl, hl, hm, by simpa using hz, hcell, hwz⟩⟩
  clear hA0 hval0
  refine (walk a0 len0 cap0 z0 a1 len1 cap1 z1 W (halves_of_laid hL) w0 w1).mono fun e W' ⟨he, bel⟩ => ?_
  subst he
  exact ⟨_, rfl, _, _, _, [], _, [], hW', trodAll_mk1 (shut_bool Tryd.underlying4 _), (trodAll_cons_mk (Below.trod laidOut (by kernel_rfl) (of_decide_eq_true (by kernel_rfl)) k0 bel lt0) (trodAll_cons_mk (Below.trod laidOut (by kernel_rfl) (of_decide_eq_true (by kernel_rfl)) k1 bel lt1) trodAll_mk0)), rfl, bel.frame _, fun h => by cases h⟩

theorem over : Rows.crcManyRow.holds Tryd.pinned (OpenSpec.ofChange Rows.crcManySpec) :=
  OpenClaim.holds_of_wide 5 Tryd.f5 rfl rfl rfl rfl rfl rfl rfl ⟨rfl, rfl, rfl, rfl, rfl⟩ rfl rfl rfl rfl rfl (by kernel_rfl) Tryd.func5 (by kernel_rfl)
    (of_decide_eq_true (by kernel_rfl)) (by unfold Func.isWrapper; first | (rw [if_pos (by decide +kernel)]; kernel_rfl) | (rw [if_neg (by decide +kernel)]; exact ⟨rfl, rfl⟩))
    (fun os started H enc _ => lifted os started H enc)

theorem card : Claim7.holds Tryd.pinned (.plain (OpenSpec.ofChange Rows.crcManySpec)) Rows.crcManyCard :=
  Claim7.holds_tied_plain_at .later [] [.data] true (true, "e111734ee0cb1f99caac90c19df38d519963965ec146610dc82e69c7a463c769") false
    over (fun _ h => by cases h) (by kernel_rfl) (fun _ h => by cases h) crcMany_row_tie rfl ⟨rfl, rfl⟩ (by kernel_rfl) rfl
    (fun f fn hf hfn => by
      obtain rfl : f = 5 := Option.some.inj ((show Tryd.prog.funcNamed "donatus/donatuslaw2.CrcMany" = some 5 by kernel_rfl).symm.trans hf) |>.symm
      obtain rfl : fn = Tryd.f5 := (Option.some.inj (Tryd.func5.symm.trans hfn)).symm
      exact ⟨by kernel_rfl, fun j t ht => by
        rw [Tryd.params5] at ht
        have hm : t ∈ [22, 30] := by simpa using Array.mem_of_getElem? ht
        have hall : ([22, 30].all fun u => !Tryd.prog.wantsStandIn u) = true := by kernel_rfl
        exact (show Tryd.prog.wantsStandIn t = false by simpa using List.all_eq_true.1 hall t hm)⟩)
    (by kernel_rfl)

end Go.Proofs.YtfglfdpmhpnmmaaDoor.Many
namespace Go.Proofs.YtfglfdpmhpnmmaaDoor
theorem crcMany_holds : Rows.CrcManyCardSaid := Many.card
#print axioms crcMany_holds
end Go.Proofs.YtfglfdpmhpnmmaaDoor
