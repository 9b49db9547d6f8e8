/-
  ReadParts: for every order of parts and every number, read.Read and the document's answer agree (the call returns true), under no condition but the tied tables and sentinels.
-/
import Derived.Test.YtkaojokhdleeiaaGreatDoorOwn12
import Derived.ChangeSlices
import Derived.Test.YtkaojokhdleeiaaGreatDoorCards
import Derived.Test.YtkaojokhdleeiaaGreatDoorTie
import Derived.OpenShut
import Derived.ShutString
import Derived.ChangeOld
import Derived.Below
import Derived.SevenTiedAt
/-
  Numbers that came in.
-/
namespace Go.Proofs.YtkaojokhdleeiaaGreatDoor
open Go.RowKit

set_option maxRecDepth 20000

/-- Numbers that a slice shows. -/
structure RawI (w : World) (ao : Option Addr) (n cap : Nat) (zs : List Int) : Prop where
  le : n ≤ cap ∧ cap ≤ 9223372036854775807
  get : ∀ i, i < n → ∃ b o, ao = some ⟨b, o, none⟩ ∧ w.cell? ⟨b, o + i, none⟩ = some (.int .i64 (zs.getD i 0))

theorem RawI.below {w w' : World} {ao : Option Addr} {n cap : Nat} {zs : List Int} (h : RawI w ao n cap zs) (hb : Below w.heap.size w w') : RawI w' ao n cap zs :=
  ⟨h.le, fun i hi => by obtain ⟨b, o, e, c⟩ := h.get i hi; exact ⟨b, o, e, cell_below hb c⟩⟩

theorem open_nums {H : Type} {enc : TypeId × Value → H} {W : World} {ao : Option Addr} {n cap : Nat} {d : DataW H} {ps : List MemPlace} (h : DataW.Trod enc Tryz.prog W 0 (fun _ => true) true 37 (.slice ao n cap) d ps) : ∃ zs, RawI W ao n cap zs := by
  obtain ⟨fuel, hf⟩ := h
  rcases ChangeShapes.open_ints Tryz.underlying37 Tryz.underlying3 (by kernel_rfl) hf with ⟨hcs, _⟩ | ⟨x, l, c, zs, hcs, _, hl, hm, hz, _, hcell, hwz⟩
  · simp [Value.cells] at hcs
    obtain ⟨rfl, rfl, rfl⟩ := hcs
    exact ⟨[], ⟨Nat.le_refl _, by omega⟩, fun i hi => absurd hi (Nat.not_lt_zero _)⟩
  · simp [Value.cells] at hcs
    obtain ⟨rfl, rfl, rfl⟩ := hcs
    have hz' : zs.length = cap := by simpa using hz
    refine ⟨zs, ⟨hl, by unfold maxLen at hm; omega⟩, fun i hi => ?_⟩
    have hc := hcell i (by omega)
    have h0 := hcell 0 (by omega)
    obtain ⟨b, off, spot⟩ := x
    have hspot : spot = none := by simpa [Addr.add] using World.cell?_spot h0
    subst hspot
    rw [Addr.add_lit] at hc
    exact ⟨b, off, rfl, hc⟩

/-- A number's rest by m, from nought on. -/
theorem rem_range (z : Int) (m : Int) (hm : 0 < m) : -m < z.tmod m ∧ z.tmod m < m := by
  refine ⟨?_, Int.tmod_lt_of_pos z hm⟩
  have h := Int.tmod_lt_of_pos (-z) hm
  rw [Int.neg_tmod] at h
  omega

end Go.Proofs.YtkaojokhdleeiaaGreatDoor

/-
  ReadParts: whatever the input, the call returns true and leaves all that was there as it was.
-/
namespace Go.Proofs.YtkaojokhdleeiaaGreatDoor.Parts
open Go.RowKit

set_option maxRecDepth 20000

def parts : Array Value := #[.string ⟨#[37, 116, 111, 107, 101, 110, 32, 65, 32, 66, 32, 67]⟩, .string ⟨#[37, 108, 101, 102, 116, 32, 66]⟩, .string ⟨#[37, 114, 105, 103, 104, 116, 32, 68, 32, 69]⟩, .string ⟨#[37, 115, 116, 97, 114, 116, 32, 115]⟩, .string ⟨#[37, 101, 120, 112, 101, 99, 116, 32, 51]⟩, .string ⟨#[37, 110, 111, 110, 97, 115, 115, 111, 99, 32, 70]⟩]

theorem parts_at {q : Nat} (h : q < 6) : ∃ p : ByteArray, parts[q]? = some (.string p) ∧ p.size ≤ 12 := by
  match q, h with
  | 0, _ => exact ⟨⟨#[37, 116, 111, 107, 101, 110, 32, 65, 32, 66, 32, 67]⟩, rfl, by decide⟩
  | 1, _ => exact ⟨⟨#[37, 108, 101, 102, 116, 32, 66]⟩, rfl, by decide⟩
  | 2, _ => exact ⟨⟨#[37, 114, 105, 103, 104, 116, 32, 68, 32, 69]⟩, rfl, by decide⟩
  | 3, _ => exact ⟨⟨#[37, 115, 116, 97, 114, 116, 32, 115]⟩, rfl, by decide⟩
  | 4, _ => exact ⟨⟨#[37, 101, 120, 112, 101, 99, 116, 32, 51]⟩, rfl, by decide⟩
  | 5, _ => exact ⟨⟨#[37, 110, 111, 110, 97, 115, 115, 111, 99, 32, 70]⟩, rfl, by decide⟩

set_option maxHeartbeats 8000000 in
theorem walk (ao : Option Addr) (len cap : Nat) (zs : List Int) (a1 : Int) (w : World) (hp : Pow w) (hz : RawI w ao len cap zs) : Calls Tryz.prog 5 #[.slice ao len cap, .int .i64 a1] w fun e w' => e = .returned (.bool true) ∧ Below w.heap.size w w' := by
  have H1 : Hid (Calls Tryz.prog 9 #[] w fun e w' => e = .returned (.bool true) ∧ Below w.heap.size w w') := begun6_calls w hp
  have HZ : Hid (RawI w ao len cap zs) := hz
  obtain ⟨hle, hmx⟩ := hz.le
  clear hp hz
  go_enter Tryz.func5, Tryz.ntmps5
  go_wp2_with fail
  refine H1.out.mono ?_
  rintro e V ⟨rfl, hB⟩
  have HB : Hid (Below w.heap.size w V) := hB
  clear hB H1
  go_upto_region 7 with fail
  have hB1 : Below V.heap.size V ((V.alloc (.cells #[.string ⟨#[37, 116, 111, 107, 101, 110, 32, 65, 32, 66, 32, 67]⟩, .string ⟨#[37, 108, 101, 102, 116, 32, 66]⟩, .string ⟨#[37, 114, 105, 103, 104, 116, 32, 68, 32, 69]⟩, .string ⟨#[37, 115, 116, 97, 114, 116, 32, 115]⟩, .string ⟨#[37, 101, 120, 112, 101, 99, 116, 32, 51]⟩, .string ⟨#[37, 110, 111, 110, 97, 115, 115, 111, 99, 32, 70]⟩] 9)).alloc (.cells #[.bool false, .bool false, .bool false, .bool false, .bool false, .bool false] 39)) := below_step (below_alloc _ _) (below_alloc _ _)
  have hb1 : ((V.alloc (.cells #[.string ⟨#[37, 116, 111, 107, 101, 110, 32, 65, 32, 66, 32, 67]⟩, .string ⟨#[37, 108, 101, 102, 116, 32, 66]⟩, .string ⟨#[37, 114, 105, 103, 104, 116, 32, 68, 32, 69]⟩, .string ⟨#[37, 115, 116, 97, 114, 116, 32, 115]⟩, .string ⟨#[37, 101, 120, 112, 101, 99, 116, 32, 51]⟩, .string ⟨#[37, 110, 111, 110, 97, 115, 115, 111, 99, 32, 70]⟩] 9)).alloc (.cells #[.bool false, .bool false, .bool false, .bool false, .bool false, .bool false] 39)).heap[V.heap.size]? = some (.cells parts 9 (0, 0)) := block_below (below_alloc _ _) (heap_alloc_new _ _)
  have hb2 : ((V.alloc (.cells #[.string ⟨#[37, 116, 111, 107, 101, 110, 32, 65, 32, 66, 32, 67]⟩, .string ⟨#[37, 108, 101, 102, 116, 32, 66]⟩, .string ⟨#[37, 114, 105, 103, 104, 116, 32, 68, 32, 69]⟩, .string ⟨#[37, 115, 116, 97, 114, 116, 32, 115]⟩, .string ⟨#[37, 101, 120, 112, 101, 99, 116, 32, 51]⟩, .string ⟨#[37, 110, 111, 110, 97, 115, 115, 111, 99, 32, 70]⟩] 9)).alloc (.cells #[.bool false, .bool false, .bool false, .bool false, .bool false, .bool false] 39)).heap[V.heap.size + 1]? = some (.cells #[.bool false, .bool false, .bool false, .bool false, .bool false, .bool false] 39 (0, 0)) := by
    have := heap_alloc_new (V.alloc (.cells #[.string ⟨#[37, 116, 111, 107, 101, 110, 32, 65, 32, 66, 32, 67]⟩, .string ⟨#[37, 108, 101, 102, 116, 32, 66]⟩, .string ⟨#[37, 114, 105, 103, 104, 116, 32, 68, 32, 69]⟩, .string ⟨#[37, 115, 116, 97, 114, 116, 32, 115]⟩, .string ⟨#[37, 101, 120, 112, 101, 99, 116, 32, 51]⟩, .string ⟨#[37, 110, 111, 110, 97, 115, 115, 111, 99, 32, 70]⟩] 9)) (.cells #[.bool false, .bool false, .bool false, .bool false, .bool false, .bool false] 39)
    rwa [size_alloc1] at this
  obtain ⟨pb, hpb⟩ : ∃ pb, pb = V.heap.size := ⟨_, rfl⟩
  rw [← hpb] at hb1 hb2 ⊢
  generalize (V.alloc (.cells #[.string ⟨#[37, 116, 111, 107, 101, 110, 32, 65, 32, 66, 32, 67]⟩, .string ⟨#[37, 108, 101, 102, 116, 32, 66]⟩, .string ⟨#[37, 114, 105, 103, 104, 116, 32, 68, 32, 69]⟩, .string ⟨#[37, 115, 116, 97, 114, 116, 32, 115]⟩, .string ⟨#[37, 101, 120, 112, 101, 99, 116, 32, 51]⟩, .string ⟨#[37, 110, 111, 110, 97, 115, 115, 111, 99, 32, 70]⟩] 9)).alloc (.cells #[.bool false, .bool false, .bool false, .bool false, .bool false, .bool false] 39) = W1 at *
  have HW1 : Hid (Below w.heap.size w W1 ∧ W1.heap[pb]? = some (.cells parts 9 (0, 0)) ∧ (∃ c : Array Value, W1.heap[pb + 1]? = some (.cells c 39 (0, 0)) ∧ c.size = 6)) := ⟨below_step HB.out hB1, hb1, _, hb2, rfl⟩
  have HPB : Hid (w.heap.size ≤ pb) := by rw [hpb]; exact HB.out.size
  clear hB1 hb1 hb2 hpb HB
  go_wp2_with fail
  go_loopg [7, 9] 8 (fun kx s7 s9 wr => ∃ (k : Nat) (s : ByteArray), s7 = .string s ∧ s9 = .int .i64 k ∧ k ≤ 8 ∧ 8 - k ≤ kx ∧ s.size ≤ 13 * k ∧ Hid (Below w.heap.size w wr ∧ wr.heap[pb]? = some (.cells parts 9 (0, 0)) ∧ (∃ c : Array Value, wr.heap[pb + 1]? = some (.cells c 39 (0, 0)) ∧ c.size = 6)))
  case atStart => exact ⟨0, ⟨#[]⟩, rfl, rfl, Nat.zero_le _, by omega, Nat.zero_le _, HW1⟩
  case round =>
    obtain ⟨k, s, rfl, rfl, hk, hg, hsz, J⟩ := hrel
    clear HW1
    have hdone : Hid (∀ W : World, Below w.heap.size w W → ∀ t : ByteArray, t.size ≤ 400 → Calls Tryz.prog 10 #[.string t] W fun e w' => e = .returned (.bool true) ∧ Below w.heap.size w w') := fun W hW t ht => (same_calls t W (by omega)).mono fun e w' h => ⟨h.1, below_step hW h.2⟩
    by_cases hlt : k < len
    · have hlt' : (k : Int) < (len : Int) := by omega
      by_cases h8 : k < 8
      · have h8' : (k : Int) < 8 := by omega
        obtain ⟨b, o, rfl, cz⟩ := (HZ.out.below J.out.1).get k hlt
        generalize zs.getD k 0 = z at cz
        have hr := rem_range z 6 (by decide)
        obtain ⟨r, hr0⟩ : ∃ r, z.tmod 6 = r := ⟨_, rfl⟩
        rw [hr0] at hr
        have hr2 := rem_range (r + 6) 6 (by decide)
        have hr3 : 0 ≤ (r + 6).tmod 6 := Int.tmod_nonneg _ (by omega)
        obtain ⟨q, hq⟩ : ∃ q : Nat, (r + 6).tmod 6 = (q : Int) := ⟨((r + 6).tmod 6).toNat, by omega⟩
        have hq6 : q < 6 := by omega
        have hq6' : (q : Int) < 6 := by omega
        obtain ⟨hr4, hr5⟩ := hr
        clear hr2 hr3
        obtain ⟨p, hp, hps⟩ := parts_at hq6
        have cp : wr.cell? ⟨pb, q, none⟩ = some (.string p) := by rw [cell_block J.out.2.1]; exact hp
        obtain ⟨c, hc, hcs⟩ := J.out.2.2
        have cu : wr.cell? ⟨pb + 1, q, none⟩ = some c[q] := by rw [cell_block hc]; exact Array.getElem?_eq_getElem (by omega)
        have fu : wr.frozen? ⟨pb + 1, q, none⟩ = false := frozen_block hc q
        have HN : Hid (Below w.heap.size w (wr.setCell ⟨pb + 1, q, none⟩ (.bool true)) ∧ (wr.setCell ⟨pb + 1, q, none⟩ (.bool true)).heap[pb]? = some (.cells parts 9 (0, 0)) ∧ (∃ c : Array Value, (wr.setCell ⟨pb + 1, q, none⟩ (.bool true)).heap[pb + 1]? = some (.cells c 39 (0, 0)) ∧ c.size = 6)) := by
          refine ⟨J.out.1.setCell (p := ⟨pb + 1, q, none⟩) (Nat.le_succ_of_le HPB.out) _, ?_, c.setIfInBounds q (.bool true), ?_, by rw [Array.size_setIfInBounds]; exact hcs⟩
          · rw [Below.heap_setCell _ _ _ _ (by simp only; omega)]
            exact J.out.2.1
          · rw [setCell_eq_setRow wr (pb + 1) q _ 39 (0, 0) _ hc]
            exact setRow_heap _ _ _ _ 39 _ hc
        generalize c[q] = cq at cu
        have hsz2 : (s ++ (p ++ ⟨#[10]⟩)).size ≤ 13 * (k + 1) := by
          rw [ByteArray.size_append, ByteArray.size_append]
          have : (⟨#[10]⟩ : ByteArray).size = 1 := rfl
          omega
        clear hc hcs hp J
        go_wp2_with fail
        go_roundg (8 - (k + 1))
        case measure => omega
        case rel => exact ⟨k + 1, _, rfl, by simp, by omega, Nat.le_refl _, hsz2, HN⟩
      · have h8' : ¬ (k : Int) < 8 := by omega
        have hc1 : (s ++ (⟨#[37, 37, 10, 115, 32, 58, 32, 65, 32, 115, 32, 124, 32, 66, 32, 37, 112, 114, 101, 99, 32, 68, 32, 124, 32, 59]⟩ : ByteArray)).size ≤ 200 := by
          rw [ByteArray.size_append]
          have : (⟨#[37, 37, 10, 115, 32, 58, 32, 65, 32, 115, 32, 124, 32, 66, 32, 37, 112, 114, 101, 99, 32, 68, 32, 124, 32, 59]⟩ : ByteArray).size = 26 := rfl
          omega
        by_cases hn : a1 > 0
        · have H9 : Hid (Calls Tryz.prog 10 #[.string ((s ++ (⟨#[37, 37, 10, 115, 32, 58, 32, 65, 32, 115, 32, 124, 32, 66, 32, 37, 112, 114, 101, 99, 32, 68, 32, 124, 32, 59]⟩ : ByteArray)) ++ ⟨#[32, 116, 32, 58, 32, 67, 32, 59]⟩)] wr fun e w' => e = .returned (.bool true) ∧ Below w.heap.size w w') := hdone.out wr J.out.1 _ (by rw [ByteArray.size_append]; have : (⟨#[32, 116, 32, 58, 32, 67, 32, 59]⟩ : ByteArray).size = 8 := rfl; omega)
          clear J hdone
          go_wp2_with fail
          refine H9.out.mono ?_
          rintro e V2 ⟨rfl, hB⟩
          have HB2 : Hid (Below w.heap.size w V2) := hB
          clear hB
          go_wp2_with fail
          go_ret
          exact ⟨rfl, HB2.out⟩
        · have H9 : Hid (Calls Tryz.prog 10 #[.string (s ++ (⟨#[37, 37, 10, 115, 32, 58, 32, 65, 32, 115, 32, 124, 32, 66, 32, 37, 112, 114, 101, 99, 32, 68, 32, 124, 32, 59]⟩ : ByteArray))] wr fun e w' => e = .returned (.bool true) ∧ Below w.heap.size w w') := hdone.out wr J.out.1 _ (by omega)
          clear J hdone
          go_wp2_with fail
          refine H9.out.mono ?_
          rintro e V2 ⟨rfl, hB⟩
          have HB2 : Hid (Below w.heap.size w V2) := hB
          clear hB
          go_wp2_with fail
          go_ret
          exact ⟨rfl, HB2.out⟩
    · have hlt' : ¬ (k : Int) < (len : Int) := by omega
      have hc1 : (s ++ (⟨#[37, 37, 10, 115, 32, 58, 32, 65, 32, 115, 32, 124, 32, 66, 32, 37, 112, 114, 101, 99, 32, 68, 32, 124, 32, 59]⟩ : ByteArray)).size ≤ 200 := by
        rw [ByteArray.size_append]
        have : (⟨#[37, 37, 10, 115, 32, 58, 32, 65, 32, 115, 32, 124, 32, 66, 32, 37, 112, 114, 101, 99, 32, 68, 32, 124, 32, 59]⟩ : ByteArray).size = 26 := rfl
        omega
      by_cases hn : a1 > 0
      · have H9 : Hid (Calls Tryz.prog 10 #[.string ((s ++ (⟨#[37, 37, 10, 115, 32, 58, 32, 65, 32, 115, 32, 124, 32, 66, 32, 37, 112, 114, 101, 99, 32, 68, 32, 124, 32, 59]⟩ : ByteArray)) ++ ⟨#[32, 116, 32, 58, 32, 67, 32, 59]⟩)] wr fun e w' => e = .returned (.bool true) ∧ Below w.heap.size w w') := hdone.out wr J.out.1 _ (by rw [ByteArray.size_append]; have : (⟨#[32, 116, 32, 58, 32, 67, 32, 59]⟩ : ByteArray).size = 8 := rfl; omega)
        clear J hdone
        go_wp2_with fail
        refine H9.out.mono ?_
        rintro e V2 ⟨rfl, hB⟩
        have HB2 : Hid (Below w.heap.size w V2) := hB
        clear hB
        go_wp2_with fail
        go_ret
        exact ⟨rfl, HB2.out⟩
      · have H9 : Hid (Calls Tryz.prog 10 #[.string (s ++ (⟨#[37, 37, 10, 115, 32, 58, 32, 65, 32, 115, 32, 124, 32, 66, 32, 37, 112, 114, 101, 99, 32, 68, 32, 124, 32, 59]⟩ : ByteArray))] wr fun e w' => e = .returned (.bool true) ∧ Below w.heap.size w w') := hdone.out wr J.out.1 _ (by omega)
        clear J hdone
        go_wp2_with fail
        refine H9.out.mono ?_
        rintro e V2 ⟨rfl, hB⟩
        have HB2 : Hid (Below w.heap.size w V2) := hB
        clear hB
        go_wp2_with fail
        go_ret
        exact ⟨rfl, HB2.out⟩

end Go.Proofs.YtkaojokhdleeiaaGreatDoor.Parts

/-
  ReadParts: for every order of parts and every number, read.Read and the document's answer agree (the call returns true), under no condition but the tied tables and sentinels.
-/
namespace Go.Proofs.YtkaojokhdleeiaaGreatDoor.Parts
open Go.ChangeShapes Go.WideShapes Go.ChangeAt Go.RowKit
open Go.ChangeMaps (open_string shut_string)

set_option maxRecDepth 100000 in
theorem lifted (os : Os) (started : os.Started) (H : Type) (enc : TypeId × Value → H) :
    ReturnsInHanded {} Tryz.checked os 5 .any (fun w args => (Rows.readPartsSpec.pre enc Tryz.prog Tryz.f5 [] false w args ∧ laidMetH Tryz.prog laid5 w) ∧ sizedMet enc Tryz.prog Tryz.f5 (OpenSpec.ofChange Rows.readPartsSpec) false w args) (Rows.readPartsSpec.post enc Tryz.prog Tryz.f5 false true false false) := by
  refine returnsInHanded_of_change_and (C := Tryz.checked) (X := fun w _ => laidMetH Tryz.prog laid5 w) (fun _ _ _ hh h => h.of_heap hh) own started (by kernel_rfl) Tryz.func5
    (ChangeSpec.witness_shaped (enc := enc) (C := Tryz.checked) (os := os) (X := fun w _ => laidMetH Tryz.prog laid5 w) false (World.doorLaid Tryz.prog 64 os) #[.slice none 0 0, .int .i64 0] 8 rfl (World.shaped_of_RefB (by kernel_rfl) (by kernel_rfl)) (by kernel_rfl) (by kernel_rfl) (by kernel_rfl) (door_met os _)) ?_
  intro W base args ds gs before hval0 hW _ _ hL _
  have hval : ∀ (j : Nat) t v, Tryz.f5.params[j]? = some t → args[j]? = some v → Value.okWide Tryz.prog W .any base t v := hval0
  have hW' := hW
  obtain ⟨p, q, hA0, hV, rfl, _, _⟩ := hW
  have hA : DataW.TrodAll enc Tryz.prog W 0 (fun _ => true) true Tryz.f5.params.toList args.toList ds p := hA0
  rw [Tryz.params5] at hA hval
  obtain ⟨v0, vs0, d0, ds0, p0, q0, _, rfl, rfl, h0, r0⟩ := trodAll_cons hA
  obtain ⟨v1, vs1, d1, ds1, p1, q1, rfl, rfl, rfl, h1, r1⟩ := trodAll_cons r0
  obtain ⟨rfl, rfl, rfl⟩ := trodAll_nil r1
  obtain rfl : args = #[v0, v1] := by cases args; simp_all
  obtain ⟨rfl, rfl⟩ := trodVars_none hV
  have k0 := h0
  have lt0 : ∀ x ∈ p0, x.block < W.heap.size := by obtain ⟨m, hm⟩ := k0; exact DataW.trod_lt m _ _ _ hm
  obtain ⟨A0, n0, c0, rfl⟩ := okWide_slice Tryz.underlying37 (hval 0 37 v0 rfl rfl)
  obtain ⟨z0, raw0⟩ := open_nums h0
  obtain ⟨a1, rfl, rfl, rfl, w1⟩ := open_int Tryz.underlying3 (hval 1 3 v1 rfl rfl) h1
  clear hA0 hval0
  simp only [List.append_nil] at hW'
  refine (walk A0 n0 c0 z0 a1 W (pow_of_laid hL) raw0 ).mono fun e W' ⟨he, bel⟩ => ?_
  subst he
  exact ⟨_, rfl, _, _, _, [], _, [], hW', trodAll_mk1 (shut_bool Tryz.underlying4 _), (trodAll_cons_mk (Below.trod laidOut (by kernel_rfl) (of_decide_eq_true (by kernel_rfl)) k0 bel lt0) (trodAll_cons_mk (shut_int Tryz.underlying3 w1) trodAll_mk0)), rfl, bel.frame _, fun h => by cases h⟩

theorem over : Rows.readPartsRow.holds Tryz.pinned (OpenSpec.ofChange Rows.readPartsSpec) :=
  OpenClaim.holds_of_wide 5 Tryz.f5 rfl rfl rfl rfl rfl rfl rfl ⟨rfl, rfl, rfl, rfl, rfl⟩ rfl rfl rfl rfl rfl (by kernel_rfl) Tryz.func5 (by kernel_rfl)
    (of_decide_eq_true (by kernel_rfl)) (by unfold Func.isWrapper; first | (rw [if_pos (by decide +kernel)]; kernel_rfl) | (rw [if_neg (by decide +kernel)]; exact ⟨rfl, rfl⟩))
    (fun os started H enc _ => lifted os started H enc)

theorem card : Claim7.holds Tryz.pinned (.plain (OpenSpec.ofChange Rows.readPartsSpec)) Rows.readPartsCard :=
  Claim7.holds_tied_plain_at .later [] [.data, .data, .data, .sentinel, .sentinel] true (true, "a34ec45f1bf4a802a45acaf3f737525841640676f706a3d95b9ddd94c0393142") true
    over (fun _ h => by cases h) (by kernel_rfl) (fun _ h => by cases h) readParts_row_tie rfl ⟨rfl, rfl⟩ (by kernel_rfl) rfl
    (fun f fn hf hfn => by
      obtain rfl : f = 5 := Option.some.inj ((show Tryz.prog.funcNamed "donatus/donatuslaw6.ReadParts" = some 5 by kernel_rfl).symm.trans hf) |>.symm
      obtain rfl : fn = Tryz.f5 := (Option.some.inj (Tryz.func5.symm.trans hfn)).symm
      exact ⟨by kernel_rfl, fun j t ht => by
        rw [Tryz.params5] at ht
        have hm : t ∈ [37, 3] := by simpa using Array.mem_of_getElem? ht
        have hall : ([37, 3].all fun u => !Tryz.prog.wantsStandIn u) = true := by kernel_rfl
        exact (show Tryz.prog.wantsStandIn t = false by simpa using List.all_eq_true.1 hall t hm)⟩)
    (by kernel_rfl)

end Go.Proofs.YtkaojokhdleeiaaGreatDoor.Parts
namespace Go.Proofs.YtkaojokhdleeiaaGreatDoor
theorem readParts_holds : Rows.ReadPartsCardSaid := Parts.card
#print axioms readParts_holds
end Go.Proofs.YtkaojokhdleeiaaGreatDoor
