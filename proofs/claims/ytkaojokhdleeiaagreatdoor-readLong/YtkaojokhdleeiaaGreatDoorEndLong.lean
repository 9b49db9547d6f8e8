/-
  ReadLong: for every two numbers, read.Read and the document's answer agree on the long texts that they choose (the call returns true), under no condition but the tied tables and sentinels.
-/
import Derived.Test.YtkaojokhdleeiaaGreatDoorOwn12
import Derived.ChangeSlices
import Derived.Test.YtkaojokhdleeiaaGreatDoorCards
import Derived.Test.YtkaojokhdleeiaaGreatDoorTie
import Derived.OpenShut
import Derived.ShutString
import Derived.ChangeOld
import Derived.Below
import Derived.SevenTiedAt
/-
  Numbers that came in.
-/
namespace Go.Proofs.YtkaojokhdleeiaaGreatDoor
open Go.RowKit

set_option maxRecDepth 20000

/-- Numbers that a slice shows. -/
structure RawI (w : World) (ao : Option Addr) (n cap : Nat) (zs : List Int) : Prop where
  le : n ≤ cap ∧ cap ≤ 9223372036854775807
  get : ∀ i, i < n → ∃ b o, ao = some ⟨b, o, none⟩ ∧ w.cell? ⟨b, o + i, none⟩ = some (.int .i64 (zs.getD i 0))

theorem RawI.below {w w' : World} {ao : Option Addr} {n cap : Nat} {zs : List Int} (h : RawI w ao n cap zs) (hb : Below w.heap.size w w') : RawI w' ao n cap zs :=
  ⟨h.le, fun i hi => by obtain ⟨b, o, e, c⟩ := h.get i hi; exact ⟨b, o, e, cell_below hb c⟩⟩

theorem open_nums {H : Type} {enc : TypeId × Value → H} {W : World} {ao : Option Addr} {n cap : Nat} {d : DataW H} {ps : List MemPlace} (h : DataW.Trod enc Tryz.prog W 0 (fun _ => true) true 37 (.slice ao n cap) d ps) : ∃ zs, RawI W ao n cap zs := by
  obtain ⟨fuel, hf⟩ := h
  rcases ChangeShapes.open_ints Tryz.underlying37 Tryz.underlying3 (by kernel_rfl) hf with ⟨hcs, _⟩ | ⟨x, l, c, zs, hcs, _, hl, hm, hz, _, hcell, hwz⟩
  · simp [Value.cells] at hcs
    obtain ⟨rfl, rfl, rfl⟩ := hcs
    exact ⟨[], ⟨Nat.le_refl _, by omega⟩, fun i hi => absurd hi (Nat.not_lt_zero _)⟩
  · simp [Value.cells] at hcs
    obtain ⟨rfl, rfl, rfl⟩ := hcs
    have hz' : zs.length = cap := by simpa using hz
    refine ⟨zs, ⟨hl, by unfold maxLen at hm; omega⟩, fun i hi => ?_⟩
    have hc := hcell i (by omega)
    have h0 := hcell 0 (by omega)
    obtain ⟨b, off, spot⟩ := x
    have hspot : spot = none := by simpa [Addr.add] using World.cell?_spot h0
    subst hspot
    rw [Addr.add_lit] at hc
    exact ⟨b, off, rfl, hc⟩

/-- A number's rest by m, from nought on. -/
theorem rem_range (z : Int) (m : Int) (hm : 0 < m) : -m < z.tmod m ∧ z.tmod m < m := by
  refine ⟨?_, Int.tmod_lt_of_pos z hm⟩
  have h := Int.tmod_lt_of_pos (-z) hm
  rw [Int.neg_tmod] at h
  omega

end Go.Proofs.YtkaojokhdleeiaaGreatDoor

/-
  ReadLong: whatever the input, the call returns true and leaves all that was there as it was.
-/
namespace Go.Proofs.YtkaojokhdleeiaaGreatDoor.Long
open Go.RowKit

set_option maxRecDepth 20000

theorem run_two_at (W : World) (x y : Nat) : ∃ d, (convert 41 9 (.slice (some ⟨W.heap.size, 0, none⟩) 2 2)).run Tryz.prog (W.alloc (.cells #[.int .u8 (x : Int), .int .u8 (y : Int)] 5)) = .ok (.string d) (W.alloc (.cells #[.int .u8 (x : Int), .int .u8 (y : Int)] 5)) ∧ d.size = 2 := by
  have := run_convert_bytes_arg (P := Tryz.prog) (W.alloc (.cells #[.int .u8 (x : Int), .int .u8 (y : Int)] 5)) 41 5 Tryz.underlying41 Tryz.underlying5 W.heap.size 0 2 2 [(x : Int), (y : Int)] rfl (fun j hj => by
    have hj2 : j = 0 ∨ j = 1 := by omega
    rcases hj2 with rfl | rfl <;> (rw [World.cell?_alloc_mark]; rfl)) 9 Tryz.underlying9
  exact ⟨_, this, rfl⟩

set_option maxHeartbeats 8000000 in
theorem walk (a0 a1 : Int) (w : World) (hp : Pow w) : Calls Tryz.prog 6 #[.int .i64 a0, .int .i64 a1] w fun e w' => e = .returned (.bool true) ∧ Below w.heap.size w w' := by
  have H1 : Hid (Calls Tryz.prog 9 #[] w fun e w' => e = .returned (.bool true) ∧ Below w.heap.size w w') := begun6_calls w hp
  clear hp
  go_enter Tryz.func6, Tryz.ntmps6
  go_wp2_with fail
  refine H1.out.mono ?_
  rintro e V ⟨rfl, hB⟩
  have HB : Hid (Below w.heap.size w V) := hB
  clear hB H1
  by_cases hn0 : a0 < 0
  · go_wp2_with fail
    go_ret
    exact ⟨rfl, HB.out⟩
  by_cases hn1 : a0 > 110
  · go_wp2_with fail
    go_ret
    exact ⟨rfl, HB.out⟩
  obtain ⟨N, rfl⟩ : ∃ N : Nat, a0 = (N : Int) := ⟨a0.toNat, by omega⟩
  have hN : N ≤ 110 := by omega
  have hr := rem_range a1 5 (by decide)
  obtain ⟨r, hr0⟩ : ∃ r, a1.tmod 5 = r := ⟨_, rfl⟩
  rw [hr0] at hr
  have hr2 := rem_range (r + 5) 5 (by decide)
  have hr3 : 0 ≤ (r + 5).tmod 5 := Int.tmod_nonneg _ (by omega)
  obtain ⟨q, hq⟩ : ∃ q : Nat, (r + 5).tmod 5 = (q : Int) := ⟨((r + 5).tmod 5).toNat, by omega⟩
  have hq5 : q < 5 := by omega
  obtain ⟨hr4, hr5⟩ := hr
  clear hr2 hr3
  go_upto_block 0 with fail
  go_cut [6, 7, 8] (fun s6 s7 s8 wd => ∃ s one en : ByteArray, s6 = .string s ∧ s7 = .string one ∧ s8 = .string en ∧ s.size ≤ 9 ∧ one.size ≤ 9 ∧ en.size ≤ 9 ∧ wd = V)
  case first =>
    have hcs : q = 0 ∨ q = 1 ∨ q = 2 ∨ q = 3 ∨ q = 4 := by omega
    rcases hcs with rfl | rfl | rfl | rfl | rfl
    · go_wp2_with fail
      go_meet
      exact ⟨_, _, _, rfl, rfl, rfl, by decide, by decide, by decide, rfl⟩
    · go_wp2_with fail
      go_meet
      exact ⟨_, _, _, rfl, rfl, rfl, by decide, by decide, by decide, rfl⟩
    · go_wp2_with fail
      go_meet
      exact ⟨_, _, _, rfl, rfl, rfl, by decide, by decide, by decide, rfl⟩
    · go_wp2_with fail
      go_meet
      exact ⟨_, _, _, rfl, rfl, rfl, by decide, by decide, by decide, rfl⟩
    · go_wp2_with fail
      go_meet
      exact ⟨_, _, _, rfl, rfl, rfl, by decide, by decide, by decide, rfl⟩
  case rest =>
    obtain ⟨s0, one, en, rfl, rfl, rfl, hs0, hone, hen, hwc⟩ := hcut
    subst wc
    go_wp2_with fail
    go_loopg [6, 9] N (fun kx s6 s9 wr => ∃ (k : Nat) (s : ByteArray), s6 = .string s ∧ s9 = .int .i64 k ∧ k ≤ N ∧ N - k ≤ kx ∧ s.size ≤ 9 + 12 * k ∧ Hid (Below w.heap.size w wr))
    case atStart => exact ⟨0, s0, rfl, rfl, Nat.zero_le _, by omega, by omega, HB⟩
    case round =>
      obtain ⟨k, s, rfl, rfl, hk, hg, hsz, J⟩ := hrel
      by_cases hlt : k < N
      · have hlt' : (k : Int) < (N : Int) := by omega
        obtain ⟨d, hcv, hd1⟩ := run_two_at wr (97 + k / 10) (48 + k % 10)
        have hcv' : (convert 41 9 (.slice (some ⟨wr.heap.size, 0, none⟩) 2 2)).run Tryz.prog (wr.alloc (.cells #[.int .u8 (97 + (k : Int) / 10), .int .u8 (48 + (k : Int) % 10)] 5)) = .ok (.string d) (wr.alloc (.cells #[.int .u8 (97 + (k : Int) / 10), .int .u8 (48 + (k : Int) % 10)] 5)) := by
          have e1 : ((97 + k / 10 : Nat) : Int) = 97 + (k : Int) / 10 := by omega
          have e2 : ((48 + k % 10 : Nat) : Int) = 48 + (k : Int) % 10 := by omega
          rw [e1, e2] at hcv
          exact hcv
        have HB2 : Hid (Below w.heap.size w (wr.alloc (.cells #[.int .u8 (97 + (k : Int) / 10), .int .u8 (48 + (k : Int) % 10)] 5))) := below_step J.out (below_alloc _ _)
        have hk1 : (97 + (k : Int) / 10) ≤ 255 := by omega
        clear hcv J
        by_cases h4 : q = 4
        · have hq4 : ((q : Int) == 4) = true := by rw [h4]; rfl
          have hsz2 : (s ++ ((⟨#[37, 108, 101, 102, 116, 32]⟩ ++ d) ++ ⟨#[32]⟩)).size ≤ 9 + 12 * (k + 1) := by
            rw [ByteArray.size_append, ByteArray.size_append, ByteArray.size_append, hd1]
            have e1 : (⟨#[37, 108, 101, 102, 116, 32]⟩ : ByteArray).size = 6 := rfl
            have e2 : (⟨#[32]⟩ : ByteArray).size = 1 := rfl
            omega
          clear h4
          go_wp2_with fail
          go_roundg (N - (k + 1))
          case measure => omega
          case rel => exact ⟨k + 1, _, rfl, by simp, by omega, Nat.le_refl _, hsz2, HB2⟩
        · have hq4 : ((q : Int) == 4) = false := by simp; omega
          clear h4
          by_cases h1 : (one.toList == []) = true
          · have hsz2 : (s ++ (⟨#[32]⟩ ++ d)).size ≤ 9 + 12 * (k + 1) := by
              rw [ByteArray.size_append, ByteArray.size_append, hd1]
              have e2 : (⟨#[32]⟩ : ByteArray).size = 1 := rfl
              omega
            go_wp2_with fail
            go_roundg (N - (k + 1))
            case measure => omega
            case rel => exact ⟨k + 1, _, rfl, by simp, by omega, Nat.le_refl _, hsz2, HB2⟩
          · have h1 : (one.toList == []) = false := by simpa using h1
            have hsz2 : (s ++ one).size ≤ 9 + 12 * (k + 1) := by
              rw [ByteArray.size_append]
              omega
            go_wp2_with fail
            go_roundg (N - (k + 1))
            case measure => omega
            case rel => exact ⟨k + 1, _, rfl, by simp, by omega, Nat.le_refl _, hsz2, HB2⟩
      · have hlt' : ¬ (k : Int) < (N : Int) := by omega
        obtain ⟨W2, hW2⟩ : ∃ W2, W2 = wr := ⟨_, rfl⟩
        subst wr
        have HB2 : Hid (Below w.heap.size w W2) := J
        have hsz3 : s.size ≤ 1400 := by omega
        clear J HB
        go_wp2_with fail
        go_loopg [11, 12] 2001 (fun kx s11 s12 wr => ∃ (k : Nat) (p : ByteArray), s11 = .string p ∧ s12 = .int .i64 k ∧ k ≤ 2001 ∧ 2001 - k ≤ kx ∧ p.size = k ∧ wr = W2)
        case atStart => exact ⟨0, ⟨#[]⟩, rfl, rfl, Nat.zero_le _, by omega, rfl, rfl⟩
        case round =>
          obtain ⟨k, p, rfl, rfl, hk, hg, hps, rfl⟩ := hrel
          by_cases hlt : k < 2001
          · have hlt' : (k : Int) < 2001 := by omega
            have hsz2 : (p ++ ⟨#[32]⟩).size = k + 1 := by
              rw [ByteArray.size_append, hps]
              rfl
            go_wp2_with fail
            go_roundg (2001 - (k + 1))
            case measure => omega
            case rel => exact ⟨k + 1, _, rfl, by simp, by omega, Nat.le_refl _, hsz2, rfl⟩
          · have hlt' : ¬ (k : Int) < 2001 := by omega
            obtain rfl : k = 2001 := by omega
            have hps' : (p.size : Int) = 2001 := by rw [hps]; rfl
            have hSz : s.size + en.size ≤ 1409 := by omega
            have HSM : Hid (∀ W : World, Below w.heap.size w W → ∀ t : ByteArray, t.size ≤ 10000 → Calls Tryz.prog 10 #[.string t] W fun e w' => e = .returned (.bool true) ∧ Below w.heap.size w w') := fun W hW t ht => (same_calls t W (by omega)).mono fun e w' h => ⟨h.1, below_step hW h.2⟩
            have HXE : Hid (∀ x, (s ++ en ++ p.extract 0 x).size ≤ 10000) := fun x => by
              rw [ByteArray.size_append, ByteArray.size_append, ByteArray.size_extract]
              omega
            go_wp2_with fail
            refine (HSM.out _ HB2.out _ (by rw [ByteArray.size_append]; omega)).mono ?_
            rintro e V1 ⟨rfl, hB⟩
            have HB3 : Hid (Below w.heap.size w V1) := hB
            clear hB
            go_wp2_with fail
            refine (HSM.out _ HB3.out _ (HXE.out _)).mono ?_
            rintro e V2 ⟨rfl, hB⟩
            have HB4 : Hid (Below w.heap.size w V2) := hB
            clear hB
            go_wp2_with fail
            refine (HSM.out _ HB4.out _ (HXE.out _)).mono ?_
            rintro e V3 ⟨rfl, hB⟩
            have HB5 : Hid (Below w.heap.size w V3) := hB
            clear hB
            go_wp2_with fail
            go_ret
            exact ⟨rfl, HB5.out⟩

end Go.Proofs.YtkaojokhdleeiaaGreatDoor.Long

/-
  ReadLong: for every two numbers, read.Read and the document's answer agree on the long texts that they choose (the call returns true), under no condition but the tied tables and sentinels.
-/
namespace Go.Proofs.YtkaojokhdleeiaaGreatDoor.Long
open Go.ChangeShapes Go.WideShapes Go.ChangeAt Go.RowKit
open Go.ChangeMaps (open_string shut_string)

set_option maxRecDepth 100000 in
theorem lifted (os : Os) (started : os.Started) (H : Type) (enc : TypeId × Value → H) :
    ReturnsInHanded {} Tryz.checked os 6 .any (fun w args => (Rows.readLongSpec.pre enc Tryz.prog Tryz.f6 [] false w args ∧ laidMetH Tryz.prog laid5 w) ∧ sizedMet enc Tryz.prog Tryz.f6 (OpenSpec.ofChange Rows.readLongSpec) false w args) (Rows.readLongSpec.post enc Tryz.prog Tryz.f6 false true false false) := by
  refine returnsInHanded_of_change_and (C := Tryz.checked) (X := fun w _ => laidMetH Tryz.prog laid5 w) (fun _ _ _ hh h => h.of_heap hh) own started (by kernel_rfl) Tryz.func6
    (ChangeSpec.witness_shaped (enc := enc) (C := Tryz.checked) (os := os) (X := fun w _ => laidMetH Tryz.prog laid5 w) false (World.doorLaid Tryz.prog 64 os) #[.int .i64 0, .int .i64 0] 8 rfl (World.shaped_of_RefB (by kernel_rfl) (by kernel_rfl)) (by kernel_rfl) (by kernel_rfl) (by kernel_rfl) (door_met os _)) ?_
  intro W base args ds gs before hval0 hW _ _ hL _
  have hval : ∀ (j : Nat) t v, Tryz.f6.params[j]? = some t → args[j]? = some v → Value.okWide Tryz.prog W .any base t v := hval0
  have hW' := hW
  obtain ⟨p, q, hA0, hV, rfl, _, _⟩ := hW
  have hA : DataW.TrodAll enc Tryz.prog W 0 (fun _ => true) true Tryz.f6.params.toList args.toList ds p := hA0
  rw [Tryz.params6] at hA hval
  obtain ⟨v0, vs0, d0, ds0, p0, q0, _, rfl, rfl, h0, r0⟩ := trodAll_cons hA
  obtain ⟨v1, vs1, d1, ds1, p1, q1, rfl, rfl, rfl, h1, r1⟩ := trodAll_cons r0
  obtain ⟨rfl, rfl, rfl⟩ := trodAll_nil r1
  obtain rfl : args = #[v0, v1] := by cases args; simp_all
  obtain ⟨rfl, rfl⟩ := trodVars_none hV
  obtain ⟨a0, rfl, rfl, rfl, w0⟩ := open_int Tryz.underlying3 (hval 0 3 v0 rfl rfl) h0
  obtain ⟨a1, rfl, rfl, rfl, w1⟩ := open_int Tryz.underlying3 (hval 1 3 v1 rfl rfl) h1
  clear hA0 hval0
  simp only [List.append_nil] at hW'
  refine (walk a0 a1 W (pow_of_laid hL)  ).mono fun e W' ⟨he, bel⟩ => ?_
  subst he
  exact ⟨_, rfl, _, _, _, [], _, [], hW', trodAll_mk1 (shut_bool Tryz.underlying4 _), (trodAll_cons_mk (shut_int Tryz.underlying3 w0) (trodAll_cons_mk (shut_int Tryz.underlying3 w1) trodAll_mk0)), rfl, bel.frame _, fun h => by cases h⟩

theorem over : Rows.readLongRow.holds Tryz.pinned (OpenSpec.ofChange Rows.readLongSpec) :=
  OpenClaim.holds_of_wide 6 Tryz.f6 rfl rfl rfl rfl rfl rfl rfl ⟨rfl, rfl, rfl, rfl, rfl⟩ rfl rfl rfl rfl rfl (by kernel_rfl) Tryz.func6 (by kernel_rfl)
    (of_decide_eq_true (by kernel_rfl)) (by unfold Func.isWrapper; first | (rw [if_pos (by decide +kernel)]; kernel_rfl) | (rw [if_neg (by decide +kernel)]; exact ⟨rfl, rfl⟩))
    (fun os started H enc _ => lifted os started H enc)

theorem card : Claim7.holds Tryz.pinned (.plain (OpenSpec.ofChange Rows.readLongSpec)) Rows.readLongCard :=
  Claim7.holds_tied_plain_at .later [] [.data, .data, .data, .sentinel, .sentinel] true (true, "a34ec45f1bf4a802a45acaf3f737525841640676f706a3d95b9ddd94c0393142") true
    over (fun _ h => by cases h) (by kernel_rfl) (fun _ h => by cases h) readLong_row_tie rfl ⟨rfl, rfl⟩ (by kernel_rfl) rfl
    (fun f fn hf hfn => by
      obtain rfl : f = 6 := Option.some.inj ((show Tryz.prog.funcNamed "donatus/donatuslaw6.ReadLong" = some 6 by kernel_rfl).symm.trans hf) |>.symm
      obtain rfl : fn = Tryz.f6 := (Option.some.inj (Tryz.func6.symm.trans hfn)).symm
      exact ⟨by kernel_rfl, fun j t ht => by
        rw [Tryz.params6] at ht
        have hm : t ∈ [3, 3] := by simpa using Array.mem_of_getElem? ht
        have hall : ([3, 3].all fun u => !Tryz.prog.wantsStandIn u) = true := by kernel_rfl
        exact (show Tryz.prog.wantsStandIn t = false by simpa using List.all_eq_true.1 hall t hm)⟩)
    (by kernel_rfl)

end Go.Proofs.YtkaojokhdleeiaaGreatDoor.Long
namespace Go.Proofs.YtkaojokhdleeiaaGreatDoor
theorem readLong_holds : Rows.ReadLongCardSaid := Long.card
#print axioms readLong_holds
end Go.Proofs.YtkaojokhdleeiaaGreatDoor
