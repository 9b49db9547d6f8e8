/-
  Proved: whatever three lists of bytes are handed in, the Go function CrcThree returns true and leaves them as they were. The table of halves starts as the program's text lays it (tied by the card).
-/
import Derived.Test.YtfglfdpmhpnmmaaDoorLaid
import Derived.Test.YtfglfdpmhpnmmaaDoorCards
import Derived.Test.YtfglfdpmhpnmmaaDoorTie
import Derived.Test.YtfglfdpmhpnmmaaDoorOwn
import Derived.OpenShut
import Derived.ShutString
import Derived.ChangeOld
import Derived.Below
import Derived.SevenTiedAt
namespace Go.Proofs.YtfglfdpmhpnmmaaDoor.Three
open Go.ChangeShapes Go.WideShapes Go.ChangeAt Go.RowKit

/-- The exclusive or of three texts. -/
def three (a b c : List Int) : List Nat := List.zipWith (· ^^^ ·) (List.zipWith (· ^^^ ·) (nats a) (nats b)) (nats c)

theorem three_length {a b c : List Int} {n : Nat} (ha : a.length = n) (hb : b.length = n) (hc : c.length = n) : (three a b c).length = n := by
  unfold three
  rw [List.length_zipWith, List.length_zipWith, nats_length, nats_length, nats_length]; omega

theorem three_at {a b c : List Int} {n k : Nat} (ha : a.length = n) (hb : b.length = n) (hc : c.length = n) (hk : k < n) :
    (three a b c)[k]?.getD 0 = ((a[k]?.getD 0).toNat ^^^ (b[k]?.getD 0).toNat) ^^^ (c[k]?.getD 0).toNat := by
  unfold three nats
  simp [List.getElem?_zipWith, List.getElem?_eq_getElem (show k < a.length by omega), List.getElem?_eq_getElem (show k < b.length by omega), List.getElem?_eq_getElem (show k < c.length by omega)]

theorem three_byte {a b c : List Int} (ha : ∀ x ∈ a, 0 ≤ x ∧ x ≤ 255) (hb : ∀ x ∈ b, 0 ≤ x ∧ x ≤ 255) (hc : ∀ x ∈ c, 0 ≤ x ∧ x ≤ 255) : ∀ x ∈ three a b c, x < 256 := by
  intro x hx
  unfold three at hx
  obtain ⟨i, hi, rfl⟩ := List.getElem_of_mem hx
  simp only [List.getElem_zipWith]
  refine Nat.xor_lt_two_pow (n := 8) (Nat.xor_lt_two_pow (n := 8) ?_ ?_) ?_
  · exact nats_byte ha _ (List.getElem_mem _)
  · exact nats_byte hb _ (List.getElem_mem _)
  · exact nats_byte hc _ (List.getElem_mem _)

theorem xor3_spelt {a b c : Int} (ha : 0 ≤ a ∧ a ≤ 255) (hb : 0 ≤ b ∧ b ≤ 255) (hc : 0 ≤ c ∧ c ≤ 255) : ∃ x : Nat, bits .xor .u8 a b = (x : Int) ∧ bits .xor .u8 (x : Int) c = (((a.toNat ^^^ b.toNat) ^^^ c.toNat : Nat) : Int) := by
  have h1 := u8_xor a b ha.1 (by omega) hb.1 (by omega)
  have hx : a.toNat ^^^ b.toNat < 256 := Nat.xor_lt_two_pow (n := 8) (by omega) (by omega)
  have h2 := u8_xor ((a.toNat ^^^ b.toNat : Nat) : Int) c (by omega) (by omega) hc.1 (by omega)
  rw [Int.toNat_natCast] at h2
  exact ⟨_, h1, h2⟩

theorem xor_sums {A B C : Nat} (ha : A < 4294967296) (hb : B < 4294967296) (hc : C < 4294967296) : ∃ X : Nat, bits .xor .u32 (A : Int) (B : Int) = (X : Int) ∧ bits .xor .u32 (X : Int) (C : Int) = ((A ^^^ B ^^^ C : Nat) : Int) :=
  ⟨_, u32_xor_nat A B ha hb, u32_xor_nat _ C (xor_lt ha hb) hc⟩

theorem made (n : Nat) : (madeCells (Value.int .u8 0).cells (n * 1)).toList = cellsOf (List.replicate n 0) := by
  unfold madeCells cellsOf
  rw [Nat.mul_one, List.map_replicate]
  apply List.ext_getElem
  · simp
  · intro i h1 h2
    simp [Value.cells, Nat.mod_one]

set_option maxRecDepth 100000 in
set_option maxHeartbeats 400000 in
theorem walk (a0 : Option Addr) (len0 cap0 : Nat) (z0 : List Int) (a1 : Option Addr) (len1 cap1 : Nat) (z1 : List Int) (a2 : Option Addr) (len2 cap2 : Nat) (z2 : List Int) (w : World) (hT : Halves w) (w0 : IsRow .u8 w a0 len0 cap0 z0) (w1 : IsRow .u8 w a1 len1 cap1 z1) (w2 : IsRow .u8 w a2 len2 cap2 z2) :
    Calls Tryd.prog 6 #[.slice a0 len0 cap0, .slice a1 len1 cap1, .slice a2 len2 cap2] w fun e w' => e = .returned (.bool true) ∧ Below w.heap.size w w' := by
  obtain ⟨i0, hi, hz0, hz1, hz2⟩ := info_parts Tryd.info5
  obtain ⟨N, hN⟩ : ∃ N, min (min len0 100) (min len1 len2) = N := ⟨_, rfl⟩
  have HA0 : Hid (Seg w a0 N cap0 ((z0.take len0).take N)) := w0.seg.front N (by omega)
  have HB0 : Hid (Seg w a1 N cap1 ((z1.take len1).take N)) := w1.seg.front N (by omega)
  have HC0 : Hid (Seg w a2 N cap2 ((z2.take len2).take N)) := w2.seg.front N (by omega)
  generalize (z0.take len0).take N = xa at *
  generalize (z1.take len1).take N = xb at *
  generalize (z2.take len2).take N = xc at *
  have hl0 := w0.seg.le
  have hm0 : cap0 ≤ 9223372036854775807 := w0.seg.max
  have hl1 := w1.seg.le
  have hm1 : cap1 ≤ 9223372036854775807 := w1.seg.max
  have hl2 := w2.seg.le
  have hm2 : cap2 ≤ 9223372036854775807 := w2.seg.max
  have HT : Hid (Halves w) := hT
  clear w0 w1 w2 hT
  go_enter Tryd.func6, Tryd.ntmps6
  go_wp2_with fail
  refine (begun_calls _ HT.out).mono ?_
  rintro e w1 ⟨rfl, hb1⟩
  have HT1 : Hid (Halves w1) := HT.out.below hb1
  have HA1 : Hid (Seg w1 a0 N cap0 xa) := HA0.out.below hb1
  have HB1 : Hid (Seg w1 a1 N cap1 xb) := HB0.out.below hb1
  have HC1 : Hid (Seg w1 a2 N cap2 xc) := HC0.out.below hb1
  clear HT HA0 HB0 HC0
  go_upto_region 4 with fail
  go_cut [8] from 14 to 22 (fun x wc => x = .int .i64 N ∧ wc = w1)
  case first =>
    go_wp2_with fail
    all_goals (go_meet; exact ⟨by congr 1; omega, rfl⟩)
  case rest =>
    obtain ⟨rfl, rfl⟩ := hcut
    have hN1 : N ≤ 100 := by omega
    have hNa : N ≤ len0 := by omega
    have hNb : N ≤ len1 := by omega
    have hNc : N ≤ len2 := by omega
    clear hN
    have hbb : i0.bytes * N ≤ 281474976710656 := by rw [hz2]; omega
    have hmx : N ≤ maxLen := by unfold maxLen; omega
    go_wp2_with (at_make; go_must (refine wpList_make_full _ rfl (.tmp 23) (.tmp 23) 22 rfl wc.heap.size 5 i0 (.int .u8 0) 1 Tryd.underlying22 hi hz0 hz1 .i64 .i64 _ _ N rfl rfl rfl rfl hbb hmx (Nat.le_refl _) ?_); intro w2 hown2 hgrow2)
    rw [made] at hown2
    have HO : Hid (Own w2 wc.heap.size wc.heap.size N N (List.replicate N 0)) := hown2
    have hb2 := grown_below hgrow2
    obtain ⟨X, HX⟩ : ∃ X, Hid (X = ints (three xa xb xc)) := ⟨_, rfl⟩
    have HXL : Hid (X.length = N) := by
      show _ = _
      rw [HX.out, ints, List.length_map, three_length HA1.out.size HB1.out.size HC1.out.size]
    clear hown2 hgrow2 hbb hmx hi hz0 hz1 hz2 i0
    go_loopw [10] (fun i wr => ∃ (k : Nat) (ds : List Int), k ≤ N ∧ i = .int .i64 k ∧ Hid (Own wr wc.heap.size wc.heap.size N N ds) ∧ Hid (ds.take k = X.take k) ∧ Below wc.heap.size wc wr) (fun i _ => N - (intOf i).toNat)
    case atStart => exact ⟨0, _, by omega, rfl, HO, rfl, hb2⟩
    case round =>
      obtain ⟨k, ds, hk, rfl, HD, HP, hnx⟩ := hrel
      by_cases hlt : k < N
      · obtain ⟨ba, oa, rfl, ka, ca⟩ := HA1.out.at (by omega)
        obtain ⟨bb, ob, rfl, kb, cb⟩ := HB1.out.at (by omega)
        obtain ⟨bc, oc, rfl, kc, cc⟩ := HC1.out.at (by omega)
        have ca := (hnx.cell (p := ⟨ba, oa + k, none⟩) ka).trans (ca k hlt)
        have cb := (hnx.cell (p := ⟨bb, ob + k, none⟩) kb).trans (cb k hlt)
        have cc := (hnx.cell (p := ⟨bc, oc + k, none⟩) kc).trans (cc k hlt)
        have cd := HD.out.cell k hlt
        have fd := HD.out.frozen k
        have ra := HA1.out.byteAt k
        have rb := HB1.out.byteAt k
        have rc := HC1.out.byteAt k
        have HV : Hid (X[k]?.getD 0 = ((((xa[k]?.getD 0).toNat ^^^ (xb[k]?.getD 0).toNat) ^^^ (xc[k]?.getD 0).toNat : Nat) : Int)) := by
          show _ = _
          rw [HX.out, ← three_at HA1.out.size HB1.out.size HC1.out.size hlt]
          unfold ints
          rw [List.getElem?_map]
          cases (three xa xb xc)[k]? <;> rfl
        rw [List.getD_eq_getElem?_getD] at ca cb cc cd
        generalize xa[k]?.getD 0 = va at *
        generalize xb[k]?.getD 0 = vb at *
        generalize xc[k]?.getD 0 = vc at *
        generalize ds[k]?.getD 0 = vd at *
        obtain ⟨x, e1, e2⟩ := xor3_spelt ra rb rc
        generalize va.toNat ^^^ vb.toNat ^^^ vc.toNat = y at *
        have HN : Hid (((ds.set k (y : Int)).take (k + 1)) = X.take (k + 1)) := by
          show _ = _
          rw [← HV.out]
          exact take_set_next (by rw [HD.out.len]; exact hlt) (by rw [HXL.out]; exact hlt) HP.out
        have HD2 : Hid (Own (wr.setCell ⟨wc.heap.size, k, none⟩ (.int .u8 (y : Int))) wc.heap.size wc.heap.size N N (ds.set k (y : Int))) := HD.out.set k _
        clear HP HV HX ra rb rc
        go_wp2_with fail
        go_region
        go_wp2
        go_roundw
        case rel => exact ⟨k + 1, ds.set k (y : Int), by omega, by go_num, HD2, HN, (hnx.setCell (Nat.le_refl _) _).drew⟩
        case measure => simp [intOf]; omega
      · have hds : ds = X := by
          have h1 := HP.out
          rw [List.take_of_length_le (by rw [HD.out.len]; omega), List.take_of_length_le (by rw [HXL.out]; omega)] at h1
          exact h1
        have hXb : ∀ x ∈ X, 0 ≤ x ∧ x ≤ 255 := by
          rw [HX.out]
          exact ints_byte (three_byte HA1.out.byte HB1.out.byte HC1.out.byte)
        have hS : Crc.sum (nats X) = Crc.sum (nats xa) ^^^ Crc.sum (nats xb) ^^^ Crc.sum (nats xc) := by
          rw [HX.out, nats_ints]
          unfold three
          exact Crc.sum_three _ _ _ (by rw [nats_length, nats_length, HA1.out.size, HB1.out.size]) (by rw [nats_length, nats_length, HA1.out.size, HC1.out.size])
        have hT := HT1.out.below hnx
        have hsd := HD.out.seg (by rw [hds]; exact hXb)
        rw [hds] at hsd
        have hsa := HA1.out.below hnx
        have hsb := HB1.out.below hnx
        have hsc := HC1.out.below hnx
        obtain ⟨A, B, C, S, hA, hB, hC, hABC, QA, QB, QC, QD⟩ : ∃ A B C S : Nat, A < 4294967296 ∧ B < 4294967296 ∧ C < 4294967296 ∧ S = A ^^^ B ^^^ C ∧ Hid (∀ n, Calls Tryd.prog 9 #[.slice a0 N cap0] (wr.drewN n) fun e w' => e = .returned (.int .u32 A) ∧ w' = wr.drewN n) ∧ Hid (∀ n, Calls Tryd.prog 9 #[.slice a1 N cap1] (wr.drewN n) fun e w' => e = .returned (.int .u32 B) ∧ w' = wr.drewN n)
            ∧ Hid (∀ n, Calls Tryd.prog 9 #[.slice a2 N cap2] (wr.drewN n) fun e w' => e = .returned (.int .u32 C) ∧ w' = wr.drewN n) ∧ Hid (∀ n, Calls Tryd.prog 9 #[.slice (some ⟨wc.heap.size, 0, none⟩) N N] (wr.drewN n) fun e w' => e = .returned (.int .u32 S) ∧ w' = wr.drewN n) :=
          ⟨_, _, _, _, Crc.sum_lt _ (nats_byte HA1.out.byte), Crc.sum_lt _ (nats_byte HB1.out.byte), Crc.sum_lt _ (nats_byte HC1.out.byte), hS, fun n => sum_calls a0 N cap0 xa (wr.drewN n) hT (hsa.drewN n), fun n => sum_calls a1 N cap1 xb (wr.drewN n) hT (hsb.drewN n), fun n => sum_calls a2 N cap2 xc (wr.drewN n) hT (hsc.drewN n), fun n => sum_calls _ N N X (wr.drewN n) hT (hsd.drewN n)⟩
        obtain ⟨Y, e1, e2⟩ := xor_sums hA hB hC
        rw [← hABC] at e2
        have hSS : ((S : Int) == (S : Int)) = true := by simp
        clear hS hT hsd hsa hsb hsc hXb hds hABC HD HP HX HXL HA1 HB1 HC1 HT1
        go_wp2_with fail
        go_quiet (first
          | (go_at_call 9; exact Calls.quiet_of_same (QD.out _))
          | (go_at_call 9; exact Calls.quiet_of_same (QA.out _))
          | (go_at_call 9; exact Calls.quiet_of_same (QB.out _))
          | (go_at_call 9; exact Calls.quiet_of_same (QC.out _)))
        go_wp2
        go_ret
        exact ⟨rfl, below_step hb1 (below_drewN hnx _)⟩

set_option maxRecDepth 100000 in
theorem lifted (os : Os) (started : os.Started) (H : Type) (enc : TypeId × Value → H) :
    ReturnsInHanded {} Tryd.checked os 6 .any (fun w args => (Rows.crcThreeSpec.pre enc Tryd.prog Tryd.f6 [] false w args ∧ laidMetH Tryd.prog laid1 w) ∧ sizedMet enc Tryd.prog Tryd.f6 (OpenSpec.ofChange Rows.crcThreeSpec) false w args) (Rows.crcThreeSpec.post enc Tryd.prog Tryd.f6 false true false false) := by
  refine returnsInHanded_of_change_and (C := Tryd.checked) (X := fun w _ => laidMetH Tryd.prog laid1 w) (fun _ _ _ hh h => h.of_heap hh) own started (by kernel_rfl) Tryd.func6
    (ChangeSpec.witness_shaped (enc := enc) (C := Tryd.checked) (os := os) (X := fun w _ => laidMetH Tryd.prog laid1 w) false (World.doorLaid Tryd.prog 14 os) #[.slice none 0 0, .slice none 0 0, .slice none 0 0] 8 rfl (World.shaped_of_RefB (by kernel_rfl) (by kernel_rfl)) (by kernel_rfl) (by kernel_rfl) (by kernel_rfl) (door_met os _)) ?_
  intro W base args ds gs before hval0 hW _ _ hL _
  have hval : ∀ (j : Nat) t v, Tryd.f6.params[j]? = some t → args[j]? = some v → Value.okWide Tryd.prog W .any base t v := hval0
  have hW' := hW
  obtain ⟨p, q, hA0, hV, rfl, _, _⟩ := hW
  have hA : DataW.TrodAll enc Tryd.prog W 0 (fun _ => true) true Tryd.f6.params.toList args.toList ds p := hA0
  rw [Tryd.params6] at hA hval
  obtain ⟨v0, vs0, d0, ds0, p0, q0, _, rfl, rfl, h0, r0⟩ := trodAll_cons hA
  obtain ⟨v1, vs1, d1, ds1, p1, q1, rfl, rfl, rfl, h1, r1⟩ := trodAll_cons r0
  obtain ⟨v2, vs2, d2, ds2, p2, q2, rfl, rfl, rfl, h2, r2⟩ := trodAll_cons r1
  obtain ⟨rfl, rfl, rfl⟩ := trodAll_nil r2
  obtain rfl : args = #[v0, v1, v2] := by cases args; simp_all
  obtain ⟨rfl, rfl⟩ := trodVars_none hV
  obtain ⟨a0, len0, cap0, rfl⟩ := okWide_slice Tryd.underlying22 (hval 0 22 v0 rfl rfl)
  have k0 := h0
  have lt0 : ∀ x ∈ p0, x.block < W.heap.size := by obtain ⟨m, hm⟩ := k0; exact DataW.trod_lt m _ _ _ hm
  obtain ⟨z0, w0⟩ : ∃ zs, IsRow .u8 W a0 len0 cap0 zs := by
    obtain ⟨fuel, hf⟩ := h0
    rcases open_ints Tryd.underlying22 Tryd.underlying5 (by kernel_rfl) hf with ⟨hcs, _⟩ | ⟨x, l, c, zs, hcs, _, hl, hm, hz, _, hcell, hwz⟩
    · simp [Value.cells] at hcs
      obtain ⟨rfl, rfl, rfl⟩ := hcs
      exact ⟨[], .inl ⟨rfl, rfl, rfl, rfl⟩⟩
    · simp [Value.cells] at hcs
      obtain ⟨rfl, rfl, rfl⟩ := hcs
      exact ⟨zs, .inr ⟨_, rfl, hl, hm, by simpa using hz, hcell, hwz⟩⟩
  obtain ⟨a1, len1, cap1, rfl⟩ := okWide_slice Tryd.underlying22 (hval 1 22 v1 rfl rfl)
  have k1 := h1
  have lt1 : ∀ x ∈ p1, x.block < W.heap.size := by obtain ⟨m, hm⟩ := k1; exact DataW.trod_lt m _ _ _ hm
  obtain ⟨z1, w1⟩ : ∃ zs, IsRow .u8 W a1 len1 cap1 zs := by
    obtain ⟨fuel, hf⟩ := h1
    rcases open_ints Tryd.underlying22 Tryd.underlying5 (by kernel_rfl) hf with ⟨hcs, _⟩ | ⟨x, l, c, zs, hcs, _, hl, hm, hz, _, hcell, hwz⟩
    · simp [Value.cells] at hcs
      obtain ⟨rfl, rfl, rfl⟩ := hcs
      exact ⟨[], .inl ⟨rfl, rfl, rfl, rfl⟩⟩
    · simp [Value.cells] at hcs
      obtain ⟨rfl, rfl, rfl⟩ := hcs
      exact ⟨zs, .inr ⟨_, rfl, hl, hm, by simpa using hz, hcell, hwz⟩⟩
  obtain ⟨a2, len2, cap2, rfl⟩ := okWide_slice Tryd.underlying22 (hval 2 22 v2 rfl rfl)
  have k2 := h2
  have lt2 : ∀ x ∈ p2, x.block < W.heap.size := by obtain ⟨m, hm⟩ := k2; exact DataW.trod_lt m _ _ _ hm
  obtain ⟨z2, w2⟩ : ∃ zs, IsRow .u8 W a2 len2 cap2 zs := by
    obtain ⟨fuel, hf⟩ := h2
    rcases open_ints Tryd.underlying22 Tryd.underlying5 (by kernel_rfl) hf with ⟨hcs, _⟩ | ⟨x, l, c, zs, hcs, _, hl, hm, hz, _, hcell, hwz⟩
    · simp [Value.cells] at hcs
      obtain ⟨rfl, rfl, rfl⟩ := hcs
      exact ⟨[], .inl ⟨rfl, rfl, rfl, rfl⟩⟩
    · simp [Value.cells] at hcs
      obtain ⟨rfl, rfl, rfl⟩ := hcs
      exact ⟨zs, .inr ⟨_, rfl, hl, hm, by simpa using hz, hcell, hwz⟩⟩
  clear hA0 hval0
  refine (walk a0 len0 cap0 z0 a1 len1 cap1 z1 a2 len2 cap2 z2 W (halves_of_laid hL) w0 w1 w2).mono fun e W' ⟨he, bel⟩ => ?_
  subst he
  exact ⟨_, rfl, _, _, _, [], _, [], hW', trodAll_mk1 (shut_bool Tryd.underlying4 _), (trodAll_cons_mk (Below.trod laidOut (by kernel_rfl) (of_decide_eq_true (by kernel_rfl)) k0 bel lt0) (trodAll_cons_mk (Below.trod laidOut (by kernel_rfl) (of_decide_eq_true (by kernel_rfl)) k1 bel lt1) (trodAll_cons_mk (Below.trod laidOut (by kernel_rfl) (of_decide_eq_true (by kernel_rfl)) k2 bel lt2) trodAll_mk0))), rfl, bel.frame _, fun h => by cases h⟩

theorem over : Rows.crcThreeRow.holds Tryd.pinned (OpenSpec.ofChange Rows.crcThreeSpec) :=
  OpenClaim.holds_of_wide 6 Tryd.f6 rfl rfl rfl rfl rfl rfl rfl ⟨rfl, rfl, rfl, rfl, rfl⟩ rfl rfl rfl rfl rfl (by kernel_rfl) Tryd.func6 (by kernel_rfl)
    (of_decide_eq_true (by kernel_rfl)) (by unfold Func.isWrapper; first | (rw [if_pos (by decide +kernel)]; kernel_rfl) | (rw [if_neg (by decide +kernel)]; exact ⟨rfl, rfl⟩))
    (fun os started H enc _ => lifted os started H enc)

theorem card : Claim7.holds Tryd.pinned (.plain (OpenSpec.ofChange Rows.crcThreeSpec)) Rows.crcThreeCard :=
  Claim7.holds_tied_plain_at .later [] [.data] true (true, "e111734ee0cb1f99caac90c19df38d519963965ec146610dc82e69c7a463c769") false
    over (fun _ h => by cases h) (by kernel_rfl) (fun _ h => by cases h) crcThree_row_tie rfl ⟨rfl, rfl⟩ (by kernel_rfl) rfl
    (fun f fn hf hfn => by
      obtain rfl : f = 6 := Option.some.inj ((show Tryd.prog.funcNamed "donatus/donatuslaw2.CrcThree" = some 6 by kernel_rfl).symm.trans hf) |>.symm
      obtain rfl : fn = Tryd.f6 := (Option.some.inj (Tryd.func6.symm.trans hfn)).symm
      exact ⟨by kernel_rfl, fun j t ht => by
        rw [Tryd.params6] at ht
        have hm : t ∈ [22] := by simpa using Array.mem_of_getElem? ht
        have hall : ([22].all fun u => !Tryd.prog.wantsStandIn u) = true := by kernel_rfl
        exact (show Tryd.prog.wantsStandIn t = false by simpa using List.all_eq_true.1 hall t hm)⟩)
    (by kernel_rfl)

end Go.Proofs.YtfglfdpmhpnmmaaDoor.Three
namespace Go.Proofs.YtfglfdpmhpnmmaaDoor
theorem crcThree_holds : Rows.CrcThreeCardSaid := Three.card
#print axioms crcThree_holds
end Go.Proofs.YtfglfdpmhpnmmaaDoor
