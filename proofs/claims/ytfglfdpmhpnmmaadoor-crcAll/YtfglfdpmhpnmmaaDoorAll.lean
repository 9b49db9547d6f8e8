/-
  Proved: whatever two lists of bytes are handed in, the Go function CrcAll returns true and leaves them as they were. The table of halves starts as the program's text lays it (tied by the card).
-/
import Derived.Test.YtfglfdpmhpnmmaaDoorLaid
import Derived.Test.YtfglfdpmhpnmmaaDoorCards
import Derived.Test.YtfglfdpmhpnmmaaDoorTie
import Derived.OpenShut
import Derived.ShutString
import Derived.ChangeOld
import Derived.Below
import Derived.SevenTiedAt
namespace Go.Proofs.YtfglfdpmhpnmmaaDoor.All
open Go.ChangeShapes Go.WideShapes Go.ChangeAt Go.RowKit

set_option maxHeartbeats 400000 in
theorem walk (a0 : Option Addr) (len0 cap0 : Nat) (z0 : List Int) (a1 : Option Addr) (len1 cap1 : Nat) (z1 : List Int) (w : World) (hT : Halves w) (w0 : IsRow .u8 w a0 len0 cap0 z0) (w1 : IsRow .u8 w a1 len1 cap1 z1) :
    Calls Tryd.prog 3 #[.slice a0 len0 cap0, .slice a1 len1 cap1] w fun e w' => e = .returned (.bool true) ∧ Below w.heap.size w w' := by
  have H0 : Hid (Seg w a0 len0 cap0 (z0.take len0)) := w0.seg
  have H1 : Hid (Seg w a1 len1 cap1 (z1.take len1)) := w1.seg
  have HT : Hid (Halves w) := hT
  clear w0 w1 hT
  go_enter Tryd.func3, Tryd.ntmps3
  go_wp2_with fail
  refine (begun_calls _ HT.out).mono ?_
  rintro e w1 ⟨rfl, hb1⟩
  have HT1 : Hid (Halves w1) := HT.out.below hb1
  go_wp2_with fail
  refine (short_calls _ _ _ _ 300 _ (H0.out.below hb1) (by decide)).mono ?_
  rintro e w2 ⟨la, hla, rfl, hsa, rfl⟩
  go_wp2_with fail
  refine (short_calls _ _ _ _ 300 _ (H1.out.below hb1) (by decide)).mono ?_
  rintro e w3 ⟨lb, hlb, rfl, hsb, rfl⟩
  generalize List.take 300 (List.take len0 z0) = xa at *
  generalize List.take 300 (List.take len1 z1) = xb at *
  have HA : Hid (Seg w3 a0 la cap0 xa) := hsa
  have HB : Hid (Seg w3 a1 lb cap1 xb) := hsb
  clear H0 H1 HT hsa hsb
  go_wp2_with (first
    | (at_builtin; refine append_seg rfl _ (.tmp 14) rfl w3.heap.size _ 0 [] rfl (World.ownsRow_nil _ _ _ _) a0 la cap0 xa rfl HA.out (by omega) (Nat.le_refl _) ?_; intro v6 w6 hown6 hgrow6)
    | (at_builtin; go_must (refine append_seg rfl (.tmp 15) (.tmp 16) rfl w3.heap.size v6 _ xa rfl hown6 a1 lb cap1 xb rfl (HB.out.below (grown_below hgrow6)) (by omega) hgrow6.size ?_); intro v7 w7 hown7 hgrow7))
  have hb6 := grown_below hgrow6
  have hb7 : Below w3.heap.size w3 w7 := hb6.grown hgrow7 hgrow6.size (fun k hk => (hown6.lt k hk).1)
  generalize 0 + la + lb = N at *
  obtain ⟨ao7, cap7, hv7, hs7⟩ := Seg.owned (bs := xa ++ xb) hown7 (fun y hy => (List.mem_append.1 hy).elim (HA.out.byte y) (HB.out.byte y))
  subst hv7
  have HA7 : Hid (Seg w7 a0 la cap0 xa) := HA.out.below hb7
  have HB7 : Hid (Seg w7 a1 lb cap1 xb) := HB.out.below hb7
  have HC7 : Hid (Seg w7 ao7 N cap7 (xa ++ xb)) := hs7
  have HT7 : Hid (Halves w7) := HT1.out.below hb7
  have hB7 := below_step hb1 hb7
  have HM : Crc.more (Crc.sum (nats xa)) (nats xb) = Crc.sum (nats (xa ++ xb)) := by
    rw [Crc.sum_more]; unfold nats; rw [List.map_append]
  obtain ⟨S, A, HS, HR, HSA, HMB⟩ : ∃ S A : Nat, Hid (Calls Tryd.prog 9 #[.slice ao7 N cap7] w7 fun e w' => e = .returned (.int .u32 S) ∧ w' = w7) ∧ Hid (Calls Tryd.prog 10 #[.slice ao7 N cap7] w7 fun e w' => e = .returned (.int .u32 S) ∧ w' = w7)
      ∧ Hid (Calls Tryd.prog 9 #[.slice a0 la cap0] w7 fun e w' => e = .returned (.int .u32 A) ∧ w' = w7) ∧ Hid (Calls Tryd.prog 11 #[.int .u32 A, .slice a1 lb cap1] w7 fun e w' => e = .returned (.int .u32 S) ∧ w' = w7) :=
    ⟨_, _, sum_calls _ _ _ _ _ HT7.out HC7.out, ref_calls _ _ _ _ _ HC7.out, sum_calls _ _ _ _ _ HT7.out HA7.out, by
      have := more_calls _ _ _ _ _ _ HT7.out (Crc.sum_lt _ (nats_byte HA.out.byte)) HB7.out
      rw [HM] at this
      exact this⟩
  clear hown6 hown7 hgrow6 hgrow7 hb6 hb7 HA HB HT1 hs7 hb1 HM HA7 HB7 HC7 HT7
  have hSS : ((S : Int) == (S : Int)) = true := by simp
  refine HS.out.mono ?_
  rintro e w8 ⟨rfl, rfl⟩
  go_wp2_with fail
  refine HR.out.mono ?_
  rintro e w9 ⟨rfl, rfl⟩
  go_wp2_with fail
  refine HSA.out.mono ?_
  rintro e w10 ⟨rfl, rfl⟩
  go_wp2_with fail
  refine HMB.out.mono ?_
  rintro e w11 ⟨rfl, rfl⟩
  go_wp2_with fail
  refine HS.out.mono ?_
  rintro e w12 ⟨rfl, rfl⟩
  go_wp2
  go_ret
  exact ⟨by simp, hB7⟩

set_option maxRecDepth 100000 in
theorem lifted (os : Os) (started : os.Started) (H : Type) (enc : TypeId × Value → H) :
    ReturnsInHanded {} Tryd.checked os 3 .any (fun w args => (Rows.crcAllSpec.pre enc Tryd.prog Tryd.f3 [] false w args ∧ laidMetH Tryd.prog laid1 w) ∧ sizedMet enc Tryd.prog Tryd.f3 (OpenSpec.ofChange Rows.crcAllSpec) false w args) (Rows.crcAllSpec.post enc Tryd.prog Tryd.f3 false true false false) := by
  refine returnsInHanded_of_change_and (C := Tryd.checked) (X := fun w _ => laidMetH Tryd.prog laid1 w) (fun _ _ _ hh h => h.of_heap hh) own started (by kernel_rfl) Tryd.func3
    (ChangeSpec.witness_shaped (enc := enc) (C := Tryd.checked) (os := os) (X := fun w _ => laidMetH Tryd.prog laid1 w) false (World.doorLaid Tryd.prog 14 os) #[.slice none 0 0, .slice none 0 0] 8 rfl (World.shaped_of_RefB (by kernel_rfl) (by kernel_rfl)) (by kernel_rfl) (by kernel_rfl) (by kernel_rfl) (door_met os _)) ?_
  intro W base args ds gs before hval0 hW _ _ hL _
  have hval : ∀ (j : Nat) t v, Tryd.f3.params[j]? = some t → args[j]? = some v → Value.okWide Tryd.prog W .any base t v := hval0
  have hW' := hW
  obtain ⟨p, q, hA0, hV, rfl, _, _⟩ := hW
  have hA : DataW.TrodAll enc Tryd.prog W 0 (fun _ => true) true Tryd.f3.params.toList args.toList ds p := hA0
  rw [Tryd.params3] at hA hval
  obtain ⟨v0, vs0, d0, ds0, p0, q0, _, rfl, rfl, h0, r0⟩ := trodAll_cons hA
  obtain ⟨v1, vs1, d1, ds1, p1, q1, rfl, rfl, rfl, h1, r1⟩ := trodAll_cons r0
  obtain ⟨rfl, rfl, rfl⟩ := trodAll_nil r1
  obtain rfl : args = #[v0, v1] := by cases args; simp_all
  obtain ⟨rfl, rfl⟩ := trodVars_none hV
  obtain ⟨a0, len0, cap0, rfl⟩ := okWide_slice Tryd.underlying22 (hval 0 22 v0 rfl rfl)
  have k0 := h0
  have lt0 : ∀ x ∈ p0, x.block < W.heap.size := by obtain ⟨m, hm⟩ := k0; exact DataW.trod_lt m _ _ _ hm
  obtain ⟨z0, w0⟩ : ∃ zs, IsRow .u8 W a0 len0 cap0 zs := by
    obtain ⟨fuel, hf⟩ := h0
    rcases open_ints Tryd.underlying22 Tryd.underlying5 (by kernel_rfl) hf with ⟨hcs, _⟩ | ⟨x, l, c, zs, hcs, _, hl, hm, hz, _, hcell, hwz⟩
    · simp [Value.cells] at hcs
      obtain ⟨rfl, rfl, rfl⟩ := hcs
      exact ⟨[], .inl ⟨rfl, rfl, rfl, rfl⟩⟩
    · simp [Value.cells] at hcs
      obtain ⟨rfl, rfl, rfl⟩ := hcs
      exact ⟨zs, .inr ⟨_, rfl, hl, hm, by simpa using hz, hcell, hwz⟩⟩
  obtain ⟨a1, len1, cap1, rfl⟩ := okWide_slice Tryd.underlying22 (hval 1 22 v1 rfl rfl)
  have k1 := h1
  have lt1 : ∀ x ∈ p1, x.block < W.heap.size := by obtain ⟨m, hm⟩ := k1; exact DataW.trod_lt m _ _ _ hm
  obtain ⟨z1, w1⟩ : ∃ zs, IsRow .u8 W a1 len1 cap1 zs := by
    obtain ⟨fuel, hf⟩ := h1
    rcases open_ints Tryd.underlying22 Tryd.underlying5 (by kernel_rfl) hf with ⟨hcs, _⟩ | ⟨x, l, c, zs, hcs, _, hl, hm, hz, _, hcell, hwz⟩
    · simp [Value.cells] at hcs
      obtain ⟨rfl, rfl, rfl⟩ := hcs
      exact ⟨[], .inl ⟨rfl, rfl, rfl, rfl⟩⟩
    · simp [Value.cells] at hcs
      obtain ⟨rfl, rfl, rfl⟩ := hcs
      exact ⟨zs, .inr ⟨_, rfl, hl, hm, by simpa using hz, hcell, hwz⟩⟩
  clear hA0 hval0
  refine (walk a0 len0 cap0 z0 a1 len1 cap1 z1 W (halves_of_laid hL) w0 w1).mono fun e W' ⟨he, bel⟩ => ?_
  subst he
  exact ⟨_, rfl, _, _, _, [], _, [], hW', trodAll_mk1 (shut_bool Tryd.underlying4 _), (trodAll_cons_mk (Below.trod laidOut (by kernel_rfl) (of_decide_eq_true (by kernel_rfl)) k0 bel lt0) (trodAll_cons_mk (Below.trod laidOut (by kernel_rfl) (of_decide_eq_true (by kernel_rfl)) k1 bel lt1) trodAll_mk0)), rfl, bel.frame _, fun h => by cases h⟩

theorem over : Rows.crcAllRow.holds Tryd.pinned (OpenSpec.ofChange Rows.crcAllSpec) :=
  OpenClaim.holds_of_wide 3 Tryd.f3 rfl rfl rfl rfl rfl rfl rfl ⟨rfl, rfl, rfl, rfl, rfl⟩ rfl rfl rfl rfl rfl (by kernel_rfl) Tryd.func3 (by kernel_rfl)
    (of_decide_eq_true (by kernel_rfl)) (by unfold Func.isWrapper; first | (rw [if_pos (by decide +kernel)]; kernel_rfl) | (rw [if_neg (by decide +kernel)]; exact ⟨rfl, rfl⟩))
    (fun os started H enc _ => lifted os started H enc)

theorem card : Claim7.holds Tryd.pinned (.plain (OpenSpec.ofChange Rows.crcAllSpec)) Rows.crcAllCard :=
  Claim7.holds_tied_plain_at .later [] [.data] true (true, "e111734ee0cb1f99caac90c19df38d519963965ec146610dc82e69c7a463c769") false
    over (fun _ h => by cases h) (by kernel_rfl) (fun _ h => by cases h) crcAll_row_tie rfl ⟨rfl, rfl⟩ (by kernel_rfl) rfl
    (fun f fn hf hfn => by
      obtain rfl : f = 3 := Option.some.inj ((show Tryd.prog.funcNamed "donatus/donatuslaw2.CrcAll" = some 3 by kernel_rfl).symm.trans hf) |>.symm
      obtain rfl : fn = Tryd.f3 := (Option.some.inj (Tryd.func3.symm.trans hfn)).symm
      exact ⟨by kernel_rfl, fun j t ht => by
        rw [Tryd.params3] at ht
        have hm : t ∈ [22] := by simpa using Array.mem_of_getElem? ht
        have hall : ([22].all fun u => !Tryd.prog.wantsStandIn u) = true := by kernel_rfl
        exact (show Tryd.prog.wantsStandIn t = false by simpa using List.all_eq_true.1 hall t hm)⟩)
    (by kernel_rfl)

end Go.Proofs.YtfglfdpmhpnmmaaDoor.All
namespace Go.Proofs.YtfglfdpmhpnmmaaDoor
theorem crcAll_holds : Rows.CrcAllCardSaid := All.card
#print axioms crcAll_holds
end Go.Proofs.YtfglfdpmhpnmmaaDoor
