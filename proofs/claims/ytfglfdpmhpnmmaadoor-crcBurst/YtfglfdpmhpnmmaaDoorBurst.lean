/-
  Proved: whatever bytes, place and change are handed in, the Go function CrcBurst returns true and leaves them as they were. The table of halves starts as the program's text lays it (tied by the card).
-/
import Derived.Test.YtfglfdpmhpnmmaaDoorLaid
import Derived.Test.YtfglfdpmhpnmmaaDoorCards
import Derived.Test.YtfglfdpmhpnmmaaDoorTie
import Derived.Test.YtfglfdpmhpnmmaaDoorMix
import Derived.OpenShut
import Derived.ShutString
import Derived.ChangeOld
import Derived.Below
import Derived.SevenTiedAt
namespace Go.Proofs.YtfglfdpmhpnmmaaDoor.Burst
open Go.ChangeShapes Go.WideShapes Go.ChangeAt Go.RowKit

theorem xor_spelt {a b : Int} (ha : 0 ≤ a ∧ a ≤ 255) (hb : 0 ≤ b ∧ b ≤ 255) : ∃ y : Nat, y < 256 ∧ Hid (y = a.toNat ^^^ b.toNat) ∧ bits .xor .u8 a b = (y : Int) :=
  ⟨_, Nat.xor_lt_two_pow (n := 8) (by omega) (by omega), rfl, u8_xor a b ha.1 (by omega) hb.1 (by omega)⟩

set_option maxRecDepth 100000 in
set_option maxHeartbeats 400000 in
theorem walk (a0 : Option Addr) (len0 cap0 : Nat) (z0 : List Int) (a1 : Int) (a2 : Option Addr) (len2 cap2 : Nat) (z2 : List Int) (w : World) (hT : Halves w) (w0 : IsRow .u8 w a0 len0 cap0 z0) (w1 : (Lit.int .i64 a1).wf = true) (w2 : IsRow .u8 w a2 len2 cap2 z2) :
    Calls Tryd.prog 4 #[.slice a0 len0 cap0, .int .i64 a1, .slice a2 len2 cap2] w fun e w' => e = .returned (.bool true) ∧ Below w.heap.size w w' := by
  have H0 : Hid (Seg w a0 len0 cap0 (z0.take len0)) := w0.seg
  have H2 : Hid (Seg w a2 len2 cap2 (z2.take len2)) := w2.seg
  have r1 := bounds_i64 w1
  have HT : Hid (Halves w) := hT
  clear w0 w1 w2 hT
  go_enter Tryd.func4, Tryd.ntmps4
  go_wp2_with fail
  refine (begun_calls _ HT.out).mono ?_
  rintro e w1 ⟨rfl, hb1⟩
  have HT1 : Hid (Halves w1) := HT.out.below hb1
  go_wp2_with fail
  refine (short_calls _ _ _ _ 200 _ (H0.out.below hb1) (by decide)).mono ?_
  rintro e w2 ⟨lb, hlb, rfl, hsb, rfl⟩
  go_wp2_with fail
  refine (short_calls _ _ _ _ 4 _ (H2.out.below hb1) (by decide)).mono ?_
  rintro e w3 ⟨lx, hlx, rfl, hsx, rfl⟩
  generalize List.take 200 (List.take len0 z0) = xb at *
  generalize List.take 4 (List.take len2 z2) = xx at *
  have HB : Hid (Seg w3 a0 lb cap0 xb) := hsb
  have HX : Hid (Seg w3 a2 lx cap2 xx) := hsx
  have hcx := hsx.le
  have hmx : cap2 ≤ 9223372036854775807 := hsx.max
  clear H0 H2 HT hsb hsx
  go_wp2_with fail
  go_loop [8, 9] (fun s i => ∃ (k : Nat) (q : Bool), k ≤ lx ∧ i = .int .i64 k ∧ s = .bool q ∧ Hid (q = (xx.take k).any (· != 0))) (fun _ i => lx - (intOf i).toNat)
  case atStart => exact ⟨0, false, by omega, rfl, rfl, rfl⟩
  case round =>
    obtain ⟨k, q, hk, rfl, rfl, HQ⟩ := hrel
    by_cases hlt : k < lx
    · obtain ⟨bx, ox, rfl, _, cx0⟩ := HX.out.at (by omega)
      have cx := cx0 k hlt
      clear cx0
      have HN : Hid ((xx.take (k + 1)).any (· != 0) = (q || (xx[k]?.getD 0 != 0))) := by
        show _ = _
        rw [any_take (by rw [HX.out.size]; exact hlt), HQ.out]
      rw [List.getD_eq_getElem?_getD] at cx
      generalize xx[k]?.getD 0 = v at *
      clear HQ
      cases q
      · obtain ⟨u, hu⟩ : ∃ u, (v != 0) = u := ⟨_, rfl⟩
        rw [hu] at HN
        go_wp2
        go_round
        case rel => exact ⟨k + 1, u, by omega, by simp, rfl, HN.out.symm⟩
        case measure => simp [intOf]; omega
      · go_wp2
        go_round
        case rel => exact ⟨k + 1, true, by omega, by simp, rfl, HN.out.symm⟩
        case measure => simp [intOf]; omega
    · have HQ' : Hid (q = xx.any (· != 0)) := by
        show _ = _
        rw [HQ.out, List.take_of_length_le (by rw [HX.out.size]; omega)]
      clear HQ
      by_cases h1 : a1 < 0
      · have d1 : decide (a1 < 0) = true := by simpa using h1
        go_wp2
        go_ret
        exact ⟨rfl, hb1⟩
      · have d1 : decide (a1 < 0) = false := by simpa using h1
        by_cases h2 : (lb : Int) - lx < a1
        · have d2 : decide ((lb : Int) - lx < a1) = true := by simpa using h2
          go_wp2
          go_ret
          exact ⟨rfl, hb1⟩
        · have d2 : decide ((lb : Int) - lx < a1) = false := by simpa using h2
          cases q
          · go_wp2
            go_ret
            exact ⟨rfl, hb1⟩
          · obtain ⟨p, rfl⟩ := Int.eq_ofNat_of_zero_le (show 0 ≤ a1 by omega)
            have hp : p + lx ≤ lb := by omega
            go_wp2_with (at_builtin; go_must (refine append_seg rfl _ (.tmp 48) rfl w3.heap.size _ 0 [] rfl (World.ownsRow_nil _ _ _ _) a0 lb cap0 xb rfl HB.out (by omega) (Nat.le_refl _) ?_); intro v6 w6 hown6 hgrow6)
            rw [Nat.zero_add, List.nil_append] at hown6
            have hlx0 : 0 < lx := by
              rcases Nat.eq_zero_or_pos lx with h | h
              · have h0 : xx = [] := List.eq_nil_of_length_eq_zero (by rw [HX.out.size]; exact h)
                have := HQ'.out
                rw [h0] at this
                cases this
              · exact h
            have hb6 := grown_below hgrow6
            obtain ⟨g, capc, rfl, HO⟩ : ∃ g capc, v6 = .slice (some ⟨g, 0, none⟩) lb capc ∧ Hid (Own w6 w3.heap.size g lb capc xb) := by
              rcases hown6.2 with ⟨_, h0⟩ | ⟨g, capc, _, hv, _⟩
              · omega
              · subst hv
                exact ⟨g, capc, rfl, hown6⟩
            have hgb : w3.heap.size ≤ g := by obtain ⟨_, h, _⟩ := HO.out.block; exact h
            have hlc : lb ≤ capc := by obtain ⟨_, _, _, h, _⟩ := HO.out.block; exact h
            have hmc : capc ≤ 9223372036854775807 := by obtain ⟨_, _, _, _, h, _⟩ := HO.out.block; exact h
            clear hown6 hgrow6 d1 d2 h1 h2
            go_wp2_with fail
            go_loopw [11] (fun i wr => ∃ (k : Nat) (ds : List Int), k ≤ lx ∧ i = .int .i64 k ∧ Hid (Own wr w3.heap.size g lb capc ds) ∧ Hid (Mix xb xx p k ds) ∧ Below w3.heap.size w3 wr) (fun i _ => lx - (intOf i).toNat)
            case atStart => exact ⟨0, xb, by omega, rfl, HO, Mix.start xb xx p HB.out.byte, hb6⟩
            case round =>
              obtain ⟨k, ds, hk, rfl, HD, HM, hnx⟩ := hrel
              by_cases hlt : k < lx
              · obtain ⟨bx, ox, rfl, kx, cx0⟩ := HX.out.at (by omega)
                have cx := (hnx.cell (p := ⟨bx, ox + k, none⟩) kx).trans (cx0 k hlt)
                have cd := HD.out.cell (p + k) (by omega)
                have fd := HD.out.frozen (p + k)
                rw [List.getD_eq_getElem?_getD] at cx cd
                have rx := HX.out.byteAt k
                have rd : 0 ≤ ds[p + k]?.getD 0 ∧ ds[p + k]?.getD 0 ≤ 255 := getD_byte HM.out.2.1 (p + k)
                obtain ⟨y, hy, HY, ey⟩ := xor_spelt rd rx
                have HM2 : Hid (Mix xb xx p (k + 1) (ds.set (p + k) (y : Int))) := HM.out.next (by rw [HB.out.size]; omega) y HY.out hy
                have HD2 : Hid (Own (wr.setCell ⟨g, p + k, none⟩ (.int .u8 (y : Int))) w3.heap.size g lb capc (ds.set (p + k) (y : Int))) := HD.out.set (p + k) _
                have hw : IntKind.i64.wrap ((p : Int) + (k : Int)) = (p : Int) + (k : Int) := by rw [IntKind.wrap_i64]; omega
                have hwn : ((p : Int) + (k : Int)).toNat = p + k := by omega
                clear cx0 HY HM
                generalize xx[k]?.getD 0 = vx at *
                generalize ds[p + k]?.getD 0 = vd at *
                go_wp2_with fail
                go_region
                go_wp2
                go_roundw
                case rel => exact ⟨k + 1, ds.set (p + k) (y : Int), by omega, by go_num, HD2, HM2, (hnx.setCell hgb _).drew⟩
                case measure => simp [intOf]; omega
              · have hkl : k = xx.length := by rw [HX.out.size]; omega
                have hM : Mix xb xx p xx.length ds := by rw [← hkl]; exact HM.out
                have hne := hM.sums (by rw [HX.out.size, HB.out.size]; exact hp) (by rw [HX.out.size]; exact hlx) HX.out.byte HQ'.out.symm
                obtain ⟨A, C, hAC, QA, QC⟩ : ∃ A C : Nat, A ≠ C ∧ Hid (Calls Tryd.prog 9 #[.slice a0 lb cap0] wr fun e w' => e = .returned (.int .u32 A) ∧ w' = wr) ∧ Hid (Calls Tryd.prog 9 #[.slice (some ⟨g, 0, none⟩) lb capc] wr fun e w' => e = .returned (.int .u32 C) ∧ w' = wr) :=
                  ⟨_, _, hne, sum_calls _ _ _ _ _ (HT1.out.below hnx) (HB.out.below hnx), sum_calls _ _ _ _ _ (HT1.out.below hnx) (HD.out.seg hM.2.1)⟩
                have hd : ((A : Int) != (C : Int)) = true := by rw [bne_iff_ne]; omega
                clear hkl hM hne HM HD HX HB HT1 HQ'
                go_wp2_with fail
                refine QA.out.mono ?_
                rintro e w7 ⟨rfl, rfl⟩
                go_wp2_with fail
                refine QC.out.mono ?_
                rintro e w8 ⟨rfl, rfl⟩
                go_wp2
                go_ret
                exact ⟨rfl, below_step hb1 hnx⟩

set_option maxRecDepth 100000 in
theorem lifted (os : Os) (started : os.Started) (H : Type) (enc : TypeId × Value → H) :
    ReturnsInHanded {} Tryd.checked os 4 .any (fun w args => (Rows.crcBurstSpec.pre enc Tryd.prog Tryd.f4 [] false w args ∧ laidMetH Tryd.prog laid1 w) ∧ sizedMet enc Tryd.prog Tryd.f4 (OpenSpec.ofChange Rows.crcBurstSpec) false w args) (Rows.crcBurstSpec.post enc Tryd.prog Tryd.f4 false true false false) := by
  refine returnsInHanded_of_change_and (C := Tryd.checked) (X := fun w _ => laidMetH Tryd.prog laid1 w) (fun _ _ _ hh h => h.of_heap hh) own started (by kernel_rfl) Tryd.func4
    (ChangeSpec.witness_shaped (enc := enc) (C := Tryd.checked) (os := os) (X := fun w _ => laidMetH Tryd.prog laid1 w) false (World.doorLaid Tryd.prog 14 os) #[.slice none 0 0, .int .i64 0, .slice none 0 0] 8 rfl (World.shaped_of_RefB (by kernel_rfl) (by kernel_rfl)) (by kernel_rfl) (by kernel_rfl) (by kernel_rfl) (door_met os _)) ?_
  intro W base args ds gs before hval0 hW _ _ hL _
  have hval : ∀ (j : Nat) t v, Tryd.f4.params[j]? = some t → args[j]? = some v → Value.okWide Tryd.prog W .any base t v := hval0
  have hW' := hW
  obtain ⟨p, q, hA0, hV, rfl, _, _⟩ := hW
  have hA : DataW.TrodAll enc Tryd.prog W 0 (fun _ => true) true Tryd.f4.params.toList args.toList ds p := hA0
  rw [Tryd.params4] at hA hval
  obtain ⟨v0, vs0, d0, ds0, p0, q0, _, rfl, rfl, h0, r0⟩ := trodAll_cons hA
  obtain ⟨v1, vs1, d1, ds1, p1, q1, rfl, rfl, rfl, h1, r1⟩ := trodAll_cons r0
  obtain ⟨v2, vs2, d2, ds2, p2, q2, rfl, rfl, rfl, h2, r2⟩ := trodAll_cons r1
  obtain ⟨rfl, rfl, rfl⟩ := trodAll_nil r2
  obtain rfl : args = #[v0, v1, v2] := by cases args; simp_all
  obtain ⟨rfl, rfl⟩ := trodVars_none hV
  obtain ⟨a0, len0, cap0, rfl⟩ := okWide_slice Tryd.underlying22 (hval 0 22 v0 rfl rfl)
  have k0 := h0
  have lt0 : ∀ x ∈ p0, x.block < W.heap.size := by obtain ⟨m, hm⟩ := k0; exact DataW.trod_lt m _ _ _ hm
  obtain ⟨z0, w0⟩ : ∃ zs, IsRow .u8 W a0 len0 cap0 zs := by
    obtain ⟨fuel, hf⟩ := h0
    rcases open_ints Tryd.underlying22 Tryd.underlying5 (by kernel_rfl) hf with ⟨hcs, _⟩ | ⟨x, l, c, zs, hcs, _, hl, hm, hz, _, hcell, hwz⟩
    · simp [Value.cells] at hcs
      obtain ⟨rfl, rfl, rfl⟩ := hcs
      exact ⟨[], .inl ⟨rfl, rfl, rfl, rfl⟩⟩
    · simp [Value.cells] at hcs
      obtain ⟨rfl, rfl, rfl⟩ := hcs
      exact ⟨zs, .inr ⟨_, rfl, hl, hm, by simpa using hz, hcell, hwz⟩⟩
  obtain ⟨a1, rfl, rfl, rfl, w1⟩ := open_int Tryd.underlying3 (hval 1 3 v1 rfl rfl) h1
  obtain ⟨a2, len2, cap2, rfl⟩ := okWide_slice Tryd.underlying22 (hval 2 22 v2 rfl rfl)
  have k2 := h2
  have lt2 : ∀ x ∈ p2, x.block < W.heap.size := by obtain ⟨m, hm⟩ := k2; exact DataW.trod_lt m _ _ _ hm
  obtain ⟨z2, w2⟩ : ∃ zs, IsRow .u8 W a2 len2 cap2 zs := by
    obtain ⟨fuel, hf⟩ := h2
    rcases open_ints Tryd.underlying22 Tryd.underlying5 (by kernel_rfl) hf with ⟨hcs, _⟩ | ⟨x, l, c, zs, hcs, _, hl, hm, hz, _, hcell, hwz⟩
    · simp [Value.cells] at hcs
      obtain ⟨rfl, rfl, rfl⟩ := hcs
      exact ⟨[], .inl ⟨rfl, rfl, rfl, rfl⟩⟩
    · simp [Value.cells] at hcs
      obtain ⟨rfl, rfl, rfl⟩ := hcs
      exact ⟨zs, .inr ⟨_, rfl, hl, hm, by simpa using hz, hcell, hwz⟩⟩
  clear hA0 hval0
  refine (walk a0 len0 cap0 z0 a1 a2 len2 cap2 z2 W (halves_of_laid hL) w0 w1 w2).mono fun e W' ⟨he, bel⟩ => ?_
  subst he
  exact ⟨_, rfl, _, _, _, [], _, [], hW', trodAll_mk1 (shut_bool Tryd.underlying4 _), (trodAll_cons_mk (Below.trod laidOut (by kernel_rfl) (of_decide_eq_true (by kernel_rfl)) k0 bel lt0) (trodAll_cons_mk (shut_int Tryd.underlying3 w1) (trodAll_cons_mk (Below.trod laidOut (by kernel_rfl) (of_decide_eq_true (by kernel_rfl)) k2 bel lt2) trodAll_mk0))), rfl, bel.frame _, fun h => by cases h⟩

theorem over : Rows.crcBurstRow.holds Tryd.pinned (OpenSpec.ofChange Rows.crcBurstSpec) :=
  OpenClaim.holds_of_wide 4 Tryd.f4 rfl rfl rfl rfl rfl rfl rfl ⟨rfl, rfl, rfl, rfl, rfl⟩ rfl rfl rfl rfl rfl (by kernel_rfl) Tryd.func4 (by kernel_rfl)
    (of_decide_eq_true (by kernel_rfl)) (by unfold Func.isWrapper; first | (rw [if_pos (by decide +kernel)]; kernel_rfl) | (rw [if_neg (by decide +kernel)]; exact ⟨rfl, rfl⟩))
    (fun os started H enc _ => lifted os started H enc)

theorem card : Claim7.holds Tryd.pinned (.plain (OpenSpec.ofChange Rows.crcBurstSpec)) Rows.crcBurstCard :=
  Claim7.holds_tied_plain_at .later [] [.data] true (true, "e111734ee0cb1f99caac90c19df38d519963965ec146610dc82e69c7a463c769") false
    over (fun _ h => by cases h) (by kernel_rfl) (fun _ h => by cases h) crcBurst_row_tie rfl ⟨rfl, rfl⟩ (by kernel_rfl) rfl
    (fun f fn hf hfn => by
      obtain rfl : f = 4 := Option.some.inj ((show Tryd.prog.funcNamed "donatus/donatuslaw2.CrcBurst" = some 4 by kernel_rfl).symm.trans hf) |>.symm
      obtain rfl : fn = Tryd.f4 := (Option.some.inj (Tryd.func4.symm.trans hfn)).symm
      exact ⟨by kernel_rfl, fun j t ht => by
        rw [Tryd.params4] at ht
        have hm : t ∈ [22, 3, 22] := by simpa using Array.mem_of_getElem? ht
        have hall : ([22, 3, 22].all fun u => !Tryd.prog.wantsStandIn u) = true := by kernel_rfl
        exact (show Tryd.prog.wantsStandIn t = false by simpa using List.all_eq_true.1 hall t hm)⟩)
    (by kernel_rfl)

end Go.Proofs.YtfglfdpmhpnmmaaDoor.Burst
namespace Go.Proofs.YtfglfdpmhpnmmaaDoor
theorem crcBurst_holds : Rows.CrcBurstCardSaid := Burst.card
#print axioms crcBurst_holds
end Go.Proofs.YtfglfdpmhpnmmaaDoor
