/-
  WellAll: whatever the grammar, the program's Of and the reference's tell the same number and the same Spec, so the call returns true and leaves all that was there as it was; its conditions are those of the row: a grammar that lies in memory as Go lays it, and the five tables as the program lays them.
-/
import Derived.Test.YtebehlmidoencaaGreatDoorOwn13
import Derived.Test.YtebehlmidoencaaGreatDoorCards
import Derived.Test.YtebehlmidoencaaGreatDoorTie
import Derived.OpenShut
import Derived.ShutString
import Derived.ChangeOld
import Derived.Below
import Derived.SevenTiedAt
/-
  WellAll: whatever the grammar, the call returns true and leaves all that was there as it was.
-/
namespace Go.Proofs.YtebehlmidoencaaGreatDoor.All
open Go.RowKit

set_option maxHeartbeats 8000000 in
set_option maxRecDepth 20000 in
theorem walk (h : Hd) (G : Gm) (w : World) (hp : Pow w) (hG : RawG w h G) : Calls Tryz.prog 3 #[gv h G] w fun e w' => e = .returned (.bool true) ∧ Below w.heap.size w w' := by
  obtain ⟨ta, tc, ra, rc⟩ := h
  obtain ⟨k, hk⟩ := ofR_ex (cutG G)
  have HK : Hid (OfR (cutG G) k) := hk
  have hv : Below w.heap.size w (w.alloc (.cells #[.slice ta G.ts.length tc, .string G.s, .int .i64 G.e, .slice ra G.rs.length rc] 25)) := below_alloc _ _
  have hx : (w.alloc (.cells #[.slice ta G.ts.length tc, .string G.s, .int .i64 G.e, .slice ra G.rs.length rc] 25)).heap[w.heap.size]? = some (.cells #[.slice ta G.ts.length tc, .string G.s, .int .i64 G.e, .slice ra G.rs.length rc] 25 (0, 0)) := heap_alloc_new _ _
  have HR : Hid (RawG (w.alloc (.cells #[.slice ta G.ts.length tc, .string G.s, .int .i64 G.e, .slice ra G.rs.length rc] 25)) ⟨ta, tc, ra, rc⟩ G ∧ Pow (w.alloc (.cells #[.slice ta G.ts.length tc, .string G.s, .int .i64 G.e, .slice ra G.rs.length rc] 25))) := ⟨hG.below hv, hp.below hv⟩
  clear hG hp hk
  unfold gv
  simp only
  obtain ⟨tn, HTN⟩ : ∃ tn, Hid (G.ts.length = tn) := ⟨_, rfl⟩
  obtain ⟨rn, HRN⟩ : ∃ rn, Hid (G.rs.length = rn) := ⟨_, rfl⟩
  rw [HTN.out] at hv hx HR ⊢
  rw [HRN.out] at hv hx HR ⊢
  go_enter Tryz.func3, Tryz.ntmps3
  go_upto_region 1 with fail
  generalize w.alloc (.cells #[.slice ta tn tc, .string G.s, .int .i64 G.e, .slice ra rn rc] 25) = W1 at hv hx HR ⊢
  obtain ⟨nb, HNB⟩ : ∃ nb, Hid (nb = w.heap.size) := ⟨_, rfl⟩
  rw [← HNB.out] at hx ⊢
  have H1 : Hid (Below w.heap.size w W1 ∧ W1.heap[nb]? = some (.cells #[.slice ta tn tc, .string G.s, .int .i64 G.e, .slice ra rn rc] 25 (0, 0))) := ⟨hv, hx⟩
  clear hv hx
  go_wp2_with fail
  refine (begun7_calls W1 HR.out.2).mono ?_
  rintro e V1 ⟨rfl, hB⟩
  have HV1 : Hid (RawG V1 ⟨ta, tc, ra, rc⟩ G ∧ Below w.heap.size w V1 ∧ V1.heap[nb]? = some (.cells #[.slice ta tn tc, .string G.s, .int .i64 G.e, .slice ra rn rc] 25 (0, 0))) := ⟨HR.out.1.below hB, below_step H1.out.1 hB, block_below hB H1.out.2⟩
  clear hB HR H1
  obtain ⟨p0, p1, p2, p3⟩ := box4 HV1.out.2.2
  have HCUT : Hid (Calls Tryz.prog 9 #[.agg #[.slice ta tn tc, .string G.s, .int .i64 G.e, .slice ra rn rc]] V1 fun e w' => ∃ h' qs, e = .returned (gv h' (cutG G)) ∧ OwnG w' V1.heap.size h' (cutG G) qs ∧ Below V1.heap.size V1 w') := by
    have := cutG_calls G ⟨ta, tc, ra, rc⟩ V1 HV1.out.1
    unfold gv at this
    simp only at this
    rw [HTN.out, HRN.out] at this
    exact this
  go_wp2_with fail
  refine HCUT.out.mono ?_
  rintro e V2 ⟨⟨ta2, tc2, ra2, rc2⟩, qs, rfl, ho, hB⟩
  obtain ⟨G', HG'⟩ : ∃ G', Hid (cutG G = G') := ⟨_, rfl⟩
  rw [HG'.out] at ho HK ⊢
  have hsm : Small G' := by rw [← HG'.out]; exact cut_small G
  have hbx := block_below hB HV1.out.2.2
  have hnb : nb < V1.heap.size := (Array.getElem?_eq_some_iff.1 HV1.out.2.2).1
  have HSM : Hid (Small G') := hsm
  have HO : Hid (∀ v0 v1 v2 v3, OwnG (set4 V2 nb v0 v1 v2 v3) V1.heap.size ⟨ta2, tc2, ra2, rc2⟩ G' qs ∧ (set4 V2 nb v0 v1 v2 v3).heap[nb]? = some (.cells #[v0, v1, v2, v3] 25 (0, 0)) ∧ Below w.heap.size w (set4 V2 nb v0 v1 v2 v3)) := fun v0 v1 v2 v3 => ⟨ho.set4 v0 v1 v2 v3 hnb, set4_heap v0 v1 v2 v3 hbx, set4_below v0 v1 v2 v3 (below_step HV1.out.2.1 hB) (Nat.le_of_eq HNB.out.symm)⟩
  obtain ⟨a0, a1, a2, a3, f0, f1, f2, f3⟩ := box_cells hbx
  obtain ⟨tn2, HTN2⟩ : ∃ tn2, Hid (G'.ts.length = tn2) := ⟨_, rfl⟩
  obtain ⟨rn2, HRN2⟩ : ∃ rn2, Hid (G'.rs.length = rn2) := ⟨_, rfl⟩
  unfold gv
  simp only
  rw [HTN2.out, HRN2.out]
  clear ho hsm hbx hnb hB HCUT HV1 p0 p1 p2 p3
  go_upto_region 5 with fail
  have ew : (((V2.setCell ⟨nb, 0, none⟩ (.slice ta2 tn2 tc2)).setCell ⟨nb, 1, none⟩ (.string G'.s)).setCell ⟨nb, 2, none⟩ (.int .i64 G'.e)).setCell ⟨nb, 3, none⟩ (.slice ra2 rn2 rc2) = set4 V2 nb (.slice ta2 tn2 tc2) (.string G'.s) (.int .i64 G'.e) (.slice ra2 rn2 rc2) := rfl
  rw [ew]
  have HO3 := HO.out (.slice ta2 tn2 tc2) (.string G'.s) (.int .i64 G'.e) (.slice ra2 rn2 rc2)
  generalize set4 V2 nb (.slice ta2 tn2 tc2) (.string G'.s) (.int .i64 G'.e) (.slice ra2 rn2 rc2) = V3 at HO3 ⊢
  have H3 : Hid (IsG V3 ⟨ta2, tc2, ra2, rc2⟩ G' ∧ V3.heap[nb]? = some (.cells #[.slice ta2 tn2 tc2, .string G'.s, .int .i64 G'.e, .slice ra2 rn2 rc2] 25 (0, 0)) ∧ Below w.heap.size w V3) := ⟨HO3.1.isG HSM.out, HO3.2.1, HO3.2.2⟩
  clear HO HO3 a0 a1 a2 a3 f0 f1 f2 f3 ew
  obtain ⟨p0, p1, p2, p3⟩ := box4 H3.out.2.1
  obtain ⟨S, HS⟩ : ∃ S, Hid (spK G' k = S) := ⟨_, rfl⟩
  have HEQ : Hid (∀ (h1 h2 : SHd) (V : World), IsSp V h1 S → IsSp V h2 S → Calls Tryz.prog 12 #[.agg (sC h1 S), .agg (sC h2 S)] V fun e w' => e = .returned (.bool true) ∧ Below V.heap.size V w') := fun h1 h2 V s1 s2 => by
    rw [← HS.out] at s1 s2 ⊢
    exact eq_uni G' HSM.out k h1 h2 V s1 s2
  have HOF : Hid (∀ V : World, IsG V ⟨ta2, tc2, ra2, rc2⟩ G' → Calls Tryz.prog 10 #[.agg #[.slice ta2 tn2 tc2, .string G'.s, .int .i64 G'.e, .slice ra2 rn2 rc2]] V fun e w' => ∃ h', e = .returned (.tuple #[.agg (sC h' S), .int .i64 k]) ∧ IsSp w' h' S ∧ Below V.heap.size V w') := fun V hV => by
    have := of_uni G' ⟨ta2, tc2, ra2, rc2⟩ V k hV HK.out
    unfold gv at this
    simp only at this
    rw [HTN2.out, HRN2.out, HS.out] at this
    exact this
  have HRF : Hid (∀ V : World, IsG V ⟨ta2, tc2, ra2, rc2⟩ G' → Calls Tryz.prog 11 #[.agg #[.slice ta2 tn2 tc2, .string G'.s, .int .i64 G'.e, .slice ra2 rn2 rc2]] V fun e w' => ∃ h', e = .returned (.tuple #[.agg (sC h' S), .int .i64 k]) ∧ IsSp w' h' S ∧ Below V.heap.size V w') := fun V hV => by
    have := rof_uni G' ⟨ta2, tc2, ra2, rc2⟩ V k hV HK.out
    unfold gv at this
    simp only at this
    rw [HTN2.out, HRN2.out, HS.out] at this
    exact this
  go_wp2_with fail
  refine (HOF.out _ H3.out.1).mono ?_
  rintro e V4 ⟨h1, rfl, hs1, hB4⟩
  have hv : Below V4.heap.size V4 (V4.alloc (.cells (sC h1 S) 32)) := below_alloc _ _
  have H4 : Hid (IsG (V4.alloc (.cells (sC h1 S) 32)) ⟨ta2, tc2, ra2, rc2⟩ G' ∧ (V4.alloc (.cells (sC h1 S) 32)).heap[nb]? = some (.cells #[.slice ta2 tn2 tc2, .string G'.s, .int .i64 G'.e, .slice ra2 rn2 rc2] 25 (0, 0)) ∧ Below w.heap.size w (V4.alloc (.cells (sC h1 S) 32)) ∧ IsSp (V4.alloc (.cells (sC h1 S) 32)) h1 S ∧ (V4.alloc (.cells (sC h1 S) 32)).heap[V4.heap.size]? = some (.cells (sC h1 S) 32 (0, 0))) := ⟨(H3.out.1.below hB4).below hv, block_below hv (block_below hB4 H3.out.2.1), below_step (below_step H3.out.2.2 hB4) hv, hs1.below hv, heap_alloc_new _ _⟩
  clear hs1 hB4 hv H3 p0 p1 p2 p3 HOF
  unfold sC at HEQ HRF
  unfold sC
  go_upto_region 6 with fail
  have e4 : V4.alloc (.cells #[.int .i64 (S.tk : Int), .int .i64 (S.nt : Int), .int .i64 (S.st : Int), .int .i64 S.ex, .slice h1.na S.nm.length h1.nc, .slice h1.la S.lv.length h1.lc, .slice h1.aa S.az.length h1.ac, .slice h1.ra S.rs.length h1.rc] 32) = V4.alloc (.cells (sC h1 S) 32) := rfl
  rw [e4]
  generalize V4.alloc (.cells (sC h1 S) 32) = V5 at H4 ⊢
  generalize V4.heap.size = b1 at H4 ⊢
  clear e4
  obtain ⟨p0, p1, p2, p3⟩ := box4 H4.out.2.1
  go_wp2_with fail
  refine (HRF.out _ H4.out.1).mono ?_
  rintro e V6 ⟨h2, rfl, hs2, hB6⟩
  have hv : Below V6.heap.size V6 (V6.alloc (.cells (sC h2 S) 32)) := below_alloc _ _
  have H6 : Hid (Below w.heap.size w (V6.alloc (.cells (sC h2 S) 32)) ∧ IsSp (V6.alloc (.cells (sC h2 S) 32)) h1 S ∧ (V6.alloc (.cells (sC h2 S) 32)).heap[b1]? = some (.cells (sC h1 S) 32 (0, 0)) ∧ IsSp (V6.alloc (.cells (sC h2 S) 32)) h2 S ∧ (V6.alloc (.cells (sC h2 S) 32)).heap[V6.heap.size]? = some (.cells (sC h2 S) 32 (0, 0))) := ⟨below_step (below_step H4.out.2.2.1 hB6) hv, (H4.out.2.2.2.1.below hB6).below hv, block_below hv (block_below hB6 H4.out.2.2.2.2), hs2.below hv, heap_alloc_new _ _⟩
  clear hs2 hB6 hv H4 p0 p1 p2 p3 HRF
  go_upto_region 7 with fail
  have e6 : V6.alloc (.cells #[.int .i64 (S.tk : Int), .int .i64 (S.nt : Int), .int .i64 (S.st : Int), .int .i64 S.ex, .slice h2.na S.nm.length h2.nc, .slice h2.la S.lv.length h2.lc, .slice h2.aa S.az.length h2.ac, .slice h2.ra S.rs.length h2.rc] 32) = V6.alloc (.cells (sC h2 S) 32) := rfl
  rw [e6]
  generalize V6.alloc (.cells (sC h2 S) 32) = V7 at H6 ⊢
  generalize V6.heap.size = b2 at H6 ⊢
  clear e6
  obtain ⟨c0, c1, c2, c3, c4, c5, c6, c7⟩ := sbox H6.out.2.2.1
  obtain ⟨d0, d1, d2, d3, d4, d5, d6, d7⟩ := sbox H6.out.2.2.2.2
  go_wp2_with fail
  refine (HEQ.out h1 h2 _ H6.out.2.1 H6.out.2.2.2.1).mono ?_
  rintro e V8 ⟨rfl, hB8⟩
  have HE : Hid (Below w.heap.size w V8) := below_step H6.out.1 hB8
  clear hB8 H6 c0 c1 c2 c3 c4 c5 c6 c7 d0 d1 d2 d3 d4 d5 d6 d7
  go_wp2_with fail
  go_ret
  exact ⟨rfl, HE.out⟩

end Go.Proofs.YtebehlmidoencaaGreatDoor.All

/-
  WellAll: whatever the grammar, the program's Of and the reference's tell the same number and the same Spec, so the call returns true and leaves all that was there as it was; its conditions are those of the row: a grammar that lies in memory as Go lays it, and the five tables as the program lays them.
-/
namespace Go.Proofs.YtebehlmidoencaaGreatDoor.All
open Go.ChangeShapes Go.WideShapes Go.ChangeAt Go.RowKit
open Go.ChangeMaps (open_string shut_string)

set_option maxRecDepth 100000 in
theorem lifted (os : Os) (started : os.Started) (H : Type) (enc : TypeId × Value → H) :
    ReturnsInHanded {} Tryz.checked os 3 .any (fun w args => (Rows.wellAllSpec.pre enc Tryz.prog Tryz.f3 [] false w args ∧ laidMetH Tryz.prog laid5 w) ∧ sizedMet enc Tryz.prog Tryz.f3 (OpenSpec.ofChange Rows.wellAllSpec) false w args) (Rows.wellAllSpec.post enc Tryz.prog Tryz.f3 false true false false) := by
  refine returnsInHanded_of_change_and (C := Tryz.checked) (X := fun w _ => laidMetH Tryz.prog laid5 w) (fun _ _ _ hh h => h.of_heap hh) own started (by kernel_rfl) Tryz.func3
    (ChangeSpec.witness_shaped (enc := enc) (C := Tryz.checked) (os := os) (X := fun w _ => laidMetH Tryz.prog laid5 w) false (World.doorLaid Tryz.prog 97 os) #[.agg #[.slice none 0 0, .string ⟨#[]⟩, .int .i64 0, .slice none 0 0]] 8 rfl (World.shaped_of_RefB (by kernel_rfl) (by kernel_rfl)) (by kernel_rfl) (by kernel_rfl) (by kernel_rfl) (door_met os _)) ?_
  intro W base args ds gs before hval0 hW _ _ hL _
  have hval : ∀ (j : Nat) t v, Tryz.f3.params[j]? = some t → args[j]? = some v → Value.okWide Tryz.prog W .any base t v := hval0
  have hW' := hW
  obtain ⟨p, q, hA0, hV, rfl, _, _⟩ := hW
  have hA : DataW.TrodAll enc Tryz.prog W 0 (fun _ => true) true Tryz.f3.params.toList args.toList ds p := hA0
  rw [Tryz.params3] at hA hval
  obtain ⟨v0, vs0, d0, ds0, p0, q0, _, rfl, rfl, h0, r0⟩ := trodAll_cons hA
  obtain ⟨rfl, rfl, rfl⟩ := trodAll_nil r0
  obtain rfl : args = #[v0] := by cases args; simp_all
  obtain ⟨rfl, rfl⟩ := trodVars_none hV
  have k0 := h0
  have lt0 : ∀ x ∈ p0, x.block < W.heap.size := by obtain ⟨m, hm⟩ := k0; exact DataW.trod_lt m _ _ _ hm
  obtain ⟨H0, G0, rfl, raw0⟩ := open_gram (hval 0 25 v0 rfl rfl) h0
  clear hA0 hval0
  simp only [List.append_nil] at hW'
  refine (walk H0 G0 W (pow_of_laid hL) raw0 ).mono fun e W' ⟨he, bel⟩ => ?_
  subst he
  exact ⟨_, rfl, _, _, _, [], _, [], hW', trodAll_mk1 (shut_bool Tryz.underlying4 _), (trodAll_cons_mk (Below.trod laidOut (by kernel_rfl) (of_decide_eq_true (by kernel_rfl)) k0 bel lt0) trodAll_mk0), rfl, bel.frame _, fun h => by cases h⟩

theorem over : Rows.wellAllRow.holds Tryz.pinned (OpenSpec.ofChange Rows.wellAllSpec) :=
  OpenClaim.holds_of_wide 3 Tryz.f3 rfl rfl rfl rfl rfl rfl rfl ⟨rfl, rfl, rfl, rfl, rfl⟩ rfl rfl rfl rfl rfl (by kernel_rfl) Tryz.func3 (by kernel_rfl)
    (of_decide_eq_true (by kernel_rfl)) (by unfold Func.isWrapper; first | (rw [if_pos (by decide +kernel)]; kernel_rfl) | (rw [if_neg (by decide +kernel)]; exact ⟨rfl, rfl⟩))
    (fun os started H enc _ => lifted os started H enc)

theorem card : Claim7.holds Tryz.pinned (.plain (OpenSpec.ofChange Rows.wellAllSpec)) Rows.wellAllCard :=
  Claim7.holds_tied_plain_at .later [] [.data, .data, .data, .sentinel, .sentinel] true (true, "08a893462700bd46a194e27f97dd7829a9dfa3398a209d6b1c2ae5fb9c9a65e3") true
    over (fun _ h => by cases h) (by kernel_rfl) (fun _ h => by cases h) wellAll_row_tie rfl ⟨rfl, rfl⟩ (by kernel_rfl) rfl
    (fun f fn hf hfn => by
      obtain rfl : f = 3 := Option.some.inj ((show Tryz.prog.funcNamed "donatus/donatuslaw7.WellAll" = some 3 by kernel_rfl).symm.trans hf) |>.symm
      obtain rfl : fn = Tryz.f3 := (Option.some.inj (Tryz.func3.symm.trans hfn)).symm
      exact ⟨by kernel_rfl, fun j t ht => by
        rw [Tryz.params3] at ht
        have hm : t ∈ [25] := by simpa using Array.mem_of_getElem? ht
        have hall : ([25].all fun u => !Tryz.prog.wantsStandIn u) = true := by kernel_rfl
        exact (show Tryz.prog.wantsStandIn t = false by simpa using List.all_eq_true.1 hall t hm)⟩)
    (by kernel_rfl)

end Go.Proofs.YtebehlmidoencaaGreatDoor.All
namespace Go.Proofs.YtebehlmidoencaaGreatDoor
theorem wellAll_holds : Rows.WellAllCardSaid := All.card
#print axioms wellAll_holds
end Go.Proofs.YtebehlmidoencaaGreatDoor
