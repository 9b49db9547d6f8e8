/-
  WellSets: whatever the grammar, what yields something and what is reached are told alike by the program and by the reference, so the call returns true and leaves all that was there as it was; its conditions are those of the row: a grammar that lies in memory as Go lays it, and the five tables as the program lays them.
-/
import Derived.Test.YtebehlmidoencaaGreatDoorOwn13
import Derived.Test.YtebehlmidoencaaGreatDoorCards
import Derived.Test.YtebehlmidoencaaGreatDoorTie
import Derived.OpenShut
import Derived.ShutString
import Derived.ChangeOld
import Derived.Below
import Derived.SevenTiedAt
/-
  WellSets: whatever the grammar, the call returns true and leaves all that was there as it was.
-/
namespace Go.Proofs.YtebehlmidoencaaGreatDoor.Sets
open Go.RowKit

theorem wf_of {G : Gm} {k : Int} (hk : OfR G k) (h0 : k = 0) : WF (spK G k) := by
  unfold spK
  rw [if_pos h0]
  rcases hk with e | e | e | e | e
  · omega
  · omega
  · omega
  · omega
  · exact spG_wf e.2.1 e.2.2.1 e.2.2.2.1

set_option maxHeartbeats 8000000 in
set_option maxRecDepth 20000 in
theorem walk (h : Hd) (G : Gm) (w : World) (hp : Pow w) (hG : RawG w h G) : Calls Tryz.prog 4 #[gv h G] w fun e w' => e = .returned (.bool true) ∧ Below w.heap.size w w' := by
  obtain ⟨ta, tc, ra, rc⟩ := h
  obtain ⟨k, hk⟩ := ofR_ex (cutG G)
  have HK : Hid (OfR (cutG G) k) := hk
  have hv : Below w.heap.size w (w.alloc (.cells #[.slice ta G.ts.length tc, .string G.s, .int .i64 G.e, .slice ra G.rs.length rc] 25)) := below_alloc _ _
  have hx : (w.alloc (.cells #[.slice ta G.ts.length tc, .string G.s, .int .i64 G.e, .slice ra G.rs.length rc] 25)).heap[w.heap.size]? = some (.cells #[.slice ta G.ts.length tc, .string G.s, .int .i64 G.e, .slice ra G.rs.length rc] 25 (0, 0)) := heap_alloc_new _ _
  have HR : Hid (RawG (w.alloc (.cells #[.slice ta G.ts.length tc, .string G.s, .int .i64 G.e, .slice ra G.rs.length rc] 25)) ⟨ta, tc, ra, rc⟩ G ∧ Pow (w.alloc (.cells #[.slice ta G.ts.length tc, .string G.s, .int .i64 G.e, .slice ra G.rs.length rc] 25))) := ⟨hG.below hv, hp.below hv⟩
  clear hG hp hk
  unfold gv
  simp only
  obtain ⟨tn, HTN⟩ : ∃ tn, Hid (G.ts.length = tn) := ⟨_, rfl⟩
  obtain ⟨rn, HRN⟩ : ∃ rn, Hid (G.rs.length = rn) := ⟨_, rfl⟩
  rw [HTN.out] at hv hx HR ⊢
  rw [HRN.out] at hv hx HR ⊢
  go_enter Tryz.func4, Tryz.ntmps4
  go_upto_region 1 with fail
  generalize w.alloc (.cells #[.slice ta tn tc, .string G.s, .int .i64 G.e, .slice ra rn rc] 25) = W1 at hv hx HR ⊢
  obtain ⟨nb, HNB⟩ : ∃ nb, Hid (nb = w.heap.size) := ⟨_, rfl⟩
  rw [← HNB.out] at hx ⊢
  have H1 : Hid (Below w.heap.size w W1 ∧ W1.heap[nb]? = some (.cells #[.slice ta tn tc, .string G.s, .int .i64 G.e, .slice ra rn rc] 25 (0, 0))) := ⟨hv, hx⟩
  clear hv hx
  go_wp2_with fail
  refine (begun7_calls W1 HR.out.2).mono ?_
  rintro e V1 ⟨rfl, hB⟩
  have HV1 : Hid (RawG V1 ⟨ta, tc, ra, rc⟩ G ∧ Below w.heap.size w V1 ∧ V1.heap[nb]? = some (.cells #[.slice ta tn tc, .string G.s, .int .i64 G.e, .slice ra rn rc] 25 (0, 0))) := ⟨HR.out.1.below hB, below_step H1.out.1 hB, block_below hB H1.out.2⟩
  clear hB HR H1
  obtain ⟨p0, p1, p2, p3⟩ := box4 HV1.out.2.2
  have HCUT : Hid (Calls Tryz.prog 9 #[.agg #[.slice ta tn tc, .string G.s, .int .i64 G.e, .slice ra rn rc]] V1 fun e w' => ∃ h' qs, e = .returned (gv h' (cutG G)) ∧ OwnG w' V1.heap.size h' (cutG G) qs ∧ Below V1.heap.size V1 w') := by
    have := cutG_calls G ⟨ta, tc, ra, rc⟩ V1 HV1.out.1
    unfold gv at this
    simp only at this
    rw [HTN.out, HRN.out] at this
    exact this
  go_wp2_with fail
  refine HCUT.out.mono ?_
  rintro e V2 ⟨⟨ta2, tc2, ra2, rc2⟩, qs, rfl, ho, hB⟩
  have H2 : Hid (IsG V2 ⟨ta2, tc2, ra2, rc2⟩ (cutG G) ∧ Below w.heap.size w V2) := ⟨ho.isG (cut_small G), below_step HV1.out.2.1 hB⟩
  clear ho hB HCUT HV1 p0 p1 p2 p3
  have HRF : Hid (Calls Tryz.prog 11 #[gv ⟨ta2, tc2, ra2, rc2⟩ (cutG G)] V2 fun e w' => ∃ h', e = .returned (.tuple #[.agg (sC h' (spK (cutG G) k)), .int .i64 k]) ∧ IsSp w' h' (spK (cutG G) k) ∧ Below V2.heap.size V2 w') := rof_uni (cutG G) ⟨ta2, tc2, ra2, rc2⟩ V2 k H2.out.1 HK.out
  have HWF : Hid (k = 0 → WF (spK (cutG G) k)) := wf_of HK.out
  generalize spK (cutG G) k = S at HRF HWF
  generalize gv ⟨ta2, tc2, ra2, rc2⟩ (cutG G) = gg at HRF ⊢
  go_wp2_with fail
  refine HRF.out.mono ?_
  rintro e V4 ⟨h1, rfl, hs1, hB4⟩
  have hv : Below V4.heap.size V4 (V4.alloc (.cells (sC h1 S) 32)) := below_alloc _ _
  have H4 : Hid (Below w.heap.size w (V4.alloc (.cells (sC h1 S) 32)) ∧ IsSp (V4.alloc (.cells (sC h1 S) 32)) h1 S ∧ (V4.alloc (.cells (sC h1 S) 32)).heap[V4.heap.size]? = some (.cells (sC h1 S) 32 (0, 0))) := ⟨below_step (below_step H2.out.2 hB4) hv, hs1.below hv, heap_alloc_new _ _⟩
  clear hs1 hB4 hv H2 HRF
  unfold sC
  go_upto_region 5 with fail
  have e4 : V4.alloc (.cells #[.int .i64 (S.tk : Int), .int .i64 (S.nt : Int), .int .i64 (S.st : Int), .int .i64 S.ex, .slice h1.na S.nm.length h1.nc, .slice h1.la S.lv.length h1.lc, .slice h1.aa S.az.length h1.ac, .slice h1.ra S.rs.length h1.rc] 32) = V4.alloc (.cells (sC h1 S) 32) := rfl
  rw [e4]
  generalize V4.alloc (.cells (sC h1 S) 32) = V5 at H4 ⊢
  generalize V4.heap.size = b1 at H4 ⊢
  clear e4
  by_cases h0 : k = 0
  · have HC : Hid (Calls Tryz.prog 13 #[.agg (sC h1 S)] V5 fun e w' => e = .returned (.bool true) ∧ Below V5.heap.size V5 w') := sets_calls V5 h1 S (HWF.out h0) H4.out.2.1
    unfold sC at HC
    subst h0
    obtain ⟨c0, c1, c2, c3, c4, c5, c6, c7⟩ := sbox H4.out.2.2
    go_wp2_with fail
    refine HC.out.mono ?_
    rintro e V8 ⟨rfl, hB8⟩
    have HE : Hid (Below w.heap.size w V8) := below_step H4.out.1 hB8
    clear hB8 H4 c0 c1 c2 c3 c4 c5 c6 c7
    go_wp2_with fail
    go_ret
    exact ⟨rfl, HE.out⟩
  · have h0' : (k == 0) = false := by simp [h0]
    go_wp2_with fail
    go_ret
    exact ⟨rfl, H4.out.1⟩

end Go.Proofs.YtebehlmidoencaaGreatDoor.Sets

/-
  WellSets: whatever the grammar, what yields something and what is reached are told alike by the program and by the reference, so the call returns true and leaves all that was there as it was; its conditions are those of the row: a grammar that lies in memory as Go lays it, and the five tables as the program lays them.
-/
namespace Go.Proofs.YtebehlmidoencaaGreatDoor.Sets
open Go.ChangeShapes Go.WideShapes Go.ChangeAt Go.RowKit
open Go.ChangeMaps (open_string shut_string)

set_option maxRecDepth 100000 in
theorem lifted (os : Os) (started : os.Started) (H : Type) (enc : TypeId × Value → H) :
    ReturnsInHanded {} Tryz.checked os 4 .any (fun w args => (Rows.wellSetsSpec.pre enc Tryz.prog Tryz.f4 [] false w args ∧ laidMetH Tryz.prog laid5 w) ∧ sizedMet enc Tryz.prog Tryz.f4 (OpenSpec.ofChange Rows.wellSetsSpec) false w args) (Rows.wellSetsSpec.post enc Tryz.prog Tryz.f4 false true false false) := by
  refine returnsInHanded_of_change_and (C := Tryz.checked) (X := fun w _ => laidMetH Tryz.prog laid5 w) (fun _ _ _ hh h => h.of_heap hh) own started (by kernel_rfl) Tryz.func4
    (ChangeSpec.witness_shaped (enc := enc) (C := Tryz.checked) (os := os) (X := fun w _ => laidMetH Tryz.prog laid5 w) false (World.doorLaid Tryz.prog 97 os) #[.agg #[.slice none 0 0, .string ⟨#[]⟩, .int .i64 0, .slice none 0 0]] 8 rfl (World.shaped_of_RefB (by kernel_rfl) (by kernel_rfl)) (by kernel_rfl) (by kernel_rfl) (by kernel_rfl) (door_met os _)) ?_
  intro W base args ds gs before hval0 hW _ _ hL _
  have hval : ∀ (j : Nat) t v, Tryz.f4.params[j]? = some t → args[j]? = some v → Value.okWide Tryz.prog W .any base t v := hval0
  have hW' := hW
  obtain ⟨p, q, hA0, hV, rfl, _, _⟩ := hW
  have hA : DataW.TrodAll enc Tryz.prog W 0 (fun _ => true) true Tryz.f4.params.toList args.toList ds p := hA0
  rw [Tryz.params4] at hA hval
  obtain ⟨v0, vs0, d0, ds0, p0, q0, _, rfl, rfl, h0, r0⟩ := trodAll_cons hA
  obtain ⟨rfl, rfl, rfl⟩ := trodAll_nil r0
  obtain rfl : args = #[v0] := by cases args; simp_all
  obtain ⟨rfl, rfl⟩ := trodVars_none hV
  have k0 := h0
  have lt0 : ∀ x ∈ p0, x.block < W.heap.size := by obtain ⟨m, hm⟩ := k0; exact DataW.trod_lt m _ _ _ hm
  obtain ⟨H0, G0, rfl, raw0⟩ := open_gram (hval 0 25 v0 rfl rfl) h0
  clear hA0 hval0
  simp only [List.append_nil] at hW'
  refine (walk H0 G0 W (pow_of_laid hL) raw0 ).mono fun e W' ⟨he, bel⟩ => ?_
  subst he
  exact ⟨_, rfl, _, _, _, [], _, [], hW', trodAll_mk1 (shut_bool Tryz.underlying4 _), (trodAll_cons_mk (Below.trod laidOut (by kernel_rfl) (of_decide_eq_true (by kernel_rfl)) k0 bel lt0) trodAll_mk0), rfl, bel.frame _, fun h => by cases h⟩

theorem over : Rows.wellSetsRow.holds Tryz.pinned (OpenSpec.ofChange Rows.wellSetsSpec) :=
  OpenClaim.holds_of_wide 4 Tryz.f4 rfl rfl rfl rfl rfl rfl rfl ⟨rfl, rfl, rfl, rfl, rfl⟩ rfl rfl rfl rfl rfl (by kernel_rfl) Tryz.func4 (by kernel_rfl)
    (of_decide_eq_true (by kernel_rfl)) (by unfold Func.isWrapper; first | (rw [if_pos (by decide +kernel)]; kernel_rfl) | (rw [if_neg (by decide +kernel)]; exact ⟨rfl, rfl⟩))
    (fun os started H enc _ => lifted os started H enc)

theorem card : Claim7.holds Tryz.pinned (.plain (OpenSpec.ofChange Rows.wellSetsSpec)) Rows.wellSetsCard :=
  Claim7.holds_tied_plain_at .later [] [.data, .data, .data, .sentinel, .sentinel] true (true, "08a893462700bd46a194e27f97dd7829a9dfa3398a209d6b1c2ae5fb9c9a65e3") true
    over (fun _ h => by cases h) (by kernel_rfl) (fun _ h => by cases h) wellSets_row_tie rfl ⟨rfl, rfl⟩ (by kernel_rfl) rfl
    (fun f fn hf hfn => by
      obtain rfl : f = 4 := Option.some.inj ((show Tryz.prog.funcNamed "donatus/donatuslaw7.WellSets" = some 4 by kernel_rfl).symm.trans hf) |>.symm
      obtain rfl : fn = Tryz.f4 := (Option.some.inj (Tryz.func4.symm.trans hfn)).symm
      exact ⟨by kernel_rfl, fun j t ht => by
        rw [Tryz.params4] at ht
        have hm : t ∈ [25] := by simpa using Array.mem_of_getElem? ht
        have hall : ([25].all fun u => !Tryz.prog.wantsStandIn u) = true := by kernel_rfl
        exact (show Tryz.prog.wantsStandIn t = false by simpa using List.all_eq_true.1 hall t hm)⟩)
    (by kernel_rfl)

end Go.Proofs.YtebehlmidoencaaGreatDoor.Sets
namespace Go.Proofs.YtebehlmidoencaaGreatDoor
theorem wellSets_holds : Rows.WellSetsCardSaid := Sets.card
#print axioms wellSets_holds
end Go.Proofs.YtebehlmidoencaaGreatDoor
