/-
  GramTurn: whatever the input, the call returns true and leaves all that was there as it was.
-/
import Derived.Test.YtdgadamkiililaaDoorTurnG
import Derived.Test.YtdgadamkiililaaDoorOne
import Derived.Deep.RegionWith
namespace Go.Proofs.YtdgadamkiililaaDoor.Turn
open Go.RowKit

set_option maxHeartbeats 8000000 in
set_option maxRecDepth 20000 in
theorem walk (h : Hd) (G : Gm) (a1 a2 : Int) (a3 : ByteArray) (w : World) (hp : Pow w) (hG : RawG w h G) (hs : a3.size ≤ maxLen) : Calls Tryd.prog 7 #[gv h G, .int .i64 a1, .int .i64 a2, .string a3] w fun e w' => e = .returned (.bool true) ∧ Below w.heap.size w w' := by
  have hs : a3.size ≤ 9223372036854775807 := by unfold maxLen at hs; omega
  obtain ⟨ts, st, ex, rs⟩ := G
  obtain ⟨ta, tc, ra, rc⟩ := h
  unfold gv
  simp only
  have HPW : Hid (Pow w) := hp
  have HR : Hid (∀ V : World, Below (w.alloc (.cells #[.slice ta ts.length tc, .string st, .int .i64 ex, .slice ra rs.length rc] 25)).heap.size (w.alloc (.cells #[.slice ta ts.length tc, .string st, .int .i64 ex, .slice ra rs.length rc] 25)) V → RawG V ⟨ta, tc, ra, rc⟩ ⟨ts, st, ex, rs⟩ ∧ Pow V ∧ Below w.heap.size w V ∧ V.heap[w.heap.size]? = some (.cells #[.slice ta ts.length tc, .string st, .int .i64 ex, .slice ra rs.length rc] 25 (0, 0)) ∧ w.heap.size + 1 ≤ V.heap.size) := fun V hV => by
    have h1 : Below w.heap.size w V := below_step (below_alloc _ _) hV
    exact ⟨hG.below h1, hp.below h1, h1, block_below hV (heap_alloc_new _ _), by have := hV.size; rwa [size_alloc1] at this⟩
  clear hG hp
  generalize etn : ts.length = tn at *
  generalize ern : rs.length = rn at *
  have HE : Hid (ts.length = tn ∧ rs.length = rn) := ⟨etn, ern⟩
  clear etn ern
  go_enter Tryd.func7, Tryd.ntmps7
  go_upto_region 1 with fail
  generalize w.alloc (.cells #[.slice ta tn tc, .string st, .int .i64 ex, .slice ra rn rc] 25) = W at HR ⊢
  obtain ⟨nb, hnb⟩ : ∃ nb, nb = w.heap.size := ⟨_, rfl⟩
  have HN : Hid (nb = w.heap.size) := hnb
  have HR2 : Hid (∀ V : World, Below W.heap.size W V → RawG V ⟨ta, tc, ra, rc⟩ ⟨ts, st, ex, rs⟩ ∧ Pow V ∧ Below w.heap.size w V ∧ V.heap[nb]? = some (.cells #[.slice ta tn tc, .string st, .int .i64 ex, .slice ra rn rc] 25 (0, 0)) ∧ nb + 1 ≤ V.heap.size) := by rw [hnb]; exact HR.out
  rw [← hnb]
  clear hnb HR
  go_wp2_with fail
  refine (begun5_calls W (HR2.out W (Below.refl _ _)).2.1).mono ?_
  rintro e w1 ⟨rfl, hB⟩
  have HB1 : Hid (Below W.heap.size W w1) := hB
  clear hB
  obtain ⟨q0, q1, q2, q3, -⟩ := box_cells (HR2.out _ HB1.out).2.2.2.1
  have CA : Hid (Calls Tryd.prog 9 #[.agg #[.slice ta tn tc, .string st, .int .i64 ex, .slice ra rn rc]] w1 fun e w' => ∃ h' qs, e = .returned (gv h' (cutG ⟨ts, st, ex, rs⟩)) ∧ OwnG w' (nb + 1) h' (cutG ⟨ts, st, ex, rs⟩) qs ∧ Below w1.heap.size w1 w') := by
    have h1 := cutG_calls ⟨ts, st, ex, rs⟩ ⟨ta, tc, ra, rc⟩ w1 (HR2.out w1 HB1.out).1
    unfold gv at h1
    simp only [HE.out.1, HE.out.2] at h1
    refine h1.mono ?_
    rintro e w' ⟨h', qs, rfl, a, b⟩
    exact ⟨h', qs, rfl, a.mono (HR2.out w1 HB1.out).2.2.2.2, b⟩
  obtain ⟨A, hA⟩ : ∃ x, x = cutG ⟨ts, st, ex, rs⟩ := ⟨_, rfl⟩
  have HSM : Hid (Small A) := by rw [hA]; exact cut_small _
  rw [← hA] at CA
  clear hA
  obtain ⟨At, As, Ae, Ar⟩ := A
  unfold gv at CA
  simp only at CA
  go_wp2_with fail
  refine CA.out.mono ?_
  rintro e w2 ⟨⟨pa, pc, pr, pk⟩, qA, rfl, oA, bA⟩
  have HB2 : Hid (Below W.heap.size W w2) := below_step HB1.out bA
  have HOA : Hid (OwnG w2 (nb + 1) ⟨pa, pc, pr, pk⟩ ⟨At, As, Ae, Ar⟩ qA) := oA
  clear q0 q1 q2 q3 oA bA CA
  obtain ⟨q0, q1, q2, q3, q4, q5, q6, q7⟩ := box_cells (HR2.out _ HB2.out).2.2.2.1
  have hn : w.heap.size ≤ nb := Nat.le_of_eq HN.out.symm
  have HA : Hid (OwnG (set4 w2 nb (.slice pa At.length pc) (.string As) (.int .i64 Ae) (.slice pr Ar.length pk)) (nb + 1) ⟨pa, pc, pr, pk⟩ ⟨At, As, Ae, Ar⟩ qA ∧ (set4 w2 nb (.slice pa At.length pc) (.string As) (.int .i64 Ae) (.slice pr Ar.length pk)).heap[nb]? = some (.cells #[.slice pa At.length pc, .string As, .int .i64 Ae, .slice pr Ar.length pk] 25 (0, 0)) ∧ Below w.heap.size w (set4 w2 nb (.slice pa At.length pc) (.string As) (.int .i64 Ae) (.slice pr Ar.length pk))) := ⟨HOA.out.set4 _ _ _ _ (by omega), set4_heap _ _ _ _ (HR2.out _ HB2.out).2.2.2.1, set4_below _ _ _ _ (HR2.out _ HB2.out).2.2.1 hn⟩
  unfold set4 at HA
  generalize ean : At.length = an at *
  generalize eam : Ar.length = am at *
  have HEA : Hid (At.length = an ∧ Ar.length = am) := ⟨ean, eam⟩
  clear ean eam
  go_upto_region 5 with fail
  generalize (((w2.setCell ⟨nb, 0, none⟩ (.slice pa an pc)).setCell ⟨nb, 1, none⟩ (.string As)).setCell ⟨nb, 2, none⟩ (.int .i64 Ae)).setCell ⟨nb, 3, none⟩ (.slice pr am pk) = w3 at HA ⊢
  clear q0 q1 q2 q3 q4 q5 q6 q7 HOA
  -- the first tests
  obtain ⟨g1, hg1⟩ := bool_of (MayP ⟨At, As, Ae, Ar⟩)
  have HG1 : Hid (g1 = true ↔ MayP ⟨At, As, Ae, Ar⟩) := hg1
  have HI : Hid (IsG w3 ⟨pa, pc, pr, pk⟩ ⟨At, As, Ae, Ar⟩) := HA.out.1.isG HSM.out
  have M1 : Hid (Calls Tryd.prog 11 #[.agg #[.slice pa an pc, .string As, .int .i64 Ae, .slice pr am pk]] w3 fun e w' => e = .returned (.bool g1) ∧ Below w3.heap.size w3 w') := by
    have := rmay_calls ⟨At, As, Ae, Ar⟩ ⟨pa, pc, pr, pk⟩ w3 g1 HI.out hg1
    unfold gv at this
    simp only [HEA.out.1, HEA.out.2] at this
    exact this
  clear hg1
  obtain ⟨q0, q1, q2, q3, -⟩ := box_cells HA.out.2.1
  go_wp2_with fail
  refine M1.out.mono ?_
  rintro e w4 ⟨rfl, hB⟩
  have HB4 : Hid (Below w3.heap.size w3 w4) := hB
  clear hB M1 q0 q1 q2 q3
  cases g1
  · go_wp2_with fail
    go_ret
    exact ⟨rfl, below_step HA.out.2.2 HB4.out⟩
  by_cases ha2 : a2 < 0
  · go_wp2_with fail
    go_ret
    exact ⟨rfl, below_step HA.out.2.2 HB4.out⟩
  have NM : Hid (Calls Tryd.prog 17 #[.string a3] w4 fun e w' => e = .returned (.bool (nameOk (by8 a3))) ∧ w' = w4) := rname_big a3 w4 hs
  obtain ⟨g2, hg2⟩ : ∃ g2, g2 = nameOk (by8 a3) := ⟨_, rfl⟩
  have HG2 : Hid (g2 = true ↔ NameP a3) := by rw [hg2]; exact Iff.rfl
  rw [← hg2] at NM
  clear hg2
  go_wp2_with fail
  refine NM.out.mono ?_
  rintro e w4' ⟨rfl, hw⟩
  subst w4'
  clear NM
  cases g2
  · go_wp2_with fail
    go_ret
    exact ⟨rfl, below_step HA.out.2.2 HB4.out⟩
  obtain ⟨at', rfl⟩ := Int.eq_ofNat_of_zero_le (show 0 ≤ a2 by omega)
  have ha3 : ¬ ((at' : Int) < 0) := by omega
  clear ha2
  have CB : Hid (Calls Tryd.prog 9 #[.agg #[.slice pa an pc, .string As, .int .i64 Ae, .slice pr am pk]] w4 fun e w' => ∃ h' qs, e = .returned (gv h' (cutG ⟨At, As, Ae, Ar⟩)) ∧ OwnG w' w4.heap.size h' (cutG ⟨At, As, Ae, Ar⟩) qs ∧ Below w4.heap.size w4 w') := by
    have h1 := cutG_calls ⟨At, As, Ae, Ar⟩ ⟨pa, pc, pr, pk⟩ w4 (HA.out.1.raw.below HB4.out)
    unfold gv at h1
    simp only [HEA.out.1, HEA.out.2] at h1
    exact h1
  obtain ⟨B, hBB⟩ : ∃ x, x = cutG ⟨At, As, Ae, Ar⟩ := ⟨_, rfl⟩
  have HSB : Hid (Small B) := by rw [hBB]; exact cut_small _
  rw [← hBB] at CB
  clear hBB
  obtain ⟨Bt, Bs, Be, Br⟩ := B
  unfold gv at CB
  simp only at CB
  obtain ⟨q0, q1, q2, q3, -⟩ := box_cells (block_below HB4.out HA.out.2.1)
  go_wp2_with fail
  refine CB.out.mono ?_
  rintro e w5 ⟨⟨ua, uc, ur, uk⟩, qB, rfl, oB, bB⟩
  have HGB : Hid (GB w4 (w5.alloc (.cells #[.slice ua Bt.length uc, .string Bs, .int .i64 Be, .slice ur Br.length uk] 25)) w5.heap.size ⟨ua, uc, ur, uk⟩ ⟨Bt, Bs, Be, Br⟩ qB) := ⟨heap_alloc_new _ _, oB.below (below_alloc _ _), below_step bB (below_alloc _ _), bB.size⟩
  clear oB bB CB q0 q1 q2 q3
  go_upto_block 0 with fail
  generalize w5.alloc (.cells #[.slice ua Bt.length uc, .string Bs, .int .i64 Be, .slice ur Br.length uk] 25) = w6 at HGB ⊢
  obtain ⟨hb, hhb⟩ : ∃ hb, hb = w5.heap.size := ⟨_, rfl⟩
  rw [← hhb] at HGB ⊢
  clear hhb
  generalize ebn : Bt.length = bn at *
  generalize ebm : Br.length = bm at *
  have HEB : Hid (Bt.length = bn ∧ Br.length = bm) := ⟨ebn, ebm⟩
  clear ebn ebm
  go_cut [30] (fun s wd => Hid (∃ k' K qs, GB w4 wd hb k' K qs ∧ Small K))
  case first =>
    have hcb : w6.heap[hb]? = some (.cells #[.slice ua bn uc, .string Bs, .int .i64 Be, .slice ur bm uk] 25 (0, 0)) := by
      have := HGB.out.box
      unfold boxC at this
      simp only [HEB.out.1, HEB.out.2] at this
      exact this
    obtain ⟨z0, z1, z2, z3, z4, z5, z6, z7⟩ := box_cells hcb
    clear hcb
    have HNS : Hid (a3.size ≤ 100) := by
      have h1 := HG2.out.1 (by first | rfl | trivial)
      unfold NameP nameOk at h1
      simp only [Bool.and_eq_true, decide_eq_true_eq] at h1
      have h2 := h1.2
      rw [by8_length] at h2
      show _ ≤ _
      omega
    have hle : bn ≤ uc ∧ uc ≤ 9223372036854775807 ∧ bm ≤ uk ∧ uk ≤ 9223372036854775807 := by
      have h1 := HGB.out.own.raw.tl
      have h2 := HGB.out.own.raw.rl
      simp only [HEB.out.1, HEB.out.2] at h1 h2
      omega
    cases e0 : (bits BinOp.and IntKind.i64 a1 3 == 0)
    rotate_left
    · have HF : Hid (∃ k' K qs, GB w4 (w6.setCell ⟨hb, 1, none⟩ (.string a3)) hb k' K qs ∧ Small K) := ⟨_, _, _, HGB.out.setS a3, ⟨HSB.out.nt, HSB.out.nr, HNS.out, HSB.out.tk, HSB.out.rl⟩⟩
      go_wp2_with fail
      go_meet
      exact HF
    have HT : Hid (∀ (i : Nat), i < bn → ∃ b u, ua = some ⟨b, 0, none⟩ ∧ w6.cell? ⟨b, i * 3, none⟩ = some u ∧ w6.frozen? ⟨b, i * 3, none⟩ = false ∧ b ≠ hb ∧ Hid (∃ k' K qs, GB w4 (w6.setCell ⟨b, i * 3, none⟩ (.string a3)) hb k' K qs ∧ Small K)) := fun i hi => by
      obtain ⟨t, ht⟩ : ∃ t, Bt[i]? = some t := ⟨Bt[i]'(by rw [HEB.out.1]; exact hi), List.getElem?_eq_getElem _⟩
      obtain ⟨b, u, h1, h2, h3, h4, h5⟩ := HGB.out.setT ht a3
      refine ⟨b, u, h1, h2, h3, h4, ⟨_, _, _, h5, ?_⟩⟩
      refine ⟨by simp only [List.length_set]; exact HSB.out.nt, HSB.out.nr, HSB.out.st, fun x hx => ?_, HSB.out.rl⟩
      rcases List.mem_or_eq_of_mem_set hx with h | h
      · exact HSB.out.tk x h
      · rw [h]; exact HNS.out
    have HL : Hid (∀ (i : Nat), i < bm → ∃ b u, ur = some ⟨b, 0, none⟩ ∧ w6.cell? ⟨b, i * 3, none⟩ = some u ∧ w6.frozen? ⟨b, i * 3, none⟩ = false ∧ b ≠ hb ∧ Hid (∃ k' K qs, GB w4 (w6.setCell ⟨b, i * 3, none⟩ (.string a3)) hb k' K qs ∧ Small K)) := fun i hi => by
      obtain ⟨r, hr⟩ : ∃ r, Br[i]? = some r := ⟨Br[i]'(by rw [HEB.out.2]; exact hi), List.getElem?_eq_getElem _⟩
      obtain ⟨b, u, h1, h2, h3, h4, qs', h5⟩ := HGB.out.setR hr (j := 0) (by omega) ⟨a3, r.r, r.p⟩ a3 rfl (fun _ => rfl)
      refine ⟨b, u, h1, h2, h3, h4, ⟨_, _, _, h5, ?_⟩⟩
      refine ⟨HSB.out.nt, by simp only [List.length_set]; exact HSB.out.nr, HSB.out.st, HSB.out.tk, fun x hx => ?_⟩
      rcases List.mem_or_eq_of_mem_set hx with h | h
      · exact HSB.out.rl x h
      · rw [h]
        have := HSB.out.rl r (List.mem_of_getElem? hr)
        exact ⟨HNS.out, this.2⟩
    have HQ : Hid (∀ (i : Nat), i < bm → ∃ b u, ur = some ⟨b, 0, none⟩ ∧ w6.cell? ⟨b, i * 3 + 2, none⟩ = some u ∧ w6.frozen? ⟨b, i * 3 + 2, none⟩ = false ∧ b ≠ hb ∧ Hid (∃ k' K qs, GB w4 (w6.setCell ⟨b, i * 3 + 2, none⟩ (.string a3)) hb k' K qs ∧ Small K)) := fun i hi => by
      obtain ⟨r, hr⟩ : ∃ r, Br[i]? = some r := ⟨Br[i]'(by rw [HEB.out.2]; exact hi), List.getElem?_eq_getElem _⟩
      obtain ⟨b, u, h1, h2, h3, h4, qs', h5⟩ := HGB.out.setR hr (j := 2) (by omega) ⟨r.l, r.r, a3⟩ a3 rfl (fun _ => rfl)
      refine ⟨b, u, h1, h2, h3, h4, ⟨_, _, _, h5, ?_⟩⟩
      refine ⟨HSB.out.nt, by simp only [List.length_set]; exact HSB.out.nr, HSB.out.st, HSB.out.tk, fun x hx => ?_⟩
      rcases List.mem_or_eq_of_mem_set hx with h | h
      · exact HSB.out.rl x h
      · rw [h]
        have := HSB.out.rl r (List.mem_of_getElem? hr)
        exact ⟨this.1, HNS.out, this.2.2⟩
    have HF0 : Hid (∃ k' K qs, GB w4 w6 hb k' K qs ∧ Small K) := ⟨_, _, _, HGB.out, HSB.out⟩
    cases e1 : (bits BinOp.and IntKind.i64 a1 3 == 1)
    rotate_left
    · by_cases hpos : 0 < bm
      · have hpos' : (0 : Int) < (bm : Int) := by omega
        obtain ⟨i, hi⟩ : ∃ i, i = at' % bm := ⟨_, rfl⟩
        have hib : i < bm := by rw [hi]; exact Nat.mod_lt _ hpos
        have hib' : (i : Int) < (bm : Int) := by omega
        have hmod : (at' : Int) % (bm : Int) = (i : Int) := by rw [hi]; omega
        have hz : ((bm : Int) == 0) = false := by simp; omega
        have hz2 : bm ≠ 0 := by omega
        obtain ⟨b, u, rfl, y1, y2, y3, HF⟩ := HL.out i hib
        clear HT HL HQ HF0 hi
        go_upto_region 11 with fail
        go_region
        all_goals
          go_wp2_with fail
          go_meet
          obtain ⟨k', K, qs, hgk, hsk⟩ := HF.out
          exact ⟨k', K, qs, hgk.step (below_drew' _), hsk⟩
      · have hpos0 : ¬ (0 : Int) < (bm : Int) := by omega
        have e2 : (bits BinOp.and IntKind.i64 a1 3 == 2) = false := by
          rw [beq_eq_false_iff_ne]
          rw [beq_iff_eq] at e1
          rw [e1]
          decide
        clear hpos
        by_cases hpos : 0 < bn
        · have hpos' : (0 : Int) < (bn : Int) := by omega
          obtain ⟨i, hi⟩ : ∃ i, i = at' % bn := ⟨_, rfl⟩
          have hib : i < bn := by rw [hi]; exact Nat.mod_lt _ hpos
          have hib' : (i : Int) < (bn : Int) := by omega
          have hmod : (at' : Int) % (bn : Int) = (i : Int) := by rw [hi]; omega
          have hz : ((bn : Int) == 0) = false := by simp; omega
          have hz2 : bn ≠ 0 := by omega
          obtain ⟨b, u, rfl, y1, y2, y3, HF⟩ := HT.out i hib
          clear HT HL HQ HF0 hi
          go_upto_region 15 with fail
          go_region
          all_goals
            go_wp2_with fail
            go_meet
            obtain ⟨k', K, qs, hgk, hsk⟩ := HF.out
            exact ⟨k', K, qs, hgk.step (below_drew' _), hsk⟩
        · have hpos' : ¬ (0 : Int) < (bn : Int) := by omega
          clear HT HL HQ
          go_wp2_with fail
          go_meet
          exact HF0
    · cases e2 : (bits BinOp.and IntKind.i64 a1 3 == 2)
      rotate_left
      · by_cases hpos : 0 < bm
        · have hpos' : (0 : Int) < (bm : Int) := by omega
          obtain ⟨i, hi⟩ : ∃ i, i = at' % bm := ⟨_, rfl⟩
          have hib : i < bm := by rw [hi]; exact Nat.mod_lt _ hpos
          have hib' : (i : Int) < (bm : Int) := by omega
          have hmod : (at' : Int) % (bm : Int) = (i : Int) := by rw [hi]; omega
          have hz : ((bm : Int) == 0) = false := by simp; omega
          have hz2 : bm ≠ 0 := by omega
          obtain ⟨b, u, rfl, y1, y2, y3, HF⟩ := HQ.out i hib
          clear HT HL HQ HF0 hi
          go_upto_region 13 with fail
          go_region
          all_goals
            go_wp2_with fail
            go_meet
            obtain ⟨k', K, qs, hgk, hsk⟩ := HF.out
            exact ⟨k', K, qs, hgk.step (below_drew' _), hsk⟩
        · have hpos0 : ¬ (0 : Int) < (bm : Int) := by omega
          clear hpos
          by_cases hpos : 0 < bn
          · have hpos' : (0 : Int) < (bn : Int) := by omega
            obtain ⟨i, hi⟩ : ∃ i, i = at' % bn := ⟨_, rfl⟩
            have hib : i < bn := by rw [hi]; exact Nat.mod_lt _ hpos
            have hib' : (i : Int) < (bn : Int) := by omega
            have hmod : (at' : Int) % (bn : Int) = (i : Int) := by rw [hi]; omega
            have hz : ((bn : Int) == 0) = false := by simp; omega
            have hz2 : bn ≠ 0 := by omega
            obtain ⟨b, u, rfl, y1, y2, y3, HF⟩ := HT.out i hib
            clear HT HL HQ HF0 hi
            go_upto_region 15 with fail
            go_region
            all_goals
              go_wp2_with fail
              go_meet
              obtain ⟨k', K, qs, hgk, hsk⟩ := HF.out
              exact ⟨k', K, qs, hgk.step (below_drew' _), hsk⟩
          · have hpos' : ¬ (0 : Int) < (bn : Int) := by omega
            clear HT HL HQ
            go_wp2_with fail
            go_meet
            exact HF0
      · by_cases hpos : 0 < bn
        · have hpos' : (0 : Int) < (bn : Int) := by omega
          obtain ⟨i, hi⟩ : ∃ i, i = at' % bn := ⟨_, rfl⟩
          have hib : i < bn := by rw [hi]; exact Nat.mod_lt _ hpos
          have hib' : (i : Int) < (bn : Int) := by omega
          have hmod : (at' : Int) % (bn : Int) = (i : Int) := by rw [hi]; omega
          have hz : ((bn : Int) == 0) = false := by simp; omega
          have hz2 : bn ≠ 0 := by omega
          obtain ⟨b, u, rfl, y1, y2, y3, HF⟩ := HT.out i hib
          clear HT HL HQ HF0 hi
          go_upto_region 15 with fail
          go_region
          all_goals
            go_wp2_with fail
            go_meet
            obtain ⟨k', K, qs, hgk, hsk⟩ := HF.out
            exact ⟨k', K, qs, hgk.step (below_drew' _), hsk⟩
        · have hpos' : ¬ (0 : Int) < (bn : Int) := by omega
          clear HT HL HQ
          go_wp2_with fail
          go_meet
          exact HF0
  case rest =>
    obtain ⟨⟨va, vc, vr, vk⟩, K, qK, hK, hSK⟩ := hcut.out
    obtain ⟨w9, hw9⟩ : ∃ w9, w9 = wc := ⟨_, rfl⟩
    subst wc
    obtain ⟨Kt, Ks, Ke, Kr⟩ := K
    have hIK : IsG w9 ⟨va, vc, vr, vk⟩ ⟨Kt, Ks, Ke, Kr⟩ := hK.own.isG hSK
    have hIA : IsG w9 ⟨pa, pc, pr, pk⟩ ⟨At, As, Ae, Ar⟩ := HI.out.below (below_step HB4.out hK.bel)
    have hba : w9.heap[nb]? = some (.cells #[.slice pa an pc, .string As, .int .i64 Ae, .slice pr am pk] 25 (0, 0)) := block_below (below_step HB4.out hK.bel) HA.out.2.1
    have hbb : w9.heap[hb]? = some (.cells #[.slice va Kt.length vc, .string Ks, .int .i64 Ke, .slice vr Kr.length vk] 25 (0, 0)) := hK.box
    have HB9 : Hid (Below w.heap.size w w9) := below_step HA.out.2.2 (below_step HB4.out hK.bel)
    have HP9 : Hid (Pow w9) := HPW.out.below HB9.out
    have HMA : Hid (MayP ⟨At, As, Ae, Ar⟩) := HG1.out.1 (by first | rfl | trivial)
    obtain ⟨g3, hg3⟩ := bool_of (MayP ⟨Kt, Ks, Ke, Kr⟩)
    obtain ⟨T, hTx⟩ := textP_ex ⟨At, As, Ae, Ar⟩
    obtain ⟨U, hUx⟩ := textP_ex ⟨Kt, Ks, Ke, Kr⟩
    obtain ⟨q, hq⟩ := bool_of ((⟨At, As, Ae, Ar⟩ : Gm) = ⟨Kt, Ks, Ke, Kr⟩)
    have egA : gv ⟨pa, pc, pr, pk⟩ ⟨At, As, Ae, Ar⟩ = .agg #[.slice pa an pc, .string As, .int .i64 Ae, .slice pr am pk] := by
      unfold gv
      simp only [HEA.out.1, HEA.out.2]
    have egK : gv ⟨va, vc, vr, vk⟩ ⟨Kt, Ks, Ke, Kr⟩ = .agg #[.slice va Kt.length vc, .string Ks, .int .i64 Ke, .slice vr Kr.length vk] := rfl
    have M1 : Hid (∀ V : World, Below w9.heap.size w9 V → Calls Tryd.prog 11 #[.agg #[.slice va Kt.length vc, .string Ks, .int .i64 Ke, .slice vr Kr.length vk]] V fun e w' => e = .returned (.bool g3) ∧ Below V.heap.size V w') := fun V hV => by
      have := rmay_calls ⟨Kt, Ks, Ke, Kr⟩ ⟨va, vc, vr, vk⟩ V g3 (hIK.below hV) hg3
      rwa [egK] at this
    have T1 : Hid (∀ V : World, Below w9.heap.size w9 V → Calls Tryd.prog 12 #[.agg #[.slice pa an pc, .string As, .int .i64 Ae, .slice pr am pk]] V fun e w' => e = .returned (.string T) ∧ Below V.heap.size V w') := fun V hV => by
      have := text_calls ⟨At, As, Ae, Ar⟩ ⟨pa, pc, pr, pk⟩ V T (hIA.below hV) (HP9.out.below hV) hTx
      rwa [egA] at this
    have T2 : Hid (∀ V : World, Below w9.heap.size w9 V → Calls Tryd.prog 12 #[.agg #[.slice va Kt.length vc, .string Ks, .int .i64 Ke, .slice vr Kr.length vk]] V fun e w' => e = .returned (.string U) ∧ Below V.heap.size V w') := fun V hV => by
      have := text_calls ⟨Kt, Ks, Ke, Kr⟩ ⟨va, vc, vr, vk⟩ V U (hIK.below hV) (HP9.out.below hV) hUx
      rwa [egK] at this
    have E1 : Hid (∀ V : World, Below w9.heap.size w9 V → Calls Tryd.prog 14 #[.agg #[.slice pa an pc, .string As, .int .i64 Ae, .slice pr am pk], .agg #[.slice va Kt.length vc, .string Ks, .int .i64 Ke, .slice vr Kr.length vk]] V fun e w' => e = .returned (.bool q) ∧ Below V.heap.size V w') := fun V hV => by
      have := eq_calls ⟨At, As, Ae, Ar⟩ ⟨Kt, Ks, Ke, Kr⟩ ⟨pa, pc, pr, pk⟩ ⟨va, vc, vr, vk⟩ V q (hIA.below hV) (hIK.below hV) hq
      rwa [egA, egK] at this
    have E2 : Hid (∀ V : World, Below w9.heap.size w9 V → Calls Tryd.prog 15 #[.agg #[.slice pa an pc, .string As, .int .i64 Ae, .slice pr am pk], .agg #[.slice va Kt.length vc, .string Ks, .int .i64 Ke, .slice vr Kr.length vk]] V fun e w' => e = .returned (.bool q) ∧ Below V.heap.size V w') := fun V hV => by
      have := req_calls ⟨At, As, Ae, Ar⟩ ⟨Kt, Ks, Ke, Kr⟩ ⟨pa, pc, pr, pk⟩ ⟨va, vc, vr, vk⟩ V q (hIA.below hV) (hIK.below hV) hq
      rwa [egA, egK] at this
    have HU : Hid (g3 = false → (U.toList == []) = true) := fun h => by
      rw [toList_nil]
      exact hUx.2 (fun hm => by rw [hg3.2 hm] at h; cases h)
    have HTU : Hid (g3 = true → (T.toList == U.toList) = q) := fun h2 => by
      have mK := hg3.1 h2
      rw [Bool.eq_iff_iff, toList_beq, hq]
      constructor
      · intro e
        obtain ⟨l, hl, -⟩ := HMA.out.tk.2
        obtain ⟨m, hm, -⟩ := mK.tk.2
        have a1 := hTx.1 HMA.out l hl
        have a2 := hUx.1 mK m hm
        exact text_inj HMA.out mK hl hm (by rw [← a1, ← a2, e])
      · intro e
        obtain ⟨l, hl, -⟩ := HMA.out.tk.2
        have a1 := hTx.1 HMA.out l hl
        have a2 := hUx.1 mK l (by rw [← e]; exact hl)
        exact by8_inj (by rw [a1, a2, e])
    have HC9 : Hid (∀ V : World, Below w9.heap.size w9 V → V.heap[nb]? = some (.cells #[.slice pa an pc, .string As, .int .i64 Ae, .slice pr am pk] 25 (0, 0)) ∧ V.heap[hb]? = some (.cells #[.slice va Kt.length vc, .string Ks, .int .i64 Ke, .slice vr Kr.length vk] 25 (0, 0))) := fun V hV => ⟨block_below hV hba, block_below hV hbb⟩
    clear hcut hK hSK hIK hIA hba hbb hg3 hTx hUx hq egA egK HGB
    generalize Kt.length = kn at *
    generalize Kr.length = km at *
    obtain ⟨c0, c1, c2, c3, -⟩ := box_cells (HC9.out w9 (Below.refl _ _)).2
    go_wp2_with fail
    refine (M1.out _ (Below.refl _ _)).mono ?_
    rintro e w10 ⟨rfl, hB⟩
    have HB10 : Hid (Below w9.heap.size w9 w10) := hB
    clear hB c0 c1 c2 c3
    obtain ⟨c0, c1, c2, c3, -⟩ := box_cells (HC9.out _ HB10.out).1
    obtain ⟨d0, d1, d2, d3, -⟩ := box_cells (HC9.out _ HB10.out).2
    cases g3
    · have hu := HU.out (by first | rfl | trivial)
      go_wp2_with fail
      refine (T2.out _ HB10.out).mono ?_
      rintro e w11 ⟨rfl, hB⟩
      have HB11 : Hid (Below w9.heap.size w9 w11) := below_step HB10.out hB
      clear hB
      go_wp2_with fail
      go_ret
      exact ⟨rfl, below_step HB9.out HB11.out⟩
    · have hTU := HTU.out (by first | rfl | trivial)
      have g0 := cell_onto c0
      have g1 := cell_onto c1
      have g2 := cell_onto c2
      have g3 := cell_onto c3
      have k0 := cell_onto d0
      have k1 := cell_onto d1
      have k2 := cell_onto d2
      have k3 := cell_onto d3
      have HO : Hid (∀ n os, Below w9.heap.size w9 (onto w10 n os)) := fun n os => below_step HB10.out (onto_below w10 n os)
      clear c0 c1 c2 c3 d0 d1 d2 d3
      go_upto_region 18 with fail
      cases q
      all_goals
        refine wp_region_onto (by kernel_rfl) ?_
        repeat (go_big_quiet_step (first | (go_at_call 15; exact calls_onto (E2.out _ (HO.out _ _))) | (go_at_call 14; exact calls_onto (E1.out _ (HO.out _ _))) | (go_at_call_of 12 (Value.string As); exact calls_onto (T1.out _ (HO.out _ _))) | (go_at_call_of 12 (Value.string Ks); exact calls_onto (T2.out _ (HO.out _ _)))))
        refine wpQuiet_nil ?_
        intro _ hwq
        obtain ⟨⟨nq, osq⟩, hwe⟩ := hwq
        subst hwe
        go_wp2_with fail
        go_ret
        exact ⟨rfl, below_step HB9.out (HO.out _ _)⟩

end Go.Proofs.YtdgadamkiililaaDoor.Turn
