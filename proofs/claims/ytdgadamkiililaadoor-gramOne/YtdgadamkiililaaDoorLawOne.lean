/-
  GramOne: whatever the two grammars, the call returns true and leaves all that was there as it was.
-/
import Derived.Test.YtdgadamkiililaaDoorTwoG
import Derived.Test.YtdgadamkiililaaDoorOne
import Derived.Deep.RegionWith
namespace Go.Proofs.YtdgadamkiililaaDoor.One
open Go.RowKit

set_option maxHeartbeats 8000000 in
set_option maxRecDepth 20000 in
theorem walk (h k : Hd) (G K : Gm) (w : World) (hp : Pow w) (hG : RawG w h G) (hK : RawG w k K) : Calls Tryd.prog 4 #[gv h G, gv k K] w fun e w' => e = .returned (.bool true) ∧ Below w.heap.size w w' := by
  obtain ⟨ts, st, ex, rs⟩ := G
  obtain ⟨ta, tc, ra, rc⟩ := h
  obtain ⟨us, su, ey, ss⟩ := K
  obtain ⟨ua, uc, sa, sc⟩ := k
  unfold gv
  simp only
  obtain ⟨o1, ho1⟩ : ∃ o1 : Obj, o1 = .cells #[.slice ta ts.length tc, .string st, .int .i64 ex, .slice ra rs.length rc] 25 := ⟨_, rfl⟩
  obtain ⟨o2, ho2⟩ : ∃ o2 : Obj, o2 = .cells #[.slice ua us.length uc, .string su, .int .i64 ey, .slice sa ss.length sc] 25 := ⟨_, rfl⟩
  have hB : Below w.heap.size w ((w.alloc o1).alloc o2) := below_step (below_alloc _ _) (below_alloc _ _)
  have hb0 : ((w.alloc o1).alloc o2).heap[w.heap.size]? = some o1 := block_below (below_alloc _ _) (heap_alloc_new _ _)
  have hb1 : ((w.alloc o1).alloc o2).heap[w.heap.size + 1]? = some o2 := by
    have := heap_alloc_new (w.alloc o1) o2
    rwa [size_alloc1] at this
  have hsz : ((w.alloc o1).alloc o2).heap.size = w.heap.size + 1 + 1 := size_alloc2 _ _ _
  have HR : Hid (RawG ((w.alloc o1).alloc o2) ⟨ta, tc, ra, rc⟩ ⟨ts, st, ex, rs⟩ ∧ RawG ((w.alloc o1).alloc o2) ⟨ua, uc, sa, sc⟩ ⟨us, su, ey, ss⟩ ∧ Pow ((w.alloc o1).alloc o2) ∧ Below w.heap.size w ((w.alloc o1).alloc o2)) := ⟨hG.below hB, hK.below hB, hp.below hB, hB⟩
  have HPW : Hid (Pow w) := hp
  subst ho1 ho2
  have HX : Hid (((w.alloc (.cells #[.slice ta ts.length tc, .string st, .int .i64 ex, .slice ra rs.length rc] 25)).alloc (.cells #[.slice ua us.length uc, .string su, .int .i64 ey, .slice sa ss.length sc] 25)).heap[w.heap.size]? = some (.cells #[.slice ta ts.length tc, .string st, .int .i64 ex, .slice ra rs.length rc] 25 (0, 0)) ∧ ((w.alloc (.cells #[.slice ta ts.length tc, .string st, .int .i64 ex, .slice ra rs.length rc] 25)).alloc (.cells #[.slice ua us.length uc, .string su, .int .i64 ey, .slice sa ss.length sc] 25)).heap[w.heap.size + 1]? = some (.cells #[.slice ua us.length uc, .string su, .int .i64 ey, .slice sa ss.length sc] 25 (0, 0)) ∧ ((w.alloc (.cells #[.slice ta ts.length tc, .string st, .int .i64 ex, .slice ra rs.length rc] 25)).alloc (.cells #[.slice ua us.length uc, .string su, .int .i64 ey, .slice sa ss.length sc] 25)).heap.size = w.heap.size + 1 + 1) := ⟨hb0, hb1, hsz⟩
  clear hG hK hp hb0 hb1 hB hsz
  generalize etn : ts.length = tn at *
  generalize eun : us.length = un at *
  generalize ern : rs.length = rn at *
  generalize esn : ss.length = sn at *
  have HE : Hid (ts.length = tn ∧ us.length = un ∧ rs.length = rn ∧ ss.length = sn) := ⟨etn, eun, ern, esn⟩
  clear etn eun ern esn
  go_enter Tryd.func4, Tryd.ntmps4
  go_upto_region 1 with fail
  generalize (w.alloc (.cells #[.slice ta tn tc, .string st, .int .i64 ex, .slice ra rn rc] 25)).alloc (.cells #[.slice ua un uc, .string su, .int .i64 ey, .slice sa sn sc] 25) = W at HR HX ⊢
  obtain ⟨nb, hnb⟩ : ∃ nb, nb = w.heap.size := ⟨_, rfl⟩
  rw [← hnb] at HX ⊢
  have HN : Hid (nb = w.heap.size) := hnb
  clear hnb
  go_wp2_with fail
  refine (begun5_calls W HR.out.2.2.1).mono ?_
  rintro e w1 ⟨rfl, hB⟩
  have HB1 : Hid (Below W.heap.size W w1) := hB
  clear hB
  go_upto_region 4 with fail
  have HA1 : Hid (∀ V : World, Below W.heap.size W V → RawG V ⟨ta, tc, ra, rc⟩ ⟨ts, st, ex, rs⟩ ∧ RawG V ⟨ua, uc, sa, sc⟩ ⟨us, su, ey, ss⟩ ∧ Pow V ∧ Below w.heap.size w V ∧ V.heap[nb]? = some (.cells #[.slice ta tn tc, .string st, .int .i64 ex, .slice ra rn rc] 25 (0, 0)) ∧ V.heap[nb + 1]? = some (.cells #[.slice ua un uc, .string su, .int .i64 ey, .slice sa sn sc] 25 (0, 0)) ∧ nb + 2 ≤ V.heap.size) := fun V hV => ⟨HR.out.1.below hV, HR.out.2.1.below hV, HR.out.2.2.1.below hV, below_step HR.out.2.2.2 hV, block_below hV HX.out.1, block_below hV HX.out.2.1, by have := hV.size; have := HX.out.2.2; omega⟩
  have CA : Hid (∀ V : World, Below W.heap.size W V → Calls Tryd.prog 9 #[.agg #[.slice ta tn tc, .string st, .int .i64 ex, .slice ra rn rc]] V fun e w' => ∃ h' qs, e = .returned (gv h' (cutG ⟨ts, st, ex, rs⟩)) ∧ OwnG w' (nb + 2) h' (cutG ⟨ts, st, ex, rs⟩) qs ∧ Below V.heap.size V w') := fun V hV => by
    have h1 := cutG_calls ⟨ts, st, ex, rs⟩ ⟨ta, tc, ra, rc⟩ V (HA1.out V hV).1
    unfold gv at h1
    simp only [HE.out.1, HE.out.2.2.1] at h1
    refine h1.mono ?_
    rintro e w' ⟨h', qs, rfl, a, b⟩
    exact ⟨h', qs, rfl, a.mono (HA1.out V hV).2.2.2.2.2.2, b⟩
  have CB : Hid (∀ V : World, Below W.heap.size W V → Calls Tryd.prog 9 #[.agg #[.slice ua un uc, .string su, .int .i64 ey, .slice sa sn sc]] V fun e w' => ∃ h' qs, e = .returned (gv h' (cutG ⟨us, su, ey, ss⟩)) ∧ OwnG w' (nb + 2) h' (cutG ⟨us, su, ey, ss⟩) qs ∧ Below V.heap.size V w') := fun V hV => by
    have h1 := cutG_calls ⟨us, su, ey, ss⟩ ⟨ua, uc, sa, sc⟩ V (HA1.out V hV).2.1
    unfold gv at h1
    simp only [HE.out.2.1, HE.out.2.2.2] at h1
    refine h1.mono ?_
    rintro e w' ⟨h', qs, rfl, a, b⟩
    exact ⟨h', qs, rfl, a.mono (HA1.out V hV).2.2.2.2.2.2, b⟩
  have HW0 : Hid (Below W.heap.size W w1.drew) := below_step HB1.out (below_drew' _)
  obtain ⟨a0, a1, a2, a3, -⟩ := box_cells (HA1.out _ HB1.out).2.2.2.2.1
  obtain ⟨b0, b1, b2, b3, -⟩ := box_cells (HA1.out _ HB1.out).2.2.2.2.2.1
  obtain ⟨A, hA⟩ : ∃ x, x = cutG ⟨ts, st, ex, rs⟩ := ⟨_, rfl⟩
  obtain ⟨B, hBB⟩ : ∃ x, x = cutG ⟨us, su, ey, ss⟩ := ⟨_, rfl⟩
  have HSM : Hid (Small A ∧ Small B) := ⟨by rw [hA]; exact cut_small _, by rw [hBB]; exact cut_small _⟩
  rw [← hA] at CA
  rw [← hBB] at CB
  clear hA hBB
  obtain ⟨At, As, Ae, Ar⟩ := A
  obtain ⟨Bt, Bs, Be, Br⟩ := B
  unfold gv at CA CB
  simp only at CA CB
  go_cut [10] (fun s wd => Hid (∃ h' k', TwoG w wd nb h' ⟨At, As, Ae, Ar⟩ k' ⟨Bt, Bs, Be, Br⟩ ∧ Pow wd))
  case first =>
    go_region_with (first
      | (go_at_call_of 9 (Value.string st)
         refine (CA.out _ ?_).mono ?_
         exact HW0.out
         rintro e wA ⟨⟨pa, pc, pr, pk⟩, qA, rfl, oA, bA⟩
         have HOA : Hid (OwnG wA (nb + 2) ⟨pa, pc, pr, pk⟩ ⟨At, As, Ae, Ar⟩ qA) := oA
         have HWA : Hid (Below W.heap.size W wA) := below_step HW0.out bA
         obtain ⟨a0, a1, a2, a3, a4, a5, a6, a7⟩ := box_cells (HA1.out _ HWA.out).2.2.2.2.1
         obtain ⟨b0, b1, b2, b3, b4, b5, b6, b7⟩ := box_cells (HA1.out _ HWA.out).2.2.2.2.2.1
         clear oA bA)
      | (go_at_call_of 9 (Value.string su)
         refine (CB.out _ ?_).mono ?_
         exact HWA.out
         rintro e wB ⟨⟨ra', rc', rr', rk'⟩, qB, rfl, oB, bB⟩
         have HOB : Hid (OwnG wB (nb + 2) ⟨pa, pc, pr, pk⟩ ⟨At, As, Ae, Ar⟩ qA ∧ OwnG wB (nb + 2) ⟨ra', rc', rr', rk'⟩ ⟨Bt, Bs, Be, Br⟩ qB) := ⟨HOA.out.below bB, oB⟩
         have HWB : Hid (Below W.heap.size W wB) := below_step HWA.out bB
         obtain ⟨a0, a1, a2, a3, a4, a5, a6, a7⟩ := box_cells (HA1.out _ HWB.out).2.2.2.2.1
         obtain ⟨b0, b1, b2, b3, b4, b5, b6, b7⟩ := box_cells (HA1.out _ HWB.out).2.2.2.2.2.1
         clear oB bB))
    all_goals
      go_wp2_with fail
      go_meet
      have hn : w.heap.size ≤ nb := Nat.le_of_eq HN.out.symm
      obtain ⟨-, -, -, hbe, hba, hbb, -⟩ := HA1.out _ HWB.out
      have hbe2 : Below w.heap.size w (set4 (set4 wB nb (.slice pa At.length pc) (.string As) (.int .i64 Ae) (.slice pr Ar.length pk)) (nb + 1) (.slice ra' Bt.length rc') (.string Bs) (.int .i64 Be) (.slice rr' Br.length rk')) := set4_below _ _ _ _ (set4_below _ _ _ _ hbe hn) (by omega)
      exact ⟨⟨pa, pc, pr, pk⟩, ⟨ra', rc', rr', rk'⟩, ⟨(set4_other _ _ _ _ (by omega)).trans (set4_heap _ _ _ _ hba), set4_heap _ _ _ _ ((set4_other _ _ _ _ (by omega)).trans hbb), ((HOB.out.1.set4 _ _ _ _ (by omega)).set4 _ _ _ _ (by omega)).isG HSM.out.1, ((HOB.out.2.set4 _ _ _ _ (by omega)).set4 _ _ _ _ (by omega)).isG HSM.out.2, hbe2⟩, HPW.out.below hbe2⟩
  case rest =>
    obtain ⟨⟨pa, pc, pr, pk⟩, ⟨ra', rc', rr', rk'⟩, hT, hpw⟩ := hcut.out
    obtain ⟨w9, hw9⟩ : ∃ w9, w9 = wc := ⟨_, rfl⟩
    subst wc
    have HP9 : Hid (Pow w9) := hpw
    obtain ⟨g1, hg1⟩ := bool_of (MayP ⟨At, As, Ae, Ar⟩)
    obtain ⟨g2, hg2⟩ := bool_of (MayP ⟨Bt, Bs, Be, Br⟩)
    obtain ⟨T, hTx⟩ := textP_ex ⟨At, As, Ae, Ar⟩
    obtain ⟨U, hUx⟩ := textP_ex ⟨Bt, Bs, Be, Br⟩
    obtain ⟨q, hq⟩ := bool_of ((⟨At, As, Ae, Ar⟩ : Gm) = ⟨Bt, Bs, Be, Br⟩)
    have M1 : Hid (∀ V : World, Below w9.heap.size w9 V → Calls Tryd.prog 10 #[.agg #[.slice pa At.length pc, .string As, .int .i64 Ae, .slice pr Ar.length pk]] V fun e w' => e = .returned (.bool g1) ∧ Below V.heap.size V w') := fun V hV => may_calls ⟨At, As, Ae, Ar⟩ ⟨pa, pc, pr, pk⟩ V g1 (hT.oa.below hV) hg1
    have M2 : Hid (∀ V : World, Below w9.heap.size w9 V → Calls Tryd.prog 10 #[.agg #[.slice ra' Bt.length rc', .string Bs, .int .i64 Be, .slice rr' Br.length rk']] V fun e w' => e = .returned (.bool g2) ∧ Below V.heap.size V w') := fun V hV => may_calls ⟨Bt, Bs, Be, Br⟩ ⟨ra', rc', rr', rk'⟩ V g2 (hT.ob.below hV) hg2
    have T1 : Hid (∀ V : World, Below w9.heap.size w9 V → Calls Tryd.prog 12 #[.agg #[.slice pa At.length pc, .string As, .int .i64 Ae, .slice pr Ar.length pk]] V fun e w' => e = .returned (.string T) ∧ Below V.heap.size V w') := fun V hV => text_calls ⟨At, As, Ae, Ar⟩ ⟨pa, pc, pr, pk⟩ V T (hT.oa.below hV) (HP9.out.below hV) hTx
    have T2 : Hid (∀ V : World, Below w9.heap.size w9 V → Calls Tryd.prog 12 #[.agg #[.slice ra' Bt.length rc', .string Bs, .int .i64 Be, .slice rr' Br.length rk']] V fun e w' => e = .returned (.string U) ∧ Below V.heap.size V w') := fun V hV => text_calls ⟨Bt, Bs, Be, Br⟩ ⟨ra', rc', rr', rk'⟩ V U (hT.ob.below hV) (HP9.out.below hV) hUx
    have E2 : Hid (∀ V : World, Below w9.heap.size w9 V → Calls Tryd.prog 15 #[.agg #[.slice pa At.length pc, .string As, .int .i64 Ae, .slice pr Ar.length pk], .agg #[.slice ra' Bt.length rc', .string Bs, .int .i64 Be, .slice rr' Br.length rk']] V fun e w' => e = .returned (.bool q) ∧ Below V.heap.size V w') := fun V hV => req_calls ⟨At, As, Ae, Ar⟩ ⟨Bt, Bs, Be, Br⟩ ⟨pa, pc, pr, pk⟩ ⟨ra', rc', rr', rk'⟩ V q (hT.oa.below hV) (hT.ob.below hV) hq
    have HTU : Hid (g1 = true → g2 = true → (T.toList == U.toList) = q) := fun h1 h2 => by
      rw [Bool.eq_iff_iff, toList_beq, hq]
      constructor
      · intro e
        obtain ⟨l, hl, -⟩ := (hg1.1 h1).tk.2
        obtain ⟨m, hm, -⟩ := (hg2.1 h2).tk.2
        have a1 := hTx.1 (hg1.1 h1) l hl
        have a2 := hUx.1 (hg2.1 h2) m hm
        exact text_inj (hg1.1 h1) (hg2.1 h2) hl hm (by rw [← a1, ← a2, e])
      · intro e
        obtain ⟨l, hl, -⟩ := (hg1.1 h1).tk.2
        have a1 := hTx.1 (hg1.1 h1) l hl
        have a2 := hUx.1 (hg2.1 h2) l (by rw [← e]; exact hl)
        exact by8_inj (by rw [a1, a2, e])
    have hba : w9.heap[nb]? = some (.cells #[.slice pa At.length pc, .string As, .int .i64 Ae, .slice pr Ar.length pk] 25 (0, 0)) := hT.ba
    have hbb : w9.heap[nb + 1]? = some (.cells #[.slice ra' Bt.length rc', .string Bs, .int .i64 Be, .slice rr' Br.length rk'] 25 (0, 0)) := hT.bb
    have HB9 : Hid (Below w.heap.size w w9) := hT.be
    have HC9 : Hid (∀ V : World, Below w9.heap.size w9 V → V.heap[nb]? = some (.cells #[.slice pa At.length pc, .string As, .int .i64 Ae, .slice pr Ar.length pk] 25 (0, 0)) ∧ V.heap[nb + 1]? = some (.cells #[.slice ra' Bt.length rc', .string Bs, .int .i64 Be, .slice rr' Br.length rk'] 25 (0, 0))) := fun V hV => ⟨block_below hV hba, block_below hV hbb⟩
    clear hcut hT hpw hg1 hg2 hTx hUx hq hba hbb a0 a1 a2 a3 b0 b1 b2 b3
    generalize At.length = an at *
    generalize Ar.length = am at *
    generalize Bt.length = bn at *
    generalize Br.length = bm at *
    obtain ⟨c0, c1, c2, c3, -⟩ := box_cells (HC9.out w9 (Below.refl _ _)).1
    go_wp2_with fail
    refine (M1.out _ (Below.refl _ _)).mono ?_
    rintro e w10 ⟨rfl, hB⟩
    have HB10 : Hid (Below w9.heap.size w9 w10) := hB
    clear hB c0 c1 c2 c3
    obtain ⟨d0, d1, d2, d3, -⟩ := box_cells (HC9.out _ HB10.out).2
    cases g1
    · go_wp2_with fail
      go_ret
      exact ⟨rfl, below_step HB9.out HB10.out⟩
    · go_wp2_with fail
      refine (M2.out _ HB10.out).mono ?_
      rintro e w11 ⟨rfl, hB⟩
      have HB11 : Hid (Below w9.heap.size w9 w11) := below_step HB10.out hB
      clear hB d0 d1 d2 d3
      cases g2
      · go_wp2_with fail
        go_ret
        exact ⟨rfl, below_step HB9.out HB11.out⟩
      · have hTU := HTU.out (by first | rfl | trivial) (by first | rfl | trivial)
        obtain ⟨c0, c1, c2, c3, -⟩ := box_cells (HC9.out _ HB11.out).1
        obtain ⟨d0, d1, d2, d3, -⟩ := box_cells (HC9.out _ HB11.out).2
        have g0 := cell_onto c0
        have g1 := cell_onto c1
        have g2 := cell_onto c2
        have g3 := cell_onto c3
        have k0 := cell_onto d0
        have k1 := cell_onto d1
        have k2 := cell_onto d2
        have k3 := cell_onto d3
        have HO : Hid (∀ n os, Below w9.heap.size w9 (onto w11 n os)) := fun n os => below_step HB11.out (onto_below w11 n os)
        clear c0 c1 c2 c3 d0 d1 d2 d3
        go_upto_region 7 with fail
        cases q
        all_goals
          refine wp_region_onto (by kernel_rfl) ?_
          repeat (go_big_quiet_step (first | (go_at_call_of 15 (Value.string As); exact calls_onto (E2.out _ (HO.out _ _))) | (go_at_call_of 12 (Value.string As); exact calls_onto (T1.out _ (HO.out _ _))) | (go_at_call_of 12 (Value.string Bs); exact calls_onto (T2.out _ (HO.out _ _)))))
          refine wpQuiet_nil ?_
          intro _ hwq
          obtain ⟨⟨nq, osq⟩, hwe⟩ := hwq
          subst hwe
          go_wp2_with fail
          go_ret
          exact ⟨rfl, below_step HB9.out (HO.out _ _)⟩

end Go.Proofs.YtdgadamkiililaaDoor.One
