/-
  GramLimits: whatever the input, the call returns true and leaves all that was there as it was.
-/
import Derived.Test.YtdgadamkiililaaDoorLim
namespace Go.Proofs.YtdgadamkiililaaDoor.Limits
open Go.RowKit

set_option maxHeartbeats 8000000 in
set_option maxRecDepth 20000 in
theorem walk (a0 a1 a2 a3 : Int) (w : World) (hp : Pow w) : Calls Tryd.prog 6 #[.int .i64 a0, .int .i64 a1, .int .i64 a2, .int .i64 a3] w fun e w' => e = .returned (.bool true) ∧ Below w.heap.size w w' := by
  have HBe : Hid (Calls Tryd.prog 8 #[] w fun e w' => e = .returned (.bool true) ∧ Below w.heap.size w w') := begun5_calls w hp
  have HP : Hid (Pow w) := hp
  clear hp
  go_enter Tryd.func6, Tryd.ntmps6
  go_wp2_with fail
  refine HBe.out.mono ?_
  rintro e w1 ⟨rfl, hB⟩
  have B1 : Hid (Below w.heap.size w w1 ∧ Pow w1) := ⟨hB, HP.out.below hB⟩
  clear hB HBe HP
  obtain ⟨x, hx⟩ := bool_of (¬ (0 ≤ a0 ∧ a0 ≤ 45 ∧ 0 ≤ a1 ∧ a1 ≤ 105 ∧ 0 ≤ a2 ∧ a2 ≤ 25))
  have HX : Hid (x = true ↔ ¬ (0 ≤ a0 ∧ a0 ≤ 45 ∧ 0 ≤ a1 ∧ a1 ≤ 105 ∧ 0 ≤ a2 ∧ a2 ≤ 25)) := hx
  clear hx
  go_upto_region 4 with fail
  go_cut [40] (fun s wd => s = .bool x ∧ wd = w1)
  case first =>
    by_cases h0 : a0 < 0
    · have HF : Hid (x = true) := b_true HX.out (by omega)
      go_wp2_with fail
      go_meet
      exact ⟨by rw [HF.out], rfl⟩
    by_cases h1 : 45 < a0
    · have HF : Hid (x = true) := b_true HX.out (by omega)
      go_wp2_with fail
      go_meet
      exact ⟨by rw [HF.out], rfl⟩
    by_cases h2 : a1 < 0
    · have HF : Hid (x = true) := b_true HX.out (by omega)
      go_wp2_with fail
      go_meet
      exact ⟨by rw [HF.out], rfl⟩
    by_cases h3 : 105 < a1
    · have HF : Hid (x = true) := b_true HX.out (by omega)
      go_wp2_with fail
      go_meet
      exact ⟨by rw [HF.out], rfl⟩
    by_cases h4 : a2 < 0
    · have HF : Hid (x = true) := b_true HX.out (by omega)
      go_wp2_with fail
      go_meet
      exact ⟨by rw [HF.out], rfl⟩
    · have HF : Hid (x = decide (25 < a2)) := by
        show _ = _
        rw [Bool.eq_iff_iff, HX.out]
        simp
        omega
      go_wp2_with fail
      go_meet
      exact ⟨by rw [HF.out], rfl⟩
  case rest =>
    obtain ⟨rfl, hwc⟩ := hcut
    subst wc
    cases x
    rotate_left
    · go_wp2_with fail
      go_ret
      exact ⟨rfl, B1.out.1⟩
    · have hr : 0 ≤ a0 ∧ a0 ≤ 45 ∧ 0 ≤ a1 ∧ a1 ≤ 105 ∧ 0 ≤ a2 ∧ a2 ≤ 25 := by
        rcases Classical.em (0 ≤ a0 ∧ a0 ≤ 45 ∧ 0 ≤ a1 ∧ a1 ≤ 105 ∧ 0 ≤ a2 ∧ a2 ≤ 25) with h | h
        · exact h
        · have := HX.out.2 h; cases this
      obtain ⟨tn, rfl⟩ := Int.eq_ofNat_of_zero_le hr.1
      obtain ⟨rn, rfl⟩ := Int.eq_ofNat_of_zero_le hr.2.2.1
      obtain ⟨kn, rfl⟩ := Int.eq_ofNat_of_zero_le hr.2.2.2.2.1
      have ht : tn ≤ 45 := by omega
      have hrn : rn ≤ 105 := by omega
      have hk : kn ≤ 25 := by omega
      clear hr HX
      have HG0 : Hid (GB w1 (w1.alloc (.cells #[.slice none 0 0, .string ⟨#[]⟩, .int .i64 a3, .slice none 0 0] 25)) w1.heap.size ⟨none, 0, none, 0⟩ ⟨[], e0, a3, []⟩ []) := gb_new w1 w1 e0 a3 (Below.refl _ _)
      go_upto_region 7 with fail
      generalize w1.alloc (.cells #[.slice none 0 0, .string ⟨#[]⟩, .int .i64 a3, .slice none 0 0] 25) = w2 at HG0 ⊢
      obtain ⟨gb, hgb⟩ : ∃ gb, gb = w1.heap.size := ⟨_, rfl⟩
      rw [← hgb] at HG0 ⊢
      clear hgb
      go_upto_block 0 with fail
      go_cut [11] (fun s11 wd => Hid (∃ h, GB w1 wd gb h ⟨(List.range tn).map tkN, e0, a3, []⟩ []))
      case first =>
        go_wp2_with fail
        go_loopg [11] tn (fun kx s11 wr => ∃ i : Nat, s11 = .int .i64 i ∧ i ≤ tn ∧ tn - i ≤ kx ∧ Hid (∃ h, GB w1 wr gb h ⟨(List.range i).map tkN, e0, a3, []⟩ []))
        case atStart => exact ⟨0, rfl, Nat.zero_le _, by omega, (⟨_, HG0.out⟩ : ∃ h, GB w1 w2 gb h ⟨(List.range 0).map tkN, e0, a3, []⟩ [])⟩
        case round =>
          obtain ⟨i, rfl, hi, hg, J⟩ := hrel
          clear HG0
          by_cases hlt : i < tn
          · obtain ⟨⟨ta, tc, ra, rc⟩, hG⟩ := J.out
            obtain ⟨c0, -, -, -, hfz⟩ := hG.cells
            simp only [List.length_map, List.length_range] at c0
            have hcv : (convert 33 9 (.slice (some ⟨wr.heap.size, 0, none⟩) 3 3)).run Tryd.prog (wr.alloc (.cells #[.int .u8 84, .int .u8 (97 + (i : Int) / 10), .int .u8 (48 + (i : Int) % 10)] 5)) = .ok (.string (tkN i).n) (wr.alloc (.cells #[.int .u8 84, .int .u8 (97 + (i : Int) / 10), .int .u8 (48 + (i : Int) % 10)] 5)) :=
              run_convert_bytes_arg _ 33 5 Tryd.underlying33 Tryd.underlying5 wr.heap.size 0 3 3 [84, 97 + (i : Int) / 10, 48 + (i : Int) % 10] rfl (fun j hj => by
                rw [World.cell?_alloc_mark]
                match j, hj with
                | 0, _ => rfl
                | 1, _ => rfl
                | 2, _ => rfl) 9 Tryd.underlying9
            have c0' := cell_alloc c0
            have hG2 := hG.step (below_alloc wr (.cells #[.int .u8 84, .int .u8 (97 + (i : Int) / 10), .int .u8 (48 + (i : Int) % 10)] 5))
            obtain ⟨ao, n, c, w3, hrun, hn, hbox, hG3⟩ := hG2.addTok (by simp; omega) (tkN i)
            simp only [List.length_map, List.length_range, size_alloc1] at hrun hn
            have d0 : w3.cell? ⟨gb, 0, none⟩ = some (.slice ta i tc) := by rw [cell_block hbox]; simp [boxC]
            have f0 : w3.frozen? ⟨gb, 0, none⟩ = false := frozen_block hbox 0
            have HF : Hid (∃ h, GB w1 (w3.setCell ⟨gb, 0, none⟩ (.slice ao n c)) gb h ⟨(List.range (i + 1)).map tkN, e0, a3, []⟩ []) := by
              have e : (List.range (i + 1)).map tkN = (List.range i).map tkN ++ [tkN i] := by rw [List.range_succ, List.map_append]; rfl
              rw [e]
              exact ⟨_, hG3⟩
            have eL : (tkN i).l = 0 := rfl
            have eA : (tkN i).a = 0 := rfl
            rw [eL, eA] at hrun
            clear eL eA
            generalize (tkN i).n = nm at hcv hrun
            clear hG hG2 hG3 hbox J hfz hn
            go_wp2_with (at_builtin; refine Lib.wpList_append_run _ rfl _ _ _ _ rfl _ _ rfl rfl _ _ hrun ?_)
            go_roundg (tn - (i + 1))
            case measure => omega
            case rel => exact ⟨i + 1, by simp, by omega, Nat.le_refl _, HF⟩
          · obtain rfl : i = tn := by omega
            go_wp2_with fail
            go_meet
            exact J
      case rest =>
        obtain ⟨w4, hw4⟩ : ∃ w4, w4 = wc := ⟨_, rfl⟩
        subst wc
        obtain ⟨h4, hG4⟩ := hcut.out
        have HG4 : Hid (∃ h qs, GB w1 w4 gb h ⟨(List.range tn).map tkN, e0, a3, []⟩ qs) := ⟨h4, [], hG4⟩
        clear hcut hG4 HG0
        go_upto_block 2 with fail
        go_cut [12] (fun s12 wd => Hid (∃ h qs, GB w1 wd gb h (limG tn rn kn a3) qs))
        case first =>
          go_wp2_with fail
          go_loopg [12] rn (fun kx s12 wr => ∃ i : Nat, s12 = .int .i64 i ∧ i ≤ rn ∧ rn - i ≤ kx ∧ Hid (∃ h qs, GB w1 wr gb h ⟨(List.range tn).map tkN, e0, a3, List.replicate i (ruN kn)⟩ qs))
          case atStart => exact ⟨0, rfl, Nat.zero_le _, by omega, HG4⟩
          case round =>
            obtain ⟨i, rfl, hi, hg, J⟩ := hrel
            clear HG4
            by_cases hlt : i < rn
            · obtain ⟨wo, hwo⟩ : ∃ wo, wo = wr := ⟨_, rfl⟩
              subst wr
              have HR0 : Hid (RB wo (wo.alloc (.cells #[.string ⟨#[115]⟩, .slice none 0 0, .string ⟨#[]⟩] 39)) [] none 0 0) := RB.new wo
              go_upto_region 15 with fail
              generalize wo.alloc (.cells #[.string ⟨#[115]⟩, .slice none 0 0, .string ⟨#[]⟩] 39) = w5 at HR0 ⊢
              obtain ⟨rb, hrb⟩ : ∃ rb, rb = wo.heap.size := ⟨_, rfl⟩
              have HRB : Hid (rb = wo.heap.size) := hrb
              rw [← hrb]
              clear hrb
              go_upto_block 4 with fail
              go_cut [14] from 70 to 79 (fun s14 wd => Hid (∃ xa xc, RB wo wd (List.replicate kn bS) xa kn xc))
              case first =>
                go_wp2_with fail
                go_loopg [14] kn (fun kx s14 wr => ∃ j : Nat, s14 = .int .i64 j ∧ j ≤ kn ∧ kn - j ≤ kx ∧ Hid (∃ xa xc, RB wo wr (List.replicate j bS) xa j xc))
                case atStart => exact ⟨0, rfl, Nat.zero_le _, by omega, (⟨none, 0, HR0.out⟩ : ∃ xa xc, RB wo w5 (List.replicate 0 bS) xa 0 xc)⟩
                case round =>
                  obtain ⟨j, rfl, hj, hg2, K⟩ := hrel
                  clear HR0
                  by_cases hlt2 : j < kn
                  · obtain ⟨xa, xc, hR⟩ := K.out
                    have c1 : wr.cell? ⟨rb, 1, none⟩ = some (.slice xa j xc) := by rw [HRB.out, cell_block hR.box]; rfl
                    have c1' := cell_alloc c1
                    obtain ⟨ao, n, c, w6, hrun, hbox, hR2⟩ := hR.add (by simp; omega) bS
                    have d1 : w6.cell? ⟨rb, 1, none⟩ = some (.slice xa j xc) := by rw [HRB.out, cell_block hbox]; rfl
                    have f1 : w6.frozen? ⟨rb, 1, none⟩ = false := by rw [HRB.out]; exact frozen_block hbox 1
                    have HF : Hid (∃ xa xc, RB wo (w6.setCell ⟨rb, 1, none⟩ (.slice ao n c)) (List.replicate (j + 1) bS) xa (j + 1) xc) := by
                      have e : List.replicate (j + 1) bS = List.replicate j bS ++ [bS] := by rw [List.replicate_succ']
                      have hn : n = j + 1 := by have := hR2.len; rw [List.length_append, List.length_replicate] at this; exact this
                      subst hn
                      rw [e, HRB.out]
                      exact ⟨ao, c, hR2⟩
                    have hrun2 : (Builtin.append_ #[37, 37] 37 #[.slice xa j xc, .slice (some ⟨wr.heap.size, 0, none⟩) 1 1]).run Tryd.prog (wr.alloc (.cells #[.string ⟨#[115]⟩] 9)) = .ok (.slice ao n c) w6 := hrun
                    clear hR hbox hR2 hrun K
                    go_wp2_with (at_builtin; refine Lib.wpList_append_run _ rfl _ _ _ _ rfl _ _ rfl rfl _ _ hrun2 ?_)
                    go_roundg (kn - (j + 1))
                    case measure => omega
                    case rel => exact ⟨j + 1, by simp, by omega, Nat.le_refl _, HF⟩
                  · obtain rfl : j = kn := by omega
                    go_wp2_with fail
                    go_meet
                    exact K
              case rest =>
                obtain ⟨w7, hw7⟩ : ∃ w7, w7 = wc := ⟨_, rfl⟩
                subst wc
                obtain ⟨xa, xc, hR⟩ := hcut.out
                obtain ⟨⟨ta, tc, ra, rc⟩, qs, hG⟩ := J.out
                have hG7 := hG.step hR.bel
                obtain ⟨-, -, -, c3, -⟩ := hG7.cells
                simp only [List.length_replicate] at c3
                have p0 : w7.cell? ⟨rb, 0, none⟩ = some (.string ⟨#[115]⟩) := by rw [HRB.out, cell_block hR.box]; rfl
                have p1 : w7.cell? ⟨rb, 1, none⟩ = some (.slice xa kn xc) := by rw [HRB.out, cell_block hR.box]; rfl
                have p2 : w7.cell? ⟨rb, 2, none⟩ = some (.string ⟨#[]⟩) := by rw [HRB.out, cell_block hR.box]; rfl
                have hown : OwnS w7 w1.heap.size (.slice xa kn xc) (ruN kn).r := own_mono hR.own (by have := hG.bel.size; omega)
                obtain ⟨ao, n, c, w8, hrun, hn, hbox, hG8⟩ := hG7.addRule (by simp; omega) (ruN kn) xa xc kn hown (by simp [ruN])
                simp only [List.length_replicate] at hrun
                have hrun2 : (Builtin.append_ #[23, 23] 23 #[.slice ra i rc, .slice (some ⟨w7.heap.size, 0, none⟩) 1 1]).run Tryd.prog (w7.alloc (.cells #[.string ⟨#[115]⟩, .slice xa kn xc, .string ⟨#[]⟩] 39)) = .ok (.slice ao n c) w8 := hrun
                have d3 : w8.cell? ⟨gb, 3, none⟩ = some (.slice ra i rc) := by rw [cell_block hbox]; simp [boxC]
                have f3 : w8.frozen? ⟨gb, 3, none⟩ = false := frozen_block hbox 3
                have HF : Hid (∃ h qs, GB w1 (w8.setCell ⟨gb, 3, none⟩ (.slice ao n c)) gb h ⟨(List.range tn).map tkN, e0, a3, List.replicate (i + 1) (ruN kn)⟩ qs) := by
                  have e : List.replicate (i + 1) (ruN kn) = List.replicate i (ruN kn) ++ [ruN kn] := by rw [List.replicate_succ']
                  rw [e]
                  exact ⟨_, _, hG8⟩
                clear hG hG7 hG8 hbox hn hR hcut J HR0 hown hrun
                go_wp2_with (at_builtin; refine Lib.wpList_append_run _ rfl _ _ _ _ rfl _ _ rfl rfl _ _ hrun2 ?_)
                go_roundg (rn - (i + 1))
                case measure => omega
                case rel => exact ⟨i + 1, by simp, by omega, Nat.le_refl _, HF⟩
            · obtain rfl : i = rn := by omega
              go_wp2_with fail
              go_meet
              exact J
        case rest =>
          obtain ⟨w9, hw9⟩ : ∃ w9, w9 = wc := ⟨_, rfl⟩
          subst wc
          obtain ⟨⟨ta, tc, ra, rc⟩, qs, hG⟩ := hcut.out
          have hI := hG.own.isG (lim_small tn rn kn a3 ht hrn hk)
          obtain ⟨c0, c1, c2, c3, -⟩ := hG.cells
          have elt : (limG tn rn kn a3).ts.length = tn := by simp [limG]
          have elr : (limG tn rn kn a3).rs.length = rn := by simp [limG]
          obtain ⟨good, hgood⟩ := bool_of (MayP (limG tn rn kn a3))
          obtain ⟨T, hT⟩ := textP_ex (limG tn rn kn a3)
          have egv : gv ⟨ta, tc, ra, rc⟩ (limG tn rn kn a3) = .agg #[.slice ta tn tc, .string ⟨#[]⟩, .int .i64 a3, .slice ra rn rc] := by
            unfold gv; rw [elt, elr]; rfl
          have HPW : Hid (Pow w9) := B1.out.2.below hG.bel
          have M1 : Hid (Calls Tryd.prog 10 #[.agg #[.slice ta tn tc, .string ⟨#[]⟩, .int .i64 a3, .slice ra rn rc]] w9 fun e w' => e = .returned (.bool good) ∧ Below w9.heap.size w9 w') := by
            have := may_calls (limG tn rn kn a3) ⟨ta, tc, ra, rc⟩ w9 good hI hgood
            rwa [egv] at this
          have T1 : Hid (∀ W : World, Below w9.heap.size w9 W → Calls Tryd.prog 12 #[.agg #[.slice ta tn tc, .string ⟨#[]⟩, .int .i64 a3, .slice ra rn rc]] W fun e w' => e = .returned (.string T) ∧ Below W.heap.size W w') := fun W hW => by
            have := text_calls (limG tn rn kn a3) ⟨ta, tc, ra, rc⟩ W T (hI.below hW) (HPW.out.below hW) hT
            rwa [egv] at this
          have C0 : Hid (∀ W : World, Below w9.heap.size w9 W → W.cell? ⟨gb, 0, none⟩ = some (.slice ta tn tc) ∧ W.cell? ⟨gb, 1, none⟩ = some (.string ⟨#[]⟩) ∧ W.cell? ⟨gb, 2, none⟩ = some (.int .i64 a3) ∧ W.cell? ⟨gb, 3, none⟩ = some (.slice ra rn rc)) := fun W hW => by
            rw [elt] at c0
            rw [elr] at c3
            exact ⟨cell_below hW c0, cell_below hW c1, cell_below hW c2, cell_below hW c3⟩
          have HTE : Hid ((T.toList == []) = !good) := by
            show _ = _
            rcases Classical.em (MayP (limG tn rn kn a3)) with h | h
            · have h1 := text_ne hT h
              rw [b_true hgood h]
              cases hb : (T.toList == [])
              · rfl
              · exact absurd ((toList_nil T).1 hb) h1
            · rw [b_false hgood h, hT.2 h]
              rw [by8_toList]
              rfl
          have HGD : Hid (good = true ↔ tn ≤ 40 ∧ rn ≤ 100 ∧ (kn ≤ 20 ∨ rn = 0) ∧ 0 ≤ a3 ∧ a3 ≤ 9999) := hgood.trans (lim_may tn rn kn a3 ht)
          have HB9 : Hid (Below w.heap.size w w9) := below_step B1.out.1 hG.bel
          clear hcut hG hI c0 c1 c2 c3 elt elr egv hgood hT HPW
          go_upto_region 20 with fail
          go_cut [15] (fun s15 wd => s15 = .bool good ∧ wd = w9)
          case first =>
            by_cases h40 : tn ≤ 40
            · by_cases h100 : rn ≤ 100
              · by_cases h20 : kn ≤ 20
                · by_cases he0 : 0 ≤ a3
                  · have HF : Hid (good = decide (a3 ≤ 9999)) := by
                      show _ = _
                      rw [Bool.eq_iff_iff, HGD.out]
                      simp [h40, h100, h20, he0]
                    clear HGD
                    go_wp2_with fail
                    go_meet
                    exact ⟨by rw [HF.out], rfl⟩
                  · have HF : Hid (good = false) := b_false HGD.out (fun h => he0 h.2.2.2.1)
                    go_wp2_with fail
                    go_meet
                    exact ⟨by rw [HF.out], rfl⟩
                · by_cases hr0 : rn = 0
                  · have er : ((rn : Int) == 0) = true := by simpa using hr0
                    by_cases he0 : 0 ≤ a3
                    · have HF : Hid (good = decide (a3 ≤ 9999)) := by
                        show _ = _
                        rw [Bool.eq_iff_iff, HGD.out]
                        simp [h40, hr0, he0]
                      clear HGD hr0
                      go_wp2_with fail
                      go_meet
                      exact ⟨by rw [HF.out], rfl⟩
                    · have HF : Hid (good = false) := b_false HGD.out (fun h => he0 h.2.2.2.1)
                      clear hr0
                      go_wp2_with fail
                      go_meet
                      exact ⟨by rw [HF.out], rfl⟩
                  · have er : ((rn : Int) == 0) = false := by simpa using hr0
                    have HF : Hid (good = false) := b_false HGD.out (fun h => h.2.2.1.elim h20 hr0)
                    clear hr0
                    go_wp2_with fail
                    go_meet
                    exact ⟨by rw [HF.out], rfl⟩
              · have HF : Hid (good = false) := b_false HGD.out (fun h => h100 h.2.1)
                go_wp2_with fail
                go_meet
                exact ⟨by rw [HF.out], rfl⟩
            · have HF : Hid (good = false) := b_false HGD.out (fun h => h40 h.1)
              go_wp2_with fail
              go_meet
              exact ⟨by rw [HF.out], rfl⟩
          case rest =>
            obtain ⟨rfl, hwc⟩ := hcut
            subst wc
            obtain ⟨c0, c1, c2, c3⟩ := C0.out w9 (Below.refl _ _)
            clear HGD
            go_wp2_with fail
            refine M1.out.mono ?_
            rintro e w10 ⟨rfl, hB10⟩
            have HB10 : Hid (Below w9.heap.size w9 w10) := hB10
            clear hB10 c0 c1 c2 c3 M1
            obtain ⟨c0, c1, c2, c3⟩ := C0.out w10 HB10.out
            have hgg : (good == good) = true := by simp
            go_wp2_with fail
            refine (T1.out _ HB10.out).mono ?_
            rintro e w11 ⟨rfl, hB11⟩
            have HBF : Hid (Below w.heap.size w w11) := below_step HB9.out (below_step HB10.out hB11)
            have hte := HTE.out
            clear hB11 HB10 c0 c1 c2 c3 T1 HTE
            cases good
            · go_wp2_with fail
              go_ret
              exact ⟨rfl, HBF.out⟩
            · go_wp2_with fail
              go_ret
              exact ⟨rfl, HBF.out⟩

end Go.Proofs.YtdgadamkiililaaDoor.Limits
