/-
  SetUnion: whatever the input, the call returns true and leaves all that was there as it was. No condition.
-/
import Derived.Test.YtdgdaldgchbbaaaTwo
import Derived.Deep.RegionHeld
import Derived.Deep.CutBlock
import Derived.ProofKit
import Derived.OpenShut
import Derived.ShutString
import Derived.ChangeOld
namespace Go.Proofs.Ytdgdaldgchbbaaa.LawUnion
open Go.ChangeShapes Go.WideShapes Go.ChangeAt Go.RowKit Go.Shelf
open Go.ChangeMaps (open_string shut_string)

theorem own : ownKnob Try.prog.godebug = none := by kernel_rfl
theorem laidOut : laidOutB Try.prog = true := by kernel_rfl

set_option maxHeartbeats 8000000 in
set_option maxRecDepth 100000 in
theorem walk (a0 : Option Addr) (len0 cap0 : Nat) (z0 : List Int) (a1 : Option Addr) (len1 cap1 : Nat) (z1 : List Int) (w : World) (r0 : IsRow .i64 w a0 len0 cap0 z0) (r1 : IsRow .i64 w a1 len1 cap1 z1) :
    Calls Try.prog 7 #[.slice a0 len0 cap0, .slice a1 len1 cap1] w fun e w' => e = .returned (.bool true) ∧ Below w.heap.size w w' := by
  have HA : Hid (Seg (Value.int .i64) 0 w a0 len0 cap0 (z0.take len0)) := r0.seg
  have HB : Hid (Seg (Value.int .i64) 0 w a1 len1 cap1 (z1.take len1)) := r1.seg
  have hm0 : cap0 ≤ 9223372036854775807 := by have := HA.out.max; unfold maxLen at this; omega
  have hm1 : cap1 ≤ 9223372036854775807 := by have := HB.out.max; unfold maxLen at this; omega
  have hl0 : len0 ≤ cap0 := HA.out.le
  have hl1 : len1 ≤ cap1 := HB.out.le
  clear r0 r1
  generalize z0.take len0 = xa at HA
  generalize z1.take len1 = xb at HB
  have H1 := begun_spec w
  go_enter Try.func7, Try.ntmps7
  go_wp2_with fail
  refine H1.mono ?_
  rintro e w1 ⟨rfl, B1⟩
  have K1 : Hid (Below w.heap.size w w1) := B1
  clear H1 B1
  have H2 := new_spec 9 w1
  have H3 := new_spec 9 (w1.alloc (.cells #[fnv 9, .slice none 0 0] 59))
  unfold fnv at H2 H3
  go_wp2_with fail
  refine H2.mono ?_
  rintro e w2 ⟨rfl, rfl⟩
  go_wp2_with fail
  refine H3.mono ?_
  rintro e w3 ⟨rfl, rfl⟩
  clear H2 H3
  have T0 : Hid (Two w1 ((w1.alloc (.cells #[.func (.func 9) #[] #[], .slice none 0 0] 59)).alloc (.cells #[.func (.func 9) #[] #[], .slice none 0 0] 59)) w1.heap.size (.slice none 0 0) [] (w1.heap.size + 1) (.slice none 0 0) []) := Two.make w1
  go_upto_block 0 with fail
  generalize (w1.alloc (.cells #[.func (.func 9) #[] #[], .slice none 0 0] 59)).alloc (.cells #[.func (.func 9) #[] #[], .slice none 0 0] 59) = w3 at T0 ⊢
  generalize hps : w1.heap.size = ps at T0 ⊢
  generalize hpt : ps + 1 = pt at T0 ⊢
  clear hps hpt
  go_cut [8, 10] (fun s8 s10 wc => ∃ (ml ma : Nat × Option Addr × Nat), s8 = .slice ml.2.1 ml.1 ml.2.2 ∧ s10 = .slice ma.2.1 ma.1 ma.2.2 ∧
    Hid (∃ vs, Two w1 wc ps vs (join cmpI [] (xa.take 30)) pt (.slice none 0 0) [] ∧ Free wc ml.2.1 ml.1 ml.2.2 (join cmpI [] (xa.take 30)) (Feet ps vs pt (.slice none 0 0)) ∧ Free wc ma.2.1 ma.1 ma.2.2 (join cmpI [] (xa.take 30)) (Feet ps vs pt (.slice none 0 0))))
  case first =>
    go_wp2_with fail
    go_loopg [8, 10, 11] 31 (fun kx s8 s10 s11 wr => ∃ (I : Nat) (ml ma : Nat × Option Addr × Nat), s8 = .slice ml.2.1 ml.1 ml.2.2 ∧ s10 = .slice ma.2.1 ma.1 ma.2.2 ∧ s11 = .int .i64 I ∧ I ≤ len0 ∧ I ≤ 30 ∧ 30 - I < kx ∧
      Hid (∃ vs, Two w1 wr ps vs (join cmpI [] (xa.take I)) pt (.slice none 0 0) [] ∧ Free wr ml.2.1 ml.1 ml.2.2 (join cmpI [] (xa.take I)) (Feet ps vs pt (.slice none 0 0)) ∧ Free wr ma.2.1 ma.1 ma.2.2 (join cmpI [] (xa.take I)) (Feet ps vs pt (.slice none 0 0))))
    case atStart => exact ⟨0, (0, none, 0), (0, none, 0), rfl, rfl, rfl, Nat.zero_le _, Nat.zero_le _, by omega, (⟨_, T0.out, Free.nil _ _, Free.nil _ _⟩ : ∃ vs, Two w1 _ ps vs [] pt (.slice none 0 0) [] ∧ Free _ none 0 0 [] (Feet ps vs pt (.slice none 0 0)) ∧ Free _ none 0 0 [] (Feet ps vs pt (.slice none 0 0)))⟩
    case round =>
      clear T0
      obtain ⟨I, ⟨nl, al, cl⟩, ⟨na, aa, ca⟩, rfl, rfl, rfl, hI, hI3, hg, J⟩ := hrel
      by_cases hlt : I < len0
      · by_cases hlt3 : I < 30
        · obtain ⟨vs, T, FL, FA⟩ := J.out
          have sgA : Hid (Seg (Value.int .i64) 0 wr a0 len0 cap0 xa) := (HA.out.below K1.out).below (T.below.mono (Nat.le_refl _))
          obtain ⟨b, off, rfl, hb, hcell⟩ := sgA.out.at (by omega)
          have cI := hcell I hlt
          have hle : (join cmpI [] (xa.take I)).length ≤ 30 := by have := join_take_le (cf := cmpI) [] xa I; simp at this; omega
          have hadd := add_spec cmp9 T.s (join_nil_sorted _) (by omega) (xa[I]?.getD 0)
          have HN : Hid (join cmpI [] (xa.take (I + 1)) = ins cmpI (xa[I]?.getD 0) (join cmpI [] (xa.take I))) := by
            show _ = _
            rw [take_next (d := 0) (by rw [sgA.out.size]; exact hlt), join_snoc]
          have HT : Hid (Two w1 wr ps vs (join cmpI [] (xa.take I)) pt (.slice none 0 0) [] ∧ Free wr al nl cl (join cmpI [] (xa.take I)) (Feet ps vs pt (.slice none 0 0)) ∧ Free wr aa na ca (join cmpI [] (xa.take I)) (Feet ps vs pt (.slice none 0 0))) := ⟨T, FL, FA⟩
          clear hcell J T FL FA
          generalize hy : xa[I]?.getD 0 = y at cI hadd HN
          have Y : Hid (xa[I]?.getD 0 = y) := hy
          clear hy
          generalize hL1 : join cmpI [] (xa.take (I + 1)) = L1 at HN
          have HL1 : Hid (join cmpI [] (xa.take (I + 1)) = L1) := hL1
          clear hL1
          generalize join cmpI [] (xa.take I) = L0 at hadd HN HT hle
          generalize isIn cmpI y L0 = q at hadd
          go_wp2_with fail
          refine hadd.mono ?_
          rintro e w4 ⟨v4, rfl, S4, W4⟩
          have HT4 : Hid (Two w1 w4 ps v4 L1 pt (.slice none 0 0) [] ∧ Free w4 al nl cl L0 (Feet ps v4 pt (.slice none 0 0)) ∧ Free w4 aa na ca L0 (Feet ps v4 pt (.slice none 0 0))) := by
            rw [HN.out]
            exact ⟨HT.out.1.wrote S4 W4, HT.out.2.1.ws W4, HT.out.2.2.ws W4⟩
          have hF4 : Hid (∀ k, Feet ps v4 pt (.slice none 0 0) k → k < w4.heap.size) := HT4.out.1.lt
          have c4 : w4.cell? ⟨b, off + I, none⟩ = some (.int .i64 y) := (by
            have := HA.out.below K1.out
            have := this.below (HT4.out.1.below.mono (Nat.le_refl _))
            rw [← Y.out]
            have := this.cell _ rfl I hlt
            rwa [Addr.add_lit] at this)
          have sgA4 : Hid (Seg (Value.int .i64) 0 w4 (some ⟨b, off, none⟩) len0 cap0 xa) := (HA.out.below K1.out).below (HT4.out.1.below.mono (Nat.le_refl _))
          clear hadd S4 W4 cI HT sgA
          go_upto_region 10 with fail
          go_region_held (fun w' => w'.cell? ⟨b, off + I, none⟩ = some (.int .i64 y)) (first | exact c4 | exact c5 | exact c6)
            (first
              | (go_at_call 14; refine (in_free false X5.out.2 (fun k hk => Nat.lt_of_lt_of_le (hF4.out k hk) B5.out.size) (by omega) y HN.out).mono ?_
                 rintro e w6 ⟨a6, n6, k6, rfl, Y6⟩
                 have c6 : w6.cell? ⟨b, off + I, none⟩ = some (.int .i64 y) := (by rw [Y6.out.2.cell (World.block_lt_of_cell? _ _ c5)]; exact c5))
              | (go_at_call 14; refine (in_free false HT4.out.2.1.drew hF4.out (by omega) y HN.out).mono ?_
                 rintro e w5 ⟨a5, n5, k5, rfl, Y5⟩
                 have B5 : Hid (Below w4.heap.size w4 w5) := below_step ((Below.refl _ _).drew) Y5.out.2
                 have X5 : Hid (Free w5 a5 n5 k5 L1 (Feet ps v4 pt (.slice none 0 0)) ∧ Free w5 aa na ca L0 (Feet ps v4 pt (.slice none 0 0))) := ⟨Y5.out.1, HT4.out.2.2.step B5.out⟩
                 have c5 : w5.cell? ⟨b, off + I, none⟩ = some (.int .i64 y) := (by rw [B5.out.cell (World.block_lt_of_cell? _ _ c4)]; exact c4)))
          go_wp2
          go_roundg (30 - I)
          case measure => omega
          case rel => exact ⟨I + 1, (n5, a5, k5), (n6, a6, k6), rfl, rfl, by simp, by omega, by omega, by omega, by rw [HL1.out]; exact ⟨v4, HT4.out.1.step (below_step B5.out Y6.out.2), X5.out.1.step Y6.out.2, Y6.out.1⟩⟩
        · have HE : Hid (xa.take I = xa.take 30) := take_end HA.out.size hI hI3 (by omega)
          rw [HE.out] at J
          have J2 : Hid (∃ vs, Two w1 wr ps vs (join cmpI [] (xa.take 30)) pt (.slice none 0 0) [] ∧ Free wr al nl cl (join cmpI [] (xa.take 30)) (Feet ps vs pt (.slice none 0 0)) ∧ Free wr aa na ca (join cmpI [] (xa.take 30)) (Feet ps vs pt (.slice none 0 0))) := J
          clear J
          go_wp2_with fail
          go_meet
          exact ⟨(nl, al, cl), (na, aa, ca), rfl, rfl, J2⟩
      · have HE : Hid (xa.take I = xa.take 30) := take_end HA.out.size hI hI3 (by omega)
        rw [HE.out] at J
        have J2 : Hid (∃ vs, Two w1 wr ps vs (join cmpI [] (xa.take 30)) pt (.slice none 0 0) [] ∧ Free wr al nl cl (join cmpI [] (xa.take 30)) (Feet ps vs pt (.slice none 0 0)) ∧ Free wr aa na ca (join cmpI [] (xa.take 30)) (Feet ps vs pt (.slice none 0 0))) := J
        clear J
        go_wp2_with fail
        go_meet
        exact ⟨(nl, al, cl), (na, aa, ca), rfl, rfl, J2⟩
  case rest =>
    obtain ⟨⟨nl, al, cl⟩, ⟨na, aa, ca⟩, rfl, rfl, J0⟩ := hcut
    have HX : Hid (Sorted cmpI (join cmpI [] (xa.take 30)) ∧ (join cmpI [] (xa.take 30)).length ≤ 30) := ⟨join_nil_sorted _, by have := join_take_le (cf := cmpI) [] xa 30; simpa using this⟩
    obtain ⟨xs, hxs⟩ : ∃ xs, join cmpI [] (xa.take 30) = xs := ⟨_, rfl⟩
    rw [hxs] at HX J0
    clear hxs
    have HX2 : Hid (Sorted cmpI xs ∧ xs.length ≤ 30) := HX
    have hxl : xs.length ≤ 30 := HX.out.2
    have JJ : Hid (∃ vs, Two w1 wc ps vs xs pt (.slice none 0 0) [] ∧ Free wc al nl cl xs (Feet ps vs pt (.slice none 0 0)) ∧ Free wc aa na ca xs (Feet ps vs pt (.slice none 0 0))) := J0
    clear J0 HX T0
    obtain ⟨vs, TJ, FLJ, FAJ⟩ := JJ.out
    have T0 : Hid (Two w1 wc ps vs xs pt (.slice none 0 0) [] ∧ Free wc al nl cl xs (Feet ps vs pt (.slice none 0 0)) ∧ Free wc aa na ca xs (Feet ps vs pt (.slice none 0 0))) := ⟨TJ, FLJ, FAJ⟩
    clear JJ TJ FLJ FAJ
    go_upto_block 2 with fail
    go_cut [9, 10] (fun s9 s10 wd => ∃ (mm ma : Nat × Option Addr × Nat), s9 = .slice mm.2.1 mm.1 mm.2.2 ∧ s10 = .slice ma.2.1 ma.1 ma.2.2 ∧
      Hid (∃ vt, Two w1 wd ps vs xs pt vt (join cmpI [] (xb.take 30)) ∧ Free wd al nl cl xs (Feet ps vs pt vt) ∧ Free wd mm.2.1 mm.1 mm.2.2 (join cmpI [] (xb.take 30)) (Feet ps vs pt vt) ∧ Free wd ma.2.1 ma.1 ma.2.2 (join cmpI xs (xb.take 30)) (Feet ps vs pt vt)))
    case first =>
      go_wp2_with fail
      go_loopg [9, 10, 12] 31 (fun kx s9 s10 s12 wr => ∃ (I : Nat) (mm ma : Nat × Option Addr × Nat), s9 = .slice mm.2.1 mm.1 mm.2.2 ∧ s10 = .slice ma.2.1 ma.1 ma.2.2 ∧ s12 = .int .i64 I ∧ I ≤ len1 ∧ I ≤ 30 ∧ 30 - I < kx ∧
        Hid (∃ vt, Two w1 wr ps vs xs pt vt (join cmpI [] (xb.take I)) ∧ Free wr al nl cl xs (Feet ps vs pt vt) ∧ Free wr mm.2.1 mm.1 mm.2.2 (join cmpI [] (xb.take I)) (Feet ps vs pt vt) ∧ Free wr ma.2.1 ma.1 ma.2.2 (join cmpI xs (xb.take I)) (Feet ps vs pt vt)))
      case atStart => exact ⟨0, (0, none, 0), (na, aa, ca), rfl, rfl, rfl, Nat.zero_le _, Nat.zero_le _, by omega, (⟨_, T0.out.1, T0.out.2.1, Free.nil _ _, T0.out.2.2⟩ : ∃ vt, Two w1 _ ps vs xs pt vt [] ∧ Free _ al nl cl xs (Feet ps vs pt vt) ∧ Free _ none 0 0 [] (Feet ps vs pt vt) ∧ Free _ aa na ca xs (Feet ps vs pt vt))⟩
      case round =>
        clear T0
        obtain ⟨I, ⟨nm, am, cm⟩, ⟨na, aa, ca⟩, rfl, rfl, rfl, hI, hI3, hg, J⟩ := hrel
        by_cases hlt : I < len1
        · by_cases hlt3 : I < 30
          · obtain ⟨vt, T, FL, FM, FA⟩ := J.out
            have sgB : Hid (Seg (Value.int .i64) 0 wr a1 len1 cap1 xb) := (HB.out.below K1.out).below (T.below.mono (Nat.le_refl _))
            obtain ⟨b, off, rfl, hb, hcell⟩ := sgB.out.at (by omega)
            have cI := hcell I hlt
            have hle : (join cmpI [] (xb.take I)).length ≤ 30 := by have := join_take_le (cf := cmpI) [] xb I; simp at this; omega
            have hle2 : (join cmpI xs (xb.take I)).length ≤ 60 := by have := join_take_le (cf := cmpI) xs xb I; omega
            have hadd := add_spec cmp9 T.t (join_nil_sorted _) (by omega) (xb[I]?.getD 0)
            have HN : Hid (join cmpI [] (xb.take (I + 1)) = ins cmpI (xb[I]?.getD 0) (join cmpI [] (xb.take I))) := by
              show _ = _
              rw [take_next (d := 0) (by rw [sgB.out.size]; exact hlt), join_snoc]
            have HM : Hid (join cmpI xs (xb.take (I + 1)) = ins cmpI (xb[I]?.getD 0) (join cmpI xs (xb.take I))) := by
              show _ = _
              rw [take_next (d := 0) (by rw [sgB.out.size]; exact hlt), join_snoc]
            have HT : Hid (Two w1 wr ps vs xs pt vt (join cmpI [] (xb.take I)) ∧ Free wr al nl cl xs (Feet ps vs pt vt) ∧ Free wr am nm cm (join cmpI [] (xb.take I)) (Feet ps vs pt vt) ∧ Free wr aa na ca (join cmpI xs (xb.take I)) (Feet ps vs pt vt)) := ⟨T, FL, FM, FA⟩
            clear hcell J T FL FM FA
            generalize hy : xb[I]?.getD 0 = y at cI hadd HN HM
            have Y : Hid (xb[I]?.getD 0 = y) := hy
            clear hy
            generalize hL1 : join cmpI [] (xb.take (I + 1)) = L1 at HN
            have HL1 : Hid (join cmpI [] (xb.take (I + 1)) = L1) := hL1
            clear hL1
            generalize hM1 : join cmpI xs (xb.take (I + 1)) = M1 at HM
            have HM1 : Hid (join cmpI xs (xb.take (I + 1)) = M1) := hM1
            clear hM1
            generalize join cmpI [] (xb.take I) = L0 at hadd HN HT hle
            generalize join cmpI xs (xb.take I) = M0 at HM HT hle2
            generalize isIn cmpI y L0 = q at hadd
            go_wp2_with fail
            refine hadd.mono ?_
            rintro e w4 ⟨v4, rfl, S4, W4⟩
            have HT4 : Hid (Two w1 w4 ps vs xs pt v4 L1 ∧ Free w4 al nl cl xs (Feet ps vs pt v4) ∧ Free w4 am nm cm L0 (Feet ps vs pt v4) ∧ Free w4 aa na ca M0 (Feet ps vs pt v4)) := by
              rw [HN.out]
              exact ⟨(HT.out.1.turn.wrote S4 W4).turn, HT.out.2.1.wt W4, HT.out.2.2.1.wt W4, HT.out.2.2.2.wt W4⟩
            have hF4 : Hid (∀ k, Feet ps vs pt v4 k → k < w4.heap.size) := HT4.out.1.lt
            have c4 : w4.cell? ⟨b, off + I, none⟩ = some (.int .i64 y) := (by
              have := HB.out.below K1.out
              have := this.below (HT4.out.1.below.mono (Nat.le_refl _))
              rw [← Y.out]
              have := this.cell _ rfl I hlt
              rwa [Addr.add_lit] at this)
            clear hadd S4 W4 cI HT sgB
            go_upto_region 15 with fail
            go_region_held (fun w' => w'.cell? ⟨b, off + I, none⟩ = some (.int .i64 y)) (first | exact c4 | exact c5 | exact c6)
              (first
                | (go_at_call 14; refine (in_free false X5.out.2.2 (fun k hk => Nat.lt_of_lt_of_le (hF4.out k hk) B5.out.size) (by omega) y HM.out).mono ?_
                   rintro e w6 ⟨a6, n6, k6, rfl, Y6⟩
                   have c6 : w6.cell? ⟨b, off + I, none⟩ = some (.int .i64 y) := (by rw [Y6.out.2.cell (World.block_lt_of_cell? _ _ c5)]; exact c5))
                | (go_at_call 14; refine (in_free false HT4.out.2.2.1.drew hF4.out (by omega) y HN.out).mono ?_
                   rintro e w5 ⟨a5, n5, k5, rfl, Y5⟩
                   have B5 : Hid (Below w4.heap.size w4 w5) := below_step ((Below.refl _ _).drew) Y5.out.2
                   have X5 : Hid (Free w5 al nl cl xs (Feet ps vs pt v4) ∧ Free w5 a5 n5 k5 L1 (Feet ps vs pt v4) ∧ Free w5 aa na ca M0 (Feet ps vs pt v4)) := ⟨HT4.out.2.1.step B5.out, Y5.out.1, HT4.out.2.2.2.step B5.out⟩
                   have c5 : w5.cell? ⟨b, off + I, none⟩ = some (.int .i64 y) := (by rw [B5.out.cell (World.block_lt_of_cell? _ _ c4)]; exact c4)))
            go_wp2
            go_roundg (30 - I)
            case measure => omega
            case rel => exact ⟨I + 1, (n5, a5, k5), (n6, a6, k6), rfl, rfl, by simp, by omega, by omega, by omega, by rw [HL1.out, HM1.out]; exact ⟨v4, HT4.out.1.step (below_step B5.out Y6.out.2), X5.out.1.step Y6.out.2, X5.out.2.1.step Y6.out.2, Y6.out.1⟩⟩
          · have HE : Hid (xb.take I = xb.take 30) := take_end HB.out.size hI hI3 (by omega)
            rw [HE.out] at J
            have J2 : Hid (∃ vt, Two w1 wr ps vs xs pt vt (join cmpI [] (xb.take 30)) ∧ Free wr al nl cl xs (Feet ps vs pt vt) ∧ Free wr am nm cm (join cmpI [] (xb.take 30)) (Feet ps vs pt vt) ∧ Free wr aa na ca (join cmpI xs (xb.take 30)) (Feet ps vs pt vt)) := J
            clear J
            go_wp2_with fail
            go_meet
            exact ⟨(nm, am, cm), (na, aa, ca), rfl, rfl, J2⟩
        · have HE : Hid (xb.take I = xb.take 30) := take_end HB.out.size hI hI3 (by omega)
          rw [HE.out] at J
          have J2 : Hid (∃ vt, Two w1 wr ps vs xs pt vt (join cmpI [] (xb.take 30)) ∧ Free wr al nl cl xs (Feet ps vs pt vt) ∧ Free wr am nm cm (join cmpI [] (xb.take 30)) (Feet ps vs pt vt) ∧ Free wr aa na ca (join cmpI xs (xb.take 30)) (Feet ps vs pt vt)) := J
          clear J
          go_wp2_with fail
          go_meet
          exact ⟨(nm, am, cm), (na, aa, ca), rfl, rfl, J2⟩
    case rest =>
      obtain ⟨⟨nm, am, cm⟩, ⟨nb, ab, cb⟩, rfl, rfl, J0⟩ := hcut
      have JJ : Hid (∃ vt, Two w1 wc ps vs xs pt vt (join cmpI [] (xb.take 30)) ∧ Free wc al nl cl xs (Feet ps vs pt vt) ∧ Free wc am nm cm (join cmpI [] (xb.take 30)) (Feet ps vs pt vt) ∧ Free wc ab nb cb (join cmpI xs (xb.take 30)) (Feet ps vs pt vt)) := J0
      clear J0 T0
      obtain ⟨vt, T, FL, FM, FA⟩ := JJ.out
      have hyl : (join cmpI [] (xb.take 30)).length ≤ 30 := by have := join_take_le (cf := cmpI) [] xb 30; simpa using this
      have hal : (join cmpI xs (xb.take 30)).length ≤ 60 := by have := join_take_le (cf := cmpI) xs xb 30; omega
      have HY : Hid (Sorted cmpI (join cmpI [] (xb.take 30)) ∧ Sorted cmpI (join cmpI xs (xb.take 30)) ∧ join cmpI xs (join cmpI [] (xb.take 30)) = join cmpI xs (xb.take 30) ∧ join cmpI (join cmpI [] (xb.take 30)) (join cmpI xs (xb.take 30)) = join cmpI xs (xb.take 30)) :=
        ⟨join_nil_sorted _, join_sorted cmpI_ord _ HX2.out.1, join_again HX2.out.1 _, join_back HX2.out.1 _⟩
      generalize join cmpI [] (xb.take 30) = ys at T FM HY hyl
      generalize join cmpI xs (xb.take 30) = zs at FA HY hal
      clear JJ
      have hz : zs.length = nb := FA.seg.size
      have hnb : nb ≤ 60 := by omega
      have U1 := union_spec cmp9 T.s T.t HX2.out.1 (by omega)
      rw [HY.out.2.2.1, FL.seg.size, FA.seg.size, show decide (nl < nb) = decide ((nl : Int) < (nb : Int)) from decide_eq_decide.2 (by omega)] at U1
      have HT : Hid (Two w1 wc ps vs xs pt vt ys ∧ Free wc am nm cm ys (Feet ps vs pt vt) ∧ Free wc ab nb cb zs (Feet ps vs pt vt)) := ⟨T, FM, FA⟩
      have hmb : cb ≤ 9223372036854775807 := by have := FA.seg.max; unfold maxLen at this; omega
      have hnc : nb ≤ cb := FA.seg.le
      have HSZ : Hid (zs.length = nb ∧ ys.length = nm) := ⟨FA.seg.size, FM.seg.size⟩
      clear T FL FM FA hz
      go_wp2_with fail
      refine U1.mono ?_
      rintro e w5 ⟨v5, rfl, S5, W5⟩
      have HT5 : Hid (Two w1 w5 ps v5 zs pt vt ys ∧ Free w5 am nm cm ys (Feet ps v5 pt vt) ∧ Free w5 ab nb cb zs (Feet ps v5 pt vt)) := ⟨HT.out.1.wrote S5 W5, HT.out.2.1.ws W5, HT.out.2.2.ws W5⟩
      clear U1 S5 W5 HT
      have U2 := len_spec HT5.out.1.s
      rw [HSZ.out.1] at U2
      go_wp2_with fail
      refine U2.mono ?_
      rintro e w6 ⟨rfl, rfl⟩
      clear U2
      have U3 := len_spec HT5.out.1.t
      rw [HSZ.out.2] at U3
      go_wp2_with fail
      refine U3.mono ?_
      rintro e w7 ⟨rfl, rfl⟩
      clear U3
      have U4 := union_spec cmp9 HT5.out.1.t HT5.out.1.s HY.out.1 (by omega)
      rw [HY.out.2.2.2, HSZ.out.1, HSZ.out.2, show decide (nm < nb) = decide ((nm : Int) < (nb : Int)) from decide_eq_decide.2 (by omega)] at U4
      go_wp2_with fail
      refine U4.mono ?_
      rintro e w8 ⟨v8, rfl, S8, W8⟩
      have HT8 : Hid (Two w1 w8 ps v5 zs pt v8 zs ∧ Free w8 ab nb cb zs (Feet ps v5 pt v8)) := ⟨(HT5.out.1.turn.wrote S8 W8).turn, HT5.out.2.2.wt W8⟩
      clear U4 S8 W8 HT5
      have U5 := union_spec cmp9 HT8.out.1.s HT8.out.1.s HY.out.2.1 (by omega)
      rw [join_self HY.out.2.1, show decide (zs.length < zs.length) = false from decide_eq_false (Nat.lt_irrefl _)] at U5
      go_wp2_with fail
      refine U5.mono ?_
      rintro e w9 ⟨v9, rfl, S9, W9⟩
      have HT9 : Hid (Two w1 w9 ps v9 zs pt v8 zs ∧ Free w9 ab nb cb zs (Feet ps v9 pt v8)) := ⟨HT8.out.1.wrote S9 W9, HT8.out.2.ws W9⟩
      clear U5 S9 W9 HT8
      go_wp2_with fail
      go_loopg [13] nb (fun kx s13 wr => ∃ I : Nat, s13 = .int .i64 I ∧ I ≤ nb ∧ nb - I ≤ kx ∧ wr = w9)
      case atStart => exact ⟨0, rfl, Nat.zero_le _, by omega, rfl⟩
      case round =>
        obtain ⟨I, rfl, hI, hg, rfl⟩ := hrel
        by_cases hlt : I < nb
        · have hlz : (I : Int) < (zs.length : Int) := by have := HSZ.out.1; omega
          have A1 := at_in HT9.out.1.s (I : Int) (by omega) hlz
          have A2 := at_in HT9.out.1.t (I : Int) (by omega) hlz
          obtain ⟨b, off, rfl, hb, hcell⟩ := HT9.out.2.seg.at (by omega)
          have cI := hcell I hlt
          rw [Int.toNat_natCast] at A1 A2
          clear hcell hlz
          generalize zs[I]?.getD 0 = y at A1 A2 cI
          go_wp2_with fail
          refine A1.mono ?_
          rintro e wa ⟨rfl, rfl⟩
          go_wp2_with fail
          refine A2.mono ?_
          rintro e wb ⟨rfl, rfl⟩
          go_wp2
          go_roundg (nb - (I + 1))
          case measure => omega
          case rel => exact ⟨I + 1, by simp, by omega, Nat.le_refl _, rfl⟩
        · go_wp2
          go_ret
          exact ⟨rfl, below_step K1.out HT9.out.1.below⟩

set_option maxRecDepth 100000 in
theorem lifted (os : Os) (started : os.Started) (H : Type) (enc : TypeId × Value → H) :
    ReturnsInHanded {} Try.checked os 7 .any (Rows.setUnionSpec.pre6 enc Try.prog Try.f7 Rows.setUnionRow.domain false) (Rows.setUnionSpec.post enc Try.prog Try.f7 false true false false) := by
  refine returnsInHanded_of_change (C := Try.checked) own started (by kernel_rfl) Try.func7
    (ChangeSpec.witness6 (enc := enc) (C := Try.checked) false ⟨#[], #[.slice none 0 0, .slice none 0 0], []⟩ 8 (by kernel_rfl) (by kernel_rfl) (by kernel_rfl) (by kernel_rfl)) ?_
  intro W base args ds gs before hval0 hW hcnd _
  have hval : ∀ (j : Nat) t v, Try.f7.params[j]? = some t → args[j]? = some v → Value.okWide Try.prog W .any base t v := hval0
  have hW' := hW
  obtain ⟨p, q, hA0, hV, rfl, hfz, hnd⟩ := hW
  have hA : DataW.TrodAll enc Try.prog W 0 (fun _ => true) true Try.f7.params.toList args.toList ds p := hA0
  rw [Try.params7] at hA hval
  obtain ⟨v0, vs0, d0, ds0, p0, q0, hargs, rfl, rfl, h0, r0⟩ := trodAll_cons hA
  obtain ⟨v1, vs1, d1, ds1, p1, q1, rfl, rfl, rfl, h1, r1⟩ := trodAll_cons r0
  obtain ⟨rfl, rfl, rfl⟩ := trodAll_nil r1
  obtain rfl : args = #[v0, v1] := by cases args; simp_all
  obtain ⟨rfl, rfl⟩ := trodVars_none hV
  obtain ⟨a0, len0, cap0, rfl⟩ := okWide_slice Try.underlying27 (hval 0 27 v0 rfl rfl)
  have k0 := h0
  have lt0 : ∀ x ∈ p0, x.block < W.heap.size := by obtain ⟨m, hm⟩ := k0; exact DataW.trod_lt m _ _ _ hm
  obtain ⟨z0, w0⟩ : ∃ zs, IsRow .i64 W a0 len0 cap0 zs := by
    obtain ⟨fuel, hf⟩ := h0
    rcases open_ints Try.underlying27 Try.underlying3 (by kernel_rfl) hf with ⟨hcs, _⟩ | ⟨x, l, c, zs, hcs, _, hl, hm, hz, _, hcell, hwz⟩
    · simp [Value.cells] at hcs
      obtain ⟨rfl, rfl, rfl⟩ := hcs
      exact ⟨[], .inl ⟨rfl, rfl, rfl, rfl⟩⟩
    · simp [Value.cells] at hcs
      obtain ⟨rfl, rfl, rfl⟩ := hcs
      exact ⟨zs, .inr ⟨_, rfl, hl, hm, by simpa using hz, hcell, hwz⟩⟩
  obtain ⟨a1, len1, cap1, rfl⟩ := okWide_slice Try.underlying27 (hval 1 27 v1 rfl rfl)
  have k1 := h1
  have lt1 : ∀ x ∈ p1, x.block < W.heap.size := by obtain ⟨m, hm⟩ := k1; exact DataW.trod_lt m _ _ _ hm
  obtain ⟨z1, w1⟩ : ∃ zs, IsRow .i64 W a1 len1 cap1 zs := by
    obtain ⟨fuel, hf⟩ := h1
    rcases open_ints Try.underlying27 Try.underlying3 (by kernel_rfl) hf with ⟨hcs, _⟩ | ⟨x, l, c, zs, hcs, _, hl, hm, hz, _, hcell, hwz⟩
    · simp [Value.cells] at hcs
      obtain ⟨rfl, rfl, rfl⟩ := hcs
      exact ⟨[], .inl ⟨rfl, rfl, rfl, rfl⟩⟩
    · simp [Value.cells] at hcs
      obtain ⟨rfl, rfl, rfl⟩ := hcs
      exact ⟨zs, .inr ⟨_, rfl, hl, hm, by simpa using hz, hcell, hwz⟩⟩
  clear hA0 hval0
  refine (walk a0 len0 cap0 z0 a1 len1 cap1 z1 W w0 w1).mono fun e W' ⟨he, bel⟩ => ?_
  subst he
  exact ⟨_, rfl, _, _, _, [], _, [], hW', trodAll_mk1 (shut_bool Try.underlying4 _), (trodAll_cons_mk (Below.trod laidOut (by kernel_rfl) (of_decide_eq_true (by kernel_rfl)) k0 bel lt0) (trodAll_cons_mk (Below.trod laidOut (by kernel_rfl) (of_decide_eq_true (by kernel_rfl)) k1 bel lt1) trodAll_mk0)), rfl, bel.frame _, fun h => by cases h⟩

theorem over : Rows.setUnionRow.holds Try.pinned (OpenSpec.ofChange Rows.setUnionSpec) :=
  OpenClaim.holds_of_wide 7 Try.f7 rfl rfl rfl rfl rfl rfl rfl ⟨rfl, rfl, rfl, rfl, rfl⟩ rfl rfl rfl rfl rfl (by kernel_rfl) Try.func7 (by kernel_rfl)
    (of_decide_eq_true (by kernel_rfl)) (by unfold Func.isWrapper; first | (rw [if_pos (by decide +kernel)]; kernel_rfl) | (rw [if_neg (by decide +kernel)]; exact ⟨rfl, rfl⟩))
    (fun os started H enc _ => lifted os started H enc)

end Go.Proofs.Ytdgdaldgchbbaaa.LawUnion
namespace Go.Proofs.Ytdgdaldgchbbaaa
theorem setUnion_holds : Rows.SetUnionSaid := LawUnion.over
#print axioms setUnion_holds
end Go.Proofs.Ytdgdaldgchbbaaa
