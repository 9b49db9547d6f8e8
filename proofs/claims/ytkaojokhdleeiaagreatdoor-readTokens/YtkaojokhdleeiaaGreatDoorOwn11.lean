/-
  Texts that the proof of the Read statements stands on, part Own11.
-/
import Derived.Test.YtkaojokhdleeiaaGreatDoorOwn10
import Derived.Test.YtkaojokhdleeiaaGreatDoorOwn01
import Derived.Test.YtkaojokhdleeiaaGreatDoorOwn02
import Derived.Test.YtkaojokhdleeiaaGreatDoorOwn09
/-
  The walk of Read.
-/
namespace Go.Proofs.YtkaojokhdleeiaaGreatDoor
open Go.RowKit

set_option maxRecDepth 20000

/-- A scan's fault comes last. -/
def endRd (bad : Int) (R : Except Flt St) : Except Flt St := if bad < 0 then R else match R with | .error e => .error e | .ok _ => .error (1, bad)

/-- What Read gives. -/
def ReadOut (s : ByteArray) (w : World) (e : Ending) (w' : World) : Prop :=
  Below w.heap.size w w' ∧
  match readS s with
  | .error f => e = .returned (.tuple #[gv ⟨none, 0, none, 0⟩ ⟨[], ⟨#[]⟩, 0, []⟩, fv f])
  | .ok S => ∃ h qs, e = .returned (.tuple #[gv h (gmOf S), fv (0, 0)]) ∧ OwnG w' w.heap.size h (gmOf S) qs

/-- A box of another type is stored into. -/
theorem OwnG.off {w : World} {base : Nat} {h : Hd} {G : Gm} {qs : List (Ru × Option Addr × Nat)} {b j T : Nat} {u : Value} (o : OwnG w base h G qs) (hb : Loc w b T) (h1 : T ≠ 50 ∧ T ≠ 58 ∧ T ≠ 9) : OwnG (w.setCell ⟨b, j, none⟩ u) base h G qs := by
  have apart : ∀ {E k n : Nat} {v : Value} {cs : List Value}, w.ownsRow base E k v n cs → E ≠ T → (w.setCell ⟨b, j, none⟩ u).ownsRow base E k v n cs := by
    intro E k n v cs ho hE
    exact ownsRow_of_block ho (fun i hi => Below.heap_setCell _ _ _ _ (loc_ne (own_loc ho hi) hb hE))
  exact ⟨apart o.tok (Ne.symm h1.1), apart o.rul (Ne.symm h1.2.1), o.map, fun q hq => apart (o.row q hq) (Ne.symm h1.2.2)⟩

set_option maxHeartbeats 8000000 in
theorem read_calls (s : ByteArray) (w : World) (hs : s.size ≤ 1048576) : Calls Tryz.prog 15 #[.string s] w fun e w' => ReadOut s w e w' := by
  have hs1 : (s.size : Int) ≤ 1048576 := by omega
  have hb2 : ((w.alloc (.cells #[.slice none 0 0, .string ⟨#[]⟩, .int .i64 0, .slice none 0 0] 28)).alloc (.cells #[.int .i64 0, .int .i64 0] 46)).heap[w.heap.size + 1]? = some (.cells #[.int .i64 0, .int .i64 0] 46 (0, 0)) := by
    have := heap_alloc_new (w.alloc (.cells #[.slice none 0 0, .string ⟨#[]⟩, .int .i64 0, .slice none 0 0] 28)) (.cells #[.int .i64 0, .int .i64 0] 46)
    rwa [size_alloc1] at this
  have hb1 : ((w.alloc (.cells #[.slice none 0 0, .string ⟨#[]⟩, .int .i64 0, .slice none 0 0] 28)).alloc (.cells #[.int .i64 0, .int .i64 0] 46)).heap[w.heap.size]? = some (.cells #[.slice none 0 0, .string ⟨#[]⟩, .int .i64 0, .slice none 0 0] 28 (0, 0)) := block_below (below_alloc _ _) (heap_alloc_new _ _)
  have HB : Hid (Below w.heap.size w ((w.alloc (.cells #[.slice none 0 0, .string ⟨#[]⟩, .int .i64 0, .slice none 0 0] 28)).alloc (.cells #[.int .i64 0, .int .i64 0] 46))) := below_step (below_alloc _ _) (below_alloc _ _)
  go_enter Tryz.func15, Tryz.ntmps15
  go_upto_region 1 with fail
  generalize (w.alloc (.cells #[.slice none 0 0, .string ⟨#[]⟩, .int .i64 0, .slice none 0 0] 28)).alloc (.cells #[.int .i64 0, .int .i64 0] 46) = W1 at hb1 hb2 HB ⊢
  obtain ⟨gb, hgb⟩ : ∃ gb, gb = w.heap.size := ⟨_, rfl⟩
  obtain ⟨nb, hnb⟩ : ∃ nb, nb = w.heap.size + 1 := ⟨_, rfl⟩
  rw [← hnb] at hb2 ⊢
  rw [← hgb] at hb1 ⊢
  have HNB : Hid (w.heap.size ≤ gb ∧ w.heap.size ≤ nb ∧ gb ≠ nb) := ⟨by omega, by omega, by omega⟩
  have hne : gb ≠ nb := by omega
  have hne2 : nb ≠ gb := by omega
  clear hgb hnb
  by_cases hl : 2000 < s.size
  · have hl' : (s.size : Int) > 2000 := by omega
    obtain ⟨y0, y1, y2, y3, y4, y5, y6, y7⟩ := box_cells hb1
    obtain ⟨q3, q4, z3, z4⟩ := box46 hb2
    go_wp2_with fail
    refine bodyPost_ret (v := .tuple #[.agg #[.slice none 0 0, .string ⟨#[]⟩, .int .i64 0, .slice none 0 0], .agg #[.int .i64 6, .int .i64 0]]) (by simp [results, Tryz.results15, go_sem, *]) rfl ?_
    refine ⟨?_, ?_⟩
    · exact ((set4_below _ _ _ _ HB.out HNB.out.1).setCell (p := ⟨nb, 0, none⟩) HNB.out.2.1 _).setCell (p := ⟨nb, 1, none⟩) HNB.out.2.1 _
    · have e : readS s = .error (6, 0) := by unfold readS; rw [if_pos hl]
      rw [e]
      rfl
  · have hl' : ¬ (s.size : Int) > 2000 := by omega
    have HSC : Hid (Calls Tryz.prog 27 #[.string s] W1 fun e w' => Scanned s W1 w' e) := scan_calls s W1 hs
    have HBX : Hid (W1.heap[gb]? = some (.cells #[.slice none 0 0, .string ⟨#[]⟩, .int .i64 0, .slice none 0 0] 28 (0, 0)) ∧ W1.heap[nb]? = some (.cells #[.int .i64 0, .int .i64 0] 46 (0, 0))) := ⟨hb1, hb2⟩
    have HL : Hid (¬ 2000 < s.size) := hl
    clear hb1 hb2 hl
    go_wp2_with fail
    refine HSC.out.mono ?_
    rintro e V ⟨v, rfl, hW, hB⟩
    have HV : Hid (IsW V W1.heap.size s v (scan (by8 s)).1 ∧ Below W1.heap.size W1 V) := ⟨hW, hB⟩
    clear hW hB HSC
    generalize hbad : (scan (by8 s)).2 = bad
    have HBAD : Hid ((scan (by8 s)).2 = bad) := hbad
    clear hbad
    rcases scan_fault (by8 s) with hf | ⟨m, hf⟩
    · have hbd : bad = -1 := by rw [← HBAD.out]; exact hf
      have HF : Hid (∃ t base, IsW V base t v (scan (by8 t)).1 ∧ (scan (by8 t)).2 = -1 ∧ Below W1.heap.size W1 V ∧ readS s = endRd bad (readP (st0 (wordsOf t)))) := by
        refine ⟨s, _, HV.out.1, hf, HV.out.2, ?_⟩
        unfold readS endRd
        rw [if_neg HL.out, if_pos (by rw [hf]; decide), if_pos (by omega)]
      have hge : ¬ (bad ≥ 0) := by omega
      have hlt0 : bad < 0 := by omega
      clear hf hbd HV HBAD HL
      go_upto_region 6 with fail
      obtain ⟨t, base, hW, hsf, hBt, hrs⟩ := HF.out
      obtain ⟨⟨wb, wo, wl, ta, tc, ra, rc⟩, rfl, h1, h2, h3, h4, hrd⟩ := RD.init hW hsf
      simp only at h1 h2 h3 h4
      subst h1 h2 h3 h4
      obtain ⟨R, hR⟩ : ∃ R, readP (st0 (wordsOf t)) = R := ⟨_, rfl⟩
      have HTX : Hid (Calls Tryz.prog 28 #[.pointer (some ⟨V.heap.size, 0, none⟩)] (V.alloc (.cells #[.slice (some ⟨wb, wo, none⟩) (st0 (wordsOf t)).ws.length wl, .slice none 0 0, .int .i64 0, .string ⟨#[]⟩, .bool false, .int .i64 0, .slice none 0 0] 63)) fun e W' => DidQ V (V.alloc (.cells #[.slice (some ⟨wb, wo, none⟩) (st0 (wordsOf t)).ws.length wl, .slice none 0 0, .int .i64 0, .string ⟨#[]⟩, .bool false, .int .i64 0, .slice none 0 0] 63)) V.heap.size R e W') := by rw [← hR]; exact rdText_calls _ _ _ _ _ _ hrd
      have HRS : Hid (readS s = endRd bad R) := by rw [← hR]; exact hrs
      have HKD : Hid (∀ g, R = .error g → g.1 ≠ 0) := fun g hg => readP_flt (hR.trans hg)
      have hx := below_alloc V (.cells #[.slice (some ⟨wb, wo, none⟩) (st0 (wordsOf t)).ws.length wl, .slice none 0 0, .int .i64 0, .string ⟨#[]⟩, .bool false, .int .i64 0, .slice none 0 0] 63)
      have HBY : Hid (Below w.heap.size w V ∧ V.heap[gb]? = some (.cells #[.slice none 0 0, .string ⟨#[]⟩, .int .i64 0, .slice none 0 0] 28 (0, 0)) ∧ V.heap[nb]? = some (.cells #[.int .i64 0, .int .i64 0] 46 (0, 0))) := ⟨below_step HB.out hBt, block_below hBt HBX.out.1, block_below hBt HBX.out.2⟩
      have HBZ : Hid ((V.alloc (.cells #[.slice (some ⟨wb, wo, none⟩) (st0 (wordsOf t)).ws.length wl, .slice none 0 0, .int .i64 0, .string ⟨#[]⟩, .bool false, .int .i64 0, .slice none 0 0] 63)).heap[gb]? = some (.cells #[.slice none 0 0, .string ⟨#[]⟩, .int .i64 0, .slice none 0 0] 28 (0, 0)) ∧ (V.alloc (.cells #[.slice (some ⟨wb, wo, none⟩) (st0 (wordsOf t)).ws.length wl, .slice none 0 0, .int .i64 0, .string ⟨#[]⟩, .bool false, .int .i64 0, .slice none 0 0] 63)).heap[nb]? = some (.cells #[.int .i64 0, .int .i64 0] 46 (0, 0))) := ⟨block_below hx HBY.out.2.1, block_below hx HBY.out.2.2⟩
      clear HF hW hsf hrs hrd hR hBt HBX HB hx
      go_upto_region 7 with fail
      generalize (st0 (wordsOf t)).ws.length = wn at *
      generalize V.alloc (.cells #[.slice (some ⟨wb, wo, none⟩) wn wl, .slice none 0 0, .int .i64 0, .string ⟨#[]⟩, .bool false, .int .i64 0, .slice none 0 0] 63) = X0 at *
      go_wp2_with fail
      refine HTX.out.mono ?_
      rintro e X ⟨hd', S', qs', rfl, hrd', hk, hS⟩
      have HX : Hid (RD V X V.heap.size hd' S' qs' ∧ (∀ S1, R = .ok S1 → S' = S1) ∧ X.heap[gb]? = some (.cells #[.slice none 0 0, .string ⟨#[]⟩, .int .i64 0, .slice none 0 0] 28 (0, 0)) ∧ X.heap[nb]? = some (.cells #[.int .i64 0, .int .i64 0] 46 (0, 0))) := ⟨hrd', hS, hk.loc _ _ _ HBZ.out.1 (by decide) (by decide) (by decide) (by decide), hk.loc _ _ _ HBZ.out.2 (by decide) (by decide) (by decide) (by decide)⟩
      clear hrd' hk hS HTX HBZ
      cases R with
      | error g =>
        obtain ⟨gk, ga⟩ := g
        have hk0 : gk ≠ 0 := HKD.out _ rfl
        have hk1 : (gk == 0) = false := by simpa using hk0
        have hk2 : (gk != 0) = true := by simpa using hk0
        have HE : Hid (readS s = .error (gk, ga)) := by
          show _ = _
          rw [HRS.out]
          unfold endRd
          split <;> rfl
        rw [show fv (fltOf (.error (gk, ga) : Except Flt St)) = .agg #[.int .i64 gk, .int .i64 ga] from rfl]
        clear HRS HKD hk0
        have hx := below_alloc X (.cells #[.int .i64 gk, .int .i64 ga] 46)
        have b0 := heap_alloc_new X (.cells #[.int .i64 gk, .int .i64 ga] 46)
        have b1 := block_below hx HX.out.2.2.1
        have b2 := block_below hx HX.out.2.2.2
        obtain ⟨y0, y1, y2, y3, y4, y5, y6, y7⟩ := box_cells b1
        obtain ⟨q3, q4, z3, z4⟩ := box46 b2
        obtain ⟨p0, p1, p2, p3⟩ := box46 b0
        have hn1 : X.heap.size ≠ gb := fun e => by have := (Array.getElem?_eq_some_iff.1 HX.out.2.2.1).1; omega
        have hn2 : X.heap.size ≠ nb := fun e => by have := (Array.getElem?_eq_some_iff.1 HX.out.2.2.2).1; omega
        clear hx b0 b1 b2
        have HBW : Hid (Below w.heap.size w (X.alloc (.cells #[.int .i64 gk, .int .i64 ga] 46))) := below_step (below_step HBY.out.1 HX.out.1.bel) (below_alloc _ _)
        go_upto_region 11 with fail
        generalize X.alloc (.cells #[.int .i64 gk, .int .i64 ga] 46) = X1 at *
        generalize X.heap.size = fb at *
        clear HX HBY
        go_region
        go_wp2_with fail
        refine bodyPost_ret (v := .tuple #[.agg #[.slice none 0 0, .string ⟨#[]⟩, .int .i64 0, .slice none 0 0], .agg #[.int .i64 gk, .int .i64 ga]]) (by simp [results, Tryz.results15, go_sem, *]) rfl ?_
        refine ⟨?_, by rw [HE.out]; rfl⟩
        exact below_step (((set4_below (.slice none 0 0) (.string ⟨#[]⟩) (.int .i64 0) (.slice none 0 0) HBW.out HNB.out.1).setCell (p := ⟨nb, 0, none⟩) HNB.out.2.1 _).setCell (p := ⟨nb, 1, none⟩) HNB.out.2.1 _) (below_drew' _)
      | ok S1 =>
        have hS1 : S' = S1 := HX.out.2.1 S1 rfl
        subst hS1
        have HE : Hid (readS s = .ok S') := by
          show _ = _
          rw [HRS.out]
          unfold endRd
          rw [if_pos hlt0]
        rw [show fv (fltOf (.ok S' : Except Flt St)) = .agg #[.int .i64 0, .int .i64 0] from rfl]
        have hx := below_alloc X (.cells #[.int .i64 0, .int .i64 0] 46)
        obtain ⟨p0, p1, p2, p3⟩ := box46 (heap_alloc_new X (.cells #[.int .i64 0, .int .i64 0] 46))
        have HG : Hid (Calls Tryz.prog 29 #[.pointer (some ⟨V.heap.size, 0, none⟩)] (X.alloc (.cells #[.int .i64 0, .int .i64 0] 46)) fun e W' => ∃ h', e = .returned (gv h' (gmOf S')) ∧ OwnG W' V.heap.size h' (gmOf S') qs' ∧ Below (X.alloc (.cells #[.int .i64 0, .int .i64 0] 46)).heap.size (X.alloc (.cells #[.int .i64 0, .int .i64 0] 46)) W') := rdGram_calls _ _ _ _ _ _ (HX.out.1.step hx)
        have HBW : Hid (Below w.heap.size w (X.alloc (.cells #[.int .i64 0, .int .i64 0] 46)) ∧ (X.alloc (.cells #[.int .i64 0, .int .i64 0] 46)).heap[gb]? = some (.cells #[.slice none 0 0, .string ⟨#[]⟩, .int .i64 0, .slice none 0 0] 28 (0, 0)) ∧ (X.alloc (.cells #[.int .i64 0, .int .i64 0] 46)).heap[nb]? = some (.cells #[.int .i64 0, .int .i64 0] 46 (0, 0)) ∧ w.heap.size ≤ V.heap.size) := ⟨below_step (below_step HBY.out.1 HX.out.1.bel) hx, block_below hx HX.out.2.2.1, block_below hx HX.out.2.2.2, HBY.out.1.size⟩
        clear hx HKD HRS HX HBY
        go_wp2_with fail
        refine HG.out.mono ?_
        rintro e Y ⟨⟨ta', tc', ra', rc'⟩, rfl, hO, hB⟩
        have b1 := block_below hB HBW.out.2.1
        have b2 := block_below hB HBW.out.2.2.1
        have HY : Hid (OwnG Y w.heap.size ⟨ta', tc', ra', rc'⟩ (gmOf S') qs' ∧ Below w.heap.size w Y ∧ Loc Y gb 28 ∧ Loc Y nb 46) := ⟨⟨own_mono hO.tok HBW.out.2.2.2, own_mono hO.rul HBW.out.2.2.2, hO.map, fun q hq => own_mono (hO.row q hq) HBW.out.2.2.2⟩, below_step HBW.out.1 hB, ⟨_, b1⟩, ⟨_, b2⟩⟩
        obtain ⟨y0, y1, y2, y3, y4, y5, y6, y7⟩ := box_cells b1
        obtain ⟨q3, q4, z3, z4⟩ := box46 b2
        clear hO hB b1 b2 HG HBW p0 p1 p2 p3
        unfold gv gmOf
        simp only
        go_wp2_with fail
        refine bodyPost_ret (v := .tuple #[.agg #[.slice ta' S'.ts.length tc', .string S'.st, .int .i64 S'.ex, .slice ra' S'.rs.length rc'], .agg #[.int .i64 0, .int .i64 0]]) (by simp [results, Tryz.results15, go_sem, *]) rfl ?_
        obtain ⟨o, hb, l1, l2⟩ := HY.out
        refine ⟨((set4_below _ _ _ _ hb HNB.out.1).setCell (p := ⟨nb, 0, none⟩) HNB.out.2.1 _).setCell (p := ⟨nb, 1, none⟩) HNB.out.2.1 _, ?_⟩
        rw [HE.out]
        refine ⟨⟨ta', tc', ra', rc'⟩, qs', rfl, ?_⟩
        exact (((((o.off l1 (by decide)).off (l1.set _ _ _) (by decide)).off ((l1.set _ _ _).set _ _ _) (by decide)).off (((l1.set _ _ _).set _ _ _).set _ _ _) (by decide)).off ((((l2.set _ _ _).set _ _ _).set _ _ _).set _ _ _) (by decide)).off (((((l2.set _ _ _).set _ _ _).set _ _ _).set _ _ _).set _ _ _) (by decide)
    · have hbd : bad = (m : Int) := by rw [← HBAD.out]; exact hf
      have hm := scan_before hf
      have hm1 : m < s.size := hm.1
      have hsz : (s.extract 0 m).size ≤ 1048576 := by rw [ByteArray.size_extract]; omega
      have HSC : Hid (Calls Tryz.prog 27 #[.string (s.extract 0 m)] V fun e w' => Scanned (s.extract 0 m) V w' e) := scan_calls (s.extract 0 m) V hsz
      have HM : Hid ((scan (by8 (s.extract 0 m))).2 = -1 ∧ (scan (by8 s)).2 = (m : Int)) := ⟨hm.2, hf⟩
      have hge : (m : Int) ≥ 0 := by omega
      have hm2 : (m : Int) ≤ (s.size : Int) := by omega
      subst hbd
      clear hm hf hsz
      go_wp2_with fail
      refine HSC.out.mono ?_
      rintro e V2 ⟨v2, rfl, hW, hB⟩
      have HF : Hid (∃ t base, IsW V2 base t v2 (scan (by8 t)).1 ∧ (scan (by8 t)).2 = -1 ∧ Below W1.heap.size W1 V2 ∧ readS s = endRd (m : Int) (readP (st0 (wordsOf t)))) := by
        refine ⟨s.extract 0 m, _, hW, HM.out.1, below_step HV.out.2 hB, ?_⟩
        unfold readS endRd
        rw [if_neg HL.out, HM.out.2, if_neg (by omega), if_neg (by omega)]
        rfl
      have hlt0 : ¬ ((m : Int) < 0) := by omega
      clear hW hB HSC HM HV HBAD HL
      go_upto_region 6 with fail
      obtain ⟨t, base, hW, hsf, hBt, hrs⟩ := HF.out
      obtain ⟨⟨wb, wo, wl, ta, tc, ra, rc⟩, rfl, h1, h2, h3, h4, hrd⟩ := RD.init hW hsf
      simp only at h1 h2 h3 h4
      subst h1 h2 h3 h4
      obtain ⟨R, hR⟩ : ∃ R, readP (st0 (wordsOf t)) = R := ⟨_, rfl⟩
      have HTX : Hid (Calls Tryz.prog 28 #[.pointer (some ⟨V2.heap.size, 0, none⟩)] (V2.alloc (.cells #[.slice (some ⟨wb, wo, none⟩) (st0 (wordsOf t)).ws.length wl, .slice none 0 0, .int .i64 0, .string ⟨#[]⟩, .bool false, .int .i64 0, .slice none 0 0] 63)) fun e W' => DidQ V2 (V2.alloc (.cells #[.slice (some ⟨wb, wo, none⟩) (st0 (wordsOf t)).ws.length wl, .slice none 0 0, .int .i64 0, .string ⟨#[]⟩, .bool false, .int .i64 0, .slice none 0 0] 63)) V2.heap.size R e W') := by rw [← hR]; exact rdText_calls _ _ _ _ _ _ hrd
      have HRS : Hid (readS s = endRd (m : Int) R) := by rw [← hR]; exact hrs
      have HKD : Hid (∀ g, R = .error g → g.1 ≠ 0) := fun g hg => readP_flt (hR.trans hg)
      have hx := below_alloc V2 (.cells #[.slice (some ⟨wb, wo, none⟩) (st0 (wordsOf t)).ws.length wl, .slice none 0 0, .int .i64 0, .string ⟨#[]⟩, .bool false, .int .i64 0, .slice none 0 0] 63)
      have HBY : Hid (Below w.heap.size w V2 ∧ V2.heap[gb]? = some (.cells #[.slice none 0 0, .string ⟨#[]⟩, .int .i64 0, .slice none 0 0] 28 (0, 0)) ∧ V2.heap[nb]? = some (.cells #[.int .i64 0, .int .i64 0] 46 (0, 0))) := ⟨below_step HB.out hBt, block_below hBt HBX.out.1, block_below hBt HBX.out.2⟩
      have HBZ : Hid ((V2.alloc (.cells #[.slice (some ⟨wb, wo, none⟩) (st0 (wordsOf t)).ws.length wl, .slice none 0 0, .int .i64 0, .string ⟨#[]⟩, .bool false, .int .i64 0, .slice none 0 0] 63)).heap[gb]? = some (.cells #[.slice none 0 0, .string ⟨#[]⟩, .int .i64 0, .slice none 0 0] 28 (0, 0)) ∧ (V2.alloc (.cells #[.slice (some ⟨wb, wo, none⟩) (st0 (wordsOf t)).ws.length wl, .slice none 0 0, .int .i64 0, .string ⟨#[]⟩, .bool false, .int .i64 0, .slice none 0 0] 63)).heap[nb]? = some (.cells #[.int .i64 0, .int .i64 0] 46 (0, 0))) := ⟨block_below hx HBY.out.2.1, block_below hx HBY.out.2.2⟩
      clear HF hW hsf hrs hrd hR hBt HBX HB hx
      go_upto_region 7 with fail
      generalize (st0 (wordsOf t)).ws.length = wn at *
      generalize V2.alloc (.cells #[.slice (some ⟨wb, wo, none⟩) wn wl, .slice none 0 0, .int .i64 0, .string ⟨#[]⟩, .bool false, .int .i64 0, .slice none 0 0] 63) = X0 at *
      go_wp2_with fail
      refine HTX.out.mono ?_
      rintro e X ⟨hd', S', qs', rfl, hrd', hk, hS⟩
      have HX : Hid (RD V2 X V2.heap.size hd' S' qs' ∧ (∀ S1, R = .ok S1 → S' = S1) ∧ X.heap[gb]? = some (.cells #[.slice none 0 0, .string ⟨#[]⟩, .int .i64 0, .slice none 0 0] 28 (0, 0)) ∧ X.heap[nb]? = some (.cells #[.int .i64 0, .int .i64 0] 46 (0, 0))) := ⟨hrd', hS, hk.loc _ _ _ HBZ.out.1 (by decide) (by decide) (by decide) (by decide), hk.loc _ _ _ HBZ.out.2 (by decide) (by decide) (by decide) (by decide)⟩
      clear hrd' hk hS HTX HBZ
      cases R with
      | error g =>
        obtain ⟨gk, ga⟩ := g
        have hk0 : gk ≠ 0 := HKD.out _ rfl
        have hk1 : (gk == 0) = false := by simpa using hk0
        have hk2 : (gk != 0) = true := by simpa using hk0
        have HE : Hid (readS s = .error (gk, ga)) := by
          show _ = _
          rw [HRS.out]
          unfold endRd
          split <;> rfl
        rw [show fv (fltOf (.error (gk, ga) : Except Flt St)) = .agg #[.int .i64 gk, .int .i64 ga] from rfl]
        clear HRS HKD hk0
        have hx := below_alloc X (.cells #[.int .i64 gk, .int .i64 ga] 46)
        have b0 := heap_alloc_new X (.cells #[.int .i64 gk, .int .i64 ga] 46)
        have b1 := block_below hx HX.out.2.2.1
        have b2 := block_below hx HX.out.2.2.2
        obtain ⟨y0, y1, y2, y3, y4, y5, y6, y7⟩ := box_cells b1
        obtain ⟨q3, q4, z3, z4⟩ := box46 b2
        obtain ⟨p0, p1, p2, p3⟩ := box46 b0
        have hn1 : X.heap.size ≠ gb := fun e => by have := (Array.getElem?_eq_some_iff.1 HX.out.2.2.1).1; omega
        have hn2 : X.heap.size ≠ nb := fun e => by have := (Array.getElem?_eq_some_iff.1 HX.out.2.2.2).1; omega
        clear hx b0 b1 b2
        have HBW : Hid (Below w.heap.size w (X.alloc (.cells #[.int .i64 gk, .int .i64 ga] 46))) := below_step (below_step HBY.out.1 HX.out.1.bel) (below_alloc _ _)
        go_upto_region 11 with fail
        generalize X.alloc (.cells #[.int .i64 gk, .int .i64 ga] 46) = X1 at *
        generalize X.heap.size = fb at *
        clear HX HBY
        go_region
        go_wp2_with fail
        refine bodyPost_ret (v := .tuple #[.agg #[.slice none 0 0, .string ⟨#[]⟩, .int .i64 0, .slice none 0 0], .agg #[.int .i64 gk, .int .i64 ga]]) (by simp [results, Tryz.results15, go_sem, *]) rfl ?_
        refine ⟨?_, by rw [HE.out]; rfl⟩
        exact below_step (((set4_below (.slice none 0 0) (.string ⟨#[]⟩) (.int .i64 0) (.slice none 0 0) HBW.out HNB.out.1).setCell (p := ⟨nb, 0, none⟩) HNB.out.2.1 _).setCell (p := ⟨nb, 1, none⟩) HNB.out.2.1 _) (below_drew' _)
      | ok S1 =>
        have HE : Hid (readS s = .error (1, (m : Int))) := by
          show _ = _
          rw [HRS.out]
          unfold endRd
          rw [if_neg (by omega)]
        rw [show fv (fltOf (.ok S1 : Except Flt St)) = .agg #[.int .i64 0, .int .i64 0] from rfl]
        have hx := below_alloc X (.cells #[.int .i64 0, .int .i64 0] 46)
        have b0 := heap_alloc_new X (.cells #[.int .i64 0, .int .i64 0] 46)
        obtain ⟨p0, p1, p2, p3⟩ := box46 b0
        have hn1 : gb ≠ X.heap.size := fun e => by have := (Array.getElem?_eq_some_iff.1 HX.out.2.2.1).1; omega
        have hn2 : nb ≠ X.heap.size := fun e => by have := (Array.getElem?_eq_some_iff.1 HX.out.2.2.2).1; omega
        have HBW : Hid (Below w.heap.size w (X.alloc (.cells #[.int .i64 0, .int .i64 0] 46)) ∧ (X.alloc (.cells #[.int .i64 0, .int .i64 0] 46)).heap[gb]? = some (.cells #[.slice none 0 0, .string ⟨#[]⟩, .int .i64 0, .slice none 0 0] 28 (0, 0)) ∧ (X.alloc (.cells #[.int .i64 0, .int .i64 0] 46)).heap[nb]? = some (.cells #[.int .i64 0, .int .i64 0] 46 (0, 0)) ∧ w.heap.size ≤ X.heap.size) := ⟨below_step (below_step HBY.out.1 HX.out.1.bel) hx, block_below hx HX.out.2.2.1, block_below hx HX.out.2.2.2, (below_step HBY.out.1 HX.out.1.bel).size⟩
        clear hx HKD HRS HX HBY
        go_upto_region 9 with fail
        generalize X.alloc (.cells #[.int .i64 0, .int .i64 0] 46) = X1 at *
        generalize X.heap.size = fb at *
        have hX2 : Hid (Below w.heap.size w ((X1.setCell ⟨fb, 0, none⟩ (.int .i64 1)).setCell ⟨fb, 1, none⟩ (.int .i64 (m : Int)))) := (HBW.out.1.setCell (p := ⟨fb, 0, none⟩) HBW.out.2.2.2 _).setCell (p := ⟨fb, 1, none⟩) HBW.out.2.2.2 _
        have b1 : ((X1.setCell ⟨fb, 0, none⟩ (.int .i64 1)).setCell ⟨fb, 1, none⟩ (.int .i64 (m : Int))).heap[gb]? = some (.cells #[.slice none 0 0, .string ⟨#[]⟩, .int .i64 0, .slice none 0 0] 28 (0, 0)) := by
          rw [Below.heap_setCell _ _ _ _ hn1, Below.heap_setCell _ _ _ _ hn1]
          exact HBW.out.2.1
        have b2 : ((X1.setCell ⟨fb, 0, none⟩ (.int .i64 1)).setCell ⟨fb, 1, none⟩ (.int .i64 (m : Int))).heap[nb]? = some (.cells #[.int .i64 0, .int .i64 0] 46 (0, 0)) := by
          rw [Below.heap_setCell _ _ _ _ hn2, Below.heap_setCell _ _ _ _ hn2]
          exact HBW.out.2.2.1
        have b3 : ((X1.setCell ⟨fb, 0, none⟩ (.int .i64 1)).setCell ⟨fb, 1, none⟩ (.int .i64 (m : Int))).heap[fb]? = some (.cells #[.int .i64 1, .int .i64 (m : Int)] 46 (0, 0)) := by
          have e1 : (X1.setCell ⟨fb, 0, none⟩ (.int .i64 1)).heap[fb]? = some (.cells #[.int .i64 1, .int .i64 0] 46 (0, 0)) := by
            rw [setCell_eq_setRow X1 fb 0 _ 46 (0, 0) _ b0]
            exact setRow_heap _ _ _ _ 46 _ b0
          rw [setCell_eq_setRow _ fb 1 _ 46 (0, 0) _ e1]
          exact setRow_heap _ _ _ _ 46 _ e1
        go_upto_region 10 with fail
        clear p0 p1 p2 p3 b0 HBW
        generalize (X1.setCell ⟨fb, 0, none⟩ (.int .i64 1)).setCell ⟨fb, 1, none⟩ (.int .i64 (m : Int)) = X2 at *
        obtain ⟨p0, p1, p2, p3⟩ := box46 b3
        obtain ⟨y0, y1, y2, y3, y4, y5, y6, y7⟩ := box_cells b1
        obtain ⟨q3, q4, z3, z4⟩ := box46 b2
        have hn1' := hn1.symm
        have hn2' := hn2.symm
        clear b1 b2 b3 hn1 hn2
        go_upto_region 11 with fail
        go_region
        go_wp2_with fail
        refine bodyPost_ret (v := .tuple #[.agg #[.slice none 0 0, .string ⟨#[]⟩, .int .i64 0, .slice none 0 0], .agg #[.int .i64 1, .int .i64 (m : Int)]]) (by simp [results, Tryz.results15, go_sem, *]) rfl ?_
        refine ⟨?_, by rw [HE.out]; rfl⟩
        exact below_step (((set4_below (.slice none 0 0) (.string ⟨#[]⟩) (.int .i64 0) (.slice none 0 0) hX2.out HNB.out.1).setCell (p := ⟨nb, 0, none⟩) HNB.out.2.1 _).setCell (p := ⟨nb, 1, none⟩) HNB.out.2.1 _) (below_drew' _)

end Go.Proofs.YtkaojokhdleeiaaGreatDoor

/-
  Where a text's faults stand: at one of its words, or at its end. Plain mathematics.
-/
namespace Go.Proofs.YtkaojokhdleeiaaGreatDoor
open Go.RowKit

/-- Words that stand ahead of bad, and the end there. -/
def EndsAt (bad : Int) (ws : List Wd) : Prop := ∃ pre : List Wd, ws = pre ++ [endW bad] ∧ ∀ x ∈ pre, WdOk x ∧ x.a < bad

theorem EndsAt.cases {bad : Int} {ws : List Wd} (h : EndsAt bad ws) : headW ws = endW bad ∨ (WdOk (headW ws) ∧ (headW ws).a < bad ∧ EndsAt bad ws.tail) := by
  obtain ⟨pre, rfl, hp⟩ := h
  cases pre with
  | nil => exact .inl rfl
  | cons x r =>
    have h1 := hp x List.mem_cons_self
    exact .inr ⟨h1.1, h1.2, r, rfl, fun w hw => hp w (List.mem_cons_of_mem _ hw)⟩

/-- A fault ahead of the end, or that the text ends there. -/
def FAt (bad : Int) (g : Flt) : Prop := g.2 < bad ∨ g = (1, bad)

def RAt (bad : Int) (R : Except Flt St) : Prop := match R with | .error g => FAt bad g | .ok S1 => EndsAt bad S1.ws

theorem EndsAt.form {bad : Int} {S : St} (h : EndsAt bad S.ws) : FAt bad (formF S.hd) := by
  rcases h.cases with h | ⟨-, h, -⟩
  · refine .inr ?_
    unfold formF St.hd
    rw [h]
    rfl
  · exact .inl h

theorem EndsAt.kind {bad : Int} {S : St} (h : EndsAt bad S.ws) (hk : S.hd.k ≠ 5) : S.hd.a < bad ∧ EndsAt bad S.next.ws := by
  rcases h.cases with h | ⟨-, h1, h2⟩
  · exact absurd (by unfold St.hd; rw [h]; rfl) hk
  · exact ⟨h1, h2⟩

theorem EndsAt.text {bad : Int} {S : St} (h : EndsAt bad S.ws) (hk : S.hd.t ≠ ⟨#[]⟩) : S.hd.a < bad ∧ EndsAt bad S.next.ws := by
  rcases h.cases with h | ⟨-, h1, h2⟩
  · exact absurd (by unfold St.hd; rw [h]; rfl) hk
  · exact ⟨h1, h2⟩

theorem takeP_at {bad k : Int} {S : St} (hk : k ≠ 5) (h : EndsAt bad S.ws) : (∀ g, takeP k S = .error g → FAt bad g) ∧ ∀ w S1, takeP k S = .ok (w, S1) → w.a < bad ∧ EndsAt bad S1.ws := by
  unfold takeP
  split
  · rename_i hc
    refine ⟨fun g hg => (by cases hg), fun w S1 h1 => ?_⟩
    cases h1
    exact h.kind (by rw [hc]; exact hk)
  · refine ⟨fun g hg => ?_, fun w S1 h1 => (by cases h1)⟩
    cases hg
    exact h.form

theorem tokP_at {bad : Int} {w : Wd} {S : St} (hw : w.a < bad) (h : EndsAt bad S.ws) : (∀ g, tokP w S = .error g → FAt bad g) ∧ ∀ i S1, tokP w S = .ok (i, S1) → EndsAt bad S1.ws := by
  unfold tokP
  split
  · exact ⟨fun g hg => (by cases hg), fun i S1 h1 => (by cases h1; exact h)⟩
  · split
    · exact ⟨fun g hg => (by cases hg; exact .inl hw), fun i S1 h1 => (by cases h1)⟩
    · exact ⟨fun g hg => (by cases hg), fun i S1 h1 => (by cases h1; exact h)⟩

theorem listP_at {bad : Int} {w : Wd} {S : St} (hw : w.a < bad) (h : EndsAt bad S.ws) : RAt bad (listP w S) := by
  obtain ⟨h1, h2⟩ := tokP_at hw h
  unfold listP
  split
  · rename_i f hf
    exact h1 f hf
  · rename_i i S1 hi
    split
    · exact .inl hw
    · exact h2 i S1 hi

theorem levP_at {bad l a : Int} {w : Wd} {S : St} (hw : w.a < bad) (h : EndsAt bad S.ws) : RAt bad (levP l a w S) := by
  obtain ⟨h1, h2⟩ := tokP_at hw h
  unfold levP
  split
  · rename_i f hf
    exact h1 f hf
  · rename_i i S1 hi
    split
    · exact .inl hw
    · exact h2 i S1 hi

theorem namesP_at {bad : Int} {say : Wd → St → Except Flt St} (hs : ∀ w S, w.a < bad → EndsAt bad S.ws → RAt bad (say w S)) : ∀ (f : Nat) (S : St), EndsAt bad S.ws → RAt bad (namesP say f S)
  | 0, S, h => h
  | f + 1, S, h => by
    obtain ⟨h1, h2⟩ := takeP_at (k := 1) (by decide) h
    unfold namesP
    split
    · rename_i e he
      exact h1 e he
    · rename_i w S1 hw
      obtain ⟨h3, h4⟩ := h2 w S1 hw
      have h5 := hs w S1 h3 h4
      split
      · rename_i e he
        rw [he] at h5
        exact h5
      · rename_i S2 he
        rw [he] at h5
        split
        · exact namesP_at hs f S2 h5
        · exact h5

theorem levelP_at {bad a : Int} {w : Wd} {S : St} (hw : w.a < bad) (h : EndsAt bad S.ws) : RAt bad (levelP w a S) := by
  unfold levelP
  split
  · exact .inl hw
  · exact namesP_at (fun w S hw h => levP_at hw h) _ _ h

theorem startP_at {bad : Int} {w : Wd} {S : St} (hw : w.a < bad) (h : EndsAt bad S.ws) : RAt bad (startP w S) := by
  obtain ⟨h1, h2⟩ := takeP_at (k := 1) (by decide) h
  unfold startP
  split
  · exact .inl hw
  · split
    · rename_i e he
      exact h1 e he
    · rename_i x S1 hx
      exact (h2 x S1 hx).2

theorem expectP_at {bad : Int} {w : Wd} {S : St} (hw : w.a < bad) (h : EndsAt bad S.ws) : RAt bad (expectP w S) := by
  obtain ⟨h1, h2⟩ := takeP_at (k := 2) (by decide) h
  unfold expectP
  split
  · exact .inl hw
  · split
    · rename_i e he
      exact h1 e he
    · rename_i x S1 hx
      exact (h2 x S1 hx).2

theorem partP_at {bad : Int} {S : St} (h : EndsAt bad S.ws) : RAt bad (partP S) := by
  have ht : ∀ t : ByteArray, t.size ≠ 0 → S.hd.t = t → S.hd.a < bad ∧ EndsAt bad S.next.ws := fun t h0 he => h.text (fun e => h0 (by rw [← he, e]; rfl))
  unfold partP
  split
  · rename_i he
    exact namesP_at (fun w S hw h => listP_at hw h) _ _ (ht _ (by decide) he).2
  · split
    · rename_i he
      exact levelP_at (ht _ (by decide) he).1 (ht _ (by decide) he).2
    · split
      · rename_i he
        exact levelP_at (ht _ (by decide) he).1 (ht _ (by decide) he).2
      · split
        · rename_i he
          exact levelP_at (ht _ (by decide) he).1 (ht _ (by decide) he).2
        · split
          · rename_i he
            exact startP_at (ht _ (by decide) he).1 (ht _ (by decide) he).2
          · split
            · rename_i he
              exact expectP_at (ht _ (by decide) he).1 (ht _ (by decide) he).2
            · exact h.form

theorem symP_at {bad : Int} : ∀ (f : Nat) (l : List ByteArray) (S : St), EndsAt bad S.ws → (∀ g, symP f l S = .error g → FAt bad g) ∧ ∀ r S1, symP f l S = .ok (r, S1) → EndsAt bad S1.ws
  | 0, l, S, h => ⟨fun g hg => (by simp [symP] at hg), fun r S1 h1 => (by simp only [symP, Except.ok.injEq, Prod.mk.injEq] at h1; rw [← h1.2]; exact h)⟩
  | f + 1, l, S, h => by
    unfold symP
    split
    · rename_i hk
      split
      · exact ⟨fun g hg => (by cases hg; exact h.form), fun r S1 h1 => (by cases h1)⟩
      · exact symP_at f _ _ (h.kind (by rw [hk]; decide)).2
    · exact ⟨fun g hg => (by cases hg), fun r S1 h1 => (by cases h1; exact h)⟩

theorem altP_at {bad : Int} {left : ByteArray} {S : St} (h : EndsAt bad S.ws) : RAt bad (altP left S) := by
  obtain ⟨h1, h2⟩ := symP_at S.ws.length [] S h
  unfold altP
  split
  · exact h.form
  · split
    · rename_i e he
      exact h1 e he
    · rename_i r S1 hr
      have h3 := h2 r S1 hr
      split
      · rename_i hp
        have h4 := (h3.text (fun e => by rw [hp] at e; exact absurd (congrArg ByteArray.size e) (by decide))).2
        obtain ⟨h5, h6⟩ := takeP_at (k := 1) (by decide) h4
        split
        · rename_i e he
          exact h5 e he
        · rename_i w S2 hw
          exact (h6 w S2 hw).2
      · exact h3

theorem altsP_at {bad : Int} {left : ByteArray} : ∀ (f : Nat) (S : St), EndsAt bad S.ws → RAt bad (altsP left f S)
  | 0, S, h => h
  | f + 1, S, h => by
    have h1 := altP_at (left := left) h
    unfold altsP
    split
    · rename_i e he
      rw [he] at h1
      exact h1
    · rename_i S1 he
      rw [he] at h1
      have h2 : EndsAt bad S1.ws := h1
      split
      · rename_i hp
        exact (h2.text (fun e => by rw [hp] at e; exact absurd (congrArg ByteArray.size e) (by decide))).2
      · split
        · rename_i hp
          exact altsP_at f _ (h2.text (fun e => by rw [hp] at e; exact absurd (congrArg ByteArray.size e) (by decide))).2
        · exact h2.form

theorem ruleRd_at {bad : Int} {S : St} (h : EndsAt bad S.ws) : RAt bad (ruleRd S) := by
  obtain ⟨h1, h2⟩ := takeP_at (k := 1) (by decide) h
  unfold ruleRd
  split
  · rename_i e he
    exact h1 e he
  · rename_i w S1 hw
    have h3 := (h2 w S1 hw).2
    split
    · rename_i hp
      exact altsP_at _ _ (h3.text (fun e => by rw [hp] at e; exact absurd (congrArg ByteArray.size e) (by decide))).2
    · exact h3.form

theorem partsP_at {bad : Int} : ∀ (f : Nat) (S : St), EndsAt bad S.ws → RAt bad (partsP f S)
  | 0, S, h => h
  | f + 1, S, h => by
    have h1 := partP_at h
    unfold partsP
    split
    · rename_i hp
      exact (h.text (fun e => by rw [hp] at e; exact absurd (congrArg ByteArray.size e) (by decide))).2
    · split
      · rename_i e he
        rw [he] at h1
        exact h1
      · rename_i S1 he
        rw [he] at h1
        exact partsP_at f S1 h1

theorem rulesP_at {bad : Int} : ∀ (f : Nat) (S : St), EndsAt bad S.ws → RAt bad (rulesP f S)
  | 0, S, h => h
  | f + 1, S, h => by
    have h1 := ruleRd_at h
    unfold rulesP
    split
    · exact h
    · split
      · rename_i e he
        rw [he] at h1
        exact h1
      · rename_i S1 he
        rw [he] at h1
        exact rulesP_at f S1 h1

theorem readP_at {bad : Int} {S : St} {g : Flt} (h : EndsAt bad S.ws) (hg : readP S = .error g) : FAt bad g := by
  have h1 := partsP_at S.ws.length S h
  unfold readP at hg
  split at hg
  · rename_i e he
    rw [he] at h1
    cases hg
    exact h1
  · rename_i S1 he
    rw [he] at h1
    have h2 := rulesP_at S1.ws.length S1 h1
    rw [hg] at h2
    exact h2

/-- The words of a scan stand within the text. -/
theorem scanF_at (s : ByteArray) : ∀ (f i : Nat) (a ws : List (Nat × Nat × Nat)), (∀ x ∈ a, WdOk (wdOf s x) ∧ x.2.1 < (by8 s).length) → scanF f (by8 s) i a = (ws, -1) → EndsAt ((by8 s).length : Int) (ws.map (wdOf s))
  | 0, i, a, ws, _, h => by simp [scanF] at h
  | f + 1, i, a, ws, ha, h => by
    by_cases hi : i < (by8 s).length
    · by_cases hK : (wordP (by8 s) i).1 = 0
      · rw [scan_bad hi hK] at h
        simp only [Prod.mk.injEq] at h
        omega
      · rw [scan_next hi hK] at h
        refine scanF_at s f _ _ ws (fun x hx => ?_) h
        rcases List.mem_append.1 hx with h1 | h1
        · exact ha x h1
        · rw [List.mem_singleton] at h1
          subst h1
          exact ⟨word_ok s i hi hK, hi⟩
    · rw [scan_out (by omega)] at h
      simp only [Prod.mk.injEq, and_true] at h
      subst h
      refine ⟨a.map (wdOf s), ?_, fun x hx => ?_⟩
      · rw [List.map_append]
        congr 1
        have e : s.extract (by8 s).length (by8 s).length = ⟨#[]⟩ := by rw [by8_length]; exact extract_end s
        show [wdOf s (5, (by8 s).length, (by8 s).length)] = [endW _]
        unfold wdOf endW
        simp only
        rw [e]
        rfl
      · obtain ⟨y, hy, rfl⟩ := List.mem_map.1 hx
        exact ⟨(ha y hy).1, by have := (ha y hy).2; unfold wdOf; simp only; omega⟩

theorem words_at {s : ByteArray} (h : (scan (by8 s)).2 = -1) : EndsAt (s.size : Int) (wordsOf s) := by
  have h1 := scanF_at s ((by8 s).length + 1) (skip (by8 s) 0) [] (scan (by8 s)).1 (fun x hx => by cases hx) (by
    have e : scanF ((by8 s).length + 1) (by8 s) (skip (by8 s) 0) [] = scan (by8 s) := rfl
    rw [e, ← h])
  rw [by8_length] at h1
  exact h1

end Go.Proofs.YtkaojokhdleeiaaGreatDoor

/-
  The walks of the reference's run, skip, keys, key, number.
-/
namespace Go.Proofs.YtkaojokhdleeiaaGreatDoor
open Go.RowKit

set_option maxRecDepth 20000

set_option maxHeartbeats 1000000 in
theorem run_calls (s : ByteArray) (i : Nat) (w : World) (hi : i ≤ s.size) (hs : s.size ≤ 1048576) :
    Calls Tryz.prog 23 #[.string s, .int .i64 i] w fun e w' => e = .returned (.int .i64 (runEnd isN (by8 s) i)) ∧ w' = w := by
  go_enter Tryz.func23, Tryz.ntmps23
  go_wp2
  go_loop [1] (fun v => ∃ k : Nat, k ≤ s.size ∧ v = .int .i64 k ∧ Hid (runEnd isN (by8 s) i = runEnd isN (by8 s) k)) (fun v => s.size - (intOf v).toNat)
  case atStart => exact ⟨i, hi, rfl, rfl⟩
  case round =>
    obtain ⟨k, hk, rfl, HR⟩ := hrel
    by_cases hlt : k < s.size
    · have hix := run_index_bt s k hlt
      have hl : k < (by8 s).length := by rw [by8_length]; exact hlt
      obtain ⟨c, hc⟩ : ∃ c, c = bt (by8 s) k := ⟨_, rfl⟩
      rw [← hc] at hix
      by_cases h1 : isL c = true
      · have HN : Hid (runEnd isN (by8 s) i = runEnd isN (by8 s) (k + 1)) := by
          show _ = _
          rw [HR.out, runEnd_step hl (by unfold isN; rw [← hc, h1]; rfl)]
        clear HR hl hc
        go_wp2_with (go_at_call 22; refine (letter_calls _ _).mono ?_; rintro e w' ⟨rfl, rfl⟩; rw [h1])
        go_round
        case rel => exact ⟨k + 1, by omega, by go_num, HN⟩
        case measure => simp [intOf]; omega
      · have h1 : isL c = false := by simpa using h1
        by_cases h2 : isD c = true
        · have HN : Hid (runEnd isN (by8 s) i = runEnd isN (by8 s) (k + 1)) := by
            show _ = _
            rw [HR.out, runEnd_step hl (by unfold isN; rw [← hc, h1, h2]; rfl)]
          clear HR hl hc
          go_wp2_with (first | (go_at_call 22; refine (letter_calls _ _).mono ?_; rintro e w' ⟨rfl, rfl⟩; rw [h1]) | (go_at_call 24; refine (rdigit_calls _ _).mono ?_; rintro e w' ⟨rfl, rfl⟩; rw [h2]))
          go_round
          case rel => exact ⟨k + 1, by omega, by go_num, HN⟩
          case measure => simp [intOf]; omega
        · have h2 : isD c = false := by simpa using h2
          have HN : Hid (runEnd isN (by8 s) i = k) := by
            show _ = _
            rw [HR.out, runEnd_stop hl (by unfold isN; rw [← hc, h1, h2]; rfl)]
          clear HR hl hc
          go_wp2_with (first | (go_at_call 22; refine (letter_calls _ _).mono ?_; rintro e w' ⟨rfl, rfl⟩; rw [h1]) | (go_at_call 24; refine (rdigit_calls _ _).mono ?_; rintro e w' ⟨rfl, rfl⟩; rw [h2]))
          go_ret
          exact ⟨by rw [HN.out]; rfl, rfl⟩
    · have HN : Hid (runEnd isN (by8 s) i = k) := by
        show _ = _
        rw [HR.out, runEnd_out (by rw [by8_length]; omega)]
      clear HR
      go_wp2
      go_ret
      exact ⟨by rw [HN.out]; rfl, rfl⟩

theorem pre2_parts {x y : Int} {l : List UInt8} {i : Nat} (h : pre2 x y l i = false) :
    (bt l i == x) = false ∨ ((bt l i == x) = true ∧ ¬ i + 1 < l.length) ∨ ((bt l i == x) = true ∧ i + 1 < l.length ∧ (bt l (i + 1) == y) = false) := by
  unfold pre2 at h
  by_cases h1 : i + 1 < l.length
  · cases h2 : (bt l i == x) <;> cases h3 : (bt l (i + 1) == y) <;> simp_all
  · cases h2 : (bt l i == x) <;> simp_all
theorem pre2_all {x y : Int} {l : List UInt8} {i : Nat} (h : pre2 x y l i = true) : (bt l i == x) = true ∧ i + 1 < l.length ∧ (bt l (i + 1) == y) = true := by
  unfold pre2 at h
  cases h2 : (bt l i == x) <;> cases h3 : (bt l (i + 1) == y) <;> simp_all

theorem run_index_bt1 (s : ByteArray) (i : Nat) (h : i + 1 < s.size) (W : World) : (Instr.index 9 (.string s) (.int .i64 ((i : Int) + 1))).run Tryz.prog W = .ok (.int .u8 (bt (by8 s) (i + 1))) W := by
  have := run_index_bt s (i + 1) h W
  simpa using this

set_option maxHeartbeats 2000000 in
theorem rskip_calls (s : ByteArray) (i : Nat) (w : World) (hi : i ≤ s.size) (hs : s.size ≤ 1048576) :
    Calls Tryz.prog 21 #[.string s, .int .i64 i] w fun e w' => e = .returned (.int .i64 (skip (by8 s) i)) ∧ w' = w := by
  have HL : Hid ((by8 s).length = s.size) := by8_length s
  go_enter Tryz.func21, Tryz.ntmps21
  go_wp2
  go_loop [1] (fun v => ∃ k f : Nat, k ≤ s.size ∧ v = .int .i64 k ∧ s.size < k + f ∧ Hid (skip (by8 s) i = skipF f (by8 s) k)) (fun v => s.size - (intOf v).toNat)
  case atStart => exact ⟨i, s.size + 1, hi, rfl, by omega, by show _ = _; unfold skip; rw [HL.out]⟩
  case round =>
    obtain ⟨k, f, hk, rfl, hf, HR⟩ := hrel
    by_cases hlt : k < s.size
    · have hix := run_index_bt s k hlt
      have hl : k < (by8 s).length := by rw [HL.out]; exact hlt
      obtain ⟨f, rfl⟩ : ∃ g, f = g + 1 := ⟨f - 1, by omega⟩
      obtain ⟨c, hc⟩ : ∃ c, c = bt (by8 s) k := ⟨_, rfl⟩
      rw [← hc] at hix
      by_cases h1 : isB c = true
      · have HN : Hid (skip (by8 s) i = skipF f (by8 s) (k + 1)) := by
          show _ = _
          rw [HR.out, skip_blank hl (by rw [← hc]; exact h1)]
        have h1 := isB_parts h1
        clear HR hl hc
        rcases h1 with h1 | ⟨h1, h2⟩ | ⟨h1, h2, h3⟩
        all_goals
          go_wp2
          go_round
          case rel => exact ⟨k + 1, f, by omega, by go_num, by omega, HN⟩
          case measure => simp [intOf]; omega
      · have h1 : isB c = false := by simpa using h1
        obtain ⟨h2, h3, h4⟩ := isB_none h1
        by_cases h5 : pre2 47 47 (by8 s) k = true
        · have HN : Hid (skip (by8 s) i = skipF f (by8 s) (runEnd noNl (by8 s) k)) := by
            show _ = _
            rw [HR.out, skip_line hl (by rw [← hc]; exact h1) h5]
          have hm := (line_more h5).2
          obtain ⟨h6, h7, h8⟩ := pre2_all h5
          rw [← hc] at h6
          rw [HL.out] at h7
          have hix2 := run_index_bt1 s k h7
          generalize bt (by8 s) (k + 1) = c2 at hix2 h8
          obtain ⟨m, HM⟩ : ∃ m, Hid (runEnd noNl (by8 s) k = m) := ⟨_, rfl⟩
          rw [HM.out] at HN hm
          clear HR hl hc h1 h5
          go_wp2
          go_loop [1] (fun v => ∃ j : Nat, k ≤ j ∧ j ≤ s.size ∧ v = .int .i64 j ∧ Hid (runEnd noNl (by8 s) j = m)) (fun v => s.size - (intOf v).toNat)
          case atStart => exact ⟨k, Nat.le_refl _, hk, rfl, HM⟩
          case round =>
            obtain ⟨j, hkj, hj, rfl, HJ⟩ := hrel
            clear hix hix2
            by_cases hlt2 : j < s.size
            · have hix := run_index_bt s j hlt2
              have hl : j < (by8 s).length := by rw [HL.out]; exact hlt2
              obtain ⟨d, hd⟩ : ∃ d, d = bt (by8 s) j := ⟨_, rfl⟩
              rw [← hd] at hix
              by_cases h9 : (d == 10) = true
              · have HE : Hid (m = j) := by
                  show _ = _
                  rw [← HJ.out, runEnd_stop hl (by unfold noNl; rw [← hd]; simpa using h9)]
                have hb : (d != 10) = false := by simpa using h9
                clear hd HJ h9
                go_wp2
                rw [HE.out] at HN hm
                go_round
                case rel => exact ⟨j, f, by omega, by go_num, by omega, HN⟩
                case measure => simp [intOf]; omega
              · have HE : Hid (runEnd noNl (by8 s) (j + 1) = m) := by
                  show _ = _
                  rw [← HJ.out]
                  exact (runEnd_step hl (by unfold noNl; rw [← hd]; simpa using h9)).symm
                have hb : (d != 10) = true := by simpa using h9
                clear hd HJ h9
                go_wp2
                go_round
                case rel => exact ⟨j + 1, by omega, by omega, by go_num, HE⟩
                case measure => simp [intOf]; omega
            · have HE : Hid (m = j) := by
                show _ = _
                rw [← HJ.out, runEnd_out (by rw [HL.out]; omega)]
              clear HJ
              go_wp2
              rw [HE.out] at HN hm
              go_round
              case rel => exact ⟨j, f, by omega, by go_num, by omega, HN⟩
              case measure => simp [intOf]; omega
        · have h5 : pre2 47 47 (by8 s) k = false := by simpa using h5
          have HN : Hid (skip (by8 s) i = k) := by
            show _ = _
            rw [HR.out, skip_word (by rw [← hc]; exact h1) h5]
          have h6 := pre2_parts h5
          rw [← hc, HL.out] at h6
          clear HR hl hc h1 h5
          rcases h6 with h6 | ⟨h6, h7⟩ | ⟨h6, h7, h8⟩
          · go_wp2
            go_ret
            exact ⟨by rw [HN.out]; rfl, rfl⟩
          · have h7 : ¬ (k : Int) + 1 < s.size := by omega
            go_wp2
            go_ret
            exact ⟨by rw [HN.out]; rfl, rfl⟩
          · have hix2 := run_index_bt1 s k h7
            generalize bt (by8 s) (k + 1) = c2 at hix2 h8
            go_wp2
            go_ret
            exact ⟨by rw [HN.out]; rfl, rfl⟩
    · have HN : Hid (skip (by8 s) i = k) := by
        show _ = _
        rw [HR.out, skip_out (by rw [HL.out]; omega)]
      clear HR
      go_wp2
      go_ret
      exact ⟨by rw [HN.out]; rfl, rfl⟩

/-- The key's word at a place. -/
def keyAt (k : Nat) : ByteArray := ⟨((keyWords[k]?).getD []).toArray⟩

/-- What keys lays. -/
def keyCells : Array Value := #[.string (keyAt 0), .string (keyAt 1), .string (keyAt 2), .string (keyAt 3), .string (keyAt 4), .string (keyAt 5), .string (keyAt 6)]

theorem keys_calls (w : World) : Calls Tryz.prog 38 #[] w fun e w' => e = .returned (.slice (some ⟨w.heap.size, 0, none⟩) 7 7) ∧ w' = w.alloc (.cells keyCells 9) := by
  go_enter Tryz.func38, Tryz.ntmps38
  go_wp2
  go_ret
  exact ⟨rfl, rfl⟩

theorem keyCells_at {k : Nat} (h : k < 7) : keyCells[k]? = some (.string (keyAt k)) := by
  match k, h with
  | 0, _ => rfl
  | 1, _ => rfl
  | 2, _ => rfl
  | 3, _ => rfl
  | 4, _ => rfl
  | 5, _ => rfl
  | 6, _ => rfl

theorem key_found {t : List UInt8} {k : Nat} (h : k < 7) (e : (t == (keyAt k).toList) = true) : keyWords.contains t = true := by
  have e : t = (keyAt k).toList := by simpa using e
  rw [by8_toList] at e
  subst e
  match k, h with
  | 0, _ => rfl
  | 1, _ => rfl
  | 2, _ => rfl
  | 3, _ => rfl
  | 4, _ => rfl
  | 5, _ => rfl
  | 6, _ => rfl

theorem key_missed {t : List UInt8} (h : ∀ j, j < 7 → (t == (keyAt j).toList) = false) : keyWords.contains t = false := by
  have h0 := h 0 (by decide)
  have h1 := h 1 (by decide)
  have h2 := h 2 (by decide)
  have h3 := h 3 (by decide)
  have h4 := h 4 (by decide)
  have h5 := h 5 (by decide)
  have h6 := h 6 (by decide)
  have e : keyWords.contains t = ((t == (keyAt 0).toList) || (t == (keyAt 1).toList) || (t == (keyAt 2).toList) || (t == (keyAt 3).toList) || (t == (keyAt 4).toList) || (t == (keyAt 5).toList) || (t == (keyAt 6).toList)) := by
    unfold keyWords keyAt
    simp only [List.contains_cons, List.contains_nil, Bool.or_false, Bool.or_assoc, ByteArray.toList_mk]
    rfl
  rw [e, h0, h1, h2, h3, h4, h5, h6]
  rfl

/-- The keys lie behind all that w has. -/
def KeysIn (w wr : World) : Prop := (∀ k, k < 7 → wr.cell? ⟨w.heap.size, k, none⟩ = some (.string (keyAt k))) ∧ Below w.heap.size w wr


theorem keysIn_drewN {w wr : World} (h : Hid (KeysIn w wr)) (n : Nat) : Hid (KeysIn w (wr.drewN n)) := ⟨h.out.1, below_drewN h.out.2 n⟩

/-- What the reference's key answers. -/
def keyR (p : Nat × Nat) : Int := if p.1 = 0 then -1 else (p.2 : Int)

set_option maxHeartbeats 2000000 in
theorem rkey_calls (s : ByteArray) (i : Nat) (w : World) (hi : i < s.size) (hc : (bt (by8 s) i == 37) = true) (hs : s.size ≤ 1048576) :
    Calls Tryz.prog 26 #[.string s, .int .i64 i] w fun e w' => e = .returned (.int .i64 (keyR (keyP (by8 s) i))) ∧ Below w.heap.size w w' := by
  have HL : Hid ((by8 s).length = s.size) := by8_length s
  have HE : Hid (∀ W : World, Calls Tryz.prog 23 #[.string s, .int .i64 ((i : Int) + 1)] W fun e w' => e = .returned (.int .i64 (runEnd isN (by8 s) (i + 1))) ∧ w' = W) := fun W => by
    have := run_calls s (i + 1) W (by omega) hs
    simpa using this
  have h1 := le_runEnd isN (by8 s) (i + 1)
  have h2 : runEnd isN (by8 s) (i + 1) ≤ s.size := by rw [← by8_length]; exact runEnd_le (by rw [by8_length]; omega)
  have HK : Hid (keyP (by8 s) i = if pre2 37 37 (by8 s) i = true then (4, i + 2) else if keyWords.contains (part (by8 s) (i + 1) (runEnd isN (by8 s) (i + 1))) = true then (4, runEnd isN (by8 s) (i + 1)) else (0, i)) := rfl
  generalize runEnd isN (by8 s) (i + 1) = m at HE h1 h2 HK
  generalize keyP (by8 s) i = p at HK
  by_cases h3 : pre2 37 37 (by8 s) i = true
  · have HK2 : Hid (p = (4, i + 2)) := by have := HK.out; rwa [if_pos h3] at this
    obtain ⟨-, h4, h5⟩ := pre2_all h3
    rw [HL.out] at h4
    have hix2 := run_index_bt1 s i h4
    generalize bt (by8 s) (i + 1) = c2 at hix2 h5
    clear HK h3
    go_enter Tryz.func26, Tryz.ntmps26
    go_wp2
    go_ret
    exact ⟨by rw [HK2.out]; rfl, Below.refl _ _⟩
  · have h3 : pre2 37 37 (by8 s) i = false := by simpa using h3
    have HK2 : Hid (p = if keyWords.contains (part (by8 s) (i + 1) m) = true then (4, m) else (0, i)) := by have := HK.out; rwa [h3, if_neg (by simp)] at this
    have h4 : ¬ (i : Int) + 1 < s.size ∨ ((i : Int) + 1 < s.size ∧ i + 1 < s.size ∧ (bt (by8 s) (i + 1) == 37) = false) := by
      rcases pre2_parts h3 with h | ⟨_, h⟩ | ⟨_, h, h'⟩
      · rw [h] at hc; cases hc
      · left; rw [HL.out] at h; omega
      · right; rw [HL.out] at h; exact ⟨by omega, h, h'⟩
    have ht : (s.extract (i + 1) m).toList = part (by8 s) (i + 1) m := by rw [by8_toList, by8_extract]
    rw [← ht] at HK2
    clear HK h3 ht hc
    have HC : Hid (KeysIn w (w.alloc (.cells keyCells 9))) := by
      refine ⟨fun k hk => ?_, (Below.refl w.heap.size w).alloc (Nat.le_refl _) _⟩
      have := World.cell?_alloc_mark w keyCells 9 (0, 0) k
      rw [keyCells_at hk] at this
      exact this
    have hw1 : IntKind.i64.wrap ((i : Int) + 1) = (i : Int) + 1 := by rw [IntKind.wrap_i64]; omega
    have hsl : ∀ W : World, (Instr.slice 9 (.string s) (some (.int .i64 ((i : Int) + 1))) (some (.int .i64 (m : Int))) none).run Tryz.prog W = .ok (.string (s.extract (i + 1) m)) W := fun W => by
      rw [run_slice_string_if W 9 s .i64 .i64 _ _ Tryz.underlying9, if_pos ⟨by omega, by omega⟩, if_pos ⟨by omega, by omega⟩]
      rfl
    generalize hW : w.alloc (.cells keyCells 9) = w1 at HC
    have HW : Hid (w.alloc (.cells keyCells 9) = w1) := hW
    clear hW
    rcases h4 with h4 | ⟨h4, h5, h6⟩
    · go_enter Tryz.func26, Tryz.ntmps26
      go_wp2_with (first | (go_at_call 23; refine (HE.out _).mono ?_; rintro e w' ⟨rfl, rfl⟩) | (go_at_call 38; refine (keys_calls _).mono ?_; rintro e w' ⟨rfl, rfl⟩; rw [HW.out]))
      go_loopg [7] 7 (fun kx s7 wr => ∃ k : Nat, s7 = .int .i64 k ∧ k ≤ 7 ∧ 7 - k ≤ kx ∧ Hid (KeysIn w' wr) ∧ Hid (∀ j, j < k → ((s.extract (i + 1) m).toList == (keyAt j).toList) = false))
      case atStart => exact ⟨0, rfl, Nat.zero_le _, by omega, HC, (fun j hj => absurd hj (Nat.not_lt_zero _) : ∀ j, j < 0 → ((s.extract (i + 1) m).toList == (keyAt j).toList) = false)⟩
      case round =>
        obtain ⟨k, rfl, hk, hg, HI, J⟩ := hrel
        by_cases hlt : k < 7
        · have cm := HI.out.1 k hlt
          by_cases he : ((s.extract (i + 1) m).toList == (keyAt k).toList) = true
          · have HF : Hid (p = (4, m)) := by have := HK2.out; rwa [if_pos (key_found hlt he)] at this
            generalize keyAt k = kt at cm he
            clear HK2
            go_wp2_with fail
            go_quiet (fail)
            go_wp2
            go_ret
            exact ⟨by rw [HF.out]; rfl, below_drewN HI.out.2 _⟩
          · have he : ((s.extract (i + 1) m).toList == (keyAt k).toList) = false := by simpa using he
            have J2 : Hid (∀ j, j < k + 1 → ((s.extract (i + 1) m).toList == (keyAt j).toList) = false) := fun j hj => by
              rcases Nat.lt_or_ge j k with h | h
              · exact J.out j h
              · rw [show j = k by omega]; exact he
            generalize keyAt k = kt at cm he
            go_wp2_with fail
            go_quiet (fail)
            go_wp2
            go_roundg (7 - (k + 1))
            case measure => omega
            case rel => exact ⟨k + 1, by simp, by omega, Nat.le_refl _, keysIn_drewN HI _, J2⟩
        · obtain rfl : k = 7 := by omega
          have HF : Hid (p = (0, i)) := by have := HK2.out; rwa [key_missed J.out, if_neg (by simp)] at this
          go_wp2
          go_ret
          exact ⟨by rw [HF.out]; rfl, HI.out.2⟩
    · have hix2 := run_index_bt1 s i h5
      generalize bt (by8 s) (i + 1) = c2 at hix2 h6
      go_enter Tryz.func26, Tryz.ntmps26
      go_wp2_with (first | (go_at_call 23; refine (HE.out _).mono ?_; rintro e w' ⟨rfl, rfl⟩) | (go_at_call 38; refine (keys_calls _).mono ?_; rintro e w' ⟨rfl, rfl⟩; rw [HW.out]))
      go_loopg [7] 7 (fun kx s7 wr => ∃ k : Nat, s7 = .int .i64 k ∧ k ≤ 7 ∧ 7 - k ≤ kx ∧ Hid (KeysIn w' wr) ∧ Hid (∀ j, j < k → ((s.extract (i + 1) m).toList == (keyAt j).toList) = false))
      case atStart => exact ⟨0, rfl, Nat.zero_le _, by omega, HC, (fun j hj => absurd hj (Nat.not_lt_zero _) : ∀ j, j < 0 → ((s.extract (i + 1) m).toList == (keyAt j).toList) = false)⟩
      case round =>
        obtain ⟨k, rfl, hk, hg, HI, J⟩ := hrel
        by_cases hlt : k < 7
        · have cm := HI.out.1 k hlt
          by_cases he : ((s.extract (i + 1) m).toList == (keyAt k).toList) = true
          · have HF : Hid (p = (4, m)) := by have := HK2.out; rwa [if_pos (key_found hlt he)] at this
            generalize keyAt k = kt at cm he
            clear HK2
            go_wp2_with fail
            go_quiet (fail)
            go_wp2
            go_ret
            exact ⟨by rw [HF.out]; rfl, below_drewN HI.out.2 _⟩
          · have he : ((s.extract (i + 1) m).toList == (keyAt k).toList) = false := by simpa using he
            have J2 : Hid (∀ j, j < k + 1 → ((s.extract (i + 1) m).toList == (keyAt j).toList) = false) := fun j hj => by
              rcases Nat.lt_or_ge j k with h | h
              · exact J.out j h
              · rw [show j = k by omega]; exact he
            generalize keyAt k = kt at cm he
            go_wp2_with fail
            go_quiet (fail)
            go_wp2
            go_roundg (7 - (k + 1))
            case measure => omega
            case rel => exact ⟨k + 1, by simp, by omega, Nat.le_refl _, keysIn_drewN HI _, J2⟩
        · obtain rfl : k = 7 := by omega
          have HF : Hid (p = (0, i)) := by have := HK2.out; rwa [key_missed J.out, if_neg (by simp)] at this
          go_wp2
          go_ret
          exact ⟨by rw [HF.out]; rfl, HI.out.2⟩

set_option maxHeartbeats 2000000 in
theorem rnumber_calls (s : ByteArray) (i : Nat) (w : World) (hi : i < s.size) (hs : s.size ≤ 1048576) :
    Calls Tryz.prog 25 #[.string s, .int .i64 i] w fun e w' => e = .returned (.int .i64 (keyR (numberP (by8 s) i))) ∧ w' = w := by
  have HL : Hid ((by8 s).length = s.size) := by8_length s
  have h1 := le_runEnd isD (by8 s) i
  have h2 : runEnd isD (by8 s) i ≤ s.size := by rw [← by8_length]; exact runEnd_le (by rw [by8_length]; omega)
  have HP : Hid (numberP (by8 s) i = if numBad (by8 s) i (runEnd isD (by8 s) i) = true then (0, i) else (2, runEnd isD (by8 s) i)) := rfl
  obtain ⟨m, HM⟩ : ∃ m, Hid (runEnd isD (by8 s) i = m) := ⟨_, rfl⟩
  rw [HM.out] at h1 h2 HP
  generalize numberP (by8 s) i = p at HP
  go_enter Tryz.func25, Tryz.ntmps25
  go_upto_block 0 with fail
  go_cut [5] (fun s5 wd => s5 = .int .i64 m ∧ wd = w)
  case first =>
    go_wp2_with fail
    go_loop [5] (fun v => ∃ j : Nat, i ≤ j ∧ j ≤ s.size ∧ v = .int .i64 j ∧ Hid (runEnd isD (by8 s) j = m)) (fun v => s.size - (intOf v).toNat)
    case atStart => exact ⟨i, Nat.le_refl _, by omega, rfl, HM⟩
    case round =>
      obtain ⟨j, hkj, hj, rfl, HJ⟩ := hrel
      by_cases hlt2 : j < s.size
      · have hix := run_index_bt s j hlt2
        have hl : j < (by8 s).length := by rw [HL.out]; exact hlt2
        obtain ⟨d, hd⟩ : ∃ d, d = bt (by8 s) j := ⟨_, rfl⟩
        rw [← hd] at hix
        by_cases h9 : isD d = true
        · have HE : Hid (runEnd isD (by8 s) (j + 1) = m) := by
            show _ = _
            rw [← HJ.out]
            exact (runEnd_step hl (by rw [← hd]; exact h9)).symm
          clear hd HJ
          go_wp2_with (go_at_call 24; refine (rdigit_calls _ _).mono ?_; rintro e w' ⟨rfl, rfl⟩; rw [h9])
          go_round
          case rel => exact ⟨j + 1, by omega, by omega, by go_num, HE⟩
          case measure => simp [intOf]; omega
        · have h9 : isD d = false := by simpa using h9
          have HE : Hid (m = j) := by
            show _ = _
            rw [← HJ.out, runEnd_stop hl (by rw [← hd]; exact h9)]
          clear hd HJ
          go_wp2_with (go_at_call 24; refine (rdigit_calls _ _).mono ?_; rintro e w' ⟨rfl, rfl⟩; rw [h9])
          go_meet
          exact ⟨by rw [HE.out], rfl⟩
      · have HE : Hid (m = j) := by
          show _ = _
          rw [← HJ.out, runEnd_out (by rw [HL.out]; omega)]
        clear HJ
        go_wp2
        go_meet
        exact ⟨by rw [HE.out], rfl⟩
  case rest =>
    obtain ⟨rfl, rfl⟩ := hcut
    have hix := run_index_bt s i hi
    by_cases h4 : 4 < m - i
    · have HP2 : Hid (p = (0, i)) := by have := HP.out; rwa [if_pos (numBad_long h4)] at this
      have h5 : (4 : Int) < (m : Int) - i := by omega
      clear HP h4 HM hix
      go_wp2_with fail
      go_ret
      exact ⟨by rw [HP2.out]; rfl, rfl⟩
    · by_cases h6 : 1 < m - i ∧ (bt (by8 s) i == 48) = true
      · have HP2 : Hid (p = (0, i)) := by have := HP.out; rwa [if_pos (numBad_zero h6.1 h6.2)] at this
        have h5 : ¬ (4 : Int) < (m : Int) - i := by omega
        have h7 : (1 : Int) < (m : Int) - i := by omega
        have h8 := h6.2
        clear HP h4 HM h6
        generalize bt (by8 s) i = c at hix h8
        go_wp2_with fail
        go_ret
        exact ⟨by rw [HP2.out]; rfl, rfl⟩
      · have h7 : ((bt (by8 s) i == 48) = true ∧ ¬ 1 < m - i) ∨ (bt (by8 s) i == 48) = false := by
          cases h : (bt (by8 s) i == 48)
          · exact .inr rfl
          · exact .inl ⟨rfl, fun h' => h6 ⟨h', h⟩⟩
        have h7' : ¬ 1 < m - i ∨ (bt (by8 s) i == 48) = false := h7.imp And.right id
        have h5 : ¬ (4 : Int) < (m : Int) - i := by omega
        by_cases h8 : m < s.size
        · have hix2 := run_index_bt s m h8
          have h8l : m < (by8 s).length := by rw [HL.out]; exact h8
          by_cases h9 : isL (bt (by8 s) m) = true
          · have HP2 : Hid (p = (0, i)) := by have := HP.out; rwa [if_pos (numBad_tail h8l h9)] at this
            clear HP h4 HM h6 h7' h8l
            generalize bt (by8 s) m = d at hix2 h9
            generalize bt (by8 s) i = c at hix h7
            rcases h7 with ⟨h10, h7⟩ | h10
            · have h7 : ¬ (1 : Int) < (m : Int) - i := by omega
              go_wp2_with (go_at_call 22; refine (letter_calls _ _).mono ?_; rintro e w' ⟨rfl, rfl⟩; rw [h9])
              go_ret
              exact ⟨by rw [HP2.out]; rfl, rfl⟩
            · go_wp2_with (go_at_call 22; refine (letter_calls _ _).mono ?_; rintro e w' ⟨rfl, rfl⟩; rw [h9])
              go_ret
              exact ⟨by rw [HP2.out]; rfl, rfl⟩
          · have h9 : isL (bt (by8 s) m) = false := by simpa using h9
            have HP2 : Hid (p = (2, m)) := by have := HP.out; rwa [numBad_not h4 h7' (.inr h9), if_neg (by simp)] at this
            clear HP h4 HM h6 h7' h8l
            generalize bt (by8 s) m = d at hix2 h9
            generalize bt (by8 s) i = c at hix h7
            rcases h7 with ⟨h10, h7⟩ | h10
            · have h7 : ¬ (1 : Int) < (m : Int) - i := by omega
              go_wp2_with (go_at_call 22; refine (letter_calls _ _).mono ?_; rintro e w' ⟨rfl, rfl⟩; rw [h9])
              go_ret
              exact ⟨by rw [HP2.out]; rfl, rfl⟩
            · go_wp2_with (go_at_call 22; refine (letter_calls _ _).mono ?_; rintro e w' ⟨rfl, rfl⟩; rw [h9])
              go_ret
              exact ⟨by rw [HP2.out]; rfl, rfl⟩
        · have h8l : ¬ m < (by8 s).length := by rw [HL.out]; exact h8
          have HP2 : Hid (p = (2, m)) := by have := HP.out; rwa [numBad_not h4 h7' (.inl h8l), if_neg (by simp)] at this
          clear HP h4 HM h6 h7' h8l
          generalize bt (by8 s) i = c at hix h7
          rcases h7 with ⟨h10, h7⟩ | h10
          · have h7 : ¬ (1 : Int) < (m : Int) - i := by omega
            go_wp2_with fail
            go_ret
            exact ⟨by rw [HP2.out]; rfl, rfl⟩
          · go_wp2_with fail
            go_ret
            exact ⟨by rw [HP2.out]; rfl, rfl⟩

end Go.Proofs.YtkaojokhdleeiaaGreatDoor

/-
  The walk of the reference's Scan: the same words, or none and the same fault.
-/
namespace Go.Proofs.YtkaojokhdleeiaaGreatDoor
open Go.RowKit

set_option maxRecDepth 20000

/-- The word that is being made. -/
structure WBox (w wq : World) (b : Nat) (K : Int) (t : ByteArray) (i : Nat) : Prop where
  head : wq.heap[b]? = some (.cells #[.int .i64 K, .string t, .int .i64 i] 35 (0, 0))
  below : Below w.heap.size w wq
  lo : w.heap.size ≤ b

theorem WBox.lt {w wq : World} {b : Nat} {K : Int} {t : ByteArray} {i : Nat} (h : WBox w wq b K t i) : b < wq.heap.size := (Array.getElem?_eq_some_iff.1 h.head).1
theorem WBox.c0 {w wq : World} {b : Nat} {K : Int} {t : ByteArray} {i : Nat} (h : WBox w wq b K t i) : wq.cell? ⟨b, 0, none⟩ = some (.int .i64 K) := by simp [World.cell?, h.head]
theorem WBox.c1 {w wq : World} {b : Nat} {K : Int} {t : ByteArray} {i : Nat} (h : WBox w wq b K t i) : wq.cell? ⟨b, 1, none⟩ = some (.string t) := by simp [World.cell?, h.head]
theorem WBox.c2 {w wq : World} {b : Nat} {K : Int} {t : ByteArray} {i : Nat} (h : WBox w wq b K t i) : wq.cell? ⟨b, 2, none⟩ = some (.int .i64 i) := by simp [World.cell?, h.head]
theorem WBox.fz {w wq : World} {b : Nat} {K : Int} {t : ByteArray} {i : Nat} (h : WBox w wq b K t i) (j : Nat) : wq.frozen? ⟨b, j, none⟩ = false := by simp [World.frozen?, h.head]
theorem WBox.step {w wq w' : World} {b : Nat} {K : Int} {t : ByteArray} {i : Nat} (h : WBox w wq b K t i) (hb : Below wq.heap.size wq w') : WBox w w' b K t i :=
  ⟨by rw [hb.block b h.lt]; exact h.head, below_step h.below hb, h.lo⟩
theorem WBox.set0 {w wq : World} {b : Nat} {K : Int} {t : ByteArray} {i : Nat} (h : WBox w wq b K t i) (K' : Int) : WBox w (wq.setCell ⟨b, 0, none⟩ (.int .i64 K')) b K' t i :=
  ⟨by rw [setCell_eq_setRow wq b 0 _ 35 (0, 0) _ h.head]; exact setRow_heap wq b _ _ 35 _ h.head, h.below.setCell (p := ⟨b, 0, none⟩) h.lo _, h.lo⟩
theorem WBox.set1 {w wq : World} {b : Nat} {K : Int} {t : ByteArray} {i : Nat} (h : WBox w wq b K t i) (t' : ByteArray) : WBox w (wq.setCell ⟨b, 1, none⟩ (.string t')) b K t' i :=
  ⟨by rw [setCell_eq_setRow wq b 1 _ 35 (0, 0) _ h.head]; exact setRow_heap wq b _ _ 35 _ h.head, h.below.setCell (p := ⟨b, 1, none⟩) h.lo _, h.lo⟩

/-- How far the scan has come. -/
def WWay (s : ByteArray) (R : List (Nat × Nat × Nat) × Int) (w0 w : World) (k : Nat) (v : Value) : Prop :=
  ∃ f acc, s.size < k + f ∧ acc.length ≤ k ∧ scanF f (by8 s) k acc = R ∧ IsW w w0.heap.size s v acc ∧ Below w0.heap.size w0 w

theorem WWay.bad {s : ByteArray} {R : List (Nat × Nat × Nat) × Int} {w0 w : World} {k : Nat} {v : Value} (h : WWay s R w0 w k v) (hk : k < s.size) (hz : (wordP (by8 s) k).1 = 0) : R = ([], (k : Int)) := by
  obtain ⟨f, acc, hf, -, he, -⟩ := h
  obtain ⟨f, rfl⟩ : ∃ g, f = g + 1 := ⟨f - 1, by omega⟩
  rw [scan_bad (by rw [by8_length]; exact hk) hz] at he
  exact he.symm

/-- One word is laid to the others. -/
theorem WWay.next {s : ByteArray} {R : List (Nat × Nat × Nat) × Int} {w0 w wq : World} {k : Nat} {v : Value} (h : WWay s R w0 w k v) (hs : s.size ≤ 1048576) (hk : k < s.size) {K e : Nat} (hw : wordP (by8 s) k = (K, e)) (hK : K ≠ 0) (hB : Below w.heap.size w wq) :
    ∃ ao n c w2, (Builtin.append_ #[31, 31] 31 #[v, .slice (some ⟨wq.heap.size, 0, none⟩) 1 1]).run Tryz.prog (wq.alloc (.cells #[.int .i64 K, .string (s.extract k e), .int .i64 k] 35)) = .ok (.slice ao n c) w2 ∧
      WWay s R w0 w2 (skip (by8 s) e) (.slice ao n c) := by
  obtain ⟨f, acc, hf, ha, he, hI, hb⟩ := h
  obtain ⟨f, rfl⟩ : ∃ g, f = g + 1 := ⟨f - 1, by omega⟩
  have hl : k < (by8 s).length := by rw [by8_length]; exact hk
  have hwr := wordP_range hl
  rw [scan_next hl (by rw [hw]; exact hK)] at he
  rw [hw] at he hwr
  simp only at he hwr
  have hlt := hwr.2.2.1 hK
  have hsk := (skip_le (l := by8 s) (i := e) hwr.2.1).1
  have h0 := hb.size
  have h1 := hB.size
  obtain ⟨ao, n, c, w2, hr, h2, h3⟩ := (hI.below hB).add (by omega) (by omega) K k e
  exact ⟨ao, n, c, w2, hr, f, acc ++ [(K, k, e)], by omega, by rw [List.length_append]; simp; omega, he, h2, (hb.trans (hB.mono h0)).trans h3⟩

set_option maxHeartbeats 4000000 in
set_option maxRecDepth 20000 in
theorem rscan_calls (s : ByteArray) (w : World) (hs : s.size ≤ 1048576) : Calls Tryz.prog 14 #[.string s] w fun e w' => Scanned s w w' e := by
  have HL : Hid ((by8 s).length = s.size) := by8_length s
  have HS0 : Hid (∀ W : World, Calls Tryz.prog 21 #[.string s, .int .i64 0] W fun e w' => e = .returned (.int .i64 (skip (by8 s) 0)) ∧ w' = W) := fun W => rskip_calls s 0 W (Nat.zero_le _) hs
  have h00 : skip (by8 s) 0 ≤ s.size := by rw [← by8_length]; exact (skip_le (Nat.zero_le _)).2
  obtain ⟨R, HR⟩ : ∃ R, Hid (scan (by8 s) = R) := ⟨_, rfl⟩
  have HR0 : Hid (scanF (s.size + 1) (by8 s) (skip (by8 s) 0) [] = R) := by
    have := HR.out
    unfold scan at this
    rwa [HL.out] at this
  unfold Scanned
  rw [HR.out]
  generalize skip (by8 s) 0 = a0 at HS0 h00 HR0
  go_enter Tryz.func14, Tryz.ntmps14
  go_wp2_with (go_at_call 21; refine (HS0.out _).mono ?_; rintro e w' ⟨rfl, rfl⟩)
  go_loopg [4, 5] s.size (fun kx s4 s5 wr => ∃ (k : Nat) (ml : Nat × Option Addr × Nat), s4 = .slice ml.2.1 ml.1 ml.2.2 ∧ s5 = .int .i64 k ∧ k ≤ s.size ∧ s.size - k ≤ kx ∧ Hid (WWay s R w' wr k (.slice ml.2.1 ml.1 ml.2.2)))
  case atStart => exact ⟨a0, (0, none, 0), rfl, rfl, h00, by omega, (⟨s.size + 1, [], by omega, Nat.zero_le _, HR0.out, isW_nil _ _ _, Below.refl _ _⟩ : WWay s R w' w' a0 (.slice none 0 0))⟩
  case round =>
    obtain ⟨k, ⟨nl, al, cl⟩, rfl, rfl, hk, hg, J⟩ := hrel
    simp only at J
    by_cases hlt : k < s.size
    · have hl : k < (by8 s).length := by rw [HL.out]; exact hlt
      have hix := run_index_bt s k hlt
      go_wp2_with fail
      have HB0 : Hid (WBox wr (wr.alloc (.cells #[.int .i64 0, .string ⟨#[]⟩, .int .i64 k] 35)) wr.heap.size 0 ⟨#[]⟩ k) :=
        ⟨heap_alloc_new wr _, (Below.refl _ _).alloc (Nat.le_refl _) _, Nat.le_refl _⟩
      generalize wr.alloc (.cells #[.int .i64 0, .string ⟨#[]⟩, .int .i64 k] 35) = w1 at HB0 ⊢
      generalize wr.heap.size = b at HB0 ⊢
      have q0 := HB0.out.c0
      have q1 := HB0.out.c1
      have q2 := HB0.out.c2
      have z0 := HB0.out.fz 0
      have z1 := HB0.out.fz 1
      by_cases h1 : isL (bt (by8 s) k) = true
      · have HE : Hid (∀ W : World, Calls Tryz.prog 23 #[.string s, .int .i64 k] W fun e w' => e = .returned (.int .i64 (runEnd isN (by8 s) k)) ∧ w' = W) := fun W => run_calls s k W hk hs
        have hm1 : k < runEnd isN (by8 s) k := by rw [runEnd_step hl (by unfold isN; rw [h1]; rfl)]; exact le_runEnd _ _ _
        have hm2 : runEnd isN (by8 s) k ≤ s.size := by rw [← HL.out]; exact runEnd_le (by omega)
        have HWP : Hid (wordP (by8 s) k = if 12 < runEnd isN (by8 s) k - k then (0, k) else (1, runEnd isN (by8 s) k)) := wordP_name h1
        refine (letter_calls _ _).mono ?_
        rintro e w9 ⟨rfl, rfl⟩
        rw [h1]
        generalize runEnd isN (by8 s) k = m at HE hm1 hm2 HWP
        generalize bt (by8 s) k = c at hix
        clear h1 hl
        by_cases h12 : 12 < m - k
        · have h12' : (12 : Int) < (m : Int) - k := by omega
          have HRB : Hid (R = ([], (k : Int))) := J.out.bad hlt (by rw [HWP.out, if_pos h12])
          have HBB : Hid (Below w'.heap.size w' (w9.setCell ⟨b, 0, none⟩ (.int .i64 1))) := by
            obtain ⟨f, acc, -, -, -, -, hb⟩ := J.out
            exact below_step hb (HB0.out.set0 1).below
          clear J HWP HB0 h12
          go_wp2_with (go_at_call 23; refine (HE.out _).mono ?_; rintro e w8 ⟨rfl, rfl⟩)
          go_ret2
          exact ⟨_, by rw [HRB.out]; rfl, by rw [HRB.out]; exact isW_nil _ _ _, HBB.out⟩
        · have h12' : ¬ (12 : Int) < (m : Int) - k := by omega
          have HWP2 : Hid (wordP (by8 s) k = (1, m)) := by have := HWP.out; rwa [if_neg h12] at this
          clear HWP h12
          go_upto_region 22 with (go_at_call 23; refine (HE.out _).mono ?_; rintro e w8 ⟨rfl, rfl⟩)
          have HB3 : Hid (WBox wr ((w8.setCell ⟨b, 0, none⟩ (.int .i64 1)).setCell ⟨b, 1, none⟩ (.string (s.extract k m))) b 1 (s.extract k m) k) := (HB0.out.set0 1).set1 _
          have hA := J.out.next hs hlt HWP2.out (by decide) HB3.out.below
          have HSk : Hid (∀ W : World, Calls Tryz.prog 21 #[.string s, .int .i64 m] W fun e w' => e = .returned (.int .i64 (skip (by8 s) m)) ∧ w' = W) := fun W => rskip_calls s m W hm2 hs
          have hsk := skip_le (l := by8 s) (i := m) (by rw [HL.out]; exact hm2)
          rw [HL.out] at hsk
          generalize skip (by8 s) m = a1 at hA HSk hsk
          generalize (w8.setCell ⟨b, 0, none⟩ (.int .i64 1)).setCell ⟨b, 1, none⟩ (.string (s.extract k m)) = wq at HB3 hA ⊢
          obtain ⟨a2, n2, c2, w2, hr', J3'⟩ := hA
          have hr : (Builtin.append_ #[31, 31] 31 #[.slice al nl cl, .slice (some ⟨wq.heap.size, 0, none⟩) 1 1]).run Tryz.prog (wq.alloc (.cells #[.int .i64 1, .string (s.extract k m), .int .i64 k] 35)) = .ok (.slice a2 n2 c2) w2 := hr'
          have J3 : Hid (WWay s R w' w2 a1 (.slice a2 n2 c2)) := J3'
          clear J3' hr' J q0 q1 q2 z0 z1 HWP2 HB0
          have q0 := HB3.out.c0
          have q1 := HB3.out.c1
          have q2 := HB3.out.c2
          clear HB3
          go_wp2_with (first | (at_builtin; refine Lib.wpList_append_run _ rfl _ _ _ _ rfl _ _ rfl rfl _ _ hr ?_) | (go_at_call 21; refine (HSk.out _).mono ?_; rintro e w7 ⟨rfl, rfl⟩))
          go_roundg (s.size - a1)
          case measure => omega
          case rel => exact ⟨a1, (n2, a2, c2), rfl, rfl, hsk.2, Nat.le_refl _, J3⟩
      · have h1 : isL (bt (by8 s) k) = false := by simpa using h1
        refine (letter_calls _ _).mono ?_
        rintro e w9 ⟨rfl, rfl⟩
        rw [h1]
        by_cases h2 : isD (bt (by8 s) k) = true
        · have HE : Hid (∀ W : World, Calls Tryz.prog 25 #[.string s, .int .i64 k] W fun e w' => e = .returned (.int .i64 (keyR (numberP (by8 s) k))) ∧ w' = W) := fun W => rnumber_calls s k W hlt hs
          have hm1 : k < runEnd isD (by8 s) k := by rw [runEnd_step hl h2]; exact le_runEnd _ _ _
          have hm2 : runEnd isD (by8 s) k ≤ s.size := by rw [← HL.out]; exact runEnd_le (by omega)
          have HWP : Hid (wordP (by8 s) k = numberP (by8 s) k) := wordP_num h1 h2
          have HNP : Hid (numberP (by8 s) k = if numBad (by8 s) k (runEnd isD (by8 s) k) = true then (0, k) else (2, runEnd isD (by8 s) k)) := rfl
          by_cases hb : numBad (by8 s) k (runEnd isD (by8 s) k) = true
          · have HNP2 : numberP (by8 s) k = (0, k) := by have := HNP.out; rwa [if_pos hb] at this
            have HRB : Hid (R = ([], (k : Int))) := J.out.bad hlt (by rw [HWP.out, HNP2])
            rw [HNP2] at HE
            have HE2 : Hid (∀ W : World, Calls Tryz.prog 25 #[.string s, .int .i64 k] W fun e w' => e = .returned (.int .i64 (-1)) ∧ w' = W) := HE.out
            generalize bt (by8 s) k = c at hix h2
            clear HWP HNP HNP2 HE hb hm1 hm2 h1 hl
            have HBB : Hid (Below w'.heap.size w' (w9.setCell ⟨b, 0, none⟩ (.int .i64 2))) := by
              obtain ⟨f, acc, -, -, -, -, hb⟩ := J.out
              exact below_step hb (HB0.out.set0 2).below
            clear J HB0
            go_wp2_with (first | (go_at_call 24; refine (rdigit_calls _ _).mono ?_; rintro e w7 ⟨rfl, rfl⟩; rw [h2]) | (go_at_call 25; refine (HE2.out _).mono ?_; rintro e w8 ⟨rfl, rfl⟩))
            go_ret2
            exact ⟨_, by rw [HRB.out]; rfl, by rw [HRB.out]; exact isW_nil _ _ _, HBB.out⟩
          · have HNP2 : numberP (by8 s) k = (2, runEnd isD (by8 s) k) := by have := HNP.out; rwa [if_neg hb] at this
            have HWP2 : Hid (wordP (by8 s) k = (2, runEnd isD (by8 s) k)) := by have := HWP.out; rwa [HNP2] at this
            rw [HNP2] at HE
            have HE2 : Hid (∀ W : World, Calls Tryz.prog 25 #[.string s, .int .i64 k] W fun e w' => e = .returned (.int .i64 (runEnd isD (by8 s) k)) ∧ w' = W) := HE.out
            clear HWP HNP HNP2 HE hb
            generalize runEnd isD (by8 s) k = m at HE2 hm1 hm2 HWP2
            generalize bt (by8 s) k = c at hix h2
            clear h1 hl
            go_upto_region 22 with (first | (go_at_call 24; refine (rdigit_calls _ _).mono ?_; rintro e w7 ⟨rfl, rfl⟩; rw [h2]) | (go_at_call 25; refine (HE2.out _).mono ?_; rintro e w8 ⟨rfl, rfl⟩))
            have HB3 : Hid (WBox wr ((w8.setCell ⟨b, 0, none⟩ (.int .i64 2)).setCell ⟨b, 1, none⟩ (.string (s.extract k m))) b 2 (s.extract k m) k) := (HB0.out.set0 2).set1 _
            have hA := J.out.next hs hlt HWP2.out (by decide) HB3.out.below
            have HSk : Hid (∀ W : World, Calls Tryz.prog 21 #[.string s, .int .i64 m] W fun e w' => e = .returned (.int .i64 (skip (by8 s) m)) ∧ w' = W) := fun W => rskip_calls s m W hm2 hs
            have hsk := skip_le (l := by8 s) (i := m) (by rw [HL.out]; exact hm2)
            rw [HL.out] at hsk
            generalize skip (by8 s) m = a1 at hA HSk hsk
            generalize (w8.setCell ⟨b, 0, none⟩ (.int .i64 2)).setCell ⟨b, 1, none⟩ (.string (s.extract k m)) = wq at HB3 hA ⊢
            obtain ⟨a2, n2, c2, w2, hr', J3'⟩ := hA
            have hr : (Builtin.append_ #[31, 31] 31 #[.slice al nl cl, .slice (some ⟨wq.heap.size, 0, none⟩) 1 1]).run Tryz.prog (wq.alloc (.cells #[.int .i64 2, .string (s.extract k m), .int .i64 k] 35)) = .ok (.slice a2 n2 c2) w2 := hr'
            have J3 : Hid (WWay s R w' w2 a1 (.slice a2 n2 c2)) := J3'
            clear J3' hr' J q0 q1 q2 z0 z1 HWP2 HB0
            have q0 := HB3.out.c0
            have q1 := HB3.out.c1
            have q2 := HB3.out.c2
            clear HB3
            go_wp2_with (first | (at_builtin; refine Lib.wpList_append_run _ rfl _ _ _ _ rfl _ _ rfl rfl _ _ hr ?_) | (go_at_call 21; refine (HSk.out _).mono ?_; rintro e w7 ⟨rfl, rfl⟩))
            go_roundg (s.size - a1)
            case measure => omega
            case rel => exact ⟨a1, (n2, a2, c2), rfl, rfl, hsk.2, Nat.le_refl _, J3⟩
        · have h2 : isD (bt (by8 s) k) = false := by simpa using h2
          by_cases h3 : (bt (by8 s) k == 37) = true
          · have HE : Hid (∀ W : World, Calls Tryz.prog 26 #[.string s, .int .i64 k] W fun e w' => e = .returned (.int .i64 (keyR (keyP (by8 s) k))) ∧ Below W.heap.size W w') := fun W => rkey_calls s k W hlt h3 hs
            have HWP : Hid (wordP (by8 s) k = keyP (by8 s) k) := wordP_key h1 h2 h3
            have hrg := wordP_range hl
            rw [HWP.out, HL.out] at hrg
            have hK4 : (keyP (by8 s) k).1 = 0 ∨ (keyP (by8 s) k).1 = 4 := by
              unfold keyP
              split
              · exact .inr rfl
              · split
                · exact .inr rfl
                · exact .inl rfl
            generalize bt (by8 s) k = c at hix h1 h2 h3
            clear h1 hl
            go_wp2_with (go_at_call 24; refine (rdigit_calls _ _).mono ?_; rintro e w7 ⟨rfl, rfl⟩; rw [h2])
            refine (HE.out _).mono ?_
            rintro e w3 ⟨rfl, hB3⟩
            have HB1 : Hid (WBox wr w3 b 0 ⟨#[]⟩ k) := HB0.out.step hB3
            clear HE hB3 q0 q1 q2 z0 z1 HB0
            have HB0 : Hid (WBox wr w3 b 0 ⟨#[]⟩ k) := HB1
            clear HB1
            have q0 := HB0.out.c0
            have q1 := HB0.out.c1
            have q2 := HB0.out.c2
            have z0 := HB0.out.fz 0
            have z1 := HB0.out.fz 1
            rcases hK4 with hK | hK
            · have HRB : Hid (R = ([], (k : Int))) := J.out.bad hlt (by rw [HWP.out, hK])
              have hkr : keyR (keyP (by8 s) k) = -1 := by unfold keyR; rw [if_pos hK]
              rw [hkr]
              clear HWP hrg hK hkr
              have HBB : Hid (Below w'.heap.size w' (w3.setCell ⟨b, 0, none⟩ (.int .i64 4))) := by
                obtain ⟨f, acc, -, -, -, -, hb⟩ := J.out
                exact below_step hb (HB0.out.set0 4).below
              clear J HB0
              go_wp2_with fail
              go_ret2
              exact ⟨_, by rw [HRB.out]; rfl, by rw [HRB.out]; exact isW_nil _ _ _, HBB.out⟩
            · have hkr : keyR (keyP (by8 s) k) = ((keyP (by8 s) k).2 : Int) := by unfold keyR; rw [if_neg (by rw [hK]; decide)]
              rw [hkr]
              have HWP2 : Hid (wordP (by8 s) k = (4, (keyP (by8 s) k).2)) := by
                have := HWP.out
                rw [this]
                exact Prod.ext hK rfl
              have hm1 := hrg.2.2.1 (by rw [hK]; decide)
              have hm2 := hrg.2.1
              clear HWP hrg hK hkr
              generalize (keyP (by8 s) k).2 = m at hm1 hm2 HWP2 ⊢
              go_upto_region 22 with fail
              have HB3 : Hid (WBox wr ((w3.setCell ⟨b, 0, none⟩ (.int .i64 4)).setCell ⟨b, 1, none⟩ (.string (s.extract k m))) b 4 (s.extract k m) k) := (HB0.out.set0 4).set1 _
              have hA := J.out.next hs hlt HWP2.out (by decide) HB3.out.below
              have HSk : Hid (∀ W : World, Calls Tryz.prog 21 #[.string s, .int .i64 m] W fun e w' => e = .returned (.int .i64 (skip (by8 s) m)) ∧ w' = W) := fun W => rskip_calls s m W hm2 hs
              have hsk := skip_le (l := by8 s) (i := m) (by rw [HL.out]; exact hm2)
              rw [HL.out] at hsk
              generalize skip (by8 s) m = a1 at hA HSk hsk
              generalize (w3.setCell ⟨b, 0, none⟩ (.int .i64 4)).setCell ⟨b, 1, none⟩ (.string (s.extract k m)) = wq at HB3 hA ⊢
              obtain ⟨a2, n2, c2, w2, hr', J3'⟩ := hA
              have hr : (Builtin.append_ #[31, 31] 31 #[.slice al nl cl, .slice (some ⟨wq.heap.size, 0, none⟩) 1 1]).run Tryz.prog (wq.alloc (.cells #[.int .i64 4, .string (s.extract k m), .int .i64 k] 35)) = .ok (.slice a2 n2 c2) w2 := hr'
              have J3 : Hid (WWay s R w' w2 a1 (.slice a2 n2 c2)) := J3'
              clear J3' hr' J q0 q1 q2 z0 z1 HWP2 HB0
              have q0 := HB3.out.c0
              have q1 := HB3.out.c1
              have q2 := HB3.out.c2
              clear HB3
              go_wp2_with (first | (at_builtin; refine Lib.wpList_append_run _ rfl _ _ _ _ rfl _ _ rfl rfl _ _ hr ?_) | (go_at_call 21; refine (HSk.out _).mono ?_; rintro e w7 ⟨rfl, rfl⟩))
              go_roundg (s.size - a1)
              case measure => omega
              case rel => exact ⟨a1, (n2, a2, c2), rfl, rfl, hsk.2, Nat.le_refl _, J3⟩
          · have h3 : (bt (by8 s) k == 37) = false := by simpa using h3
            by_cases h4 : isS (bt (by8 s) k) = true
            · obtain ⟨m, hm⟩ : ∃ m, m = k + 1 := ⟨_, rfl⟩
              have hm' : (k : Int) + 1 = m := by omega
              have HWP2 : Hid (wordP (by8 s) k = (3, m)) := by have := wordP_sign h1 h2 h3 h4; rw [← hm] at this; exact this
              have hm1 : k < m := by omega
              have hm2 : m ≤ s.size := by omega
              have h4 := isS_parts h4
              rw [hm']
              generalize bt (by8 s) k = c at hix h1 h2 h3 h4
              clear h1 hl hm' hm
              rcases h4 with h4 | ⟨h4, h5⟩ | ⟨h4, h5, h6⟩
              all_goals
                go_upto_region 22 with (go_at_call 24; refine (rdigit_calls _ _).mono ?_; rintro e w7 ⟨rfl, rfl⟩; rw [h2])
                have HB3 : Hid (WBox wr ((w7.setCell ⟨b, 0, none⟩ (.int .i64 3)).setCell ⟨b, 1, none⟩ (.string (s.extract k m))) b 3 (s.extract k m) k) := (HB0.out.set0 3).set1 _
                have hA := J.out.next hs hlt HWP2.out (by decide) HB3.out.below
                have HSk : Hid (∀ W : World, Calls Tryz.prog 21 #[.string s, .int .i64 m] W fun e w' => e = .returned (.int .i64 (skip (by8 s) m)) ∧ w' = W) := fun W => rskip_calls s m W hm2 hs
                have hsk := skip_le (l := by8 s) (i := m) (by rw [HL.out]; exact hm2)
                rw [HL.out] at hsk
                generalize skip (by8 s) m = a1 at hA HSk hsk
                generalize (w7.setCell ⟨b, 0, none⟩ (.int .i64 3)).setCell ⟨b, 1, none⟩ (.string (s.extract k m)) = wq at HB3 hA ⊢
                obtain ⟨a2, n2, c2, w2, hr', J3'⟩ := hA
                have hr : (Builtin.append_ #[31, 31] 31 #[.slice al nl cl, .slice (some ⟨wq.heap.size, 0, none⟩) 1 1]).run Tryz.prog (wq.alloc (.cells #[.int .i64 3, .string (s.extract k m), .int .i64 k] 35)) = .ok (.slice a2 n2 c2) w2 := hr'
                have J3 : Hid (WWay s R w' w2 a1 (.slice a2 n2 c2)) := J3'
                clear J3' hr' J q0 q1 q2 z0 z1 HWP2 HB0
                have q0 := HB3.out.c0
                have q1 := HB3.out.c1
                have q2 := HB3.out.c2
                clear HB3
                go_wp2_with (first | (at_builtin; refine Lib.wpList_append_run _ rfl _ _ _ _ rfl _ _ rfl rfl _ _ hr ?_) | (go_at_call 21; refine (HSk.out _).mono ?_; rintro e w7 ⟨rfl, rfl⟩))
                go_roundg (s.size - a1)
                case measure => omega
                case rel => exact ⟨a1, (n2, a2, c2), rfl, rfl, hsk.2, Nat.le_refl _, J3⟩
            · have h4 : isS (bt (by8 s) k) = false := by simpa using h4
              have HRB : Hid (R = ([], (k : Int))) := J.out.bad hlt (by rw [wordP_none h1 h2 h3 h4])
              obtain ⟨h5, h6, h7⟩ := isS_none h4
              generalize bt (by8 s) k = c at hix h1 h2 h3 h4 h5 h6 h7
              clear h1 hl h4
              have HBB : Hid (Below w'.heap.size w' (w9)) := by
                obtain ⟨f, acc, -, -, -, -, hb⟩ := J.out
                exact below_step hb HB0.out.below
              clear J HB0
              go_wp2_with (go_at_call 24; refine (rdigit_calls _ _).mono ?_; rintro e w7 ⟨rfl, rfl⟩; rw [h2])
              go_ret2
              exact ⟨_, by rw [HRB.out]; rfl, by rw [HRB.out]; exact isW_nil _ _ _, HBB.out⟩
    · obtain rfl : k = s.size := by omega
      have HA : Hid (∃ ao n c w2, (Builtin.append_ #[31, 31] 31 #[.slice al nl cl, .slice (some ⟨wr.heap.size, 0, none⟩) 1 1]).run Tryz.prog (wr.alloc (.cells #[.int .i64 5, .string ⟨#[]⟩, .int .i64 s.size] 35)) = .ok (.slice ao n c) w2 ∧
          R.2 = -1 ∧ IsW w2 w'.heap.size s (.slice ao n c) R.1 ∧ Below w'.heap.size w' w2) := by
        obtain ⟨f, acc, hf, ha, he, hI, hB⟩ := J.out
        obtain ⟨f, rfl⟩ : ∃ g, f = g + 1 := ⟨f - 1, by omega⟩
        rw [scan_out (by rw [HL.out]; exact Nat.le_refl _), HL.out] at he
        have hb := hB.size
        obtain ⟨ao, n, c, w2, hr, h2, h3⟩ := hI.add hb (by omega) 5 s.size s.size
        rw [extract_end] at hr
        exact ⟨ao, n, c, w2, hr, by rw [← he], by rw [← he]; exact h2, hB.trans h3⟩
      clear J
      obtain ⟨a2, n2, c2, w2, hr, J3'⟩ := HA.out
      have J3 : Hid (R.2 = -1 ∧ IsW w2 w'.heap.size s (.slice a2 n2 c2) R.1 ∧ Below w'.heap.size w' w2) := J3'
      clear HA J3'
      go_wp2_with (at_builtin; refine Lib.wpList_append_run _ rfl _ _ _ _ rfl _ _ rfl rfl _ _ hr ?_)
      go_ret2
      exact ⟨_, by rw [J3.out.1]; rfl, J3.out.2.1, J3.out.2.2⟩

end Go.Proofs.YtkaojokhdleeiaaGreatDoor

/-
  The reference's reader as it begins; what its Read gives. Plain facts.
-/
namespace Go.Proofs.YtkaojokhdleeiaaGreatDoor
open Go.RowKit

set_option maxRecDepth 20000

/-- Words in memory, as the reader takes them. -/
structure WRow (w : World) (base g k cap : Nat) (wl : List Wd) : Prop where
  own : w.ownsRow base 35 3 (.slice (some ⟨g, 0, none⟩) (k + 1) cap) (k + 1) (wdC wl)
  len : wl.length = k + 1

theorem WRow.of {w : World} {base : Nat} {s : ByteArray} {v : Value} (h : IsW w base s v (scan (by8 s)).1) (hf : (scan (by8 s)).2 = -1) :
    ∃ g k cap, v = .slice (some ⟨g, 0, none⟩) (k + 1) cap ∧ WRow w base g k cap (wordsOf s) := by
  have he : Ends (wordsOf s) := scan_ends hf
  have hp := he.pos
  have hl : (wordsOf s).length = (scan (by8 s)).1.length := List.length_map _
  unfold IsW at h
  obtain ⟨g, cap, rfl⟩ : ∃ g cap, v = .slice (some ⟨g, 0, none⟩) (scan (by8 s)).1.length cap := by
    rcases h.2 with ⟨_, h0⟩ | ⟨g, cap, cur, hv, _⟩
    · omega
    · exact ⟨g, cap, hv⟩
  obtain ⟨k, hk⟩ : ∃ k, (wordsOf s).length = k + 1 := ⟨(wordsOf s).length - 1, by omega⟩
  rw [cellsW_eq, ← hl, hk] at h
  exact ⟨g, k, cap, by rw [← hl, hk], h, hk⟩

/-- The place of the end is told again. -/
theorem WRow.again {w : World} {base g k cap : Nat} {wl : List Wd} {m : Int} (r : WRow w base g k cap wl) (h : EndsAt m wl) : WRow (w.setCell ⟨g, k * 3 + 2, none⟩ (.int .i64 m)) base g k cap wl := by
  have ho := r.own
  have h1 := own_set (u := .int .i64 m) (j := k * 3 + 2) ho
  obtain ⟨pre, hw, -⟩ := h
  have hpl : pre.length = k := by have := r.len; rw [hw, List.length_append] at this; simpa using this
  have hat : wl[k]? = some (endW m) := by rw [hw, ← hpl, List.getElem?_append_right (Nat.le_refl _), Nat.sub_self]; rfl
  have hc : (wdC wl)[k * 3 + 2]? = some (.int .i64 m) := by
    have := three_at (fun x : Wd => [.int .i64 x.k, .string x.t, .int .i64 x.a]) (fun _ => rfl) wl k (endW m) 2 hat (by omega)
    exact this
  rw [set_self hc] at h1
  exact ⟨h1, r.len⟩

/-- The reader as it begins. -/
theorem RF.init {w : World} {base g k cap : Nat} {wl : List Wd} (r : WRow w base g k cap wl) (he : Ends wl) :
    RF w (w.alloc (.cells (rfC ⟨g, 0, cap, none, 0, none, 0, none, 0⟩ wl.length 0 (0, 0) (st0 wl) false) 68)) w.heap.size ⟨g, 0, cap, none, 0, none, 0, none, 0⟩ wl 0 (0, 0) (st0 wl) false [] := by
  refine ⟨heap_alloc_new _ _, ?_, rfl, World.ownsRow_nil _ _ _ _, World.ownsRow_nil _ _ _ _, World.ownsRow_nil _ _ _ _, rfl, fun q hq => (by cases hq), below_alloc _ _, Nat.le_refl _, ⟨he, Nat.zero_le _, Nat.zero_le _, Nat.zero_le _⟩⟩
  have h1 := Row.of_own r.own
  rw [← r.len] at h1
  exact h1

theorem invP_st0 (wl : List Wd) : InvP (st0 wl) false := ⟨⟨rfl, fun t ht => (by cases ht)⟩, ⟨fun e => (by cases e), fun e => absurd rfl e⟩, fun _ => rfl⟩

/-- What the reference tells of a text with a fault of its words at bad. -/
theorem endRd_at {bad : Int} {S : St} {g : Flt} (h : EndsAt bad S.ws) (h0 : 0 ≤ bad) (hg : readP S = .error g) : endRd bad (.error g) = .error (if bad ≤ g.2 then (1, bad) else g) := by
  unfold endRd
  rw [if_neg (by omega)]
  rcases readP_at h hg with h1 | h1
  · rw [if_neg (by omega)]
  · rw [h1, if_pos (Int.le_refl _)]

theorem partP_run {w W0 W W' : World} {rb : Nat} {wl : List Wd} {R : Except Flt St} {L' : St → Prop} {C' : St → Except Flt St} {S : St} (k : KeepF W0 W) (d : QDid w W rb wl (partP S) W')
    (hC : R = match partP S with | .error e => .error e | .ok S1 => C' S1) (hL : ∀ S1, partP S = .ok S1 → L' S1) : Run w W0 rb wl R L' C' W' := by
  obtain ⟨k2, h1, h2⟩ := d
  refine ⟨k.trans k2, ?_⟩
  cases ha : partP S with
  | error g =>
    rw [ha] at hC
    obtain ⟨h', i', S', sd', qs', r'⟩ := h2 g ha
    exact .inl ⟨g, h', i', S', sd', qs', hC, partP_flt ha, r'⟩
  | ok S1 =>
    rw [ha] at hC
    obtain ⟨h', i', sd', qs', r', v'⟩ := h1 S1 ha
    exact .inr ⟨h', i', S1, sd', qs', r', v', hL S1 ha, hC⟩

theorem ruleRd_run {w W0 W W' : World} {rb : Nat} {wl : List Wd} {R : Except Flt St} {L' : St → Prop} {C' : St → Except Flt St} {S : St} (k : KeepF W0 W) (d : QDid w W rb wl (ruleRd S) W')
    (hC : R = match ruleRd S with | .error e => .error e | .ok S1 => C' S1) (hL : ∀ S1, ruleRd S = .ok S1 → L' S1) : Run w W0 rb wl R L' C' W' := by
  obtain ⟨k2, h1, h2⟩ := d
  refine ⟨k.trans k2, ?_⟩
  cases ha : ruleRd S with
  | error g =>
    rw [ha] at hC
    obtain ⟨h', i', S', sd', qs', r'⟩ := h2 g ha
    exact .inl ⟨g, h', i', S', sd', qs', hC, ruleRd_flt ha, r'⟩
  | ok S1 =>
    rw [ha] at hC
    obtain ⟨h', i', sd', qs', r', v'⟩ := h1 S1 ha
    exact .inr ⟨h', i', S1, sd', qs', r', v', hL S1 ha, hC⟩

/-- What the reader has as a grammar. -/
theorem RF.gram {w W : World} {rb : Nat} {h : FHd} {wl : List Wd} {i : Nat} {f : Flt} {S : St} {sd : Bool} {qs : List (Ru × Option Addr × Nat)} (r : RF w W rb h wl i f S sd qs) : OwnG W w.heap.size ⟨h.ta, h.tc, h.ra, h.rc⟩ (gmOf S) qs := ⟨r.tok, r.rul, r.map, r.row⟩

theorem rahead_calls (s : ByteArray) (m : Nat) (w : World) (hm : m ≤ s.size) (hs : s.size ≤ 1048576) : Calls Tryz.prog 31 #[.string s, .int .i64 m] w fun e w' => e = .returned (.string (s.extract 0 m)) ∧ w' = w := by
  have h1 : (m : Int) ≤ (s.size : Int) := by omega
  have h2 : (s.size : Int) ≤ 1048576 := by omega
  go_enter Tryz.func31, Tryz.ntmps31
  go_wp2_with fail
  go_ret
  exact ⟨rfl, rfl⟩

/-- Parts, then rules. -/
def partsK (f : Nat) (S : St) : Except Flt St := thenRules (partsP f S)

theorem partsK_two {f : Nat} {S : St} (h : S.hd.t = tTwo) : partsK (f + 1) S = rulesP S.next.ws.length S.next := by
  have e : partsP (f + 1) S = .ok S.next := by unfold partsP; rw [if_pos h]
  unfold partsK
  rw [e]
  rfl

theorem partsK_more {f : Nat} {S : St} (h : S.hd.t ≠ tTwo) : partsK (f + 1) S = match partP S with | .error e => .error e | .ok S1 => partsK f S1 := by
  unfold partsK
  conv => lhs; unfold partsP
  rw [if_neg h]
  cases partP S <;> rfl

theorem rulesP_end {f : Nat} {S : St} (h : S.hd.k = 5) : rulesP (f + 1) S = .ok S := by
  unfold rulesP
  rw [if_pos h]

theorem rulesP_more {f : Nat} {S : St} (h : S.hd.k ≠ 5) : rulesP (f + 1) S = match ruleRd S with | .error e => .error e | .ok S1 => rulesP f S1 := by
  conv => lhs; unfold rulesP
  rw [if_neg h]
  cases ruleRd S <;> rfl

/-- The reader's fault stands in its box. -/
theorem Run.f {w W0 W : World} {rb : Nat} {wl : List Wd} {R : Except Flt St} {L : St → Prop} {C : St → Except Flt St} (r : Run w W0 rb wl R L C W) :
    ∃ fe fa : Int, W.cell? ⟨rb, 2, none⟩ = some (.int .i64 fe) ∧ W.cell? ⟨rb, 3, none⟩ = some (.int .i64 fa) ∧ KeepF W0 W ∧
      ((fe ≠ 0 ∧ R = .error (fe, fa) ∧ ∃ h i S sd qs, RF w W rb h wl i (fe, fa) S sd qs) ∨ (fe = 0 ∧ fa = 0 ∧ ∃ h i S sd qs, RF w W rb h wl i (0, 0) S sd qs ∧ InvP S sd ∧ L S ∧ R = C S)) := by
  obtain ⟨k, h⟩ := r
  rcases h with ⟨⟨fe, fa⟩, h, i, S, sd, qs, e, hg, r⟩ | ⟨h, i, S, sd, qs, r, v, l, e⟩
  · exact ⟨fe, fa, by rw [cell_block r.box]; rfl, by rw [cell_block r.box]; rfl, k, .inl ⟨hg, e, h, i, S, sd, qs, r⟩⟩
  · exact ⟨0, 0, by rw [cell_block r.box]; rfl, by rw [cell_block r.box]; rfl, k, .inr ⟨rfl, rfl, h, i, S, sd, qs, r, v, l, e⟩⟩

end Go.Proofs.YtkaojokhdleeiaaGreatDoor

/-
  The walk of the reference's Read.
-/
namespace Go.Proofs.YtkaojokhdleeiaaGreatDoor
open Go.RowKit

set_option maxRecDepth 200000

set_option maxHeartbeats 8000000 in
theorem rread_calls (s : ByteArray) (w : World) (hs : s.size ≤ 1048576) : Calls Tryz.prog 18 #[.string s] w fun e w' => ReadOut s w e w' := by
  have hs1 : (s.size : Int) ≤ 1048576 := by omega
  have hb2 : ((w.alloc (.cells #[.slice none 0 0, .string ⟨#[]⟩, .int .i64 0, .slice none 0 0] 28)).alloc (.cells #[.int .i64 0, .int .i64 0] 46)).heap[w.heap.size + 1]? = some (.cells #[.int .i64 0, .int .i64 0] 46 (0, 0)) := by
    have := heap_alloc_new (w.alloc (.cells #[.slice none 0 0, .string ⟨#[]⟩, .int .i64 0, .slice none 0 0] 28)) (.cells #[.int .i64 0, .int .i64 0] 46)
    rwa [size_alloc1] at this
  have hb1 : ((w.alloc (.cells #[.slice none 0 0, .string ⟨#[]⟩, .int .i64 0, .slice none 0 0] 28)).alloc (.cells #[.int .i64 0, .int .i64 0] 46)).heap[w.heap.size]? = some (.cells #[.slice none 0 0, .string ⟨#[]⟩, .int .i64 0, .slice none 0 0] 28 (0, 0)) := block_below (below_alloc _ _) (heap_alloc_new _ _)
  have HB : Hid (Below w.heap.size w ((w.alloc (.cells #[.slice none 0 0, .string ⟨#[]⟩, .int .i64 0, .slice none 0 0] 28)).alloc (.cells #[.int .i64 0, .int .i64 0] 46))) := below_step (below_alloc _ _) (below_alloc _ _)
  go_enter Tryz.func18, Tryz.ntmps18
  go_upto_region 1 with fail
  generalize (w.alloc (.cells #[.slice none 0 0, .string ⟨#[]⟩, .int .i64 0, .slice none 0 0] 28)).alloc (.cells #[.int .i64 0, .int .i64 0] 46) = W1 at hb1 hb2 HB ⊢
  obtain ⟨gb, hgb⟩ : ∃ gb, gb = w.heap.size := ⟨_, rfl⟩
  obtain ⟨nb, hnb⟩ : ∃ nb, nb = w.heap.size + 1 := ⟨_, rfl⟩
  rw [← hnb] at hb2 ⊢
  rw [← hgb] at hb1 ⊢
  have HNB : Hid (w.heap.size ≤ gb ∧ w.heap.size ≤ nb ∧ gb ≠ nb) := ⟨by omega, by omega, by omega⟩
  have hne : gb ≠ nb := by omega
  have hne2 : nb ≠ gb := by omega
  clear hgb hnb
  by_cases hl : 2000 < s.size
  · have hl' : (s.size : Int) > 2000 := by omega
    obtain ⟨y0, y1, y2, y3, y4, y5, y6, y7⟩ := box_cells hb1
    obtain ⟨q3, q4, z3, z4⟩ := box46 hb2
    go_wp2_with fail
    refine bodyPost_ret (v := .tuple #[.agg #[.slice none 0 0, .string ⟨#[]⟩, .int .i64 0, .slice none 0 0], .agg #[.int .i64 6, .int .i64 0]]) (by simp [results, Tryz.results18, go_sem, *]) rfl ?_
    refine ⟨?_, ?_⟩
    · exact ((set4_below _ _ _ _ HB.out HNB.out.1).setCell (p := ⟨nb, 0, none⟩) HNB.out.2.1 _).setCell (p := ⟨nb, 1, none⟩) HNB.out.2.1 _
    · have e : readS s = .error (6, 0) := by unfold readS; rw [if_pos hl]
      rw [e]
      rfl
  · have hl' : ¬ (s.size : Int) > 2000 := by omega
    have HSC : Hid (Calls Tryz.prog 14 #[.string s] W1 fun e w' => Scanned s W1 w' e) := rscan_calls s W1 hs
    have HBX : Hid (W1.heap[gb]? = some (.cells #[.slice none 0 0, .string ⟨#[]⟩, .int .i64 0, .slice none 0 0] 28 (0, 0)) ∧ W1.heap[nb]? = some (.cells #[.int .i64 0, .int .i64 0] 46 (0, 0))) := ⟨hb1, hb2⟩
    have HL : Hid (¬ 2000 < s.size) := hl
    clear hb1 hb2 hl
    go_wp2_with fail
    refine HSC.out.mono ?_
    rintro e V ⟨v, rfl, hW, hB⟩
    have HV : Hid (IsW V W1.heap.size s v (scan (by8 s)).1 ∧ Below W1.heap.size W1 V) := ⟨hW, hB⟩
    clear hW hB HSC
    generalize hbad : (scan (by8 s)).2 = bad
    have HBAD : Hid ((scan (by8 s)).2 = bad) := hbad
    clear hbad
    go_upto_if 20 with fail
    go_cut [4] (fun s4 wd => ∃ g k cap, s4 = .slice (some ⟨g, 0, none⟩) (k + 1) cap ∧ Hid (∃ t base, WRow wd base g k cap (wordsOf t) ∧ (scan (by8 t)).2 = -1 ∧ Below W1.heap.size W1 wd ∧ readS s = endRd bad (readP (st0 (wordsOf t))) ∧ (0 ≤ bad → EndsAt bad (wordsOf t))))
    case first =>
      rcases scan_fault (by8 s) with hf | ⟨m, hf⟩
      · have hbd : bad = -1 := by rw [← HBAD.out]; exact hf
        have hge : ¬ (bad ≥ 0) := by omega
        obtain ⟨g, k, cap, rfl, hrow⟩ := WRow.of HV.out.1 hf
        have HF : Hid (∃ t base, WRow V base g k cap (wordsOf t) ∧ (scan (by8 t)).2 = -1 ∧ Below W1.heap.size W1 V ∧ readS s = endRd bad (readP (st0 (wordsOf t))) ∧ (0 ≤ bad → EndsAt bad (wordsOf t))) := by
          refine ⟨s, _, hrow, hf, HV.out.2, ?_, fun h0 => absurd h0 (by omega)⟩
          unfold readS endRd
          rw [if_neg HL.out, if_pos (by rw [hf]; decide), if_pos (by omega)]
        clear hf hbd hrow
        go_wp2_with fail
        go_meet
        exact ⟨g, k, cap, rfl, HF⟩
      · have hbd : bad = (m : Int) := by rw [← HBAD.out]; exact hf
        have hm := scan_before hf
        have hm1 : m < s.size := hm.1
        have hsz : (s.extract 0 m).size = m := by rw [ByteArray.size_extract]; omega
        have HSC : Hid (Calls Tryz.prog 14 #[.string (s.extract 0 m)] V fun e w' => Scanned (s.extract 0 m) V w' e) := rscan_calls (s.extract 0 m) V (by omega)
        have HAH : Hid (Calls Tryz.prog 31 #[.string s, .int .i64 m] V fun e w' => e = .returned (.string (s.extract 0 m)) ∧ w' = V) := rahead_calls s m V (by omega) hs
        have HM : Hid ((scan (by8 (s.extract 0 m))).2 = -1 ∧ (scan (by8 s)).2 = (m : Int) ∧ EndsAt (m : Int) (wordsOf (s.extract 0 m))) := ⟨hm.2, hf, by have := words_at hm.2; rwa [hsz] at this⟩
        have hge : (m : Int) ≥ 0 := by omega
        have hge2 : (0 : Int) ≤ (m : Int) := by omega
        subst hbd
        clear hm hf hsz
        go_wp2_with fail
        refine HAH.out.mono ?_
        rintro e V9 ⟨rfl, hV9⟩
        subst V9
        go_wp2_with fail
        refine HSC.out.mono ?_
        rintro e V2 ⟨v2, rfl, hW, hB⟩
        obtain ⟨g, k, cap, rfl, hrow⟩ := WRow.of hW HM.out.1
        have HF : Hid (∃ t base, WRow (V2.setCell ⟨g, k * 3 + 2, none⟩ (.int .i64 (m : Int))) base g k cap (wordsOf t) ∧ (scan (by8 t)).2 = -1 ∧ Below W1.heap.size W1 (V2.setCell ⟨g, k * 3 + 2, none⟩ (.int .i64 (m : Int))) ∧ readS s = endRd (m : Int) (readP (st0 (wordsOf t))) ∧ (0 ≤ (m : Int) → EndsAt (m : Int) (wordsOf t))) := by
          refine ⟨s.extract 0 m, _, hrow.again HM.out.2.2, HM.out.1, (below_step HV.out.2 hB).setCell (p := ⟨g, k * 3 + 2, none⟩) (Nat.le_trans HV.out.2.size (World.ownsRow.lt hrow.own g rfl).1) _, ?_, fun _ => HM.out.2.2⟩
          unfold readS endRd
          rw [if_neg HL.out, HM.out.2.1, if_neg (by omega), if_neg (by omega)]
          rfl
        have hcap : k + 1 ≤ cap ∧ cap ≤ 9223372036854775807 := by
          obtain ⟨ao, c, e, q1, q2, q3⟩ := own_slice hrow.own
          cases e
          unfold maxLen at q2
          omega
        obtain ⟨u0, cu⟩ : ∃ u0, V2.cell? ⟨g, k * 3 + 2, none⟩ = some u0 := by
          have hlen : k * 3 + 2 < (wdC (wordsOf (s.extract 0 m))).length := by
            unfold wdC
            rw [three_length _ (fun _ => rfl), hrow.len]
            omega
          have := World.ownsRow.cells hrow.own (g := g) rfl (k * 3 + 2) _ (List.getElem?_eq_getElem hlen)
          rw [Addr.add_lit, Nat.zero_add] at this
          exact ⟨_, this⟩
        have fu : V2.frozen? ⟨g, k * 3 + 2, none⟩ = false := by
          obtain ⟨c, hc⟩ := own_loc hrow.own (i := g) rfl
          exact frozen_block hc _
        clear hW hB hrow HSC HM
        go_wp2_with fail
        go_meet
        exact ⟨g, k, cap, rfl, HF⟩
    case rest =>
      obtain ⟨g, k, cap, rfl, HF⟩ := hcut
      obtain ⟨V3, hV3⟩ : ∃ V3, V3 = wc := ⟨_, rfl⟩
      subst wc
      obtain ⟨t, base, hrow, hsf, hBt, hrs, hat⟩ := HF.out
      have hen : Ends (wordsOf t) := scan_ends hsf
      have hr0 := RF.init hrow hen
      have hlen := hrow.len
      obtain ⟨R, hR⟩ : ∃ R, readP (st0 (wordsOf t)) = R := ⟨_, rfl⟩
      generalize hwl : wordsOf t = wl at *
      have HRS : Hid (readS s = endRd bad R ∧ (0 ≤ bad → EndsAt bad wl) ∧ R = readP (st0 wl)) := ⟨by rw [hrs, hR], hat, hR.symm⟩
      have HBY : Hid (Below w.heap.size w V3 ∧ V3.heap[gb]? = some (.cells #[.slice none 0 0, .string ⟨#[]⟩, .int .i64 0, .slice none 0 0] 28 (0, 0)) ∧ V3.heap[nb]? = some (.cells #[.int .i64 0, .int .i64 0] 46 (0, 0))) := ⟨below_step HB.out hBt, block_below hBt HBX.out.1, block_below hBt HBX.out.2⟩
      clear HF hrow hsf hBt hrs hat hen hR hwl HV HBX HB
      unfold rfC st0 at hr0
      simp only [hlen] at hr0
      go_upto_block 0 with fail
      have hb0 := below_alloc V3 (.cells #[.slice (some ⟨g, 0, none⟩) (k + 1) cap, .int .i64 0, .int .i64 0, .int .i64 0, .slice none 0 0, .string ⟨#[]⟩, .int .i64 0, .slice none 0 0, .slice none 0 0, .bool false, .bool false, .int .i64 0] 68)
      obtain ⟨rb, hrb⟩ : ∃ rb, rb = V3.heap.size := ⟨_, rfl⟩
      rw [← hrb] at hr0 ⊢
      generalize V3.alloc (.cells #[.slice (some ⟨g, 0, none⟩) (k + 1) cap, .int .i64 0, .int .i64 0, .int .i64 0, .slice none 0 0, .string ⟨#[]⟩, .int .i64 0, .slice none 0 0, .slice none 0 0, .bool false, .bool false, .int .i64 0] 68) = X0 at *
      have HX0 : Hid (∃ f1, f1 ≤ k + 1 ∧ Run V3 X0 rb wl R (fun S => S.ws.length ≤ f1) (partsK f1) X0) := by
        refine ⟨k + 1, Nat.le_refl _, KeepF.refl _, .inr ⟨_, _, _, _, _, hr0, invP_st0 wl, Nat.le_of_eq hlen, ?_⟩⟩
        rw [HRS.out.2.2, readP_eq]
        show partsK wl.length (st0 wl) = _
        rw [hlen]
        rfl
      have HXB : Hid (Below w.heap.size w X0 ∧ X0.heap[gb]? = some (.cells #[.slice none 0 0, .string ⟨#[]⟩, .int .i64 0, .slice none 0 0] 28 (0, 0)) ∧ X0.heap[nb]? = some (.cells #[.int .i64 0, .int .i64 0] 46 (0, 0)) ∧ w.heap.size ≤ V3.heap.size) := ⟨below_step HBY.out.1 hb0, block_below hb0 HBY.out.2.1, block_below hb0 HBY.out.2.2, HBY.out.1.size⟩
      clear hr0 hb0 hrb hlen
      go_cut [38] (fun _ wd => Hid (Run V3 X0 rb wl R (fun S => S.hd.t = tTwo ∧ Ends S.ws.tail) (fun S => rulesP S.next.ws.length S.next) wd))
      case first =>
        go_wp2_with fail
        go_loopg [38] (k + 1) (fun kx _ wr => Hid (∃ f1, f1 ≤ kx ∧ Run V3 X0 rb wl R (fun S => S.ws.length ≤ f1) (partsK f1) wr))
        case atStart => exact HX0
        case round =>
          obtain ⟨f1, hfk, hkp, hr⟩ := hrel.out
          clear hrel HX0
          rcases hr with ⟨g1, h1, i1, S1, sd1, qs1, hRe, hg, r1⟩ | ⟨h1, i1, S1, sd1, qs1, r1, v1, hl1, hRe⟩
          · have hq : (g1.1 == 0) = false := by simp [hg]
            have c2 : wr.cell? ⟨rb, 2, none⟩ = some (.int .i64 g1.1) := by rw [cell_block r1.box]; rfl
            have HF : Hid (Run V3 X0 rb wl R (fun S => S.hd.t = tTwo ∧ Ends S.ws.tail) (fun S => rulesP S.next.ws.length S.next) wr) := ⟨hkp, .inl ⟨g1, h1, i1, S1, sd1, qs1, hRe, hg, r1⟩⟩
            generalize g1.1 = ge at *
            clear r1 hRe hg hkp
            go_wp2_with fail
            go_meet
            exact HF
          · have hne : tTwo ≠ ⟨#[]⟩ := fun e => absurd (congrArg ByteArray.size e) (by decide)
            have c2 : wr.cell? ⟨rb, 2, none⟩ = some (.int .i64 0) := by rw [cell_block r1.box]; rfl
            obtain ⟨f2, rfl⟩ : ∃ f2, f1 = f2 + 1 := ⟨f1 - 1, by have := r1.ok.ends.pos; omega⟩
            by_cases h2 : S1.hd.t = tTwo
            · have hen := r1.ok.ends.tail_of_text (by rw [show (headW S1.ws).t = tTwo from h2]; exact hne)
              have HIS : Hid (Calls Tryz.prog 32 #[.pointer (some ⟨rb, 0, none⟩), .string ⟨#[37, 37]⟩] wr fun e W' => e = .returned (.bool true) ∧ Below wr.heap.size wr W') := rfIs_calls tTwo hne V3 wr rb h1 wl i1 (0, 0) S1 sd1 qs1 r1 true ⟨fun _ => ⟨rfl, h2⟩, fun _ => rfl⟩
              have HF : Hid (Run V3 X0 rb wl R (fun S => S.hd.t = tTwo ∧ Ends S.ws.tail) (fun S => rulesP S.next.ws.length S.next) wr) := by
                refine ⟨hkp, .inr ⟨h1, i1, S1, sd1, qs1, r1, v1, ⟨h2, hen.2⟩, ?_⟩⟩
                rw [hRe]
                exact partsK_two h2
              clear r1 v1 hl1 hRe hkp hen h2 hne
              go_wp2_with fail
              refine HIS.out.mono ?_
              rintro e V ⟨rfl, hB⟩
              have HF2 : Hid (Run V3 X0 rb wl R (fun S => S.hd.t = tTwo ∧ Ends S.ws.tail) (fun S => rulesP S.next.ws.length S.next) V) := HF.out.step hB
              clear hB
              go_wp2_with fail
              go_meet
              exact HF2
            · have HIS : Hid (Calls Tryz.prog 32 #[.pointer (some ⟨rb, 0, none⟩), .string ⟨#[37, 37]⟩] wr fun e W' => e = .returned (.bool false) ∧ Below wr.heap.size wr W') := rfIs_calls tTwo hne V3 wr rb h1 wl i1 (0, 0) S1 sd1 qs1 r1 false ⟨fun e => (by cases e), fun e => absurd e.2 h2⟩
              have HJ : Hid (RF V3 wr rb h1 wl i1 (0, 0) S1 sd1 qs1 ∧ InvP S1 sd1 ∧ KeepF X0 wr ∧ S1.ws.length ≤ f2 + 1 ∧ R = match partP S1 with | .error e => .error e | .ok S2 => partsK f2 S2) := by
                refine ⟨r1, v1, hkp, hl1, ?_⟩
                rw [hRe]
                exact partsK_more h2
              clear r1 v1 hl1 hRe hkp h2 hne
              go_wp2_with fail
              refine HIS.out.mono ?_
              rintro e V ⟨rfl, hB⟩
              have HB3 : Hid (Below wr.heap.size wr V) := hB
              clear hB
              go_wp2_with fail
              refine (rfPart_calls V3 V rb h1 wl i1 S1 sd1 qs1 (HJ.out.1.step HB3.out) HJ.out.2.1).mono ?_
              rintro e V2 ⟨rfl, hd⟩
              have HM : Hid (∃ f1, f1 ≤ f2 ∧ Run V3 X0 rb wl R (fun S => S.ws.length ≤ f1) (partsK f1) V2) := by
                refine ⟨f2, Nat.le_refl _, partP_run (HJ.out.2.2.1.trans (keepF_of_below HB3.out)) hd HJ.out.2.2.2.2 (fun S2 h2 => ?_)⟩
                have e1 := partP_len h2
                have e2 := tail_len HJ.out.1.ok.ends
                have e3 := HJ.out.2.2.2.1
                omega
              clear hd
              go_wp2_with fail
              go_roundg f2
              case measure => omega
              case rel => exact HM
      case rest =>
        obtain ⟨V4, hV4⟩ : ∃ V4, V4 = wc := ⟨_, rfl⟩
        subst wc
        have H4 : Hid (Run V3 X0 rb wl R (fun S => S.hd.t = tTwo ∧ Ends S.ws.tail) (fun S => rulesP S.next.ws.length S.next) V4) := hcut
        clear hcut HX0
        obtain ⟨fe, fa, c2, c3, hk4, hcs⟩ := H4.out.f
        have HCS : Hid (KeepF X0 V4 ∧ ((fe ≠ 0 ∧ R = .error (fe, fa) ∧ ∃ h i S sd qs, RF V3 V4 rb h wl i (fe, fa) S sd qs) ∨ (fe = 0 ∧ fa = 0 ∧ ∃ h i S sd qs, RF V3 V4 rb h wl i (0, 0) S sd qs ∧ InvP S sd ∧ (S.hd.t = tTwo ∧ Ends S.ws.tail) ∧ R = rulesP S.next.ws.length S.next))) := ⟨hk4, hcs⟩
        clear hk4 hcs H4 c3
        obtain ⟨b6, hb6⟩ : ∃ b6, (fe == 0) = b6 := ⟨_, rfl⟩
        go_upto_if 56 with fail
        go_cut [57] (fun _ wd => Hid (∃ f1, Run V3 X0 rb wl R (fun S => S.ws.length ≤ f1) (rulesP f1) wd))
        case first =>
          have HB6 : Hid ((fe == 0) = b6) := hb6
          clear hb6
          cases b6
          · have HF : Hid (∃ f1, Run V3 X0 rb wl R (fun S => S.ws.length ≤ f1) (rulesP f1) V4) := by
              rcases HCS.out.2 with ⟨hg, hRe, h1, i1, S1, sd1, qs1, r1⟩ | ⟨hg, -⟩
              · exact ⟨0, HCS.out.1, .inl ⟨_, h1, i1, S1, sd1, qs1, hRe, hg, r1⟩⟩
              · have := HB6.out
                rw [hg] at this
                cases this
            clear HCS HB6 c2
            go_wp2_with fail
            go_meet
            exact HF
          · have hg : fe = 0 := by have := HB6.out; simpa using this
            rcases HCS.out.2 with ⟨hg2, -⟩ | ⟨-, -, h1, i1, S1, sd1, qs1, r1, v1, ⟨-, hen⟩, hRe⟩
            · exact absurd hg hg2
            · have c1 : V4.cell? ⟨rb, 1, none⟩ = some (.int .i64 i1) := by rw [cell_block r1.box]; rfl
              have y1 : V4.frozen? ⟨rb, 1, none⟩ = false := frozen_block r1.box 1
              obtain ⟨l1, l2, l3⟩ := r1.lens
              have hi63 : (i1 : Int) + 1 ≤ 9223372036854775807 := by omega
              have HF : Hid (∃ f1, Run V3 X0 rb wl R (fun S => S.ws.length ≤ f1) (rulesP f1) (V4.setCell ⟨rb, 1, none⟩ (.int .i64 ((i1 : Int) + 1)))) := ⟨S1.next.ws.length, HCS.out.1.set ⟨_, r1.box⟩ (.inl rfl) _ _, .inr ⟨h1, i1 + 1, S1.next, sd1, qs1, r1.next hen, v1, Nat.le_refl _, hRe⟩⟩
              clear hRe r1 HCS l1 l2 l3 hen v1 HB6 hg c2
              go_wp2_with fail
              go_meet
              exact HF
        case rest =>
          obtain ⟨V5, hV5⟩ : ∃ V5, V5 = wc := ⟨_, rfl⟩
          subst wc
          obtain ⟨f0, hr5⟩ := hcut.out
          have H5 : Hid (∃ f1, f1 ≤ f0 ∧ Run V3 X0 rb wl R (fun S => S.ws.length ≤ f1) (rulesP f1) V5) := ⟨f0, Nat.le_refl _, hr5⟩
          clear hcut hr5 HCS c2
          go_upto_block 2 with fail
          go_cut [64] (fun _ wd => Hid (Run V3 X0 rb wl R (fun _ => True) (fun S => .ok S) wd))
          case first =>
            go_wp2_with fail
            go_loopg [64] f0 (fun kx _ wr => Hid (∃ f1, f1 ≤ kx ∧ Run V3 X0 rb wl R (fun S => S.ws.length ≤ f1) (rulesP f1) wr))
            case atStart => exact H5
            case round =>
              obtain ⟨f1, hfk, hkp, hr⟩ := hrel.out
              clear hrel H5
              rcases hr with ⟨g1, h1, i1, S1, sd1, qs1, hRe, hg, r1⟩ | ⟨h1, i1, S1, sd1, qs1, r1, v1, hl1, hRe⟩
              · have hq : (g1.1 == 0) = false := by simp [hg]
                have c2 : wr.cell? ⟨rb, 2, none⟩ = some (.int .i64 g1.1) := by rw [cell_block r1.box]; rfl
                have HF : Hid (Run V3 X0 rb wl R (fun _ => True) (fun S => .ok S) wr) := ⟨hkp, .inl ⟨g1, h1, i1, S1, sd1, qs1, hRe, hg, r1⟩⟩
                generalize g1.1 = ge at *
                clear r1 hRe hg hkp
                go_wp2_with fail
                go_meet
                exact HF
              · have c2 : wr.cell? ⟨rb, 2, none⟩ = some (.int .i64 0) := by rw [cell_block r1.box]; rfl
                obtain ⟨f2, rfl⟩ : ∃ f2, f1 = f2 + 1 := ⟨f1 - 1, by have := r1.ok.ends.pos; omega⟩
                have HNW : Hid (Calls Tryz.prog 34 #[.pointer (some ⟨rb, 0, none⟩)] wr fun e W' => e = .returned (wv S1.hd) ∧ Below wr.heap.size wr W') := rfNow_calls V3 wr rb h1 wl i1 (0, 0) S1 sd1 qs1 r1
                have HJ : Hid (RF V3 wr rb h1 wl i1 (0, 0) S1 sd1 qs1 ∧ InvP S1 sd1 ∧ KeepF X0 wr ∧ S1.ws.length ≤ f2 + 1 ∧ R = rulesP (f2 + 1) S1) := ⟨r1, v1, hkp, hl1, hRe⟩
                clear r1 v1 hkp hl1 hRe
                generalize hx : S1.hd = x at *
                obtain ⟨xk, xt, xa⟩ := x
                unfold wv at HNW
                simp only at HNW
                have HX : Hid (S1.hd = ⟨xk, xt, xa⟩) := hx
                have hfw := run_wk xk xa xt
                clear hx
                by_cases h5 : xk = 5
                · have hq : (xk != 5) = false := by simp [h5]
                  have HF : Hid (R = .ok S1) := by
                    show _ = _
                    rw [HJ.out.2.2.2.2]
                    exact rulesP_end (by rw [HX.out]; exact h5)
                  clear h5
                  go_wp2_with fail
                  refine HNW.out.mono ?_
                  rintro e V7 ⟨rfl, hB⟩
                  have HF2 : Hid (Run V3 X0 rb wl R (fun _ => True) (fun S => .ok S) V7) := ⟨HJ.out.2.2.1.trans (keepF_of_below hB), .inr ⟨h1, i1, S1, sd1, qs1, HJ.out.1.step hB, HJ.out.2.1, trivial, HF.out⟩⟩
                  clear hB
                  go_wp2_with fail
                  go_meet
                  exact HF2
                · have hq : (xk != 5) = true := by simp [h5]
                  have HF : Hid (R = match ruleRd S1 with | .error e => .error e | .ok S2 => rulesP f2 S2) := by
                    show _ = _
                    rw [HJ.out.2.2.2.2]
                    exact rulesP_more (by rw [HX.out]; exact h5)
                  clear h5
                  go_wp2_with fail
                  refine HNW.out.mono ?_
                  rintro e V7 ⟨rfl, hB⟩
                  have HB3 : Hid (Below wr.heap.size wr V7) := hB
                  clear hB
                  go_wp2_with fail
                  refine (rfRule_calls V3 V7 rb h1 wl i1 S1 sd1 qs1 (HJ.out.1.step HB3.out) HJ.out.2.1).mono ?_
                  rintro e V8 ⟨rfl, hd⟩
                  have HM : Hid (∃ f1, f1 ≤ f2 ∧ Run V3 X0 rb wl R (fun S => S.ws.length ≤ f1) (rulesP f1) V8) := by
                    refine ⟨f2, Nat.le_refl _, ruleRd_run (HJ.out.2.2.1.trans (keepF_of_below HB3.out)) hd HF.out (fun S2 h2 => ?_)⟩
                    have e1 := ruleRd_len h2
                    have e2 := tail_len HJ.out.1.ok.ends
                    have e3 := HJ.out.2.2.2.1
                    omega
                  clear hd
                  go_wp2_with fail
                  go_roundg f2
                  case measure => omega
                  case rel => exact HM
          case rest =>
            obtain ⟨V6, hV6⟩ : ∃ V6, V6 = wc := ⟨_, rfl⟩
            subst wc
            obtain ⟨fe, fa, c2, c3, hk6, hcs⟩ := hcut.out.f
            have HCS : Hid ((fe ≠ 0 ∧ R = .error (fe, fa)) ∨ (fe = 0 ∧ fa = 0 ∧ ∃ h i S sd qs, RF V3 V6 rb h wl i (0, 0) S sd qs ∧ R = .ok S)) := by
              rcases hcs with ⟨hg, hRe, -⟩ | ⟨hg, hg2, h1, i1, S1, sd1, qs1, r1, -, -, hRe⟩
              · exact .inl ⟨hg, hRe⟩
              · exact .inr ⟨hg, hg2, h1, i1, S1, sd1, qs1, r1, hRe⟩
            have t1 := hk6.loc _ _ _ HXB.out.2.1 (by decide) (by decide) (by decide) (by decide) (by decide)
            have t2 := hk6.loc _ _ _ HXB.out.2.2.1 (by decide) (by decide) (by decide) (by decide) (by decide)
            have hbel : Below w.heap.size w V6 := by
              rcases hcs with ⟨-, -, h1, i1, S1, sd1, qs1, r1⟩ | ⟨-, -, h1, i1, S1, sd1, qs1, r1, -⟩
              · exact below_step HBY.out.1 r1.bel
              · exact below_step HBY.out.1 r1.bel
            have HLO : Hid (Below w.heap.size w V6 ∧ Loc V6 gb 28 ∧ Loc V6 nb 46) := ⟨hbel, ⟨_, t1⟩, ⟨_, t2⟩⟩
            obtain ⟨y0, y1, y2, y3, y4, y5, y6, y7⟩ := box_cells t1
            obtain ⟨q3, q4, z3, z4⟩ := box46 t2
            have HRB : Hid (Loc V6 rb 68) := by
              rcases hcs with ⟨-, -, h1, i1, S1, sd1, qs1, r1⟩ | ⟨-, -, h1, i1, S1, sd1, qs1, r1, -⟩
              · exact ⟨_, r1.box⟩
              · exact ⟨_, r1.box⟩
            have n1 : rb ≠ gb := loc_ne HRB.out ⟨_, t1⟩ (by decide)
            have n2 : rb ≠ nb := loc_ne HRB.out ⟨_, t2⟩ (by decide)
            clear hcut hcs hk6 t1 t2 hbel H5 HXB
            obtain ⟨b6, hb6⟩ : ∃ b6, (fe == 0) = b6 := ⟨_, rfl⟩
            have hb7 : (fe != 0) = !b6 := by rw [← hb6]; rfl
            by_cases hbad : 0 ≤ bad
            · have hd : decide (0 ≤ bad) = true := decide_eq_true hbad
              cases b6
              · have HE0 : Hid (readS s = .error (if bad ≤ fa then (1, bad) else (fe, fa))) := by
                  show _ = _
                  rcases HCS.out with ⟨hg, hRe⟩ | ⟨hg, -⟩
                  · rw [HRS.out.1, hRe]
                    exact endRd_at (S := st0 wl) (HRS.out.2.1 hbad) hbad (by rw [← HRS.out.2.2]; exact hRe)
                  · rw [hg] at hb6
                    cases hb6
                by_cases hfa : bad ≤ fa
                · have hfa' : fa ≥ bad := hfa
                  have HE : Hid (readS s = .error (1, bad)) := by
                    show _ = _
                    rw [HE0.out, if_pos hfa]
                  clear HE0 HCS HRS hbad hfa
                  go_wp2_with fail
                  refine bodyPost_ret (v := .tuple #[.agg #[.slice none 0 0, .string ⟨#[]⟩, .int .i64 0, .slice none 0 0], .agg #[.int .i64 1, .int .i64 bad]]) (by simp [results, Tryz.results18, go_sem, *]) rfl ?_
                  refine ⟨?_, by rw [HE.out]; rfl⟩
                  exact ((set4_below (.slice none 0 0) (.string ⟨#[]⟩) (.int .i64 0) (.slice none 0 0) HLO.out.1 HNB.out.1).setCell (p := ⟨nb, 0, none⟩) HNB.out.2.1 _).setCell (p := ⟨nb, 1, none⟩) HNB.out.2.1 _
                · have hfa' : ¬ fa ≥ bad := hfa
                  have HE : Hid (readS s = .error (fe, fa)) := by
                    show _ = _
                    rw [HE0.out, if_neg hfa]
                  clear HE0 HCS HRS hbad hfa
                  go_upto_region 18 with fail
                  go_region
                  go_wp2_with fail
                  refine bodyPost_ret (v := .tuple #[.agg #[.slice none 0 0, .string ⟨#[]⟩, .int .i64 0, .slice none 0 0], .agg #[.int .i64 fe, .int .i64 fa]]) (by simp [results, Tryz.results18, go_sem, *]) rfl ?_
                  refine ⟨?_, by rw [HE.out]; rfl⟩
                  exact below_step (((set4_below (.slice none 0 0) (.string ⟨#[]⟩) (.int .i64 0) (.slice none 0 0) HLO.out.1 HNB.out.1).setCell (p := ⟨nb, 0, none⟩) HNB.out.2.1 _).setCell (p := ⟨nb, 1, none⟩) HNB.out.2.1 _) (below_drew' _)
              · have HE : Hid (readS s = .error (1, bad)) := by
                  show _ = _
                  rcases HCS.out with ⟨hg, hRe⟩ | ⟨hg, -, h1, i1, S1, sd1, qs1, r1, hRe⟩
                  · exact absurd (by simpa using hb6) hg
                  · rw [HRS.out.1, hRe]
                    unfold endRd
                    rw [if_neg (by omega)]
                clear HCS HRS hbad
                go_wp2_with fail
                refine bodyPost_ret (v := .tuple #[.agg #[.slice none 0 0, .string ⟨#[]⟩, .int .i64 0, .slice none 0 0], .agg #[.int .i64 1, .int .i64 bad]]) (by simp [results, Tryz.results18, go_sem, *]) rfl ?_
                refine ⟨?_, by rw [HE.out]; rfl⟩
                exact ((set4_below (.slice none 0 0) (.string ⟨#[]⟩) (.int .i64 0) (.slice none 0 0) HLO.out.1 HNB.out.1).setCell (p := ⟨nb, 0, none⟩) HNB.out.2.1 _).setCell (p := ⟨nb, 1, none⟩) HNB.out.2.1 _
            · have hd : decide (0 ≤ bad) = false := decide_eq_false hbad
              cases b6
              · have HE : Hid (readS s = .error (fe, fa)) := by
                  show _ = _
                  rcases HCS.out with ⟨hg, hRe⟩ | ⟨hg, -⟩
                  · rw [HRS.out.1, hRe]
                    unfold endRd
                    rw [if_pos (by omega)]
                  · rw [hg] at hb6
                    cases hb6
                clear HCS HRS hbad
                go_upto_region 18 with fail
                go_region
                go_wp2_with fail
                refine bodyPost_ret (v := .tuple #[.agg #[.slice none 0 0, .string ⟨#[]⟩, .int .i64 0, .slice none 0 0], .agg #[.int .i64 fe, .int .i64 fa]]) (by simp [results, Tryz.results18, go_sem, *]) rfl ?_
                refine ⟨?_, by rw [HE.out]; rfl⟩
                exact below_step (((set4_below (.slice none 0 0) (.string ⟨#[]⟩) (.int .i64 0) (.slice none 0 0) HLO.out.1 HNB.out.1).setCell (p := ⟨nb, 0, none⟩) HNB.out.2.1 _).setCell (p := ⟨nb, 1, none⟩) HNB.out.2.1 _) (below_drew' _)
              · rcases HCS.out with ⟨hg, hRe⟩ | ⟨hg, -, h1, i1, S1, sd1, qs1, r1, hRe⟩
                · exact absurd (by simpa using hb6) hg
                · have HE : Hid (readS s = .ok S1) := by
                    show _ = _
                    rw [HRS.out.1, hRe]
                    unfold endRd
                    rw [if_pos (by omega)]
                  have d4 : V6.cell? ⟨rb, 4, none⟩ = some (.slice h1.ta S1.ts.length h1.tc) := by rw [cell_block r1.box]; rfl
                  have d5 : V6.cell? ⟨rb, 5, none⟩ = some (.string S1.st) := by rw [cell_block r1.box]; rfl
                  have d6 : V6.cell? ⟨rb, 6, none⟩ = some (.int .i64 S1.ex) := by rw [cell_block r1.box]; rfl
                  have d7 : V6.cell? ⟨rb, 7, none⟩ = some (.slice h1.ra S1.rs.length h1.rc) := by rw [cell_block r1.box]; rfl
                  have HO : Hid (OwnG V6 w.heap.size ⟨h1.ta, h1.tc, h1.ra, h1.rc⟩ (gmOf S1) qs1) := by
                    have o := r1.gram
                    have hb := HBY.out.1.size
                    exact ⟨own_mono o.tok hb, own_mono o.rul hb, o.map, fun q hq => own_mono (o.row q hq) hb⟩
                  clear HCS HRS hbad r1 hRe hg
                  go_wp2_with fail
                  refine bodyPost_ret (v := .tuple #[.agg #[.slice h1.ta S1.ts.length h1.tc, .string S1.st, .int .i64 S1.ex, .slice h1.ra S1.rs.length h1.rc], .agg #[.int .i64 0, .int .i64 0]]) (by simp [results, Tryz.results18, go_sem, *]) rfl ?_
                  obtain ⟨hb, l1, l2⟩ := HLO.out
                  refine ⟨((set4_below _ _ _ _ hb HNB.out.1).setCell (p := ⟨nb, 0, none⟩) HNB.out.2.1 _).setCell (p := ⟨nb, 1, none⟩) HNB.out.2.1 _, ?_⟩
                  rw [HE.out]
                  refine ⟨⟨h1.ta, h1.tc, h1.ra, h1.rc⟩, qs1, rfl, ?_⟩
                  have o := HO.out
                  exact (((((o.off l1 (by decide)).off (l1.set _ _ _) (by decide)).off ((l1.set _ _ _).set _ _ _) (by decide)).off (((l1.set _ _ _).set _ _ _).set _ _ _) (by decide)).off ((((l2.set _ _ _).set _ _ _).set _ _ _).set _ _ _) (by decide)).off (((((l2.set _ _ _).set _ _ _).set _ _ _).set _ _ _).set _ _ _) (by decide)

end Go.Proofs.YtkaojokhdleeiaaGreatDoor

/-
  What is read is small. Plain mathematics.
-/
namespace Go.Proofs.YtkaojokhdleeiaaGreatDoor
open Go.RowKit

structure SmS (S : St) : Prop where
  ends : Ends S.ws
  nt : S.ts.length ≤ 40
  nr : S.rs.length ≤ 100
  st : S.st.size ≤ 100
  tk : ∀ t ∈ S.ts, t.n.size ≤ 100
  rl : ∀ r ∈ S.rs, r.l.size ≤ 100 ∧ r.p.size ≤ 100 ∧ r.r.length ≤ 100 ∧ ∀ x ∈ r.r, x.size ≤ 100

theorem SmS.kind {S : St} (h : SmS S) (hk : S.hd.k ≠ 5) : S.hd.t.size ≤ 100 ∧ SmS S.next := by
  obtain ⟨h1, h2⟩ := h.ends.tail_of_kind hk
  exact ⟨h1.size, h2, h.nt, h.nr, h.st, h.tk, h.rl⟩

theorem SmS.text {S : St} (h : SmS S) {t : ByteArray} (ht : t.size ≠ 0) (he : S.hd.t = t) : SmS S.next := by
  obtain ⟨h1, h2⟩ := h.ends.tail_of_text (show (headW S.ws).t ≠ ⟨#[]⟩ from fun e => ht (by rw [← he]; show (headW S.ws).t.size = 0; rw [e]; rfl))
  exact ⟨h2, h.nt, h.nr, h.st, h.tk, h.rl⟩

theorem takeP_sm {k : Int} {S S1 : St} {x : Wd} (hk : k ≠ 5) (h : SmS S) (ht : takeP k S = .ok (x, S1)) : x.t.size ≤ 100 ∧ SmS S1 := by
  unfold takeP at ht
  split at ht
  · rename_i hc
    cases ht
    exact h.kind (by rw [hc]; exact hk)
  · cases ht

theorem tokP_sm {x : Wd} {S S1 : St} {i : Nat} (hx : x.t.size ≤ 100) (h : SmS S) (ht : tokP x S = .ok (i, S1)) : SmS S1 := by
  unfold tokP at ht
  split at ht
  · cases ht
    exact h
  · split at ht
    · cases ht
    · rename_i hc
      cases ht
      refine ⟨h.ends, ?_, h.nr, h.st, fun t ht => ?_, h.rl⟩
      · have := h.nt
        simp only [List.length_append, List.length_cons, List.length_nil]
        omega
      · rcases List.mem_append.1 ht with h1 | h1
        · exact h.tk t h1
        · rw [List.mem_singleton] at h1
          subst h1
          exact hx

theorem tkAt_size {S : St} (h : SmS S) (i : Nat) : (tkAt S.ts i).n.size ≤ 100 := by
  unfold tkAt
  cases hi : S.ts[i]? with
  | none => exact Nat.zero_le _
  | some t => exact h.tk t (List.mem_of_getElem? hi)

theorem sayP_sm {l a : Int} {x : Wd} {S S1 : St} (hx : x.t.size ≤ 100) (h : SmS S) (ht : sayP l a x S = .ok S1) : SmS S1 := by
  unfold sayP at ht
  split at ht
  · unfold listP at ht
    split at ht
    · cases ht
    · rename_i i S2 h2
      have q := tokP_sm hx h h2
      split at ht
      · cases ht
      · cases ht
        exact ⟨q.ends, q.nt, q.nr, q.st, q.tk, q.rl⟩
  · unfold levP at ht
    split at ht
    · cases ht
    · rename_i i S2 h2
      have q := tokP_sm hx h h2
      split at ht
      · cases ht
      · cases ht
        refine ⟨q.ends, by simp only [List.length_set]; exact q.nt, q.nr, q.st, fun t ht => ?_, q.rl⟩
        rcases List.mem_or_eq_of_mem_set ht with h1 | h1
        · exact q.tk t h1
        · rw [h1]
          exact tkAt_size q i

theorem namesP_sm {l a : Int} : ∀ {f : Nat} {S S1 : St}, SmS S → namesP (sayP l a) f S = .ok S1 → SmS S1
  | 0, S, S1, h, ht => by simp only [namesP, Except.ok.injEq] at ht; subst ht; exact h
  | f + 1, S, S1, h, ht => by
    unfold namesP at ht
    split at ht
    · cases ht
    · rename_i x S2 h2
      obtain ⟨hx, q⟩ := takeP_sm (by decide) h h2
      split at ht
      · cases ht
      · rename_i S3 h3
        have q3 := sayP_sm hx q h3
        split at ht
        · exact namesP_sm q3 ht
        · cases ht
          exact q3

theorem levelP_sm {x : Wd} {a : Int} {S S1 : St} (h : SmS S) (ht : levelP x a S = .ok S1) : SmS S1 := by
  unfold levelP at ht
  split at ht
  · cases ht
  · rw [← sayP_lev (by omega)] at ht
    exact namesP_sm (S := ⟨S.ws, S.ts, S.ls, S.lv + 1, S.st, S.ed, S.ex, S.rs⟩) ⟨h.ends, h.nt, h.nr, h.st, h.tk, h.rl⟩ ht

theorem partP_sm {S S1 : St} (h : SmS S) (ht : partP S = .ok S1) : SmS S1 := by
  unfold partP at ht
  split at ht
  · rename_i he
    rw [← sayP_list 0] at ht
    exact namesP_sm (h.text (by decide) he) ht
  · split at ht
    · rename_i he
      exact levelP_sm (h.text (by decide) he) ht
    · split at ht
      · rename_i he
        exact levelP_sm (h.text (by decide) he) ht
      · split at ht
        · rename_i he
          exact levelP_sm (h.text (by decide) he) ht
        · split at ht
          · rename_i he
            have q := h.text (by decide) he
            unfold startP at ht
            split at ht
            · cases ht
            · split at ht
              · cases ht
              · rename_i x S2 h2
                obtain ⟨hx, q2⟩ := takeP_sm (by decide) q h2
                cases ht
                exact ⟨q2.ends, q2.nt, q2.nr, hx, q2.tk, q2.rl⟩
          · split at ht
            · rename_i he
              have q := h.text (by decide) he
              unfold expectP at ht
              split at ht
              · cases ht
              · split at ht
                · cases ht
                · rename_i x S2 h2
                  obtain ⟨hx, q2⟩ := takeP_sm (by decide) q h2
                  cases ht
                  exact ⟨q2.ends, q2.nt, q2.nr, q2.st, q2.tk, q2.rl⟩
            · cases ht

theorem symP_sm : ∀ {f : Nat} {l l1 : List ByteArray} {S S1 : St}, SmS S → l.length ≤ 20 → (∀ x ∈ l, x.size ≤ 100) → symP f l S = .ok (l1, S1) → SmS S1 ∧ l1.length ≤ 20 ∧ ∀ x ∈ l1, x.size ≤ 100
  | 0, l, l1, S, S1, h, hl, hx, ht => by
    simp only [symP, Except.ok.injEq, Prod.mk.injEq] at ht
    obtain ⟨rfl, rfl⟩ := ht
    exact ⟨h, hl, hx⟩
  | f + 1, l, l1, S, S1, h, hl, hx, ht => by
    unfold symP at ht
    split at ht
    · rename_i hk
      obtain ⟨h1, h2⟩ := h.kind (by rw [hk]; decide)
      split at ht
      · cases ht
      · refine symP_sm h2 (by rw [List.length_append]; simp only [List.length_cons, List.length_nil]; omega) (fun x hx1 => ?_) ht
        rcases List.mem_append.1 hx1 with h3 | h3
        · exact hx x h3
        · rw [List.mem_singleton] at h3
          subst h3
          exact h1
    · cases ht
      exact ⟨h, hl, hx⟩

theorem ruleAdd_sm {S : St} {u : Ru} (h : SmS S) (hn : S.rs.length < 100) (hu : u.l.size ≤ 100 ∧ u.p.size ≤ 100 ∧ u.r.length ≤ 100 ∧ ∀ x ∈ u.r, x.size ≤ 100) : SmS (ruleAdd S u) := by
  refine ⟨h.ends, h.nt, ?_, h.st, h.tk, fun r hr => ?_⟩
  · unfold ruleAdd
    simp only [List.length_append, List.length_cons, List.length_nil]
    omega
  · rcases List.mem_append.1 hr with h1 | h1
    · exact h.rl r h1
    · rw [List.mem_singleton] at h1
      subst h1
      exact hu

theorem symP_rs : ∀ {f : Nat} {l l1 : List ByteArray} {S S1 : St}, symP f l S = .ok (l1, S1) → S1.rs = S.rs
  | 0, l, l1, S, S1, ht => by
    simp only [symP, Except.ok.injEq, Prod.mk.injEq] at ht
    rw [← ht.2]
  | f + 1, l, l1, S, S1, ht => by
    unfold symP at ht
    split at ht
    · split at ht
      · cases ht
      · exact symP_rs (S := S.next) ht
    · cases ht
      rfl

theorem takeP_rs {k : Int} {S S1 : St} {x : Wd} (ht : takeP k S = .ok (x, S1)) : S1.rs = S.rs := by
  unfold takeP at ht
  split at ht
  · cases ht
    rfl
  · cases ht

theorem altP_sm {left : ByteArray} {S S1 : St} (hl : left.size ≤ 100) (h : SmS S) (ht : altP left S = .ok S1) : SmS S1 := by
  unfold altP at ht
  split at ht
  · cases ht
  · rename_i hc
    have hn : S.rs.length < 100 := by have := h.nr; omega
    split at ht
    · cases ht
    · rename_i r S2 h2
      obtain ⟨q, q1, q2⟩ := symP_sm h (by decide) (fun x hx => by cases hx) h2
      have q3 := symP_rs h2
      split at ht
      · rename_i hp
        have q4 := q.text (by decide) hp
        split at ht
        · cases ht
        · rename_i x S3 h3
          obtain ⟨hx, q5⟩ := takeP_sm (by decide) q4 h3
          cases ht
          refine ruleAdd_sm q5 ?_ ⟨hl, hx, by simp only; omega, q2⟩
          rw [takeP_rs h3]
          show S2.rs.length < 100
          rw [q3]
          exact hn
      · cases ht
        exact ruleAdd_sm q (by rw [q3]; exact hn) ⟨hl, Nat.zero_le _, by simp only; omega, q2⟩

theorem altsP_sm {left : ByteArray} (hl : left.size ≤ 100) : ∀ {f : Nat} {S S1 : St}, SmS S → altsP left f S = .ok S1 → SmS S1
  | 0, S, S1, h, ht => by simp only [altsP, Except.ok.injEq] at ht; subst ht; exact h
  | f + 1, S, S1, h, ht => by
    unfold altsP at ht
    split at ht
    · cases ht
    · rename_i S2 h2
      have q := altP_sm hl h h2
      split at ht
      · rename_i hp
        cases ht
        exact q.text (by decide) hp
      · split at ht
        · rename_i hp
          exact altsP_sm hl (q.text (by decide) hp) ht
        · cases ht

theorem ruleRd_sm {S S1 : St} (h : SmS S) (ht : ruleRd S = .ok S1) : SmS S1 := by
  unfold ruleRd at ht
  split at ht
  · cases ht
  · rename_i x S2 h2
    obtain ⟨hx, q⟩ := takeP_sm (by decide) h h2
    split at ht
    · rename_i hp
      exact altsP_sm hx (q.text (by decide) hp) ht
    · cases ht

theorem partsP_sm : ∀ {f : Nat} {S S1 : St}, SmS S → partsP f S = .ok S1 → SmS S1
  | 0, S, S1, h, ht => by simp only [partsP, Except.ok.injEq] at ht; subst ht; exact h
  | f + 1, S, S1, h, ht => by
    unfold partsP at ht
    split at ht
    · rename_i hp
      cases ht
      exact h.text (by decide) hp
    · split at ht
      · cases ht
      · rename_i S2 h2
        exact partsP_sm (partP_sm h h2) ht

theorem rulesP_sm : ∀ {f : Nat} {S S1 : St}, SmS S → rulesP f S = .ok S1 → SmS S1
  | 0, S, S1, h, ht => by simp only [rulesP, Except.ok.injEq] at ht; subst ht; exact h
  | f + 1, S, S1, h, ht => by
    unfold rulesP at ht
    split at ht
    · cases ht
      exact h
    · split at ht
      · cases ht
      · rename_i S2 h2
        exact rulesP_sm (ruleRd_sm h h2) ht

theorem readP_sm {S S1 : St} (h : SmS S) (ht : readP S = .ok S1) : SmS S1 := by
  unfold readP at ht
  split at ht
  · cases ht
  · rename_i S2 h2
    exact rulesP_sm (partsP_sm h h2) ht

theorem readS_small {s : ByteArray} {S : St} (h : readS s = .ok S) : Small (gmOf S) := by
  have q : SmS S := by
    unfold readS at h
    split at h
    · cases h
    · split at h
      · rename_i hf
        have hf1 : (scan (by8 s)).2 = -1 := by
          rcases scan_fault (by8 s) with h1 | ⟨m, h1⟩
          · exact h1
          · omega
        exact readP_sm (S := st0 (wordsOf s)) ⟨scan_ends hf1, Nat.zero_le _, Nat.zero_le _, Nat.zero_le _, fun t ht => (by cases ht), fun r hr => (by cases hr)⟩ h
      · split at h
        · cases h
        · cases h
  exact ⟨by have := q.nt; show S.ts.length ≤ 100; omega, by have := q.nr; show S.rs.length ≤ 200; omega, q.st, q.tk, q.rl⟩

end Go.Proofs.YtkaojokhdleeiaaGreatDoor
