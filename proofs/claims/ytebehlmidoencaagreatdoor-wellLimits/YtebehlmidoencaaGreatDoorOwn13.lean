/-
  Texts that the proof of the Well statements stands on, part Own13.
-/
import Derived.Test.YtebehlmidoencaaGreatDoorOwn11
import Derived.Test.YtebehlmidoencaaGreatDoorOwn12
import Derived.Test.YtebehlmidoencaaGreatDoorOwn05
import Derived.Test.YtebehlmidoencaaGreatDoorOwn10
import Derived.Test.YtebehlmidoencaaGreatDoorOwn09
import Derived.Test.YtebehlmidoencaaGreatDoorOwn08
import Derived.Test.YtebehlmidoencaaGreatDoorOwn04
import Derived.Test.YtebehlmidoencaaGreatDoorRows
import Derived.ProofKit
import Derived.LaidMore
import Derived.Lib.LaidTab
/-
  Read as plain mathematics; the reader as it begins.
-/
namespace Go.Proofs.YtebehlmidoencaaGreatDoor
open Go.RowKit

set_option maxRecDepth 20000

/-- The reader before its first word. -/
def st0 (ws : List Wd) : St := ⟨ws, [], [], 0, ⟨#[]⟩, false, 0, []⟩

/-- The words of a text. -/
def wordsOf (s : ByteArray) : List Wd := (scan (by8 s)).1.map (wdOf s)

/-- What Read answers: a grammar's state, or a fault. -/
def readS (s : ByteArray) : Except Flt St :=
  if 2000 < s.size then .error (6, 0) else
  if (scan (by8 s)).2 < 0 then readP (st0 (wordsOf s)) else
  match readP (st0 (wordsOf (s.extract 0 (scan (by8 s)).2.toNat))) with
  | .error e => .error e
  | .ok _ => .error (1, (scan (by8 s)).2)

theorem cellsW_eq (s : ByteArray) : ∀ ws : List (Nat × Nat × Nat), cellsW s ws = wdC (ws.map (wdOf s))
  | [] => rfl
  | x :: r => by
    have e : cellsW s (x :: r) = wcells s x ++ cellsW s r := rfl
    rw [e, cellsW_eq s r]
    rfl

/-- The fault of a scan: none, or a place. -/
theorem scanF_fault {l : List UInt8} : ∀ (f i : Nat) (a : List (Nat × Nat × Nat)), i ≤ l.length → l.length - i < f → (scanF f l i a).2 = -1 ∨ ∃ m : Nat, (scanF f l i a).2 = (m : Int)
  | 0, _, _, _, h => by omega
  | f + 1, i, a, h, hf => by
    by_cases hi : i < l.length
    · by_cases hK : (wordP l i).1 = 0
      · rw [scan_bad hi hK]; exact .inr ⟨i, rfl⟩
      · rw [scan_next hi hK]
        have h2 := wordP_range hi
        have h3 := skip_le (l := l) (i := (wordP l i).2) h2.2.1
        exact scanF_fault f _ _ h3.2 (by have := h2.2.2.1 hK; omega)
    · rw [scan_out (by omega)]; exact .inl rfl

theorem scan_fault (l : List UInt8) : (scan l).2 = -1 ∨ ∃ m : Nat, (scan l).2 = (m : Int) :=
  scanF_fault _ _ _ (skip_le (Nat.zero_le _)).2 (by omega)

theorem by8_take (s : ByteArray) (m : Nat) : by8 (s.extract 0 m) = (by8 s).take m := by
  rw [by8_extract]
  unfold part
  rw [List.drop_zero, Nat.sub_zero]

/-- What stands before a fault has none. -/
theorem scan_before {s : ByteArray} {m : Nat} (h : (scan (by8 s)).2 = (m : Int)) : m < s.size ∧ (scan (by8 (s.extract 0 m))).2 = -1 := by
  have h1 := scan_take h
  rw [by8_take s m]
  exact ⟨by rw [← by8_length]; exact h1.1, h1.2⟩

/-- The reader as it begins. -/
theorem RD.init {w : World} {base : Nat} {s : ByteArray} {v : Value} (h : IsW w base s v (scan (by8 s)).1) (hf : (scan (by8 s)).2 = -1) :
    ∃ hd : RHd, v = .slice (some ⟨hd.wb, hd.wo, none⟩) (st0 (wordsOf s)).ws.length hd.wc ∧ hd.ta = none ∧ hd.tc = 0 ∧ hd.ra = none ∧ hd.rc = 0 ∧
      RD w (w.alloc (.cells (rdC hd (st0 (wordsOf s))) 99)) w.heap.size hd (st0 (wordsOf s)) [] := by
  have he : Ends (wordsOf s) := scan_ends hf
  have hp := he.pos
  have hl : (wordsOf s).length = (scan (by8 s)).1.length := List.length_map _
  unfold IsW at h
  obtain ⟨g, cap, rfl⟩ : ∃ g cap, v = .slice (some ⟨g, 0, none⟩) (scan (by8 s)).1.length cap := by
    rcases h.2 with ⟨_, h0⟩ | ⟨g, cap, cur, hv, _⟩
    · omega
    · exact ⟨g, cap, hv⟩
  refine ⟨⟨g, 0, cap, none, 0, none, 0⟩, by rw [← hl]; rfl, rfl, rfl, rfl, rfl, ?_⟩
  have hr := Row.of_own h
  rw [cellsW_eq, ← hl] at hr
  exact ⟨heap_alloc_new _ _, hr, World.ownsRow_nil _ _ _ _, World.ownsRow_nil _ _ _ _, rfl, fun q hq => (by cases hq), below_alloc _ _, Nat.le_refl _, ⟨he, Nat.zero_le _, rfl, Nat.zero_le _, Nat.zero_le _⟩⟩

/-- A fault has a kind. -/
theorem partsP_flt : ∀ {f : Nat} {S : St} {g : Flt}, partsP f S = .error g → g.1 ≠ 0
  | 0, S, g, h => by simp [partsP] at h
  | f + 1, S, g, h => by
    unfold partsP at h
    split at h
    · cases h
    · split at h
      · rename_i e he
        cases h
        exact partP_flt he
      · exact partsP_flt h

theorem rulesP_flt : ∀ {f : Nat} {S : St} {g : Flt}, rulesP f S = .error g → g.1 ≠ 0
  | 0, S, g, h => by simp [rulesP] at h
  | f + 1, S, g, h => by
    unfold rulesP at h
    split at h
    · cases h
    · split at h
      · rename_i e he
        cases h
        exact ruleRd_flt he
      · exact rulesP_flt h

theorem readP_flt {S : St} {g : Flt} (h : readP S = .error g) : g.1 ≠ 0 := by
  unfold readP at h
  split at h
  · rename_i e he
    cases h
    exact partsP_flt he
  · exact rulesP_flt h

end Go.Proofs.YtebehlmidoencaaGreatDoor

/-
  The walk of Read.
-/
namespace Go.Proofs.YtebehlmidoencaaGreatDoor
open Go.RowKit

set_option maxRecDepth 20000

/-- A scan's fault comes last. -/
def endRd (bad : Int) (R : Except Flt St) : Except Flt St := if bad < 0 then R else match R with | .error e => .error e | .ok _ => .error (1, bad)

/-- What Read gives. -/
def ReadOut (s : ByteArray) (w : World) (e : Ending) (w' : World) : Prop :=
  Below w.heap.size w w' ∧
  match readS s with
  | .error f => e = .returned (.tuple #[gv ⟨none, 0, none, 0⟩ ⟨[], ⟨#[]⟩, 0, []⟩, fv f])
  | .ok S => ∃ h qs, e = .returned (.tuple #[gv h (gmOf S), fv (0, 0)]) ∧ OwnG w' w.heap.size h (gmOf S) qs

/-- A box of another type is stored into. -/
theorem OwnG.off {w : World} {base : Nat} {h : Hd} {G : Gm} {qs : List (Ru × Option Addr × Nat)} {b j T : Nat} {u : Value} (o : OwnG w base h G qs) (hb : Loc w b T) (h1 : T ≠ 44 ∧ T ≠ 46 ∧ T ≠ 9) : OwnG (w.setCell ⟨b, j, none⟩ u) base h G qs := by
  have apart : ∀ {E k n : Nat} {v : Value} {cs : List Value}, w.ownsRow base E k v n cs → E ≠ T → (w.setCell ⟨b, j, none⟩ u).ownsRow base E k v n cs := by
    intro E k n v cs ho hE
    exact ownsRow_of_block ho (fun i hi => Below.heap_setCell _ _ _ _ (loc_ne (own_loc ho hi) hb hE))
  exact ⟨apart o.tok (Ne.symm h1.1), apart o.rul (Ne.symm h1.2.1), o.map, fun q hq => apart (o.row q hq) (Ne.symm h1.2.2)⟩

set_option maxHeartbeats 8000000 in
theorem read_calls (s : ByteArray) (w : World) (hs : s.size ≤ 1048576) : Calls Tryz.prog 61 #[.string s] w fun e w' => ReadOut s w e w' := by
  have hs1 : (s.size : Int) ≤ 1048576 := by omega
  have hb2 : ((w.alloc (.cells #[.slice none 0 0, .string ⟨#[]⟩, .int .i64 0, .slice none 0 0] 25)).alloc (.cells #[.int .i64 0, .int .i64 0] 85)).heap[w.heap.size + 1]? = some (.cells #[.int .i64 0, .int .i64 0] 85 (0, 0)) := by
    have := heap_alloc_new (w.alloc (.cells #[.slice none 0 0, .string ⟨#[]⟩, .int .i64 0, .slice none 0 0] 25)) (.cells #[.int .i64 0, .int .i64 0] 85)
    rwa [size_alloc1] at this
  have hb1 : ((w.alloc (.cells #[.slice none 0 0, .string ⟨#[]⟩, .int .i64 0, .slice none 0 0] 25)).alloc (.cells #[.int .i64 0, .int .i64 0] 85)).heap[w.heap.size]? = some (.cells #[.slice none 0 0, .string ⟨#[]⟩, .int .i64 0, .slice none 0 0] 25 (0, 0)) := block_below (below_alloc _ _) (heap_alloc_new _ _)
  have HB : Hid (Below w.heap.size w ((w.alloc (.cells #[.slice none 0 0, .string ⟨#[]⟩, .int .i64 0, .slice none 0 0] 25)).alloc (.cells #[.int .i64 0, .int .i64 0] 85))) := below_step (below_alloc _ _) (below_alloc _ _)
  go_enter Tryz.func61, Tryz.ntmps61
  go_upto_region 1 with fail
  generalize (w.alloc (.cells #[.slice none 0 0, .string ⟨#[]⟩, .int .i64 0, .slice none 0 0] 25)).alloc (.cells #[.int .i64 0, .int .i64 0] 85) = W1 at hb1 hb2 HB ⊢
  obtain ⟨gb, hgb⟩ : ∃ gb, gb = w.heap.size := ⟨_, rfl⟩
  obtain ⟨nb, hnb⟩ : ∃ nb, nb = w.heap.size + 1 := ⟨_, rfl⟩
  rw [← hnb] at hb2 ⊢
  rw [← hgb] at hb1 ⊢
  have HNB : Hid (w.heap.size ≤ gb ∧ w.heap.size ≤ nb ∧ gb ≠ nb) := ⟨by omega, by omega, by omega⟩
  have hne : gb ≠ nb := by omega
  have hne2 : nb ≠ gb := by omega
  clear hgb hnb
  by_cases hl : 2000 < s.size
  · have hl' : (s.size : Int) > 2000 := by omega
    obtain ⟨y0, y1, y2, y3, y4, y5, y6, y7⟩ := box_cells hb1
    obtain ⟨q3, q4, z3, z4⟩ := box46 hb2
    go_wp2_with fail
    refine bodyPost_ret (v := .tuple #[.agg #[.slice none 0 0, .string ⟨#[]⟩, .int .i64 0, .slice none 0 0], .agg #[.int .i64 6, .int .i64 0]]) (by simp [results, Tryz.results61, go_sem, *]) rfl ?_
    refine ⟨?_, ?_⟩
    · exact ((set4_below _ _ _ _ HB.out HNB.out.1).setCell (p := ⟨nb, 0, none⟩) HNB.out.2.1 _).setCell (p := ⟨nb, 1, none⟩) HNB.out.2.1 _
    · have e : readS s = .error (6, 0) := by unfold readS; rw [if_pos hl]
      rw [e]
      rfl
  · have hl' : ¬ (s.size : Int) > 2000 := by omega
    have HSC : Hid (Calls Tryz.prog 69 #[.string s] W1 fun e w' => Scanned s W1 w' e) := scan_calls s W1 hs
    have HBX : Hid (W1.heap[gb]? = some (.cells #[.slice none 0 0, .string ⟨#[]⟩, .int .i64 0, .slice none 0 0] 25 (0, 0)) ∧ W1.heap[nb]? = some (.cells #[.int .i64 0, .int .i64 0] 85 (0, 0))) := ⟨hb1, hb2⟩
    have HL : Hid (¬ 2000 < s.size) := hl
    clear hb1 hb2 hl
    go_wp2_with fail
    refine HSC.out.mono ?_
    rintro e V ⟨v, rfl, hW, hB⟩
    have HV : Hid (IsW V W1.heap.size s v (scan (by8 s)).1 ∧ Below W1.heap.size W1 V) := ⟨hW, hB⟩
    clear hW hB HSC
    generalize hbad : (scan (by8 s)).2 = bad
    have HBAD : Hid ((scan (by8 s)).2 = bad) := hbad
    clear hbad
    rcases scan_fault (by8 s) with hf | ⟨m, hf⟩
    · have hbd : bad = -1 := by rw [← HBAD.out]; exact hf
      have HF : Hid (∃ t base, IsW V base t v (scan (by8 t)).1 ∧ (scan (by8 t)).2 = -1 ∧ Below W1.heap.size W1 V ∧ readS s = endRd bad (readP (st0 (wordsOf t)))) := by
        refine ⟨s, _, HV.out.1, hf, HV.out.2, ?_⟩
        unfold readS endRd
        rw [if_neg HL.out, if_pos (by rw [hf]; decide), if_pos (by omega)]
      have hge : ¬ (bad ≥ 0) := by omega
      have hlt0 : bad < 0 := by omega
      clear hf hbd HV HBAD HL
      go_upto_region 6 with fail
      obtain ⟨t, base, hW, hsf, hBt, hrs⟩ := HF.out
      obtain ⟨⟨wb, wo, wl, ta, tc, ra, rc⟩, rfl, h1, h2, h3, h4, hrd⟩ := RD.init hW hsf
      simp only at h1 h2 h3 h4
      subst h1 h2 h3 h4
      obtain ⟨R, hR⟩ : ∃ R, readP (st0 (wordsOf t)) = R := ⟨_, rfl⟩
      have HTX : Hid (Calls Tryz.prog 70 #[.pointer (some ⟨V.heap.size, 0, none⟩)] (V.alloc (.cells #[.slice (some ⟨wb, wo, none⟩) (st0 (wordsOf t)).ws.length wl, .slice none 0 0, .int .i64 0, .string ⟨#[]⟩, .bool false, .int .i64 0, .slice none 0 0] 99)) fun e W' => DidQ V (V.alloc (.cells #[.slice (some ⟨wb, wo, none⟩) (st0 (wordsOf t)).ws.length wl, .slice none 0 0, .int .i64 0, .string ⟨#[]⟩, .bool false, .int .i64 0, .slice none 0 0] 99)) V.heap.size R e W') := by rw [← hR]; exact rdText_calls _ _ _ _ _ _ hrd
      have HRS : Hid (readS s = endRd bad R) := by rw [← hR]; exact hrs
      have HKD : Hid (∀ g, R = .error g → g.1 ≠ 0) := fun g hg => readP_flt (hR.trans hg)
      have hx := below_alloc V (.cells #[.slice (some ⟨wb, wo, none⟩) (st0 (wordsOf t)).ws.length wl, .slice none 0 0, .int .i64 0, .string ⟨#[]⟩, .bool false, .int .i64 0, .slice none 0 0] 99)
      have HBY : Hid (Below w.heap.size w V ∧ V.heap[gb]? = some (.cells #[.slice none 0 0, .string ⟨#[]⟩, .int .i64 0, .slice none 0 0] 25 (0, 0)) ∧ V.heap[nb]? = some (.cells #[.int .i64 0, .int .i64 0] 85 (0, 0))) := ⟨below_step HB.out hBt, block_below hBt HBX.out.1, block_below hBt HBX.out.2⟩
      have HBZ : Hid ((V.alloc (.cells #[.slice (some ⟨wb, wo, none⟩) (st0 (wordsOf t)).ws.length wl, .slice none 0 0, .int .i64 0, .string ⟨#[]⟩, .bool false, .int .i64 0, .slice none 0 0] 99)).heap[gb]? = some (.cells #[.slice none 0 0, .string ⟨#[]⟩, .int .i64 0, .slice none 0 0] 25 (0, 0)) ∧ (V.alloc (.cells #[.slice (some ⟨wb, wo, none⟩) (st0 (wordsOf t)).ws.length wl, .slice none 0 0, .int .i64 0, .string ⟨#[]⟩, .bool false, .int .i64 0, .slice none 0 0] 99)).heap[nb]? = some (.cells #[.int .i64 0, .int .i64 0] 85 (0, 0))) := ⟨block_below hx HBY.out.2.1, block_below hx HBY.out.2.2⟩
      clear HF hW hsf hrs hrd hR hBt HBX HB hx
      go_upto_region 7 with fail
      generalize (st0 (wordsOf t)).ws.length = wn at *
      generalize V.alloc (.cells #[.slice (some ⟨wb, wo, none⟩) wn wl, .slice none 0 0, .int .i64 0, .string ⟨#[]⟩, .bool false, .int .i64 0, .slice none 0 0] 99) = X0 at *
      go_wp2_with fail
      refine HTX.out.mono ?_
      rintro e X ⟨hd', S', qs', rfl, hrd', hk, hS⟩
      have HX : Hid (RD V X V.heap.size hd' S' qs' ∧ (∀ S1, R = .ok S1 → S' = S1) ∧ X.heap[gb]? = some (.cells #[.slice none 0 0, .string ⟨#[]⟩, .int .i64 0, .slice none 0 0] 25 (0, 0)) ∧ X.heap[nb]? = some (.cells #[.int .i64 0, .int .i64 0] 85 (0, 0))) := ⟨hrd', hS, hk.loc _ _ _ HBZ.out.1 (by decide) (by decide) (by decide) (by decide), hk.loc _ _ _ HBZ.out.2 (by decide) (by decide) (by decide) (by decide)⟩
      clear hrd' hk hS HTX HBZ
      cases R with
      | error g =>
        obtain ⟨gk, ga⟩ := g
        have hk0 : gk ≠ 0 := HKD.out _ rfl
        have hk1 : (gk == 0) = false := by simpa using hk0
        have hk2 : (gk != 0) = true := by simpa using hk0
        have HE : Hid (readS s = .error (gk, ga)) := by
          show _ = _
          rw [HRS.out]
          unfold endRd
          split <;> rfl
        rw [show fv (fltOf (.error (gk, ga) : Except Flt St)) = .agg #[.int .i64 gk, .int .i64 ga] from rfl]
        clear HRS HKD hk0
        have hx := below_alloc X (.cells #[.int .i64 gk, .int .i64 ga] 85)
        have b0 := heap_alloc_new X (.cells #[.int .i64 gk, .int .i64 ga] 85)
        have b1 := block_below hx HX.out.2.2.1
        have b2 := block_below hx HX.out.2.2.2
        obtain ⟨y0, y1, y2, y3, y4, y5, y6, y7⟩ := box_cells b1
        obtain ⟨q3, q4, z3, z4⟩ := box46 b2
        obtain ⟨p0, p1, p2, p3⟩ := box46 b0
        have hn1 : X.heap.size ≠ gb := fun e => by have := (Array.getElem?_eq_some_iff.1 HX.out.2.2.1).1; omega
        have hn2 : X.heap.size ≠ nb := fun e => by have := (Array.getElem?_eq_some_iff.1 HX.out.2.2.2).1; omega
        clear hx b0 b1 b2
        have HBW : Hid (Below w.heap.size w (X.alloc (.cells #[.int .i64 gk, .int .i64 ga] 85))) := below_step (below_step HBY.out.1 HX.out.1.bel) (below_alloc _ _)
        go_upto_region 11 with fail
        generalize X.alloc (.cells #[.int .i64 gk, .int .i64 ga] 85) = X1 at *
        generalize X.heap.size = fb at *
        clear HX HBY
        go_region
        go_wp2_with fail
        refine bodyPost_ret (v := .tuple #[.agg #[.slice none 0 0, .string ⟨#[]⟩, .int .i64 0, .slice none 0 0], .agg #[.int .i64 gk, .int .i64 ga]]) (by simp [results, Tryz.results61, go_sem, *]) rfl ?_
        refine ⟨?_, by rw [HE.out]; rfl⟩
        exact below_step (((set4_below (.slice none 0 0) (.string ⟨#[]⟩) (.int .i64 0) (.slice none 0 0) HBW.out HNB.out.1).setCell (p := ⟨nb, 0, none⟩) HNB.out.2.1 _).setCell (p := ⟨nb, 1, none⟩) HNB.out.2.1 _) (below_drew' _)
      | ok S1 =>
        have hS1 : S' = S1 := HX.out.2.1 S1 rfl
        subst hS1
        have HE : Hid (readS s = .ok S') := by
          show _ = _
          rw [HRS.out]
          unfold endRd
          rw [if_pos hlt0]
        rw [show fv (fltOf (.ok S' : Except Flt St)) = .agg #[.int .i64 0, .int .i64 0] from rfl]
        have hx := below_alloc X (.cells #[.int .i64 0, .int .i64 0] 85)
        obtain ⟨p0, p1, p2, p3⟩ := box46 (heap_alloc_new X (.cells #[.int .i64 0, .int .i64 0] 85))
        have HG : Hid (Calls Tryz.prog 71 #[.pointer (some ⟨V.heap.size, 0, none⟩)] (X.alloc (.cells #[.int .i64 0, .int .i64 0] 85)) fun e W' => ∃ h', e = .returned (gv h' (gmOf S')) ∧ OwnG W' V.heap.size h' (gmOf S') qs' ∧ Below (X.alloc (.cells #[.int .i64 0, .int .i64 0] 85)).heap.size (X.alloc (.cells #[.int .i64 0, .int .i64 0] 85)) W') := rdGram_calls _ _ _ _ _ _ (HX.out.1.step hx)
        have HBW : Hid (Below w.heap.size w (X.alloc (.cells #[.int .i64 0, .int .i64 0] 85)) ∧ (X.alloc (.cells #[.int .i64 0, .int .i64 0] 85)).heap[gb]? = some (.cells #[.slice none 0 0, .string ⟨#[]⟩, .int .i64 0, .slice none 0 0] 25 (0, 0)) ∧ (X.alloc (.cells #[.int .i64 0, .int .i64 0] 85)).heap[nb]? = some (.cells #[.int .i64 0, .int .i64 0] 85 (0, 0)) ∧ w.heap.size ≤ V.heap.size) := ⟨below_step (below_step HBY.out.1 HX.out.1.bel) hx, block_below hx HX.out.2.2.1, block_below hx HX.out.2.2.2, HBY.out.1.size⟩
        clear hx HKD HRS HX HBY
        go_wp2_with fail
        refine HG.out.mono ?_
        rintro e Y ⟨⟨ta', tc', ra', rc'⟩, rfl, hO, hB⟩
        have b1 := block_below hB HBW.out.2.1
        have b2 := block_below hB HBW.out.2.2.1
        have HY : Hid (OwnG Y w.heap.size ⟨ta', tc', ra', rc'⟩ (gmOf S') qs' ∧ Below w.heap.size w Y ∧ Loc Y gb 25 ∧ Loc Y nb 85) := ⟨⟨own_mono hO.tok HBW.out.2.2.2, own_mono hO.rul HBW.out.2.2.2, hO.map, fun q hq => own_mono (hO.row q hq) HBW.out.2.2.2⟩, below_step HBW.out.1 hB, ⟨_, b1⟩, ⟨_, b2⟩⟩
        obtain ⟨y0, y1, y2, y3, y4, y5, y6, y7⟩ := box_cells b1
        obtain ⟨q3, q4, z3, z4⟩ := box46 b2
        clear hO hB b1 b2 HG HBW p0 p1 p2 p3
        unfold gv gmOf
        simp only
        go_wp2_with fail
        refine bodyPost_ret (v := .tuple #[.agg #[.slice ta' S'.ts.length tc', .string S'.st, .int .i64 S'.ex, .slice ra' S'.rs.length rc'], .agg #[.int .i64 0, .int .i64 0]]) (by simp [results, Tryz.results61, go_sem, *]) rfl ?_
        obtain ⟨o, hb, l1, l2⟩ := HY.out
        refine ⟨((set4_below _ _ _ _ hb HNB.out.1).setCell (p := ⟨nb, 0, none⟩) HNB.out.2.1 _).setCell (p := ⟨nb, 1, none⟩) HNB.out.2.1 _, ?_⟩
        rw [HE.out]
        refine ⟨⟨ta', tc', ra', rc'⟩, qs', rfl, ?_⟩
        exact (((((o.off l1 (by decide)).off (l1.set _ _ _) (by decide)).off ((l1.set _ _ _).set _ _ _) (by decide)).off (((l1.set _ _ _).set _ _ _).set _ _ _) (by decide)).off ((((l2.set _ _ _).set _ _ _).set _ _ _).set _ _ _) (by decide)).off (((((l2.set _ _ _).set _ _ _).set _ _ _).set _ _ _).set _ _ _) (by decide)
    · have hbd : bad = (m : Int) := by rw [← HBAD.out]; exact hf
      have hm := scan_before hf
      have hm1 : m < s.size := hm.1
      have hsz : (s.extract 0 m).size ≤ 1048576 := by rw [ByteArray.size_extract]; omega
      have HSC : Hid (Calls Tryz.prog 69 #[.string (s.extract 0 m)] V fun e w' => Scanned (s.extract 0 m) V w' e) := scan_calls (s.extract 0 m) V hsz
      have HM : Hid ((scan (by8 (s.extract 0 m))).2 = -1 ∧ (scan (by8 s)).2 = (m : Int)) := ⟨hm.2, hf⟩
      have hge : (m : Int) ≥ 0 := by omega
      have hm2 : (m : Int) ≤ (s.size : Int) := by omega
      subst hbd
      clear hm hf hsz
      go_wp2_with fail
      refine HSC.out.mono ?_
      rintro e V2 ⟨v2, rfl, hW, hB⟩
      have HF : Hid (∃ t base, IsW V2 base t v2 (scan (by8 t)).1 ∧ (scan (by8 t)).2 = -1 ∧ Below W1.heap.size W1 V2 ∧ readS s = endRd (m : Int) (readP (st0 (wordsOf t)))) := by
        refine ⟨s.extract 0 m, _, hW, HM.out.1, below_step HV.out.2 hB, ?_⟩
        unfold readS endRd
        rw [if_neg HL.out, HM.out.2, if_neg (by omega), if_neg (by omega)]
        rfl
      have hlt0 : ¬ ((m : Int) < 0) := by omega
      clear hW hB HSC HM HV HBAD HL
      go_upto_region 6 with fail
      obtain ⟨t, base, hW, hsf, hBt, hrs⟩ := HF.out
      obtain ⟨⟨wb, wo, wl, ta, tc, ra, rc⟩, rfl, h1, h2, h3, h4, hrd⟩ := RD.init hW hsf
      simp only at h1 h2 h3 h4
      subst h1 h2 h3 h4
      obtain ⟨R, hR⟩ : ∃ R, readP (st0 (wordsOf t)) = R := ⟨_, rfl⟩
      have HTX : Hid (Calls Tryz.prog 70 #[.pointer (some ⟨V2.heap.size, 0, none⟩)] (V2.alloc (.cells #[.slice (some ⟨wb, wo, none⟩) (st0 (wordsOf t)).ws.length wl, .slice none 0 0, .int .i64 0, .string ⟨#[]⟩, .bool false, .int .i64 0, .slice none 0 0] 99)) fun e W' => DidQ V2 (V2.alloc (.cells #[.slice (some ⟨wb, wo, none⟩) (st0 (wordsOf t)).ws.length wl, .slice none 0 0, .int .i64 0, .string ⟨#[]⟩, .bool false, .int .i64 0, .slice none 0 0] 99)) V2.heap.size R e W') := by rw [← hR]; exact rdText_calls _ _ _ _ _ _ hrd
      have HRS : Hid (readS s = endRd (m : Int) R) := by rw [← hR]; exact hrs
      have HKD : Hid (∀ g, R = .error g → g.1 ≠ 0) := fun g hg => readP_flt (hR.trans hg)
      have hx := below_alloc V2 (.cells #[.slice (some ⟨wb, wo, none⟩) (st0 (wordsOf t)).ws.length wl, .slice none 0 0, .int .i64 0, .string ⟨#[]⟩, .bool false, .int .i64 0, .slice none 0 0] 99)
      have HBY : Hid (Below w.heap.size w V2 ∧ V2.heap[gb]? = some (.cells #[.slice none 0 0, .string ⟨#[]⟩, .int .i64 0, .slice none 0 0] 25 (0, 0)) ∧ V2.heap[nb]? = some (.cells #[.int .i64 0, .int .i64 0] 85 (0, 0))) := ⟨below_step HB.out hBt, block_below hBt HBX.out.1, block_below hBt HBX.out.2⟩
      have HBZ : Hid ((V2.alloc (.cells #[.slice (some ⟨wb, wo, none⟩) (st0 (wordsOf t)).ws.length wl, .slice none 0 0, .int .i64 0, .string ⟨#[]⟩, .bool false, .int .i64 0, .slice none 0 0] 99)).heap[gb]? = some (.cells #[.slice none 0 0, .string ⟨#[]⟩, .int .i64 0, .slice none 0 0] 25 (0, 0)) ∧ (V2.alloc (.cells #[.slice (some ⟨wb, wo, none⟩) (st0 (wordsOf t)).ws.length wl, .slice none 0 0, .int .i64 0, .string ⟨#[]⟩, .bool false, .int .i64 0, .slice none 0 0] 99)).heap[nb]? = some (.cells #[.int .i64 0, .int .i64 0] 85 (0, 0))) := ⟨block_below hx HBY.out.2.1, block_below hx HBY.out.2.2⟩
      clear HF hW hsf hrs hrd hR hBt HBX HB hx
      go_upto_region 7 with fail
      generalize (st0 (wordsOf t)).ws.length = wn at *
      generalize V2.alloc (.cells #[.slice (some ⟨wb, wo, none⟩) wn wl, .slice none 0 0, .int .i64 0, .string ⟨#[]⟩, .bool false, .int .i64 0, .slice none 0 0] 99) = X0 at *
      go_wp2_with fail
      refine HTX.out.mono ?_
      rintro e X ⟨hd', S', qs', rfl, hrd', hk, hS⟩
      have HX : Hid (RD V2 X V2.heap.size hd' S' qs' ∧ (∀ S1, R = .ok S1 → S' = S1) ∧ X.heap[gb]? = some (.cells #[.slice none 0 0, .string ⟨#[]⟩, .int .i64 0, .slice none 0 0] 25 (0, 0)) ∧ X.heap[nb]? = some (.cells #[.int .i64 0, .int .i64 0] 85 (0, 0))) := ⟨hrd', hS, hk.loc _ _ _ HBZ.out.1 (by decide) (by decide) (by decide) (by decide), hk.loc _ _ _ HBZ.out.2 (by decide) (by decide) (by decide) (by decide)⟩
      clear hrd' hk hS HTX HBZ
      cases R with
      | error g =>
        obtain ⟨gk, ga⟩ := g
        have hk0 : gk ≠ 0 := HKD.out _ rfl
        have hk1 : (gk == 0) = false := by simpa using hk0
        have hk2 : (gk != 0) = true := by simpa using hk0
        have HE : Hid (readS s = .error (gk, ga)) := by
          show _ = _
          rw [HRS.out]
          unfold endRd
          split <;> rfl
        rw [show fv (fltOf (.error (gk, ga) : Except Flt St)) = .agg #[.int .i64 gk, .int .i64 ga] from rfl]
        clear HRS HKD hk0
        have hx := below_alloc X (.cells #[.int .i64 gk, .int .i64 ga] 85)
        have b0 := heap_alloc_new X (.cells #[.int .i64 gk, .int .i64 ga] 85)
        have b1 := block_below hx HX.out.2.2.1
        have b2 := block_below hx HX.out.2.2.2
        obtain ⟨y0, y1, y2, y3, y4, y5, y6, y7⟩ := box_cells b1
        obtain ⟨q3, q4, z3, z4⟩ := box46 b2
        obtain ⟨p0, p1, p2, p3⟩ := box46 b0
        have hn1 : X.heap.size ≠ gb := fun e => by have := (Array.getElem?_eq_some_iff.1 HX.out.2.2.1).1; omega
        have hn2 : X.heap.size ≠ nb := fun e => by have := (Array.getElem?_eq_some_iff.1 HX.out.2.2.2).1; omega
        clear hx b0 b1 b2
        have HBW : Hid (Below w.heap.size w (X.alloc (.cells #[.int .i64 gk, .int .i64 ga] 85))) := below_step (below_step HBY.out.1 HX.out.1.bel) (below_alloc _ _)
        go_upto_region 11 with fail
        generalize X.alloc (.cells #[.int .i64 gk, .int .i64 ga] 85) = X1 at *
        generalize X.heap.size = fb at *
        clear HX HBY
        go_region
        go_wp2_with fail
        refine bodyPost_ret (v := .tuple #[.agg #[.slice none 0 0, .string ⟨#[]⟩, .int .i64 0, .slice none 0 0], .agg #[.int .i64 gk, .int .i64 ga]]) (by simp [results, Tryz.results61, go_sem, *]) rfl ?_
        refine ⟨?_, by rw [HE.out]; rfl⟩
        exact below_step (((set4_below (.slice none 0 0) (.string ⟨#[]⟩) (.int .i64 0) (.slice none 0 0) HBW.out HNB.out.1).setCell (p := ⟨nb, 0, none⟩) HNB.out.2.1 _).setCell (p := ⟨nb, 1, none⟩) HNB.out.2.1 _) (below_drew' _)
      | ok S1 =>
        have HE : Hid (readS s = .error (1, (m : Int))) := by
          show _ = _
          rw [HRS.out]
          unfold endRd
          rw [if_neg (by omega)]
        rw [show fv (fltOf (.ok S1 : Except Flt St)) = .agg #[.int .i64 0, .int .i64 0] from rfl]
        have hx := below_alloc X (.cells #[.int .i64 0, .int .i64 0] 85)
        have b0 := heap_alloc_new X (.cells #[.int .i64 0, .int .i64 0] 85)
        obtain ⟨p0, p1, p2, p3⟩ := box46 b0
        have hn1 : gb ≠ X.heap.size := fun e => by have := (Array.getElem?_eq_some_iff.1 HX.out.2.2.1).1; omega
        have hn2 : nb ≠ X.heap.size := fun e => by have := (Array.getElem?_eq_some_iff.1 HX.out.2.2.2).1; omega
        have HBW : Hid (Below w.heap.size w (X.alloc (.cells #[.int .i64 0, .int .i64 0] 85)) ∧ (X.alloc (.cells #[.int .i64 0, .int .i64 0] 85)).heap[gb]? = some (.cells #[.slice none 0 0, .string ⟨#[]⟩, .int .i64 0, .slice none 0 0] 25 (0, 0)) ∧ (X.alloc (.cells #[.int .i64 0, .int .i64 0] 85)).heap[nb]? = some (.cells #[.int .i64 0, .int .i64 0] 85 (0, 0)) ∧ w.heap.size ≤ X.heap.size) := ⟨below_step (below_step HBY.out.1 HX.out.1.bel) hx, block_below hx HX.out.2.2.1, block_below hx HX.out.2.2.2, (below_step HBY.out.1 HX.out.1.bel).size⟩
        clear hx HKD HRS HX HBY
        go_upto_region 9 with fail
        generalize X.alloc (.cells #[.int .i64 0, .int .i64 0] 85) = X1 at *
        generalize X.heap.size = fb at *
        have hX2 : Hid (Below w.heap.size w ((X1.setCell ⟨fb, 0, none⟩ (.int .i64 1)).setCell ⟨fb, 1, none⟩ (.int .i64 (m : Int)))) := (HBW.out.1.setCell (p := ⟨fb, 0, none⟩) HBW.out.2.2.2 _).setCell (p := ⟨fb, 1, none⟩) HBW.out.2.2.2 _
        have b1 : ((X1.setCell ⟨fb, 0, none⟩ (.int .i64 1)).setCell ⟨fb, 1, none⟩ (.int .i64 (m : Int))).heap[gb]? = some (.cells #[.slice none 0 0, .string ⟨#[]⟩, .int .i64 0, .slice none 0 0] 25 (0, 0)) := by
          rw [Below.heap_setCell _ _ _ _ hn1, Below.heap_setCell _ _ _ _ hn1]
          exact HBW.out.2.1
        have b2 : ((X1.setCell ⟨fb, 0, none⟩ (.int .i64 1)).setCell ⟨fb, 1, none⟩ (.int .i64 (m : Int))).heap[nb]? = some (.cells #[.int .i64 0, .int .i64 0] 85 (0, 0)) := by
          rw [Below.heap_setCell _ _ _ _ hn2, Below.heap_setCell _ _ _ _ hn2]
          exact HBW.out.2.2.1
        have b3 : ((X1.setCell ⟨fb, 0, none⟩ (.int .i64 1)).setCell ⟨fb, 1, none⟩ (.int .i64 (m : Int))).heap[fb]? = some (.cells #[.int .i64 1, .int .i64 (m : Int)] 85 (0, 0)) := by
          have e1 : (X1.setCell ⟨fb, 0, none⟩ (.int .i64 1)).heap[fb]? = some (.cells #[.int .i64 1, .int .i64 0] 85 (0, 0)) := by
            rw [setCell_eq_setRow X1 fb 0 _ 85 (0, 0) _ b0]
            exact setRow_heap _ _ _ _ 85 _ b0
          rw [setCell_eq_setRow _ fb 1 _ 85 (0, 0) _ e1]
          exact setRow_heap _ _ _ _ 85 _ e1
        go_upto_region 10 with fail
        clear p0 p1 p2 p3 b0 HBW
        generalize (X1.setCell ⟨fb, 0, none⟩ (.int .i64 1)).setCell ⟨fb, 1, none⟩ (.int .i64 (m : Int)) = X2 at *
        obtain ⟨p0, p1, p2, p3⟩ := box46 b3
        obtain ⟨y0, y1, y2, y3, y4, y5, y6, y7⟩ := box_cells b1
        obtain ⟨q3, q4, z3, z4⟩ := box46 b2
        have hn1' := hn1.symm
        have hn2' := hn2.symm
        clear b1 b2 b3 hn1 hn2
        go_upto_region 11 with fail
        go_region
        go_wp2_with fail
        refine bodyPost_ret (v := .tuple #[.agg #[.slice none 0 0, .string ⟨#[]⟩, .int .i64 0, .slice none 0 0], .agg #[.int .i64 1, .int .i64 (m : Int)]]) (by simp [results, Tryz.results61, go_sem, *]) rfl ?_
        refine ⟨?_, by rw [HE.out]; rfl⟩
        exact below_step (((set4_below (.slice none 0 0) (.string ⟨#[]⟩) (.int .i64 0) (.slice none 0 0) hX2.out HNB.out.1).setCell (p := ⟨nb, 0, none⟩) HNB.out.2.1 _).setCell (p := ⟨nb, 1, none⟩) HNB.out.2.1 _) (below_drew' _)

end Go.Proofs.YtebehlmidoencaaGreatDoor

/-
  The walk of the look that each law of Read opens with.
-/
namespace Go.Proofs.YtebehlmidoencaaGreatDoor
open Go.RowKit

set_option maxRecDepth 20000

def tx1 : ByteArray := ⟨#[37, 108, 101, 102, 116, 32, 80, 32, 37, 108, 101, 102, 116, 32, 77, 32, 37, 116, 111, 107, 101, 110, 32, 78, 32, 37, 37, 32, 101, 58, 32, 101, 32, 80, 32, 101, 32, 124, 32, 101, 32, 77, 32, 101, 32, 124, 32, 78, 59]⟩
def tx2 : ByteArray := ⟨#[37, 116, 111, 107, 101, 110, 32, 65, 32, 65, 32, 37, 37]⟩
def tx3 : ByteArray := ⟨#[37, 37, 32, 101, 32, 58, 32, 124, 32]⟩

def isBad (R : Except Flt St) (k a : Int) : Bool := match R with | .error g => g.1 == k && g.2 == a | .ok _ => false
def isSum (R : Except Flt St) : Bool := match R with | .error _ => false | .ok S => S.ts.length == 3 && S.rs.length == 3 && (tkAt S.ts 0).n.toList == [80]

theorem isBad_eq {R : Except Flt St} {k a : Int} (h : isBad R k a = true) : R = .error (k, a) := by
  unfold isBad at h
  split at h
  · rename_i g
    simp only [Bool.and_eq_true, beq_iff_eq] at h
    obtain ⟨g1, g2⟩ := g
    simp only at h
    rw [h.1, h.2]
  · cases h

theorem isSum_eq {R : Except Flt St} (h : isSum R = true) : ∃ S, R = .ok S ∧ S.ts.length = 3 ∧ S.rs.length = 3 ∧ (tkAt S.ts 0).n.toList = [80] := by
  unfold isSum at h
  split at h
  · cases h
  · rename_i S
    simp only [Bool.and_eq_true, beq_iff_eq] at h
    exact ⟨S, rfl, h.1.1, h.1.2, h.2⟩

theorem tx1_reads : isSum (readS tx1) = true := by kernel_rfl
theorem tx2_reads : isBad (readS tx2) 7 9 = true := by kernel_rfl
theorem tx3_reads : isBad (readS tx3) 1 9 = true := by kernel_rfl

theorem begun5b_calls (w : World) (hp : Pow w) : Calls Tryz.prog 62 #[] w fun e w' => e = .returned (.bool true) ∧ Below w.heap.size w w' := by
  have H : Hid (Calls Tryz.prog 72 #[] w fun e w' => e = .returned (.bool true) ∧ Below w.heap.size w w') := begun5_calls w hp
  go_enter Tryz.func62, Tryz.ntmps62
  go_wp2_with fail
  refine H.out.mono ?_
  rintro e V ⟨rfl, hB⟩
  have HB : Hid (Below w.heap.size w V) := hB
  clear hB
  go_wp2_with fail
  go_ret
  exact ⟨rfl, HB.out⟩

theorem tx1_calls (w : World) : Calls Tryz.prog 61 #[.string tx1] w fun e w' => ∃ tb tc st ex ra rc nm, e = .returned (.tuple #[.agg #[.slice (some ⟨tb, 0, none⟩) 3 tc, .string st, .int .i64 ex, .slice ra 3 rc], .agg #[.int .i64 0, .int .i64 0]]) ∧ Below w.heap.size w w' ∧ w'.cell? ⟨tb, 0, none⟩ = some (.string nm) ∧ nm.toList = [80] ∧ 3 ≤ tc ∧ tc ≤ 9223372036854775807 := by
  obtain ⟨S, hS, h1, h2, h3⟩ := isSum_eq tx1_reads
  refine (read_calls tx1 w (by decide)).mono ?_
  rintro e w' ⟨hb, h⟩
  rw [hS] at h
  obtain ⟨⟨ta, tc, ra, rc⟩, qs, rfl, ho⟩ := h
  have hto := ho.tok
  obtain ⟨t, ht⟩ : ∃ t, S.ts[0]? = some t := ⟨S.ts[0]'(by omega), List.getElem?_eq_getElem _⟩
  obtain ⟨ao, c, e, q1, q2, q3⟩ := own_slice hto
  cases e
  obtain ⟨tb, rfl⟩ : ∃ tb, ta = some ⟨tb, 0, none⟩ := by
    rcases q3 with ⟨-, q3, -⟩ | q3
    · have : S.ts.length = 0 := q3
      omega
    · exact q3
  obtain ⟨b, o, he, p0, -, -⟩ := tok_at (Row.of_own hto) ht
  cases he
  refine ⟨tb, tc, S.st, S.ex, ra, rc, t.n, ?_, hb, ?_, ?_, ?_, ?_⟩
  · unfold gv gmOf fv
    simp only [h1, h2]
  · simpa using p0
  · unfold tkAt at h3
    rw [ht] at h3
    exact h3
  · have : S.ts.length ≤ tc := q1
    omega
  · unfold maxLen at q2
    exact q2

theorem bad_calls (s : ByteArray) (w : World) (hs : s.size ≤ 1048576) (k a : Int) (h : isBad (readS s) k a = true) : Calls Tryz.prog 61 #[.string s] w fun e w' => e = .returned (.tuple #[.agg #[.slice none 0 0, .string ⟨#[]⟩, .int .i64 0, .slice none 0 0], .agg #[.int .i64 k, .int .i64 a]]) ∧ Below w.heap.size w w' := by
  refine (read_calls s w hs).mono ?_
  rintro e w' ⟨hb, h1⟩
  rw [isBad_eq h] at h1
  exact ⟨h1, hb⟩

set_option maxHeartbeats 4000000 in
theorem begun6_calls (w : World) (hp : Pow w) : Calls Tryz.prog 47 #[] w fun e w' => e = .returned (.bool true) ∧ Below w.heap.size w w' := by
  have HP : Hid (Pow w) := hp
  have H1 : Hid (∀ W : World, Calls Tryz.prog 61 #[.string ⟨#[37, 108, 101, 102, 116, 32, 80, 32, 37, 108, 101, 102, 116, 32, 77, 32, 37, 116, 111, 107, 101, 110, 32, 78, 32, 37, 37, 32, 101, 58, 32, 101, 32, 80, 32, 101, 32, 124, 32, 101, 32, 77, 32, 101, 32, 124, 32, 78, 59]⟩] W fun e w' => ∃ tb tc st ex ra rc nm, e = .returned (.tuple #[.agg #[.slice (some ⟨tb, 0, none⟩) 3 tc, .string st, .int .i64 ex, .slice ra 3 rc], .agg #[.int .i64 0, .int .i64 0]]) ∧ Below W.heap.size W w' ∧ w'.cell? ⟨tb, 0, none⟩ = some (.string nm) ∧ nm.toList = [80] ∧ 3 ≤ tc ∧ tc ≤ 9223372036854775807) := fun W => tx1_calls W
  have H2 : Hid (∀ W : World, Calls Tryz.prog 61 #[.string ⟨#[37, 116, 111, 107, 101, 110, 32, 65, 32, 65, 32, 37, 37]⟩] W fun e w' => e = .returned (.tuple #[.agg #[.slice none 0 0, .string ⟨#[]⟩, .int .i64 0, .slice none 0 0], .agg #[.int .i64 7, .int .i64 9]]) ∧ Below W.heap.size W w') := fun W => bad_calls tx2 W (by decide) 7 9 tx2_reads
  have H3 : Hid (∀ W : World, Calls Tryz.prog 61 #[.string ⟨#[37, 37, 32, 101, 32, 58, 32, 124, 32]⟩] W fun e w' => e = .returned (.tuple #[.agg #[.slice none 0 0, .string ⟨#[]⟩, .int .i64 0, .slice none 0 0], .agg #[.int .i64 1, .int .i64 9]]) ∧ Below W.heap.size W w') := fun W => bad_calls tx3 W (by decide) 1 9 tx3_reads
  clear hp
  go_enter Tryz.func47, Tryz.ntmps47
  go_wp2_with fail
  refine (H1.out _).mono ?_
  rintro e V ⟨tb, tc, st, ex, ra, rc, nm, rfl, hBV, hc0, hnm, htc1, htc2⟩
  have hBa : Below V.heap.size V ((V.alloc (.cells #[.slice (some ⟨tb, 0, none⟩) 3 tc, .string st, .int .i64 ex, .slice ra 3 rc] 25)).alloc (.cells #[.int .i64 0, .int .i64 0] 85)) := below_step (below_alloc _ _) (below_alloc _ _)
  have hba1 : ((V.alloc (.cells #[.slice (some ⟨tb, 0, none⟩) 3 tc, .string st, .int .i64 ex, .slice ra 3 rc] 25)).alloc (.cells #[.int .i64 0, .int .i64 0] 85)).heap[V.heap.size]? = some (.cells #[.slice (some ⟨tb, 0, none⟩) 3 tc, .string st, .int .i64 ex, .slice ra 3 rc] 25 (0, 0)) := block_below (below_alloc _ _) (heap_alloc_new _ _)
  have hba2 : ((V.alloc (.cells #[.slice (some ⟨tb, 0, none⟩) 3 tc, .string st, .int .i64 ex, .slice ra 3 rc] 25)).alloc (.cells #[.int .i64 0, .int .i64 0] 85)).heap[V.heap.size + 1]? = some (.cells #[.int .i64 0, .int .i64 0] 85 (0, 0)) := by
    have := heap_alloc_new (V.alloc (.cells #[.slice (some ⟨tb, 0, none⟩) 3 tc, .string st, .int .i64 ex, .slice ra 3 rc] 25)) (.cells #[.int .i64 0, .int .i64 0] 85)
    rwa [size_alloc1] at this
  go_upto_region 2 with fail
  obtain ⟨pa, hpa⟩ : ∃ pa, pa = V.heap.size := ⟨_, rfl⟩
  rw [← hpa] at hba1 hba2 ⊢
  generalize (V.alloc (.cells #[.slice (some ⟨tb, 0, none⟩) 3 tc, .string st, .int .i64 ex, .slice ra 3 rc] 25)).alloc (.cells #[.int .i64 0, .int .i64 0] 85) = V1 at *
  have HV1 : Hid (Below w.heap.size w V1 ∧ V1.heap[pa]? = some (.cells #[.slice (some ⟨tb, 0, none⟩) 3 tc, .string st, .int .i64 ex, .slice ra 3 rc] 25 (0, 0)) ∧ V1.heap[pa + 1]? = some (.cells #[.int .i64 0, .int .i64 0] 85 (0, 0)) ∧ V1.cell? ⟨tb, 0, none⟩ = some (.string nm)) := ⟨below_step hBV hBa, hba1, hba2, cell_below hBa hc0⟩
  clear hBV hBa hba1 hba2 hc0 hpa
  go_wp2_with fail
  refine (H2.out _).mono ?_
  rintro e X ⟨rfl, hBX⟩
  have hBb : Below X.heap.size X ((X.alloc (.cells #[.slice none 0 0, .string ⟨#[]⟩, .int .i64 0, .slice none 0 0] 25)).alloc (.cells #[.int .i64 7, .int .i64 9] 85)) := below_step (below_alloc _ _) (below_alloc _ _)
  have hbb1 : ((X.alloc (.cells #[.slice none 0 0, .string ⟨#[]⟩, .int .i64 0, .slice none 0 0] 25)).alloc (.cells #[.int .i64 7, .int .i64 9] 85)).heap[X.heap.size]? = some (.cells #[.slice none 0 0, .string ⟨#[]⟩, .int .i64 0, .slice none 0 0] 25 (0, 0)) := block_below (below_alloc _ _) (heap_alloc_new _ _)
  have hbb2 : ((X.alloc (.cells #[.slice none 0 0, .string ⟨#[]⟩, .int .i64 0, .slice none 0 0] 25)).alloc (.cells #[.int .i64 7, .int .i64 9] 85)).heap[X.heap.size + 1]? = some (.cells #[.int .i64 7, .int .i64 9] 85 (0, 0)) := by
    have := heap_alloc_new (X.alloc (.cells #[.slice none 0 0, .string ⟨#[]⟩, .int .i64 0, .slice none 0 0] 25)) (.cells #[.int .i64 7, .int .i64 9] 85)
    rwa [size_alloc1] at this
  go_upto_region 3 with fail
  obtain ⟨pb, hpb⟩ : ∃ pb, pb = X.heap.size := ⟨_, rfl⟩
  rw [← hpb] at hbb1 hbb2 ⊢
  generalize (X.alloc (.cells #[.slice none 0 0, .string ⟨#[]⟩, .int .i64 0, .slice none 0 0] 25)).alloc (.cells #[.int .i64 7, .int .i64 9] 85) = X1 at *
  have HX1 : Hid (Below V1.heap.size V1 X1 ∧ X1.heap[pb + 1]? = some (.cells #[.int .i64 7, .int .i64 9] 85 (0, 0))) := ⟨below_step hBX hBb, hbb2⟩
  clear hBX hBb hbb1 hbb2 hpb
  go_wp2_with fail
  refine (H3.out _).mono ?_
  rintro e Y ⟨rfl, hBY⟩
  have hBc : Below Y.heap.size Y ((Y.alloc (.cells #[.slice none 0 0, .string ⟨#[]⟩, .int .i64 0, .slice none 0 0] 25)).alloc (.cells #[.int .i64 1, .int .i64 9] 85)) := below_step (below_alloc _ _) (below_alloc _ _)
  have hbc1 : ((Y.alloc (.cells #[.slice none 0 0, .string ⟨#[]⟩, .int .i64 0, .slice none 0 0] 25)).alloc (.cells #[.int .i64 1, .int .i64 9] 85)).heap[Y.heap.size]? = some (.cells #[.slice none 0 0, .string ⟨#[]⟩, .int .i64 0, .slice none 0 0] 25 (0, 0)) := block_below (below_alloc _ _) (heap_alloc_new _ _)
  have hbc2 : ((Y.alloc (.cells #[.slice none 0 0, .string ⟨#[]⟩, .int .i64 0, .slice none 0 0] 25)).alloc (.cells #[.int .i64 1, .int .i64 9] 85)).heap[Y.heap.size + 1]? = some (.cells #[.int .i64 1, .int .i64 9] 85 (0, 0)) := by
    have := heap_alloc_new (Y.alloc (.cells #[.slice none 0 0, .string ⟨#[]⟩, .int .i64 0, .slice none 0 0] 25)) (.cells #[.int .i64 1, .int .i64 9] 85)
    rwa [size_alloc1] at this
  go_upto_region 4 with fail
  obtain ⟨pc, hpc⟩ : ∃ pc, pc = Y.heap.size := ⟨_, rfl⟩
  rw [← hpc] at hbc1 hbc2 ⊢
  generalize (Y.alloc (.cells #[.slice none 0 0, .string ⟨#[]⟩, .int .i64 0, .slice none 0 0] 25)).alloc (.cells #[.int .i64 1, .int .i64 9] 85) = Y1 at *
  have HY1 : Hid (Below X1.heap.size X1 Y1 ∧ Y1.heap[pc + 1]? = some (.cells #[.int .i64 1, .int .i64 9] 85 (0, 0))) := ⟨below_step hBY hBc, hbc2⟩
  clear hBY hBc hbc1 hbc2 hpc
  have HB1 : Hid (Below V1.heap.size V1 Y1 ∧ Below w.heap.size w Y1) := ⟨below_step HX1.out.1 HY1.out.1, below_step HV1.out.1 (below_step HX1.out.1 HY1.out.1)⟩
  go_wp2_with fail
  refine (begun5b_calls Y1 (HP.out.below HB1.out.2)).mono ?_
  rintro e U ⟨rfl, hBU⟩
  have hVU := below_step HB1.out.1 hBU
  obtain ⟨a0, a1, a2, a3, -, -, -, -⟩ := box_cells (block_below hVU HV1.out.2.1)
  obtain ⟨a4, a5, -, -⟩ := box46 (block_below hVU HV1.out.2.2.1)
  have a6 := cell_below hVU HV1.out.2.2.2
  obtain ⟨b4, b5, -, -⟩ := box46 (block_below (below_step HY1.out.1 hBU) HX1.out.2)
  obtain ⟨d4, d5, -, -⟩ := box46 (block_below hBU HY1.out.2)
  have HU : Hid (Below w.heap.size w U) := below_step HB1.out.2 hBU
  have hnm2 : (nm.toList == [80]) = true := by rw [hnm]; rfl
  clear hVU hBU HV1 HX1 HY1 HB1 hnm
  go_wp2_with fail
  go_ret
  exact ⟨rfl, HU.out⟩

end Go.Proofs.YtebehlmidoencaaGreatDoor

/-
  The look that each law of this layer opens with.
-/
namespace Go.Proofs.YtebehlmidoencaaGreatDoor
open Go.RowKit

set_option maxRecDepth 20000

theorem u23 : Tryz.prog.underlying 23 = some (.slice 46) := by kernel_rfl

theorem rulC_snoc (qs : List (Ru × Option Addr × Nat)) (q : Ru × Option Addr × Nat) : rulC (qs ++ [q]) = rulC qs ++ [.string q.1.l, .slice q.2.1 q.1.r.length q.2.2, .string q.1.p] := by unfold rulC; rw [List.flatMap_append]; rfl

/-- A rule more in an owned grammar. -/
theorem OwnG.addRu {W : World} {base : Nat} {h : Hd} {G : Gm} {qs : List (Ru × Option Addr × Nat)} (o : OwnG W base h G qs) (q : Ru × Option Addr × Nat) (n : Nat) (en : G.rs.length = n) (hq : OwnS W base (.slice q.2.1 q.1.r.length q.2.2) q.1.r) (hB : base ≤ W.heap.size) (hn : n < 10000) :
    ∃ g c W', (Builtin.append_ #[23, 23] 23 #[.slice h.ra n h.rc, .slice (some ⟨W.heap.size, 0, none⟩) 1 1]).run Tryz.prog (W.alloc (.cells #[.string q.1.l, .slice q.2.1 q.1.r.length q.2.2, .string q.1.p] 46)) = .ok (.slice (some ⟨g, 0, none⟩) (n + 1) c) W' ∧ OwnG W' base ⟨h.ta, h.tc, some ⟨g, 0, none⟩, c⟩ ⟨G.ts, G.s, G.e, G.rs ++ [q.1]⟩ (qs ++ [q]) ∧ Kept (fun k => blk h.ra = some k) W W' ∧ (∀ (b T : Nat) (d : Array Value), W.heap[b]? = some (.cells d T (0, 0)) → T ≠ 46 → W'.heap[b]? = some (.cells d T (0, 0))) := by
  subst en
  obtain ⟨g, c, W', hr, ho, hk, hg⟩ := ap_gen (us := [.string q.1.l, .slice q.2.1 q.1.r.length q.2.2, .string q.1.p]) u23 Tryz.info46 rfl (by decide) (by decide) rfl (fun u hu => by simp at hu; rcases hu with rfl | rfl | rfl <;> rfl) o.rul hB (by omega)
  have hk0 : Kept (fun k => blk h.ra = some k) W W' := ((Kept.refl _ W).alloc _).trans hk (fun k _ e => blk_own e)
  have stay : ∀ {E k n : Nat} {v : Value} {cs : List Value}, W.ownsRow base E k v n cs → E ≠ 46 → W'.ownsRow base E k v n cs := fun ho hE => own_kept ho hk0 (fun i hi e => loc_ne (own_loc ho hi) (own_blt o.rul e).2.2 hE rfl)
  refine ⟨g, c, W', hr, ⟨stay o.tok (by decide), ?_, by rw [List.map_append, o.map]; rfl, ?_⟩, hk0, fun b T d hb hT => ?_⟩
  · rw [rulC_snoc]
    simp only [List.length_append, List.length_cons, List.length_nil]
    exact ho
  · intro q' hq'
    rcases List.mem_append.1 hq' with h1 | h1
    · exact stay (o.row q' h1) (by decide)
    · rw [List.mem_singleton] at h1
      subst h1
      exact stay hq (by decide)
  · rw [hk0.block _ (Array.getElem?_eq_some_iff.1 hb).1 (fun e => loc_ne ⟨_, hb⟩ (own_blt o.rul e).2.2 hT rfl)]
    exact hb

theorem begun6b_calls (w : World) (hp : Pow w) : Calls Tryz.prog 18 #[] w fun e w' => e = .returned (.bool true) ∧ Below w.heap.size w w' := by
  have H : Hid (Calls Tryz.prog 47 #[] w fun e w' => e = .returned (.bool true) ∧ Below w.heap.size w w') := begun6_calls w hp
  go_enter Tryz.func18, Tryz.ntmps18
  go_wp2_with fail
  refine H.out.mono ?_
  rintro e V ⟨rfl, hB⟩
  have HB : Hid (Below w.heap.size w V) := hB
  clear hB
  go_wp2_with fail
  go_ret
  exact ⟨rfl, HB.out⟩

theorem sumsX_small : Small sumsX := by
  have h := sums_small
  have hX : bX.size ≤ 100 := by decide
  refine ⟨h.nt, by decide, h.st, h.tk, fun r hr => ?_⟩
  rcases List.mem_append.1 hr with hr | hr
  · exact h.rl r hr
  · rw [List.mem_singleton] at hr
    subst hr
    refine ⟨hX, by decide, by decide, fun x hx => ?_⟩
    rw [List.mem_singleton] at hx
    subst hx
    exact hX

theorem none_isG (w : World) : IsG w ⟨none, 0, none, 0⟩ noneG := ⟨⟨rfl, Nat.le_refl _, Nat.zero_le _, .inl ⟨rfl, rfl, rfl⟩⟩, ⟨[], rfl, ⟨rfl, Nat.le_refl _, Nat.zero_le _, .inl ⟨rfl, rfl, rfl⟩⟩, fun q h => (by cases h)⟩, ⟨by decide, by decide, by decide, fun t h => (by cases h), fun r h => (by cases h)⟩⟩

/-- What Sums means, as it lies. -/
theorem sums_sC (h : SHd) : sC h (spG sumsG) = #[.int .i64 3, .int .i64 1, .int .i64 4, .int .i64 0, .slice h.na 5 h.nc, .slice h.la 3 h.lc, .slice h.aa 3 h.ac, .slice h.ra 4 h.rc] := by
  have e : (nmG sumsG).length = 5 := by rw [nmG_len, sums_lfs]; rfl
  rw [sums_sp]
  unfold sC
  simp only [e]
  rfl

theorem ofSums_calls (W : World) (h : Hd) (hg : IsG W h sumsG) : Calls Tryz.prog 10 #[gv h sumsG] W fun e w' => ∃ na nc la lc aa ac ra rc, e = .returned (.tuple #[.agg #[.int .i64 3, .int .i64 1, .int .i64 4, .int .i64 0, .slice na 5 nc, .slice la 3 lc, .slice aa 3 ac, .slice ra 4 rc], .int .i64 0]) ∧ (IsSp w' ⟨na, nc, la, lc, aa, ac, ra, rc⟩ (spG sumsG) ∧ 4 ≤ rc ∧ rc ≤ 9223372036854775807) ∧ Below W.heap.size W w' := by
  refine (of_calls sumsG h W 0 hg sums_of).mono ?_
  rintro e w' ⟨h1, hb⟩
  rcases h1 with ⟨h1, -⟩ | ⟨-, ⟨na, nc, la, lc, aa, ac, ra, rc⟩, rfl, hs⟩
  · exact absurd rfl h1
  · refine ⟨na, nc, la, lc, aa, ac, ra, rc, by unfold sv; rw [sums_sC], ⟨hs, ?_⟩, hb⟩
    have := srs_lens hs.rl
    have e : (spG sumsG).rs.length = 4 := by rw [sums_sp]; rfl
    rw [e] at this
    exact this

theorem ofBad_calls (G : Gm) (k : Int) (W : World) (h : Hd) (hg : IsG W h G) (hk : OfR G k) (h0 : k ≠ 0) : Calls Tryz.prog 10 #[gv h G] W fun e w' => e = .returned (.tuple #[.agg zC, .int .i64 k]) ∧ Below W.heap.size W w' := by
  refine (of_calls G h W k hg hk).mono ?_
  rintro e w' ⟨h1, hb⟩
  rcases h1 with ⟨-, h1⟩ | ⟨h1, -⟩
  · exact ⟨h1, hb⟩
  · exact absurd h1 h0

theorem ySums_calls (W : World) (h : SHd) (hs : IsSp W h (spG sumsG)) : Calls Tryz.prog 17 #[.agg #[.int .i64 3, .int .i64 1, .int .i64 4, .int .i64 0, .slice h.na 5 h.nc, .slice h.la 3 h.lc, .slice h.aa 3 h.ac, .slice h.ra 4 h.rc]] W fun e w' => ∃ fb, e = .returned (.slice (some ⟨fb, 0, none⟩) 5 5) ∧ w'.cell? ⟨fb, 4, none⟩ = some (.bool true) ∧ w'.cell? ⟨fb, 3, none⟩ = some (.bool false) ∧ Below W.heap.size W w' := by
  have := yields_calls W h (spG sumsG) 5 (by rw [sums_sp]; rfl) (spG_wf sums_may sums_short sums_nm) hs
  unfold sv at this
  rw [sums_sC] at this
  refine this.mono ?_
  rintro e w' ⟨fb, fd, rfl, hl, ho, ht, hb⟩
  have c4 := boo_at ho hl (show 4 < 5 by omega)
  have c3 := boo_at ho hl (show 3 < 5 by omega)
  have e4 : isF fd 4 = true := (tells_is ht (by omega)).2 sums_der4
  have e3 : isF fd 3 = false := by
    cases hx : isF fd 3
    · rfl
    · exact absurd ((tells_is ht (by omega)).1 hx) sums_der3
  rw [e4] at c4
  rw [e3] at c3
  exact ⟨fb, rfl, c4, c3, hb⟩

set_option maxHeartbeats 8000000 in
theorem begun7_calls (w : World) (hp : Pow w) : Calls Tryz.prog 8 #[] w fun e w' => e = .returned (.bool true) ∧ Below w.heap.size w w' := by
  have HP : Hid (Pow w) := hp
  clear hp
  have HSM : Hid (∀ V : World, Calls Tryz.prog 15 #[] V fun e w' => ∃ ta tc ra rc, e = .returned (.agg #[.slice ta 3 tc, .string ⟨#[]⟩, .int .i64 0, .slice ra 3 rc]) ∧ (∃ qs, OwnG w' V.heap.size ⟨ta, tc, ra, rc⟩ sumsG qs) ∧ Below V.heap.size V w') := fun V => (sums_calls V).mono (fun e w' ⟨⟨ta, tc, ra, rc⟩, qs, he, ho, hb⟩ => ⟨ta, tc, ra, rc, he, ⟨qs, ho⟩, hb⟩)
  go_enter Tryz.func8, Tryz.ntmps8
  go_wp2_with fail
  refine (HSM.out _).mono ?_
  rintro e V1 ⟨ta, tc, ra0, rc0, rfl, ho1, hB1⟩
  have H1 : Hid ((∃ qs, OwnG V1 w.heap.size ⟨ta, tc, ra0, rc0⟩ sumsG qs) ∧ Below w.heap.size w V1) := ⟨ho1, hB1⟩
  have HC : Hid (Calls Tryz.prog 10 #[.agg #[.slice ta 3 tc, .string ⟨#[]⟩, .int .i64 0, .slice ra0 3 rc0]] V1 fun e w' => ∃ na nc la lc aa ac ra rc, e = .returned (.tuple #[.agg #[.int .i64 3, .int .i64 1, .int .i64 4, .int .i64 0, .slice na 5 nc, .slice la 3 lc, .slice aa 3 ac, .slice ra 4 rc], .int .i64 0]) ∧ (IsSp w' ⟨na, nc, la, lc, aa, ac, ra, rc⟩ (spG sumsG) ∧ 4 ≤ rc ∧ rc ≤ 9223372036854775807) ∧ Below V1.heap.size V1 w') := by
    obtain ⟨qs, ho⟩ := ho1
    exact ofSums_calls V1 ⟨ta, tc, ra0, rc0⟩ (ho.isG sums_small)
  clear ho1 hB1
  go_wp2_with fail
  refine HC.out.mono ?_
  rintro e V2 ⟨na, nc, la, lc, aa, ac, ra, rc, rfl, ⟨hs, hl1, hl2⟩, hB2⟩
  have hv : Below V2.heap.size V2 (V2.alloc (.cells #[.int .i64 3, .int .i64 1, .int .i64 4, .int .i64 0, .slice na 5 nc, .slice la 3 lc, .slice aa 3 ac, .slice ra 4 rc] 32)) := below_alloc _ _
  have hx : (V2.alloc (.cells #[.int .i64 3, .int .i64 1, .int .i64 4, .int .i64 0, .slice na 5 nc, .slice la 3 lc, .slice aa 3 ac, .slice ra 4 rc] 32)).heap[V2.heap.size]? = some (.cells #[.int .i64 3, .int .i64 1, .int .i64 4, .int .i64 0, .slice na 5 nc, .slice la 3 lc, .slice aa 3 ac, .slice ra 4 rc] 32 (0, 0)) := heap_alloc_new _ _
  have H2 : Hid (IsSp (V2.alloc (.cells #[.int .i64 3, .int .i64 1, .int .i64 4, .int .i64 0, .slice na 5 nc, .slice la 3 lc, .slice aa 3 ac, .slice ra 4 rc] 32)) ⟨na, nc, la, lc, aa, ac, ra, rc⟩ (spG sumsG) ∧ (V2.alloc (.cells #[.int .i64 3, .int .i64 1, .int .i64 4, .int .i64 0, .slice na 5 nc, .slice la 3 lc, .slice aa 3 ac, .slice ra 4 rc] 32)).heap[V2.heap.size]? = some (.cells #[.int .i64 3, .int .i64 1, .int .i64 4, .int .i64 0, .slice na 5 nc, .slice la 3 lc, .slice aa 3 ac, .slice ra 4 rc] 32 (0, 0)) ∧ Below w.heap.size w (V2.alloc (.cells #[.int .i64 3, .int .i64 1, .int .i64 4, .int .i64 0, .slice na 5 nc, .slice la 3 lc, .slice aa 3 ac, .slice ra 4 rc] 32))) := ⟨hs.below hv, hx, below_step (below_step H1.out.2 hB2) hv⟩
  clear hs hv hx hB2 HC H1
  go_upto_region 2 with fail
  generalize V2.alloc (.cells #[.int .i64 3, .int .i64 1, .int .i64 4, .int .i64 0, .slice na 5 nc, .slice la 3 lc, .slice aa 3 ac, .slice ra 4 rc] 32) = V3 at H2 ⊢
  generalize V2.heap.size = sb at H2 ⊢
  go_wp2_with fail
  refine (HSM.out _).mono ?_
  rintro e V4 ⟨ta2, tc2, ra2, rc2, rfl, ⟨qs2, ho2⟩, hB4⟩
  have hv : Below V4.heap.size V4 (V4.alloc (.cells #[.slice ta2 3 tc2, .string ⟨#[]⟩, .int .i64 0, .slice ra2 3 rc2] 25)) := below_alloc _ _
  have hx : (V4.alloc (.cells #[.slice ta2 3 tc2, .string ⟨#[]⟩, .int .i64 0, .slice ra2 3 rc2] 25)).heap[V4.heap.size]? = some (.cells #[.slice ta2 3 tc2, .string ⟨#[]⟩, .int .i64 0, .slice ra2 3 rc2] 25 (0, 0)) := heap_alloc_new _ _
  have HV5 : Hid (OwnG (V4.alloc (.cells #[.slice ta2 3 tc2, .string ⟨#[]⟩, .int .i64 0, .slice ra2 3 rc2] 25)) V3.heap.size ⟨ta2, tc2, ra2, rc2⟩ sumsG qs2 ∧ (V4.alloc (.cells #[.slice ta2 3 tc2, .string ⟨#[]⟩, .int .i64 0, .slice ra2 3 rc2] 25)).heap[V4.heap.size]? = some (.cells #[.slice ta2 3 tc2, .string ⟨#[]⟩, .int .i64 0, .slice ra2 3 rc2] 25 (0, 0)) ∧ Below V3.heap.size V3 (V4.alloc (.cells #[.slice ta2 3 tc2, .string ⟨#[]⟩, .int .i64 0, .slice ra2 3 rc2] 25)) ∧ V3.heap.size ≤ V4.heap.size) := ⟨ho2.below hv, hx, below_step hB4 hv, hB4.size⟩
  clear ho2 hv hx hB4 HSM
  go_upto_region 3 with fail
  generalize V4.alloc (.cells #[.slice ta2 3 tc2, .string ⟨#[]⟩, .int .i64 0, .slice ra2 3 rc2] 25) = V5 at HV5 ⊢
  generalize V4.heap.size = gb at HV5 ⊢
  -- the rule more
  have hv : Below V5.heap.size V5 (V5.alloc (.cells #[.string ⟨#[120]⟩] 9)) := below_alloc _ _
  have ownx : OwnS (V5.alloc (.cells #[.string ⟨#[120]⟩] 9)) V3.heap.size (.slice (some ⟨V5.heap.size, 0, none⟩) 1 1) [bX] := own_new V5 V3.heap.size 9 1 1 [.string bX] HV5.out.2.2.1.size rfl (by omega)
  obtain ⟨g, c, V6, hr1, ho6, hk6, far6⟩ := (HV5.out.1.below hv).addRu (⟨bX, [bX], e0⟩, some ⟨V5.heap.size, 0, none⟩, 1) 3 rfl ownx (by rw [size_alloc1]; have := HV5.out.2.2.1.size; omega) (by omega)
  have hr1' : (Builtin.append_ #[23, 23] 23 #[.slice ra2 3 rc2, .slice (some ⟨V5.heap.size + 1, 0, none⟩) 1 1]).run Tryz.prog ((V5.alloc (.cells #[.string ⟨#[120]⟩] 9)).alloc (.cells #[.string ⟨#[120]⟩, .slice (some ⟨V5.heap.size, 0, none⟩) 1 1, .string ⟨#[]⟩] 46)) = .ok (.slice (some ⟨g, 0, none⟩) 4 c) V6 := by
    rw [size_alloc1] at hr1
    exact hr1
  have hbx6 := far6 gb 25 _ (block_below hv HV5.out.2.1) (by decide)
  have p3 : V5.cell? ⟨gb, 3, none⟩ = some (.slice ra2 3 rc2) := (box4 HV5.out.2.1).2.2.2
  have y3 : V6.cell? ⟨gb, 3, none⟩ = some (.slice ra2 3 rc2) := (box4 hbx6).2.2.2
  have f3 : V6.frozen? ⟨gb, 3, none⟩ = false := frozen_block hbx6 3
  have HV7 : Hid (OwnG (V6.setCell ⟨gb, 3, none⟩ (.slice (some ⟨g, 0, none⟩) 4 c)) V3.heap.size ⟨ta2, tc2, some ⟨g, 0, none⟩, c⟩ sumsX (qs2 ++ [(⟨bX, [bX], e0⟩, some ⟨V5.heap.size, 0, none⟩, 1)]) ∧ (V6.setCell ⟨gb, 3, none⟩ (.slice (some ⟨g, 0, none⟩) 4 c)).heap[gb]? = some (.cells #[.slice ta2 3 tc2, .string ⟨#[]⟩, .int .i64 0, .slice (some ⟨g, 0, none⟩) 4 c] 25 (0, 0)) ∧ Below V3.heap.size V3 (V6.setCell ⟨gb, 3, none⟩ (.slice (some ⟨g, 0, none⟩) 4 c))) := by
    have hne : ∀ {E k n : Nat} {v : Value} {cs : List Value}, V6.ownsRow V3.heap.size E k v n cs → E ≠ 25 → (V6.setCell ⟨gb, 3, none⟩ (.slice (some ⟨g, 0, none⟩) 4 c)).ownsRow V3.heap.size E k v n cs := fun ho hE => ownsRow_of_block ho (fun i hi => Below.heap_setCell _ _ _ _ (loc_ne (own_loc ho hi) ⟨_, hbx6⟩ hE))
    refine ⟨⟨hne ho6.tok (by decide), hne ho6.rul (by decide), ho6.map, fun q hq => hne (ho6.row q hq) (by decide)⟩, ?_, ?_⟩
    · rw [setCell_heap _ hbx6]
      rfl
    · refine ((below_step HV5.out.2.2.1 hv).trans (hk6.below (below_step HV5.out.2.2.1 hv).size (fun k hk e => ?_))).setCell (p := ⟨gb, 3, none⟩) HV5.out.2.2.2 _
      have := (own_blt (HV5.out.1.below hv).rul e).1
      omega
  clear hv ownx hr1 ho6 hk6 far6 hbx6 HV5
  go_upto_region 4 with (at_builtin; refine Lib.wpList_append_run _ rfl _ _ _ _ rfl _ _ rfl rfl _ _ hr1' ?_)
  generalize V6.setCell ⟨gb, 3, none⟩ (.slice (some ⟨g, 0, none⟩) 4 c) = V7 at HV7 ⊢
  clear hr1' p3 y3 f3
  obtain ⟨p0, p1, p2, p3⟩ := box4 HV7.out.2.1
  have HC : Hid (Calls Tryz.prog 10 #[.agg #[.slice ta2 3 tc2, .string ⟨#[]⟩, .int .i64 0, .slice (some ⟨g, 0, none⟩) 4 c]] V7 fun e w' => e = .returned (.tuple #[.agg zC, .int .i64 8]) ∧ Below V7.heap.size V7 w') := ofBad_calls sumsX 8 V7 ⟨ta2, tc2, some ⟨g, 0, none⟩, c⟩ (HV7.out.1.isG sumsX_small) sumsX_of (by decide)
  unfold zC sC at HC
  go_wp2_with fail
  refine HC.out.mono ?_
  rintro e V8 ⟨rfl, hB8⟩
  have H8 : Hid (Below V3.heap.size V3 V8) := below_step HV7.out.2.2 hB8
  clear hB8 HC HV7 p0 p1 p2 p3
  have HC : Hid (∀ V : World, Calls Tryz.prog 10 #[.agg #[.slice none 0 0, .string ⟨#[]⟩, .int .i64 0, .slice none 0 0]] V fun e w' => e = .returned (.tuple #[.agg zC, .int .i64 7]) ∧ Below V.heap.size V w') := fun V => ofBad_calls noneG 7 V ⟨none, 0, none, 0⟩ (none_isG V) none_of (by decide)
  unfold zC sC at HC
  go_wp2_with fail
  refine (HC.out _).mono ?_
  rintro e V9 ⟨rfl, hB9⟩
  have hw9 := block_below (below_step H8.out (below_step (below_alloc _ _) hB9)) H2.out.2.1
  have H9 : Hid (IsSp V9 ⟨na, nc, la, lc, aa, ac, ra, rc⟩ (spG sumsG) ∧ V9.heap[sb]? = some (.cells #[.int .i64 3, .int .i64 1, .int .i64 4, .int .i64 0, .slice na 5 nc, .slice la 3 lc, .slice aa 3 ac, .slice ra 4 rc] 32 (0, 0)) ∧ Below w.heap.size w V9) := ⟨H2.out.1.below (below_step H8.out (below_step (below_alloc _ _) hB9)), hw9, below_step H2.out.2.2 (below_step H8.out (below_step (below_alloc _ _) hB9))⟩
  clear hw9 hB9 HC H8 H2
  have hv : Below V9.heap.size V9 (V9.alloc (.cells zC 32)) := below_alloc _ _
  have HA : Hid (IsSp (V9.alloc (.cells zC 32)) ⟨na, nc, la, lc, aa, ac, ra, rc⟩ (spG sumsG) ∧ (V9.alloc (.cells zC 32)).heap[sb]? = some (.cells #[.int .i64 3, .int .i64 1, .int .i64 4, .int .i64 0, .slice na 5 nc, .slice la 3 lc, .slice aa 3 ac, .slice ra 4 rc] 32 (0, 0)) ∧ Below w.heap.size w (V9.alloc (.cells zC 32))) := ⟨H9.out.1.below hv, block_below hv H9.out.2.1, below_step H9.out.2.2 hv⟩
  unfold zC sC at HA
  clear hv
  go_upto_region 6 with fail
  obtain ⟨VA, hVA⟩ : ∃ VA, VA = V9.alloc (.cells #[.int .i64 ((0 : Nat) : Int), .int .i64 ((0 : Nat) : Int), .int .i64 ((0 : Nat) : Int), .int .i64 0, .slice none ([] : List ByteArray).length 0, .slice none ([] : List Int).length 0, .slice none ([] : List Int).length 0, .slice none ([] : List SR).length 0] 32) := ⟨_, rfl⟩
  rw [← hVA] at HA
  have hVA' : V9.alloc (.cells #[.int .i64 0, .int .i64 0, .int .i64 0, .int .i64 0, .slice none 0 0, .slice none 0 0, .slice none 0 0, .slice none 0 0] 32) = VA := hVA.symm
  rw [hVA']
  clear hVA hVA' H9
  obtain ⟨c0, c1, c2, c3, c4, c5, c6, c7⟩ := box8 HA.out.2.1
  have HY : Hid (Calls Tryz.prog 17 #[.agg #[.int .i64 3, .int .i64 1, .int .i64 4, .int .i64 0, .slice na 5 nc, .slice la 3 lc, .slice aa 3 ac, .slice ra 4 rc]] VA fun e w' => ∃ fb, e = .returned (.slice (some ⟨fb, 0, none⟩) 5 5) ∧ w'.cell? ⟨fb, 4, none⟩ = some (.bool true) ∧ w'.cell? ⟨fb, 3, none⟩ = some (.bool false) ∧ Below VA.heap.size VA w') := ySums_calls VA ⟨na, nc, la, lc, aa, ac, ra, rc⟩ HA.out.1
  go_wp2_with fail
  refine HY.out.mono ?_
  rintro e VB ⟨fb, rfl, y4, y3, hBB⟩
  have HB : Hid (VB.heap[sb]? = some (.cells #[.int .i64 3, .int .i64 1, .int .i64 4, .int .i64 0, .slice na 5 nc, .slice la 3 lc, .slice aa 3 ac, .slice ra 4 rc] 32 (0, 0)) ∧ Below w.heap.size w VB ∧ VB.cell? ⟨fb, 4, none⟩ = some (.bool true) ∧ VB.cell? ⟨fb, 3, none⟩ = some (.bool false)) := ⟨block_below hBB HA.out.2.1, below_step HA.out.2.2 hBB, y4, y3⟩
  clear c0 c1 c2 c3 c4 c5 c6 c7 HY HA hBB y4 y3
  go_wp2_with fail
  refine (begun6b_calls VB (HP.out.below HB.out.2.1)).mono ?_
  rintro e VC ⟨rfl, hBC⟩
  obtain ⟨c0, c1, c2, c3, c4, c5, c6, c7⟩ := box8 (block_below hBC HB.out.1)
  have y4 := cell_below hBC HB.out.2.2.1
  have y3 := cell_below hBC HB.out.2.2.2
  have HE : Hid (Below w.heap.size w VC) := below_step HB.out.2.1 hBC
  clear hBC HB
  go_wp2_with fail
  go_ret
  exact ⟨rfl, HE.out⟩

end Go.Proofs.YtebehlmidoencaaGreatDoor

/-
  Both Of told in one way; EqSpec of what they tell.
-/
namespace Go.Proofs.YtebehlmidoencaaGreatDoor
open Go.RowKit

set_option maxRecDepth 20000

def zS : Sp := ⟨0, 0, 0, 0, [], [], [], []⟩
/-- What is told with the number k. -/
def spK (G : Gm) (k : Int) : Sp := if k = 0 then spG G else zS

theorem zS_is (w : World) : IsSp w ⟨none, 0, none, 0, none, 0, none, 0⟩ zS :=
  have z : ∀ (k : Nat), Row w k none 0 0 [] := fun k => ⟨by simp, Nat.le_refl _, Nat.zero_le _, .inl ⟨rfl, rfl, rfl⟩⟩
  ⟨z 1, z 1, z 1, ⟨[], rfl, z 4, fun q h => (by cases h)⟩⟩

theorem of_uni (G : Gm) (h : Hd) (w : World) (k : Int) (hG : IsG w h G) (hk : OfR G k) : Calls Tryz.prog 10 #[gv h G] w fun e w' => ∃ h', e = .returned (.tuple #[.agg (sC h' (spK G k)), .int .i64 k]) ∧ IsSp w' h' (spK G k) ∧ Below w.heap.size w w' := by
  refine (of_calls G h w k hG hk).mono ?_
  rintro e w' ⟨h1, hb⟩
  unfold spK
  rcases h1 with ⟨h1, rfl⟩ | ⟨rfl, h', rfl, hs⟩
  · rw [if_neg h1]
    exact ⟨⟨none, 0, none, 0, none, 0, none, 0⟩, rfl, zS_is _, hb⟩
  · rw [if_pos rfl]
    exact ⟨h', rfl, hs, hb⟩

theorem rof_uni (G : Gm) (h : Hd) (w : World) (k : Int) (hG : IsG w h G) (hk : OfR G k) : Calls Tryz.prog 11 #[gv h G] w fun e w' => ∃ h', e = .returned (.tuple #[.agg (sC h' (spK G k)), .int .i64 k]) ∧ IsSp w' h' (spK G k) ∧ Below w.heap.size w w' := by
  refine (rof_calls G h w k hG hk).mono ?_
  rintro e w' ⟨h1, hb⟩
  unfold spK
  rcases h1 with ⟨h1, rfl⟩ | ⟨rfl, h', rfl, hs⟩
  · rw [if_neg h1]
    exact ⟨⟨none, 0, none, 0, none, 0, none, 0⟩, rfl, zS_is _, hb⟩
  · rw [if_pos rfl]
    exact ⟨h', rfl, hs, hb⟩

theorem eq_uni (G : Gm) (hG : Small G) (k : Int) (h1 h2 : SHd) (w : World) (s1 : IsSp w h1 (spK G k)) (s2 : IsSp w h2 (spK G k)) : Calls Tryz.prog 12 #[.agg (sC h1 (spK G k)), .agg (sC h2 (spK G k))] w fun e w' => e = .returned (.bool true) ∧ Below w.heap.size w w' := by
  have a1 := hG.nt
  have a2 := hG.nr
  have a3 := lfs_le G.rs
  refine reqs_calls (spK G k) h1 h2 w s1 s2 ?_ ?_ ?_ ?_ ?_ <;> unfold spK <;> split
  · show (nmG G).length ≤ 1000
    rw [nmG_len]; omega
  · show 0 ≤ 1000; omega
  · show (G.ts.map (·.l)).length ≤ 1000
    rw [List.length_map]; omega
  · show 0 ≤ 1000; omega
  · show (G.ts.map (·.a)).length ≤ 1000
    rw [List.length_map]; omega
  · show 0 ≤ 1000; omega
  · show (_ :: G.rs.map (ruG G)).length ≤ 1000
    rw [List.length_cons, List.length_map]; omega
  · show 0 ≤ 1000; omega
  · intro r hr
    have hr : r = ⟨-1, [stG G], 0, 0⟩ ∨ r ∈ G.rs.map (ruG G) := List.mem_cons.1 hr
    rcases hr with rfl | hr
    · show 1 ≤ 1000; omega
    · obtain ⟨q, hq, rfl⟩ := List.mem_map.1 hr
      have := (hG.rl q hq).2.2.1
      show (q.r.map _).length ≤ 1000
      rw [List.length_map]; omega
  · intro r hr; cases hr

end Go.Proofs.YtebehlmidoencaaGreatDoor

/-
  The walk of sets: both are told alike.
-/
namespace Go.Proofs.YtebehlmidoencaaGreatDoor
open Go.RowKit

set_option maxRecDepth 20000

set_option maxHeartbeats 8000000 in
theorem sets_calls (w : World) (h : SHd) (S : Sp) (hwf : WF S) (hsp : IsSp w h S) : Calls Tryz.prog 13 #[sv h S] w fun e w' => e = .returned (.bool true) ∧ Below w.heap.size w w' := by
  obtain ⟨n, hnn⟩ : ∃ n, n = S.tk + 1 + S.nt := ⟨_, rfl⟩
  have hn : n ≤ 1000 := by have := hwf.tk; have := hwf.nt; omega
  have HY17 : Hid (∀ V : World, Below w.heap.size w V → Calls Tryz.prog 17 #[.agg (sC h S)] V fun e w' => BRes V w' n (Der S) e) := fun V hV => yields_calls V h S n hnn hwf (hsp.below hV)
  have HR37 : Hid (∀ V : World, Below w.heap.size w V → Calls Tryz.prog 37 #[.agg (sC h S)] V fun e w' => BRes V w' n (Rch S) e) := fun V hV => reached_calls V h S n hnn hwf (hsp.below hV)
  have HY34 : Hid (∀ V : World, Below w.heap.size w V → Calls Tryz.prog 34 #[.agg (sC h S)] V fun e w' => BRes V w' n (Der S) e) := fun V hV => ryields_calls V h S n hnn hwf (hsp.below hV)
  have HR35 : Hid (∀ V : World, Below w.heap.size w V → Calls Tryz.prog 35 #[.agg (sC h S)] V fun e w' => BRes V w' n (Rch S) e) := fun V hV => rreached_calls V h S n hnn hwf (hsp.below hV)
  have hB0 : Below w.heap.size w (w.alloc (.cells (sC h S) 32)) := below_alloc _ _
  have hs0 : (w.alloc (.cells (sC h S) 32)).heap[w.heap.size]? = some (.cells (sC h S) 32 (0, 0)) := heap_alloc_new _ _
  clear hwf hsp hnn
  unfold sv
  obtain ⟨s3, hs3⟩ : ∃ s3, sC h S = s3 := ⟨_, rfl⟩
  have hs3' := hs3
  unfold sC at hs3'
  subst hs3'
  unfold sC
  unfold sC at HY17 HR37 HY34 HR35
  go_enter Tryz.func13, Tryz.ntmps13
  go_upto_region 1 with fail
  have e0 : w.alloc (.cells #[.int .i64 (S.tk : Int), .int .i64 (S.nt : Int), .int .i64 (S.st : Int), .int .i64 S.ex, .slice h.na S.nm.length h.nc, .slice h.la S.lv.length h.lc, .slice h.aa S.az.length h.ac, .slice h.ra S.rs.length h.rc] 32) = w.alloc (.cells (sC h S) 32) := rfl
  rw [e0]
  generalize w.alloc (.cells (sC h S) 32) = W0 at hB0 hs0 ⊢
  obtain ⟨b1, HB1⟩ : ∃ b1, Hid (b1 = w.heap.size) := ⟨_, rfl⟩
  rw [← HB1.out] at hs0 ⊢
  have CC : Hid (∀ V : World, V.heap[b1]? = some (.cells (sC h S) 32 (0, 0)) → V.cell? ⟨b1, 0, none⟩ = some (.int .i64 (S.tk : Int)) ∧ V.cell? ⟨b1, 1, none⟩ = some (.int .i64 (S.nt : Int)) ∧ V.cell? ⟨b1, 2, none⟩ = some (.int .i64 (S.st : Int)) ∧ V.cell? ⟨b1, 3, none⟩ = some (.int .i64 S.ex) ∧ V.cell? ⟨b1, 4, none⟩ = some (.slice h.na S.nm.length h.nc) ∧ V.cell? ⟨b1, 5, none⟩ = some (.slice h.la S.lv.length h.lc) ∧ V.cell? ⟨b1, 6, none⟩ = some (.slice h.aa S.az.length h.ac) ∧ V.cell? ⟨b1, 7, none⟩ = some (.slice h.ra S.rs.length h.rc)) := fun V hV => sbox hV
  have KYS : Hid (∀ U V : World, (Below w.heap.size w U ∧ U.heap[b1]? = some (.cells (sC h S) 32 (0, 0))) → Below U.heap.size U V → (Below w.heap.size w V ∧ V.heap[b1]? = some (.cells (sC h S) 32 (0, 0)))) := fun U V h1 h2 => ⟨below_step h1.1 h2, block_below h2 h1.2⟩
  have HW0 : Hid (Below w.heap.size w W0 ∧ W0.heap[b1]? = some (.cells (sC h S) 32 (0, 0))) := ⟨hB0, hs0⟩
  clear e0 hB0 hs0 HB1 hs3
  have HS0 : Hid ((Below w.heap.size w W0.drew ∧ W0.drew.heap[b1]? = some (.cells (sC h S) 32 (0, 0)))) := KYS.out _ _ HW0.out (below_drew' _)
  obtain ⟨c0, c1, c2, c3, c4, c5, c6, c7⟩ := CC.out W0 HW0.out.2
  go_cut [3, 4] (fun s3 s4 wd => ∃ f1 f2 : Nat, s3 = .slice (some ⟨f1, 0, none⟩) n n ∧ s4 = .slice (some ⟨f2, 0, none⟩) n n ∧ Hid (∃ d1 d2 : List Bool, d1.length = n ∧ d2.length = n ∧ Tells (Der S) d1 ∧ Tells (Rch S) d2 ∧ wd.ownsRow 0 4 1 (.slice (some ⟨f1, 0, none⟩) n n) n (booC d1) ∧ wd.ownsRow 0 4 1 (.slice (some ⟨f2, 0, none⟩) n n) n (booC d2) ∧ (Below w.heap.size w wd ∧ wd.heap[b1]? = some (.cells (sC h S) 32 (0, 0))) ∧ Below W0.heap.size W0 wd))
  case first =>
    go_region_with (first
      | (go_at_call 17; refine (HY17.out _ (by first | exact HS0.out.1 | exact HSR2.out.1)).mono ?_; rintro e VY ⟨fy, dy, rfl, ly, oy, ty, hBY⟩; have HSY2 : Hid ((Below w.heap.size w VY ∧ VY.heap[b1]? = some (.cells (sC h S) 32 (0, 0)))) := (by first | exact KYS.out _ _ HS0.out hBY | exact KYS.out _ _ HSR2.out hBY); obtain ⟨y0, y1, y2, y3, y4, y5, y6, y7⟩ := CC.out VY HSY2.out.2)
      | (go_at_call 37; refine (HR37.out _ (by first | exact HS0.out.1 | exact HSY2.out.1)).mono ?_; rintro e VR ⟨fr, dr, rfl, lr, or_, tr, hBR⟩; have HSR2 : Hid ((Below w.heap.size w VR ∧ VR.heap[b1]? = some (.cells (sC h S) 32 (0, 0)))) := (by first | exact KYS.out _ _ HS0.out hBR | exact KYS.out _ _ HSY2.out hBR); obtain ⟨x0, x1, x2, x3, x4, x5, x6, x7⟩ := CC.out VR HSR2.out.2))
    all_goals first
      | (have HF : Hid (∃ d1 d2 : List Bool, d1.length = n ∧ d2.length = n ∧ Tells (Der S) d1 ∧ Tells (Rch S) d2 ∧ VR.ownsRow 0 4 1 (.slice (some ⟨fy, 0, none⟩) n n) n (booC d1) ∧ VR.ownsRow 0 4 1 (.slice (some ⟨fr, 0, none⟩) n n) n (booC d2) ∧ (Below w.heap.size w VR ∧ VR.heap[b1]? = some (.cells (sC h S) 32 (0, 0))) ∧ Below W0.heap.size W0 VR) := ⟨dy, dr, ly, lr, ty, tr, own_step (own_mono oy (Nat.zero_le _)) hBR, own_mono or_ (Nat.zero_le _), HSR2.out, below_step (below_step (below_drew' _) hBY) hBR⟩
         clear y0 y1 y2 y3 y4 y5 y6 y7 x0 x1 x2 x3 x4 x5 x6 x7 oy or_ ly lr ty tr hBY hBR
         go_wp2_with fail
         go_meet
         exact ⟨fy, fr, rfl, rfl, HF⟩)
      | (have HF : Hid (∃ d1 d2 : List Bool, d1.length = n ∧ d2.length = n ∧ Tells (Der S) d1 ∧ Tells (Rch S) d2 ∧ VY.ownsRow 0 4 1 (.slice (some ⟨fy, 0, none⟩) n n) n (booC d1) ∧ VY.ownsRow 0 4 1 (.slice (some ⟨fr, 0, none⟩) n n) n (booC d2) ∧ (Below w.heap.size w VY ∧ VY.heap[b1]? = some (.cells (sC h S) 32 (0, 0))) ∧ Below W0.heap.size W0 VY) := ⟨dy, dr, ly, lr, ty, tr, own_mono oy (Nat.zero_le _), own_step (own_mono or_ (Nat.zero_le _)) hBY, HSY2.out, below_step (below_step (below_drew' _) hBR) hBY⟩
         clear y0 y1 y2 y3 y4 y5 y6 y7 x0 x1 x2 x3 x4 x5 x6 x7 oy or_ ly lr ty tr hBY hBR
         go_wp2_with fail
         go_meet
         exact ⟨fy, fr, rfl, rfl, HF⟩)
  case rest =>
    obtain ⟨f1, f2, rfl, rfl, J0⟩ := hcut
    obtain ⟨w2, hw2⟩ : ∃ w2, w2 = wc := ⟨_, rfl⟩
    subst wc
    clear c0 c1 c2 c3 c4 c5 c6 c7 HY17 HR37 HW0 HS0
    obtain ⟨d1, d2, l1, l2, t1, t2, o1, o2, kw2, -⟩ := J0.out
    have HJ : Hid (d1.length = n ∧ d2.length = n ∧ Tells (Der S) d1 ∧ Tells (Rch S) d2 ∧ w2.ownsRow 0 4 1 (.slice (some ⟨f1, 0, none⟩) n n) n (booC d1) ∧ w2.ownsRow 0 4 1 (.slice (some ⟨f2, 0, none⟩) n n) n (booC d2)) := ⟨l1, l2, t1, t2, o1, o2⟩
    have HW2 : Hid (Below w.heap.size w w2 ∧ w2.heap[b1]? = some (.cells (sC h S) 32 (0, 0))) := kw2
    clear l1 l2 t1 t2 o1 o2 J0 kw2
    go_upto_region 2 with fail
    have HS0 : Hid ((Below w.heap.size w w2.drew ∧ w2.drew.heap[b1]? = some (.cells (sC h S) 32 (0, 0)))) := KYS.out _ _ HW2.out (below_drew' _)
    obtain ⟨c0, c1, c2, c3, c4, c5, c6, c7⟩ := CC.out w2 HW2.out.2
    go_cut [5, 6] (fun s3 s4 wd => ∃ f1 f2 : Nat, s3 = .slice (some ⟨f1, 0, none⟩) n n ∧ s4 = .slice (some ⟨f2, 0, none⟩) n n ∧ Hid (∃ d1 d2 : List Bool, d1.length = n ∧ d2.length = n ∧ Tells (Der S) d1 ∧ Tells (Rch S) d2 ∧ wd.ownsRow 0 4 1 (.slice (some ⟨f1, 0, none⟩) n n) n (booC d1) ∧ wd.ownsRow 0 4 1 (.slice (some ⟨f2, 0, none⟩) n n) n (booC d2) ∧ (Below w.heap.size w wd ∧ wd.heap[b1]? = some (.cells (sC h S) 32 (0, 0))) ∧ Below w2.heap.size w2 wd))
    case first =>
      go_region_with (first
        | (go_at_call 34; refine (HY34.out _ (by first | exact HS0.out.1 | exact HSR2.out.1)).mono ?_; rintro e VY ⟨fy, dy, rfl, ly, oy, ty, hBY⟩; have HSY2 : Hid ((Below w.heap.size w VY ∧ VY.heap[b1]? = some (.cells (sC h S) 32 (0, 0)))) := (by first | exact KYS.out _ _ HS0.out hBY | exact KYS.out _ _ HSR2.out hBY); obtain ⟨y0, y1, y2, y3, y4, y5, y6, y7⟩ := CC.out VY HSY2.out.2)
        | (go_at_call 35; refine (HR35.out _ (by first | exact HS0.out.1 | exact HSY2.out.1)).mono ?_; rintro e VR ⟨fr, dr, rfl, lr, or_, tr, hBR⟩; have HSR2 : Hid ((Below w.heap.size w VR ∧ VR.heap[b1]? = some (.cells (sC h S) 32 (0, 0)))) := (by first | exact KYS.out _ _ HS0.out hBR | exact KYS.out _ _ HSY2.out hBR); obtain ⟨x0, x1, x2, x3, x4, x5, x6, x7⟩ := CC.out VR HSR2.out.2))
      all_goals first
        | (have HF : Hid (∃ d1 d2 : List Bool, d1.length = n ∧ d2.length = n ∧ Tells (Der S) d1 ∧ Tells (Rch S) d2 ∧ VR.ownsRow 0 4 1 (.slice (some ⟨fy, 0, none⟩) n n) n (booC d1) ∧ VR.ownsRow 0 4 1 (.slice (some ⟨fr, 0, none⟩) n n) n (booC d2) ∧ (Below w.heap.size w VR ∧ VR.heap[b1]? = some (.cells (sC h S) 32 (0, 0))) ∧ Below w2.heap.size w2 VR) := ⟨dy, dr, ly, lr, ty, tr, own_step (own_mono oy (Nat.zero_le _)) hBR, own_mono or_ (Nat.zero_le _), HSR2.out, below_step (below_step (below_drew' _) hBY) hBR⟩
           clear y0 y1 y2 y3 y4 y5 y6 y7 x0 x1 x2 x3 x4 x5 x6 x7 oy or_ ly lr ty tr hBY hBR
           go_wp2_with fail
           go_meet
           exact ⟨fy, fr, rfl, rfl, HF⟩)
        | (have HF : Hid (∃ d1 d2 : List Bool, d1.length = n ∧ d2.length = n ∧ Tells (Der S) d1 ∧ Tells (Rch S) d2 ∧ VY.ownsRow 0 4 1 (.slice (some ⟨fy, 0, none⟩) n n) n (booC d1) ∧ VY.ownsRow 0 4 1 (.slice (some ⟨fr, 0, none⟩) n n) n (booC d2) ∧ (Below w.heap.size w VY ∧ VY.heap[b1]? = some (.cells (sC h S) 32 (0, 0))) ∧ Below w2.heap.size w2 VY) := ⟨dy, dr, ly, lr, ty, tr, own_mono oy (Nat.zero_le _), own_step (own_mono or_ (Nat.zero_le _)) hBY, HSY2.out, below_step (below_step (below_drew' _) hBR) hBY⟩
           clear y0 y1 y2 y3 y4 y5 y6 y7 x0 x1 x2 x3 x4 x5 x6 x7 oy or_ ly lr ty tr hBY hBR
           go_wp2_with fail
           go_meet
           exact ⟨fy, fr, rfl, rfl, HF⟩)
    case rest =>
      obtain ⟨f3, f4, rfl, rfl, J0⟩ := hcut
      obtain ⟨w4, hw4⟩ : ∃ w4, w4 = wc := ⟨_, rfl⟩
      subst wc
      clear c0 c1 c2 c3 c4 c5 c6 c7 HY34 HR35 HS0 CC KYS
      obtain ⟨d3, d4, l3, l4, t3, t4, o3, o4, kw4, hb4⟩ := J0.out
      obtain rfl : d1 = d3 := tells_eq (by rw [HJ.out.1, l3]) HJ.out.2.2.1 t3
      obtain rfl : d2 = d4 := tells_eq (by rw [HJ.out.2.1, l4]) HJ.out.2.2.2.1 t4
      have HL : Hid (d1.length = n ∧ d2.length = n) := ⟨l3, l4⟩
      have HK : Hid (w4.ownsRow 0 4 1 (.slice (some ⟨f1, 0, none⟩) n n) n (booC d1) ∧ w4.ownsRow 0 4 1 (.slice (some ⟨f2, 0, none⟩) n n) n (booC d2) ∧ w4.ownsRow 0 4 1 (.slice (some ⟨f3, 0, none⟩) n n) n (booC d1) ∧ w4.ownsRow 0 4 1 (.slice (some ⟨f4, 0, none⟩) n n) n (booC d2) ∧ Below w.heap.size w w4) := ⟨own_step HJ.out.2.2.2.2.1 hb4, own_step HJ.out.2.2.2.2.2 hb4, o3, o4, kw4.1⟩
      clear l3 l4 t3 t4 o3 o4 kw4 hb4 J0 HJ HW2
      go_wp2_with fail
      go_loopg [7] n (fun kx s7 wr => ∃ k : Nat, s7 = .int .i64 k ∧ k ≤ n ∧ n - k ≤ kx ∧ Hid (wr.ownsRow 0 4 1 (.slice (some ⟨f1, 0, none⟩) n n) n (booC d1) ∧ wr.ownsRow 0 4 1 (.slice (some ⟨f2, 0, none⟩) n n) n (booC d2) ∧ wr.ownsRow 0 4 1 (.slice (some ⟨f3, 0, none⟩) n n) n (booC d1) ∧ wr.ownsRow 0 4 1 (.slice (some ⟨f4, 0, none⟩) n n) n (booC d2) ∧ Below w.heap.size w wr))
      case atStart => exact ⟨0, rfl, Nat.zero_le _, by omega, HK⟩
      case round =>
        obtain ⟨k, rfl, hk, hg, J⟩ := hrel
        clear HK
        by_cases hlt : k < n
        · have hlt' : (k : Int) < (n : Int) := by omega
          have q1 : wr.cell? ⟨f1, k, none⟩ = some (.bool (isF d1 k)) := boo_at J.out.1 HL.out.1 hlt
          have q2 : wr.cell? ⟨f2, k, none⟩ = some (.bool (isF d2 k)) := boo_at J.out.2.1 HL.out.2 hlt
          have q3 : wr.cell? ⟨f3, k, none⟩ = some (.bool (isF d1 k)) := boo_at J.out.2.2.1 HL.out.1 hlt
          have q4 : wr.cell? ⟨f4, k, none⟩ = some (.bool (isF d2 k)) := boo_at J.out.2.2.2.1 HL.out.2 hlt
          generalize isF d1 k = x1 at q1 q3
          generalize isF d2 k = x2 at q2 q4
          have HJQ : Hid (∀ q, ((wr.drewN q).ownsRow 0 4 1 (.slice (some ⟨f1, 0, none⟩) n n) n (booC d1) ∧ (wr.drewN q).ownsRow 0 4 1 (.slice (some ⟨f2, 0, none⟩) n n) n (booC d2) ∧ (wr.drewN q).ownsRow 0 4 1 (.slice (some ⟨f3, 0, none⟩) n n) n (booC d1) ∧ (wr.drewN q).ownsRow 0 4 1 (.slice (some ⟨f4, 0, none⟩) n n) n (booC d2) ∧ Below w.heap.size w (wr.drewN q))) := fun q => by
            have hb := below_drewN (Below.refl wr.heap.size wr) q
            exact ⟨own_step J.out.1 hb, own_step J.out.2.1 hb, own_step J.out.2.2.1 hb, own_step J.out.2.2.2.1 hb, below_step J.out.2.2.2.2 hb⟩
          clear J
          have mx := mixed
          go_upto_region 8 with fail
          go_quiet (fail)
          go_wp2_with fail
          go_roundg (n - (k + 1))
          case measure => omega
          case rel => exact ⟨k + 1, by simp, by omega, Nat.le_refl _, HJQ.out _⟩
        · have hlt' : ¬ (k : Int) < (n : Int) := by omega
          go_wp2_with fail
          go_ret
          exact ⟨rfl, J.out.2.2.2.2⟩

end Go.Proofs.YtebehlmidoencaaGreatDoor

/-
  What the rows' condition on the tables gives the walks, and a world that meets it.
-/
namespace Go.Proofs.YtebehlmidoencaaGreatDoor
open Go.RowKit

def laid5 : List (String × DataW Unit) := [("math/bits.deBruijn32tab", Rows.laid_math_bits_deBruijn32tab), ("math/bits.deBruijn64tab", Rows.laid_math_bits_deBruijn64tab), ("internal/strconv.uint64pow10", Rows.laid_internal_strconv_uint64pow10), ("strconv.ErrRange", Rows.laid_strconv_ErrRange), ("strconv.ErrSyntax", Rows.laid_strconv_ErrSyntax)]

theorem own : ownKnob Tryz.prog.godebug = none := by kernel_rfl
theorem laidOut : laidOutB Tryz.prog = true := by kernel_rfl
theorem gPow : Tryz.prog.globalNamed "internal/strconv.uint64pow10" = some 3 := by kernel_rfl
theorem tPow : (Tryz.prog.globals[3]?).map (·.type) = some 176 := by kernel_rfl
theorem cells139 : Tryz.prog.cellsOf 162 = 1 := by kernel_rfl
theorem cells154 : Tryz.prog.cellsOf 176 = 20 := by kernel_rfl

theorem door_met (os : Os) (args : Array Value) : laidMetH Tryz.prog laid5 ((World.doorLaid Tryz.prog 97 os).forCall (fun _ _ => 0) ⟨#[], args, []⟩).memory :=
  laidMetH_of_parts3 (fuel := 8) (laidMet_of_run' 8 (by kernel_rfl) (by kernel_rfl)) (by kernel_rfl) (by kernel_rfl)

def powZ : List Int := [1, 10, 100, 1000, 10000, 100000, 1000000, 10000000, 100000000, 1000000000, 10000000000, 100000000000, 1000000000000, 10000000000000, 100000000000000, 1000000000000000, 10000000000000000, 100000000000000000, 1000000000000000000, 10000000000000000000]

theorem pow_of_laid {W : World} (h : laidMetH Tryz.prog laid5 W) : Pow W := by
  rw [MakeChecks.laidMetH_plain _ _ _ (by kernel_rfl)] at h
  obtain ⟨ps, ⟨_, _, _, _, _, _, _, _, _, _, ⟨_, _, _, _, _, _, _, _, _, _, ⟨g', t', cs, fuel, p, q, hg', ht', hvar, hd, _, _⟩, _⟩, _⟩, _⟩ := h
  obtain rfl := Option.some.inj (gPow.symm.trans hg')
  obtain rfl := Option.some.inj (tPow.symm.trans ht')
  have hT : Lib.TabIs Tryz.prog W "internal/strconv.uint64pow10" .u64 powZ := by
    unfold Lib.TabIs
    rw [hvar, ← Lib.cells_of_tab (zs := powZ) Tryz.underlying176 Tryz.underlying162 cells139 cells154 hd]
  intro i hi
  rw [hT.cell gPow i hi]
  have hz : ∀ j, j < 20 → powZ.getD j 0 = ((10 ^ j : Nat) : Int) := by decide
  rw [hz i hi]

end Go.Proofs.YtebehlmidoencaaGreatDoor
