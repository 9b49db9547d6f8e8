/-
  The walk of the reference's May.
-/
import Derived.Test.YtdgadamkiililaaDoorRtok
namespace Go.Proofs.YtdgadamkiililaaDoor
open Go.RowKit

/-- What stands in memory while tokens are looked at. -/
structure RM (ts : List Tk) (w wr : World) (k m : Nat) (l : List Int) : Prop where
  lev : levF (ts.take k) = some l
  top : TopL l m
  names : NamesTo ts k
  zero : (l[0]?).getD 0 = 0
  arr : wr.heap[w.heap.size]? = some (.cells (ar9 l) 46 (0, 0))
  bel : Below w.heap.size w wr

theorem RM.step {ts : List Tk} {w wr wr' : World} {k m : Nat} {l : List Int} (h : RM ts w wr k m l) (hb : Below wr.heap.size wr wr') : RM ts w wr' k m l :=
  ⟨h.lev, h.top, h.names, h.zero, block_below hb h.arr, below_step h.bel hb⟩

theorem RM.cell {ts : List Tk} {w wr : World} {k m : Nat} {l : List Int} (h : RM ts w wr k m l) {q : Nat} (hq : q < 9) : wr.cell? ⟨w.heap.size, q, none⟩ = some (.int .i64 ((l[q]?).getD 0)) := by
  rw [cell_block h.arr]; exact ar9_at (levF_length h.lev) hq

theorem RM.put {ts : List Tk} {w wr : World} {k k' m q : Nat} {l : List Int} {a : Int} (h : RM ts w wr k m l) (hl : levF (ts.take k') = some (l.set q a)) (hn : NamesTo ts k') (hq : q < 9) (ha : (q = 0 ∧ a = 0) ∨ (1 ≤ q ∧ a ≠ 0)) : RM ts w (wr.setCell ⟨w.heap.size, q, none⟩ (.int .i64 a)) k' (max m q) (l.set q a) := by
  refine ⟨hl, topL_set h.top (levF_length h.lev) hq ha, hn, ?_, ?_, h.bel.setCell (p := ⟨w.heap.size, q, none⟩) (Nat.le_refl _) _⟩
  · rw [getD_set l q 0 a (by rw [levF_length h.lev]; exact hq)]
    split
    · rcases ha with h1 | h1
      · exact h1.2
      · omega
    · exact h.zero
  rw [setCell_eq_setRow wr w.heap.size q _ 46 (0, 0) _ h.arr, ar9_set]
  exact setRow_heap _ _ _ _ 46 _ h.arr

theorem cell_set_ne {w : World} {a p : Addr} {v u : Value} (h : w.cell? a = some v) (hne : a.block ≠ p.block) : (w.setCell p u).cell? a = some v := by
  rw [← h]
  unfold World.cell?
  rw [Below.heap_setCell _ _ _ _ hne]

/-- A token's level and kind, told as the reference asks. -/
theorem lev_cases (n : ByteArray) (l a : Int) : (¬ LevP ⟨n, l, a⟩ ∧ (l < 0 ∨ (8 < l) ∨ (l = 0 ∧ a ≠ 0) ∨ (1 ≤ l ∧ l ≤ 8 ∧ a < 1) ∨ (1 ≤ l ∧ l ≤ 8 ∧ 3 < a))) ∨ (LevP ⟨n, l, a⟩ ∧ ((l = 0 ∧ a = 0) ∨ (1 ≤ l ∧ l ≤ 8 ∧ 1 ≤ a ∧ a ≤ 3))) := by
  unfold LevP
  simp only
  omega

set_option maxHeartbeats 8000000 in
set_option maxRecDepth 20000 in
theorem rmay_calls : MayCalls 11 := by
  intro G h w r hG hp
  obtain ⟨ts, st, ex, rs⟩ := G
  obtain ⟨ta, tc, ra, rc⟩ := h
  have HP : Hid (r = true ↔ MayP ⟨ts, st, ex, rs⟩) := hp
  have hm1 : ts.length ≤ tc ∧ tc ≤ 9223372036854775807 := by have h1 := hG.tok.le; have h2 := hG.tok.max; simp only at h1 h2; unfold maxLen at h2; omega
  have hm2 := rules_le hG.rul
  simp only at hm2
  have hs1 : ts.length ≤ 100 := hG.small.nt
  have hs2 : rs.length ≤ 200 := hG.small.nr
  have HG : Hid (IsG w ⟨ta, tc, ra, rc⟩ ⟨ts, st, ex, rs⟩) := hG
  have HNM : Hid (∀ W : World, Calls Tryd.prog 17 #[.string st] W fun e w' => e = .returned (.bool (nameOk (by8 st))) ∧ w' = W) := fun W => rname_calls st W (by have := hG.small.st; simp only at this; omega)
  unfold gv
  simp only
  clear hG hp
  obtain ⟨tn, HTN⟩ : ∃ n, Hid (ts.length = n) := ⟨_, rfl⟩
  obtain ⟨rn, HRN⟩ : ∃ n, Hid (rs.length = n) := ⟨_, rfl⟩
  rw [HTN.out] at hm1 hs1 ⊢
  rw [HRN.out] at hm2 hs2 ⊢
  obtain ⟨x, hx⟩ := bool_of (¬ (tn ≤ 40 ∧ rn ≤ 100 ∧ 0 ≤ ex ∧ ex ≤ 9999 ∧ NoneP st))
  have HX : Hid (x = true ↔ ¬ (tn ≤ 40 ∧ rn ≤ 100 ∧ 0 ≤ ex ∧ ex ≤ 9999 ∧ NoneP st)) := hx
  clear hx
  go_enter Tryd.func11, Tryd.ntmps11
  go_upto_region 1 with fail
  have c0 : (w.alloc (.cells #[.slice ta tn tc, .string st, .int .i64 ex, .slice ra rn rc] 25)).cell? ⟨w.heap.size, 0, none⟩ = some (.slice ta tn tc) := by rw [World.cell?_alloc_mark]; rfl
  have c1 : (w.alloc (.cells #[.slice ta tn tc, .string st, .int .i64 ex, .slice ra rn rc] 25)).cell? ⟨w.heap.size, 1, none⟩ = some (.string st) := by rw [World.cell?_alloc_mark]; rfl
  have c2 : (w.alloc (.cells #[.slice ta tn tc, .string st, .int .i64 ex, .slice ra rn rc] 25)).cell? ⟨w.heap.size, 2, none⟩ = some (.int .i64 ex) := by rw [World.cell?_alloc_mark]; rfl
  have c3 : (w.alloc (.cells #[.slice ta tn tc, .string st, .int .i64 ex, .slice ra rn rc] 25)).cell? ⟨w.heap.size, 3, none⟩ = some (.slice ra rn rc) := by rw [World.cell?_alloc_mark]; rfl
  have HB : Hid (Below w.heap.size w (w.alloc (.cells #[.slice ta tn tc, .string st, .int .i64 ex, .slice ra rn rc] 25)) ∧ IsG (w.alloc (.cells #[.slice ta tn tc, .string st, .int .i64 ex, .slice ra rn rc] 25)) ⟨ta, tc, ra, rc⟩ ⟨ts, st, ex, rs⟩) := ⟨below_alloc _ _, HG.out.below (below_alloc _ _)⟩
  generalize w.alloc (.cells #[.slice ta tn tc, .string st, .int .i64 ex, .slice ra rn rc] 25) = w0 at c0 c1 c2 c3 HB ⊢
  generalize w.heap.size = gb at c0 c1 c2 c3 ⊢
  clear HG
  go_cut [41] (fun s wd => s = .bool x ∧ wd = w0)
  case first =>
    by_cases h40 : 40 < tn
    · have HF : Hid (x = true) := b_true HX.out (by omega)
      have h40' : (40 : Int) < (tn : Int) := by omega
      go_wp2_with fail
      go_meet
      exact ⟨by rw [HF.out], rfl⟩
    have h40' : ¬ (40 : Int) < (tn : Int) := by omega
    by_cases h100 : 100 < rn
    · have HF : Hid (x = true) := b_true HX.out (by omega)
      have h100' : (100 : Int) < (rn : Int) := by omega
      go_wp2_with fail
      go_meet
      exact ⟨by rw [HF.out], rfl⟩
    have h100' : ¬ (100 : Int) < (rn : Int) := by omega
    by_cases he0 : ex < 0
    · have HF : Hid (x = true) := b_true HX.out (by omega)
      go_wp2_with fail
      go_meet
      exact ⟨by rw [HF.out], rfl⟩
    by_cases he1 : 9999 < ex
    · have HF : Hid (x = true) := b_true HX.out (by omega)
      go_wp2_with fail
      go_meet
      exact ⟨by rw [HF.out], rfl⟩
    have hst : (NoneP st ∧ (st.toList == []) = true) ∨ (NoneP st ∧ (st.toList == []) = false ∧ nameOk (by8 st) = true) ∨ (¬ NoneP st ∧ (st.toList == []) = false ∧ nameOk (by8 st) = false) := by
      unfold NoneP NameP
      rw [← toList_nil]
      cases (st.toList == []) <;> cases nameOk (by8 st) <;> simp
    rcases hst with ⟨hst, hs3⟩ | ⟨hst, hs3, hs4⟩ | ⟨hst, hs3, hs4⟩
    · have HF : Hid (x = false) := b_false HX.out (fun h => h ⟨by omega, by omega, by omega, by omega, hst⟩)
      clear hst
      go_wp2_with fail
      go_meet
      exact ⟨by rw [HF.out], rfl⟩
    · have HF : Hid (x = false) := b_false HX.out (fun h => h ⟨by omega, by omega, by omega, by omega, hst⟩)
      rw [hs4] at HNM
      clear hst
      go_wp2_with (go_at_call 17; refine (HNM.out _).mono ?_; rintro e w1 ⟨rfl, rfl⟩)
      go_meet
      exact ⟨by rw [HF.out], rfl⟩
    · have HF : Hid (x = true) := b_true HX.out (fun h => hst h.2.2.2.2)
      rw [hs4] at HNM
      clear hst
      go_wp2_with (go_at_call 17; refine (HNM.out _).mono ?_; rintro e w1 ⟨rfl, rfl⟩)
      go_meet
      exact ⟨by rw [HF.out], rfl⟩
  case rest =>
    obtain ⟨rfl, hwc⟩ := hcut
    subst wc
    cases x
    rotate_left
    · have HF : Hid (r = false) := b_false HP.out (fun h => HX.out.1 rfl ⟨by rw [← HTN.out]; exact h.nt, by rw [← HRN.out]; exact h.nr, h.e0, h.e1, h.st⟩)
      go_wp2_with fail
      go_ret
      exact ⟨by rw [HF.out]; rfl, HB.out.1⟩
    · have HP2 : Hid (r = true ↔ TokP ts ∧ ∀ r ∈ rs, RuleP r) := by
        have hc : tn ≤ 40 ∧ rn ≤ 100 ∧ 0 ≤ ex ∧ ex ≤ 9999 ∧ NoneP st := by
          rcases Classical.em (tn ≤ 40 ∧ rn ≤ 100 ∧ 0 ≤ ex ∧ ex ≤ 9999 ∧ NoneP st) with h | h
          · exact h
          · have := HX.out.2 h; cases this
        exact HP.out.trans ⟨fun h => ⟨h.tk, h.rl⟩, fun h => ⟨by simp only; rw [HTN.out]; exact hc.1, by simp only; rw [HRN.out]; exact hc.2.1, hc.2.2.1, hc.2.2.2.1, hc.2.2.2.2, h.1, h.2⟩⟩
      have C0 : Hid (∀ W : World, Below w0.heap.size w0 W → W.cell? ⟨gb, 0, none⟩ = some (.slice ta tn tc)) := fun W hW => cell_below hW c0
      have C1 : Hid (∀ W : World, Below w0.heap.size w0 W → W.cell? ⟨gb, 1, none⟩ = some (.string st)) := fun W hW => cell_below hW c1
      have C2 : Hid (∀ W : World, Below w0.heap.size w0 W → W.cell? ⟨gb, 2, none⟩ = some (.int .i64 ex)) := fun W hW => cell_below hW c2
      have C3 : Hid (∀ W : World, Below w0.heap.size w0 W → W.cell? ⟨gb, 3, none⟩ = some (.slice ra rn rc)) := fun W hW => cell_below hW c3
      clear HP HX HNM c0 c1 c2 c3
      go_upto_block 0 with fail
      go_cut [4] (fun s4 wd => ∃ m : Nat, s4 = .int .i64 m ∧ Hid (∃ l, RM ts w0 wd tn m l))
      case first =>
        go_wp2_with fail
        go_loopg [4, 5] tn (fun kx s4 s5 wr => ∃ k m : Nat, s4 = .int .i64 m ∧ s5 = .int .i64 k ∧ k ≤ tn ∧ m ≤ 8 ∧ tn - k ≤ kx ∧ Hid (∃ l, RM ts w0 wr k m l))
        case atStart => exact ⟨0, 0, rfl, rfl, Nat.zero_le _, Nat.zero_le _, by omega, (⟨zero9, rfl, topL_zero, NamesTo.zero ts, rfl, heap_alloc_new _ _, below_alloc _ _⟩ : ∃ l, RM ts w0 _ 0 0 l)⟩
        case round =>
          obtain ⟨k, m, rfl, rfl, hk, hm8, hg, J⟩ := hrel
          obtain ⟨l, JJ⟩ := J.out
          have JM : Hid (RM ts w0 wr k m l) := JJ
          clear J JJ
          have c0 := C0.out wr JM.out.bel
          by_cases hlt : k < tn
          · obtain ⟨t, ht⟩ : ∃ t, ts[k]? = some t := ⟨ts[k]'(by rw [HTN.out]; exact hlt), List.getElem?_eq_getElem _⟩
            have hrow := HB.out.2.tok.below JM.out.bel
            simp only at hrow
            obtain ⟨b, o, hta, p0, p1, p2⟩ := tok_at hrow ht
            subst hta
            have HT : Hid (ts[k]? = some t) := ht
            have hsz := HB.out.2.small.tk t (List.mem_of_getElem? ht)
            obtain ⟨nm, tl, tk⟩ := t
            simp only at p0 p1 p2 hsz
            clear ht hrow
            go_upto_region 9 with fail
            have HQ : Hid (RM ts w0 (wr.alloc (.cells #[.string nm, .int .i64 tl, .int .i64 tk] 35)) k m l) := JM.out.step (below_alloc _ _)
            have d0 : (wr.alloc (.cells #[.string nm, .int .i64 tl, .int .i64 tk] 35)).cell? ⟨wr.heap.size, 0, none⟩ = some (.string nm) := by rw [World.cell?_alloc_mark]; rfl
            have d1 : (wr.alloc (.cells #[.string nm, .int .i64 tl, .int .i64 tk] 35)).cell? ⟨wr.heap.size, 1, none⟩ = some (.int .i64 tl) := by rw [World.cell?_alloc_mark]; rfl
            have d2 : (wr.alloc (.cells #[.string nm, .int .i64 tl, .int .i64 tk] 35)).cell? ⟨wr.heap.size, 2, none⟩ = some (.int .i64 tk) := by rw [World.cell?_alloc_mark]; rfl
            generalize wr.alloc (.cells #[.string nm, .int .i64 tl, .int .i64 tk] 35) = wq at HQ d0 d1 d2 ⊢
            have HTB : Hid (w0.heap.size < wr.heap.size) := (Array.getElem?_eq_some_iff.1 JM.out.arr).1
            generalize wr.heap.size = tb at d0 d1 d2 HTB ⊢
            clear p0 p1 p2 JM c0
            have c0 := C0.out wq HQ.out.bel
            have c1 := C1.out wq HQ.out.bel
            have c2 := C2.out wq HQ.out.bel
            have c3 := C3.out wq HQ.out.bel
            obtain ⟨y, hy⟩ := bool_of (¬ (NameP nm ∧ ¬ hasN (ts.take k) nm ∧ LevP ⟨nm, tl, tk⟩))
            have HY : Hid (y = true ↔ ¬ (NameP nm ∧ ¬ hasN (ts.take k) nm ∧ LevP ⟨nm, tl, tk⟩)) := hy
            clear hy
            have H1 : Hid (∀ W : World, Calls Tryd.prog 17 #[.string nm] W fun e w' => e = .returned (.bool (nameOk (by8 nm))) ∧ w' = W) := fun W => rname_calls nm W (by omega)
            have H2 : Hid (Calls Tryd.prog 23 #[.agg #[.slice (some ⟨b, o, none⟩) tn tc, .string st, .int .i64 ex, .slice ra rn rc], .string nm] wq fun e w' => ∃ m : Nat, e = .returned (.int .i64 m) ∧ (m = k ↔ ¬ hasN (ts.take k) nm) ∧ Below wq.heap.size wq w') := by
              have := rtoken_calls ⟨ts, st, ex, rs⟩ ⟨some ⟨b, o, none⟩, tc, ra, rc⟩ wq (HB.out.2.below HQ.out.bel) nm k ⟨nm, tl, tk⟩ HT.out rfl
              unfold gv at this
              simp only at this
              rwa [HTN.out, HRN.out] at this
            go_cut [100] from 42 to 128 (fun s wd => s = .bool y ∧ Hid (Below wq.heap.size wq wd))
            case first =>
              cases hnm : nameOk (by8 nm)
              · have HF : Hid (y = true) := b_true HY.out (fun h => by have := h.1; unfold NameP at this; rw [hnm] at this; cases this)
                rw [hnm] at H1
                clear H2 hnm
                go_wp2_with (go_at_call 17; refine (H1.out _).mono ?_; rintro e w1 ⟨rfl, rfl⟩)
                go_meet
                exact ⟨by rw [HF.out], Below.refl _ _⟩
              · rw [hnm] at H1
                go_wp2_with (go_at_call 17; refine (H1.out _).mono ?_; rintro e w1 ⟨rfl, rfl⟩)
                refine H2.out.mono ?_
                rintro e w2 ⟨mk, rfl, hmk, hB⟩
                have HBB : Hid (Below w1.heap.size w1 w2) := hB
                have HMK : Hid (mk = k ↔ ¬ hasN (ts.take k) nm) := hmk
                have d1 := cell_below hB d1
                have d2 := cell_below hB d2
                clear hB hmk H1 H2 c0 c1 c2 c3 d0
                by_cases hmkk : mk = k
                · have hk1 : ((mk : Int) != (k : Int)) = false := by simp [hmkk]
                  rcases lev_cases nm tl tk with ⟨hno, hl⟩ | ⟨hyes, hl⟩
                  · have HF : Hid (y = true) := b_true HY.out (fun h => hno h.2.2)
                    clear hno hmkk
                    rcases hl with hl | hl | ⟨hl, ha⟩ | ⟨hl, hl2, ha⟩ | ⟨hl, hl2, ha⟩
                    · go_wp2_with fail
                      go_meet
                      exact ⟨by rw [HF.out], HBB.out⟩
                    · go_wp2_with fail
                      go_meet
                      exact ⟨by rw [HF.out], HBB.out⟩
                    · have hl1 : (tl == 0) = true := by simpa using hl
                      have ha1 : (tk != 0) = true := by simpa using ha
                      go_wp2_with fail
                      go_meet
                      exact ⟨by rw [HF.out], HBB.out⟩
                    · have hl1 : (tl == 0) = false := by simp; omega
                      go_wp2_with fail
                      go_meet
                      exact ⟨by rw [HF.out], HBB.out⟩
                    · have hl1 : (tl == 0) = false := by simp; omega
                      go_wp2_with fail
                      go_meet
                      exact ⟨by rw [HF.out], HBB.out⟩
                  · have HF : Hid (y = false) := b_false HY.out (fun h => h ⟨hnm, HMK.out.1 hmkk, hyes⟩)
                    clear hyes hmkk
                    rcases hl with ⟨hl, ha⟩ | ⟨hl, hl2, ha, ha2⟩
                    · have hl1 : (tl == 0) = true := by simpa using hl
                      have ha1 : (tk != 0) = false := by simpa using ha
                      go_wp2_with fail
                      go_meet
                      exact ⟨by rw [HF.out], HBB.out⟩
                    · have hl1 : (tl == 0) = false := by simp; omega
                      go_wp2_with fail
                      go_meet
                      exact ⟨by rw [HF.out]; simp; omega, HBB.out⟩
                · have hk1 : ((mk : Int) != (k : Int)) = true := by simp; omega
                  have HF : Hid (y = true) := b_true HY.out (fun h => hmkk (HMK.out.2 h.2.1))
                  clear hmkk
                  go_wp2_with fail
                  go_meet
                  exact ⟨by rw [HF.out], HBB.out⟩
            case rest =>
              obtain ⟨rfl, HBB⟩ := hcut
              have HQ2 : Hid (RM ts w0 wc k m l) := HQ.out.step HBB.out
              have d1 := cell_below HBB.out d1
              have d2 := cell_below HBB.out d2
              clear H1 H2 c0 c1 c2 c3 d0 HQ HBB
              cases y
              rotate_left
              · have HF : Hid (r = false) := b_false HP2.out (fun h => HY.out.1 rfl ⟨(h.1.1 k _ HT.out).1, fun hh => no_dup HT.out hh h.1, by
                  obtain ⟨l', hl', -⟩ := h.1.2
                  rcases Classical.em (LevP ⟨nm, tl, tk⟩) with h1 | h1
                  · exact h1
                  · have := levF_bad (ts := ts) (k := k + 1) (by rw [take_succ HT.out, levF_snoc, HQ2.out.lev]; unfold levS; simp [h1])
                    rw [this] at hl'; cases hl'⟩)
                have HBF : Hid (Below w.heap.size w wc) := below_step HB.out.1 HQ2.out.bel
                clear HY
                go_wp2_with fail
                go_ret
                exact ⟨by rw [HF.out]; rfl, HBF.out⟩
              · have HL : Hid (NameP nm ∧ ¬ hasN (ts.take k) nm ∧ LevP ⟨nm, tl, tk⟩) := by
                  rcases Classical.em (NameP nm ∧ ¬ hasN (ts.take k) nm ∧ LevP ⟨nm, tl, tk⟩) with h | h
                  · exact h
                  · have := HY.out.2 h; cases this
                have HNK : Hid (NamesTo ts (k + 1)) := HQ2.out.names.succ HT.out HL.out.1 HL.out.2.1
                clear HY
                have hlo : 0 ≤ tl ∧ tl < 9 := by
                  have := HL.out.2.2
                  unfold LevP at this
                  simp only at this
                  omega
                have hq9 : tl.toNat < 9 := by omega
                have HKD : Hid ((tl.toNat = 0 ∧ tk = 0) ∨ (1 ≤ tl.toNat ∧ tk ≠ 0)) := by
                  have := HL.out.2.2
                  unfold LevP at this
                  simp only at this
                  show _ ∨ _
                  omega
                have HLS : Hid (levF (ts.take (k + 1)) = if (l[tl.toNat]?).getD 0 = 0 ∨ (l[tl.toNat]?).getD 0 = tk then some (l.set tl.toNat tk) else none) := by
                  show _ = _
                  rw [take_succ HT.out, levF_snoc, HQ2.out.lev]
                  unfold levS at9
                  simp [HL.out.2.2]
                have HZ : Hid (tl ≤ 0 → (l[tl.toNat]?).getD 0 = 0 ∨ (l[tl.toNat]?).getD 0 = tk) := fun h => by
                  have h0 : tl.toNat = 0 := by omega
                  have := HQ2.out.zero
                  rw [h0]
                  exact .inl this
                have hx := HQ2.out.cell hq9
                obtain ⟨z, hz⟩ := bool_of (¬ ((l[tl.toNat]?).getD 0 = 0 ∨ (l[tl.toNat]?).getD 0 = tk))
                have HZB : Hid (z = true ↔ ¬ ((l[tl.toNat]?).getD 0 = 0 ∨ (l[tl.toNat]?).getD 0 = tk)) := hz
                generalize (l[tl.toNat]?).getD 0 = x at hx HLS HZ HZB
                clear hz hq9
                have g1 := cell_onto d1
                have g2 := cell_onto d2
                have gx := cell_onto hx
                obtain ⟨wy, hwy⟩ : ∃ wy, wy = wc := ⟨_, rfl⟩
                subst wc
                go_upto_region 11 with fail
                go_cut [119] from 42 to 128 (fun s wd => s = .bool z ∧ Hid (Below wy.heap.size wy wd))
                case first =>
                  have HR0 : Hid (∀ n os, Below wy.heap.size wy (onto wy n os)) := fun n os => onto_below wy n os
                  by_cases hq0 : tl ≤ 0
                  · have HF : Hid (z = false) := b_false HZB.out (fun h => h (HZ.out hq0))
                    have hq1 : ¬ 0 < tl := by omega
                    refine wp_region_onto (by kernel_rfl) ?_
                    repeat (go_big_quiet_step (fail))
                    refine wpQuiet_nil ?_
                    intro _ hwq
                    obtain ⟨⟨nq, osq⟩, hwe⟩ := hwq
                    subst hwe
                    go_wp2_with fail
                    go_meet
                    exact ⟨by rw [HF.out], HR0.out _ _⟩
                  · have hq1 : 0 < tl := by omega
                    by_cases hx0 : x = 0
                    · have HF : Hid (z = false) := b_false HZB.out (fun h => h (.inl hx0))
                      have hx1 : (x != 0) = false := by simpa using hx0
                      clear hx0
                      refine wp_region_onto (by kernel_rfl) ?_
                      repeat (go_big_quiet_step (fail))
                      refine wpQuiet_nil ?_
                      intro _ hwq
                      obtain ⟨⟨nq, osq⟩, hwe⟩ := hwq
                      subst hwe
                      go_wp2_with fail
                      go_meet
                      exact ⟨by rw [HF.out], HR0.out _ _⟩
                    · have hx1 : (x != 0) = true := by simpa using hx0
                      have HF : Hid (z = (x != tk)) := by
                        show _ = _
                        rw [Bool.eq_iff_iff, HZB.out]
                        simp [hx0]
                      clear hx0
                      refine wp_region_onto (by kernel_rfl) ?_
                      repeat (go_big_quiet_step (fail))
                      refine wpQuiet_nil ?_
                      intro _ hwq
                      obtain ⟨⟨nq, osq⟩, hwe⟩ := hwq
                      subst hwe
                      go_wp2_with fail
                      go_meet
                      exact ⟨by rw [HF.out], HR0.out _ _⟩
                case rest =>
                  obtain ⟨rfl, HBC⟩ := hcut
                  have HQ3 : Hid (RM ts w0 wc k m l) := HQ2.out.step HBC.out
                  have d1 := cell_below HBC.out d1
                  have d2 := cell_below HBC.out d2
                  have hx := cell_below HBC.out hx
                  clear g1 g2 gx HBC HQ2
                  cases z
                  rotate_left
                  · have HF : Hid (r = false) := b_false HP2.out (fun h => by
                      obtain ⟨l', hl', -⟩ := h.1.2
                      have := levF_bad (ts := ts) (k := k + 1) (by rw [HLS.out, if_neg (HZB.out.1 rfl)])
                      rw [this] at hl'; cases hl')
                    have HBF : Hid (Below w.heap.size w wc) := below_step HB.out.1 HQ3.out.bel
                    clear HLS HZB HZ HL HKD
                    go_wp2_with fail
                    go_ret
                    exact ⟨by rw [HF.out]; rfl, HBF.out⟩
                  · have HL2 : Hid (levF (ts.take (k + 1)) = some (l.set tl.toNat tk)) := by
                      have hc : x = 0 ∨ x = tk := by
                        rcases Classical.em (x = 0 ∨ x = tk) with h | h
                        · exact h
                        · have := HZB.out.2 h; cases this
                      have := HLS.out
                      rwa [if_pos hc] at this
                    have fx : wc.frozen? ⟨w0.heap.size, tl.toNat, none⟩ = false := frozen_block HQ3.out.arr _
                    have HM : Hid (RM ts w0 (wc.setCell ⟨w0.heap.size, tl.toNat, none⟩ (.int .i64 tk)) (k + 1) (max m tl.toNat) (l.set tl.toNat tk)) := HQ3.out.put HL2.out HNK.out (by omega) HKD.out
                    have d1 := cell_set_ne d1 (p := ⟨w0.heap.size, tl.toNat, none⟩) (u := .int .i64 tk) (by have := HTB.out; simp only; omega)
                    clear HLS HZB HZ HL HKD HL2
                    have hmq : max m tl.toNat ≤ 8 := by omega
                    go_wp2_with fail
                    go_roundg (tn - (k + 1))
                    case measure => omega
                    case rel => exact ⟨k + 1, max m tl.toNat, by congr 1; omega, by simp, by omega, hmq, Nat.le_refl _, (⟨_, HM.out⟩ : ∃ l, RM ts w0 _ (k + 1) _ l)⟩
          · obtain rfl : k = tn := by omega
            go_wp2
            go_meet
            exact ⟨m, rfl, ⟨l, JM.out⟩⟩
      case rest =>
        obtain ⟨m, rfl, HC⟩ := hcut
        obtain ⟨l, hRM⟩ := HC.out
        have HM : Hid (RM ts w0 wc tn m l) := hRM
        have hm8 : m ≤ 8 := by have := hRM.top.1; omega
        have HLV : Hid (levF ts = some l) := by have := hRM.lev; rwa [← HTN.out, List.take_length] at this
        have HNM : Hid (∀ (i : Nat) (t : Tk), ts[i]? = some t → NameP t.n ∧ ∀ (j : Nat) (u : Tk), j < i → ts[j]? = some u → u.n ≠ t.n) := NamesTo.all (by rw [HTN.out]; exact hRM.names)
        have HTP : Hid (TokP ts ↔ ∀ i, 1 ≤ i → i ≤ m → (l[i]?).getD 0 ≠ 0) := by
          rw [← noGap_iff hRM.top]
          exact ⟨fun h => by obtain ⟨l', h1, h2⟩ := h.2; rw [HLV.out] at h1; cases h1; exact h2, fun h => ⟨HNM.out, l, HLV.out, h⟩⟩
        have HB2 : Hid (Below w.heap.size w wc) := below_step HB.out.1 hRM.bel
        clear HC hRM HLV HNM
        obtain ⟨wa, hwa⟩ : ∃ wa, wa = wc := ⟨_, rfl⟩
        subst wc
        go_upto_block 2 with fail
        go_cut [7] (fun s7 wd => wd = wa ∧ Hid (TokP ts))
        case first =>
          go_wp2_with fail
          go_loop [7] (fun v => ∃ i : Nat, 1 ≤ i ∧ i ≤ m + 1 ∧ v = .int .i64 i ∧ Hid (∀ j, 1 ≤ j → j < i → (l[j]?).getD 0 ≠ 0)) (fun v => m + 1 - (intOf v).toNat)
          case atStart => exact ⟨1, Nat.le_refl _, by omega, rfl, (fun j h1 h2 => by omega : ∀ j, 1 ≤ j → j < 1 → (l[j]?).getD 0 ≠ 0)⟩
          case round =>
            obtain ⟨i, hi1, hi2, rfl, J⟩ := hrel
            by_cases hlt : i ≤ m
            · have hx := HM.out.cell (show i < 9 by omega)
              have JN : Hid ((l[i]?).getD 0 ≠ 0 → ∀ j, 1 ≤ j → j < i + 1 → (l[j]?).getD 0 ≠ 0) := fun h j h1 h2 => by
                rcases Nat.lt_or_ge j i with h3 | h3
                · exact J.out j h1 h3
                · rw [show j = i by omega]; exact h
              have JY : Hid ((l[i]?).getD 0 = 0 → ¬ TokP ts) := fun h ht => HTP.out.1 ht i hi1 hlt h
              generalize (l[i]?).getD 0 = x at hx JN JY
              clear J
              by_cases hx0 : x = 0
              · have hx1 : (x == 0) = true := by simpa using hx0
                have HF : Hid (r = false) := b_false HP2.out (fun h => JY.out hx0 h.1)
                clear JN JY hx0
                go_wp2_with fail
                go_ret
                exact ⟨by rw [HF.out]; rfl, HB2.out⟩
              · have hx1 : (x == 0) = false := by simpa using hx0
                have JN2 : Hid (∀ j, 1 ≤ j → j < i + 1 → (l[j]?).getD 0 ≠ 0) := JN.out hx0
                clear JN JY hx0
                go_wp2_with fail
                go_round
                case rel => exact ⟨i + 1, by omega, by omega, by simp, JN2⟩
                case measure => simp [intOf]; omega
            · have HT : Hid (TokP ts) := HTP.out.2 (fun j h1 h2 => J.out j h1 (by omega))
              clear J
              go_wp2_with fail
              go_meet
              exact ⟨rfl, HT⟩
        case rest =>
          obtain ⟨hwc, HT⟩ := hcut
          subst wc
          have HP3 : Hid (r = true ↔ ∀ r ∈ rs, RuleP r) := HP2.out.trans ⟨fun h => h.2, fun h => ⟨HT.out, h⟩⟩
          have HR : Hid (RulesAt wa ra rn rc rs) := by have := HB.out.2.rul.below HM.out.bel; simp only at this; rwa [HRN.out] at this
          have C3' : Hid (∀ W : World, Below wa.heap.size wa W → W.cell? ⟨gb, 3, none⟩ = some (.slice ra rn rc)) := fun W hW => cell_below hW (C3.out wa HM.out.bel)
          have HS : Hid (∀ r ∈ rs, r.l.size ≤ 100 ∧ r.p.size ≤ 100 ∧ r.r.length ≤ 100 ∧ ∀ x ∈ r.r, x.size ≤ 100) := HB.out.2.small.rl
          clear HP2 HT HTP HM C0 C1 C2 C3 HB hm8
          go_wp2_with fail
          go_loopg [8] rn (fun kx s8 wr => ∃ k : Nat, s8 = .int .i64 k ∧ k ≤ rn ∧ rn - k ≤ kx ∧ Hid (Below wa.heap.size wa wr ∧ ∀ i x, i < k → rs[i]? = some x → RuleP x))
          case atStart => exact ⟨0, rfl, Nat.zero_le _, by omega, (⟨Below.refl _ _, fun i x h => absurd h (Nat.not_lt_zero _)⟩ : Below wa.heap.size wa _ ∧ ∀ i x, i < 0 → rs[i]? = some x → RuleP x)⟩
          case round =>
            obtain ⟨k, rfl, hk, hg, J⟩ := hrel
            have c3 := C3'.out wr J.out.1
            by_cases hlt : k < rn
            · obtain ⟨x, hx⟩ : ∃ x, rs[k]? = some x := ⟨rs[k]'(by rw [HRN.out]; exact hlt), List.getElem?_eq_getElem _⟩
              obtain ⟨b, o, xa, xc, hra, p0, p1, p2, hrow⟩ := (HR.out.below J.out.1).at hx
              subst hra
              have HT : Hid (rs[k]? = some x) := hx
              have hsz := HS.out x (List.mem_of_getElem? hx)
              obtain ⟨nl, nr, np⟩ := x
              simp only at p0 p1 p2 hrow hsz
              obtain ⟨n, HN⟩ : ∃ n, Hid (nr.length = n) := ⟨_, rfl⟩
              rw [HN.out] at p1 hrow hsz
              have hle := hrow.le
              have hmx : xc ≤ 9223372036854775807 := by have := hrow.max; unfold maxLen at this; omega
              have HRW : Hid (Row wr 1 xa n xc (strC nr)) := hrow
              clear hx hrow
              go_upto_region 24 with fail
              have d0 : (wr.alloc (.cells #[.string nl, .slice xa n xc, .string np] 39)).cell? ⟨wr.heap.size, 0, none⟩ = some (.string nl) := by rw [World.cell?_alloc_mark]; rfl
              have d1 : (wr.alloc (.cells #[.string nl, .slice xa n xc, .string np] 39)).cell? ⟨wr.heap.size, 1, none⟩ = some (.slice xa n xc) := by rw [World.cell?_alloc_mark]; rfl
              have d2 : (wr.alloc (.cells #[.string nl, .slice xa n xc, .string np] 39)).cell? ⟨wr.heap.size, 2, none⟩ = some (.string np) := by rw [World.cell?_alloc_mark]; rfl
              have HQ : Hid (Row (wr.alloc (.cells #[.string nl, .slice xa n xc, .string np] 39)) 1 xa n xc (strC nr) ∧ Below wa.heap.size wa (wr.alloc (.cells #[.string nl, .slice xa n xc, .string np] 39))) := ⟨HRW.out.below (below_alloc _ _), below_step J.out.1 (below_alloc _ _)⟩
              have HJ : Hid (∀ i x, i < k → rs[i]? = some x → RuleP x) := J.out.2
              generalize wr.alloc (.cells #[.string nl, .slice xa n xc, .string np] 39) = wq at HQ d0 d1 d2 ⊢
              generalize wr.heap.size = tb at d0 d1 d2 ⊢
              clear p0 p1 p2 J HRW c3
              obtain ⟨y, hy⟩ := bool_of (¬ (NameP nl ∧ n ≤ 20 ∧ NoneP np))
              have HY : Hid (y = true ↔ ¬ (NameP nl ∧ n ≤ 20 ∧ NoneP np)) := hy
              clear hy
              have H1 : Hid (∀ W : World, Calls Tryd.prog 17 #[.string nl] W fun e w' => e = .returned (.bool (nameOk (by8 nl))) ∧ w' = W) := fun W => rname_calls nl W (by omega)
              have H2 : Hid (∀ W : World, Calls Tryd.prog 17 #[.string np] W fun e w' => e = .returned (.bool (nameOk (by8 np))) ∧ w' = W) := fun W => rname_calls np W (by omega)
              go_cut [170] from 138 to 184 (fun s wd => s = .bool y ∧ wd = wq)
              case first =>
                cases hnl : nameOk (by8 nl)
                · have HF : Hid (y = true) := b_true HY.out (fun h => by have := h.1; unfold NameP at this; rw [hnl] at this; cases this)
                  rw [hnl] at H1
                  go_wp2_with fail
                  refine (H1.out _).mono ?_
                  rintro e w1 ⟨rfl, rfl⟩
                  go_wp2_with fail
                  go_meet
                  exact ⟨by rw [HF.out], rfl⟩
                · rw [hnl] at H1
                  by_cases h20 : n ≤ 20
                  · have h20' : ¬ (20 : Int) < (n : Int) := by omega
                    have hst : (NoneP np ∧ (np.toList == []) = true) ∨ (NoneP np ∧ (np.toList == []) = false ∧ nameOk (by8 np) = true) ∨ (¬ NoneP np ∧ (np.toList == []) = false ∧ nameOk (by8 np) = false) := by
                      unfold NoneP NameP
                      rw [← toList_nil]
                      cases (np.toList == []) <;> cases nameOk (by8 np) <;> simp
                    rcases hst with ⟨hst, hs3⟩ | ⟨hst, hs3, hs4⟩ | ⟨hst, hs3, hs4⟩
                    · have HF : Hid (y = false) := b_false HY.out (fun h => h ⟨hnl, h20, hst⟩)
                      clear hst
                      go_wp2_with fail
                      refine (H1.out _).mono ?_
                      rintro e w1 ⟨rfl, rfl⟩
                      go_wp2_with fail
                      go_meet
                      exact ⟨by rw [HF.out]; simp; omega, rfl⟩
                    · have HF : Hid (y = false) := b_false HY.out (fun h => h ⟨hnl, h20, hst⟩)
                      rw [hs4] at H2
                      clear hst
                      go_wp2_with fail
                      refine (H1.out _).mono ?_
                      rintro e w1 ⟨rfl, rfl⟩
                      go_wp2_with fail
                      refine (H2.out _).mono ?_
                      rintro e w2 ⟨rfl, rfl⟩
                      go_wp2_with fail
                      go_meet
                      exact ⟨by rw [HF.out]; simp; omega, rfl⟩
                    · have HF : Hid (y = true) := b_true HY.out (fun h => hst h.2.2)
                      rw [hs4] at H2
                      clear hst
                      go_wp2_with fail
                      refine (H1.out _).mono ?_
                      rintro e w1 ⟨rfl, rfl⟩
                      go_wp2_with fail
                      refine (H2.out _).mono ?_
                      rintro e w2 ⟨rfl, rfl⟩
                      go_wp2_with fail
                      go_meet
                      exact ⟨by rw [HF.out], rfl⟩
                  · have h20' : (20 : Int) < (n : Int) := by omega
                    have HF : Hid (y = true) := b_true HY.out (fun h => h20 h.2.1)
                    go_wp2_with fail
                    refine (H1.out _).mono ?_
                    rintro e w1 ⟨rfl, rfl⟩
                    go_wp2_with fail
                    go_meet
                    exact ⟨by rw [HF.out], rfl⟩
              case rest =>
                obtain ⟨rfl, hwc⟩ := hcut
                subst wc
                clear H1 H2 d0 d2
                cases y
                rotate_left
                · have HF : Hid (r = false) := b_false HP3.out (fun h => HY.out.1 rfl (by have := h _ (List.mem_of_getElem? HT.out); unfold RuleP at this; simp only at this; rw [HN.out] at this; exact ⟨this.1, this.2.1, this.2.2.1⟩))
                  have HBF : Hid (Below w.heap.size w wq) := below_step HB2.out HQ.out.2
                  go_wp2_with fail
                  go_ret
                  exact ⟨by rw [HF.out]; rfl, HBF.out⟩
                · have HG : Hid (NameP nl ∧ n ≤ 20 ∧ NoneP np) := by
                    rcases Classical.em (NameP nl ∧ n ≤ 20 ∧ NoneP np) with h | h
                    · exact h
                    · have := HY.out.2 h; cases this
                  clear HY
                  go_wp2_with fail
                  go_loop [10] (fun v => ∃ i : Nat, i ≤ n ∧ v = .int .i64 i ∧ Hid (∀ j x, j < i → nr[j]? = some x → NameP x)) (fun v => n - (intOf v).toNat)
                  case atStart => exact ⟨0, Nat.zero_le _, rfl, (fun j x h => absurd h (Nat.not_lt_zero _) : ∀ j x, j < 0 → nr[j]? = some x → NameP x)⟩
                  case round =>
                    obtain ⟨i, hi, rfl, J⟩ := hrel
                    by_cases hlt2 : i < n
                    · obtain ⟨x, hx⟩ : ∃ x, nr[i]? = some x := ⟨nr[i]'(by rw [HN.out]; exact hlt2), List.getElem?_eq_getElem _⟩
                      obtain ⟨b2, o2, hxa, q0⟩ := str_at HQ.out.1 hx
                      subst hxa
                      have HX : Hid (nr[i]? = some x) := hx
                      have H3 : Hid (∀ W : World, Calls Tryd.prog 17 #[.string x] W fun e w' => e = .returned (.bool (nameOk (by8 x))) ∧ w' = W) := fun W => rname_calls x W (by have := hsz.2.2.2 x (List.mem_of_getElem? hx); omega)
                      clear hx
                      cases hnx : nameOk (by8 x)
                      · rw [hnx] at H3
                        have HF : Hid (r = false) := b_false HP3.out (fun h => by have := (h _ (List.mem_of_getElem? HT.out)).2.2.2 x (List.mem_of_getElem? HX.out); unfold NameP at this; rw [hnx] at this; cases this)
                        have HBF : Hid (Below w.heap.size w wq) := below_step HB2.out HQ.out.2
                        clear hnx
                        go_wp2_with (go_at_call 17; refine (H3.out _).mono ?_; rintro e w2 ⟨rfl, rfl⟩)
                        go_ret
                        exact ⟨by rw [HF.out]; rfl, HBF.out⟩
                      · rw [hnx] at H3
                        have HF : Hid (∀ j x, j < i + 1 → nr[j]? = some x → NameP x) := fun j v hj hv => by
                          rcases Nat.lt_or_ge j i with h | h
                          · exact J.out j v h hv
                          · have : j = i := by omega
                            subst this
                            rw [HX.out] at hv
                            cases hv
                            exact hnx
                        clear hnx
                        go_wp2_with (go_at_call 17; refine (H3.out _).mono ?_; rintro e w2 ⟨rfl, rfl⟩)
                        go_round
                        case rel => exact ⟨i + 1, by omega, by simp, HF⟩
                        case measure => simp [intOf]; omega
                    · have HF : Hid (∀ i x, i < k + 1 → rs[i]? = some x → RuleP x) := fun j v hj hv => by
                        rcases Nat.lt_or_ge j k with h | h
                        · exact HJ.out j v h hv
                        · have : j = k := by omega
                          subst this
                          rw [HT.out] at hv
                          cases hv
                          exact ⟨HG.out.1, by simp only; rw [HN.out]; exact HG.out.2.1, HG.out.2.2, fun x hx => by
                            obtain ⟨i', hi'⟩ := List.getElem?_of_mem hx
                            have hl : i' < nr.length := (List.getElem?_eq_some_iff.1 hi').1
                            exact J.out i' x (by rw [HN.out] at hl; omega) hi'⟩
                      go_wp2_with fail
                      go_roundg (rn - (k + 1))
                      case measure => omega
                      case rel => exact ⟨k + 1, by simp, by omega, Nat.le_refl _, (⟨HQ.out.2, HF.out⟩ : Below wa.heap.size wa _ ∧ ∀ i x, i < k + 1 → rs[i]? = some x → RuleP x)⟩
            · have HF : Hid (r = true) := b_true HP3.out (fun x hx => by
                obtain ⟨i, hi⟩ := List.getElem?_of_mem hx
                have hl : i < rs.length := (List.getElem?_eq_some_iff.1 hi).1
                exact J.out.2 i x (by rw [HRN.out] at hl; omega) hi)
              have HBF : Hid (Below w.heap.size w wr) := below_step HB2.out J.out.1
              go_wp2_with fail
              go_ret
              exact ⟨by rw [HF.out]; rfl, HBF.out⟩

end Go.Proofs.YtdgadamkiililaaDoor
