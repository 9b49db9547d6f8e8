/-
  The walk of levelsOf.
-/
import Derived.Test.YtdgadamkiililaaDoorGap
import Derived.Deep.RegionWith
namespace Go.Proofs.YtdgadamkiililaaDoor
open Go.RowKit

/-- What levelsOf answers. -/
def LevOf (ts : List Tk) (l : List Int) (r : Bool) : Prop := l.length = 9 ∧ (r = true ↔ ∃ l, levF ts = some l ∧ NoGap l) ∧ (r = true → levF ts = some l)

theorem block_below {w w' : World} {b : Nat} {o : Obj} (hb : Below w.heap.size w w') (h : w.heap[b]? = some o) : w'.heap[b]? = some o := by
  rw [hb.block b (Array.getElem?_eq_some_iff.1 h).1]; exact h

/-- The loop's memory: the result's block, the array's block. -/
structure LevM (ts : List Tk) (w wr : World) (k : Nat) (l : List Int) : Prop where
  lev : levF (ts.take k) = some l
  res : wr.heap[w.heap.size]? = some (.cells (ar9 zero9) 61 (0, 0))
  arr : wr.heap[w.heap.size + 1]? = some (.cells (ar9 l) 61 (0, 0))
  bel : Below w.heap.size w wr

theorem size_alloc1 (w : World) (o : Obj) : (w.alloc o).heap.size = w.heap.size + 1 := by simp

theorem LevM.step {ts : List Tk} {w wr wr' : World} {k : Nat} {l : List Int} (h : LevM ts w wr k l) (hb : Below wr.heap.size wr wr') : LevM ts w wr' k l :=
  ⟨h.lev, block_below hb h.res, block_below hb h.arr, below_step h.bel hb⟩

theorem LevM.drew {ts : List Tk} {w wr : World} {k : Nat} {l : List Int} (h : LevM ts w wr k l) : LevM ts w wr.drew k l := ⟨h.lev, h.res, h.arr, h.bel.drew⟩

theorem LevM.cell {ts : List Tk} {w wr : World} {k : Nat} {l : List Int} (h : LevM ts w wr k l) {m : Nat} (hm : m < 9) : wr.cell? ⟨w.heap.size + 1, m, none⟩ = some (.int .i64 ((l[m]?).getD 0)) := by
  rw [cell_block h.arr]; exact ar9_at (levF_length h.lev) hm

theorem ar9_set (l : List Int) (m : Nat) (a : Int) : (ar9 l).setIfInBounds m (.int .i64 a) = ar9 (l.set m a) := by
  unfold ar9
  rw [List.setIfInBounds_toArray, List.map_set]

/-- A token's kind is laid into its level. -/
theorem LevM.put {ts : List Tk} {w wr : World} {k k' m : Nat} {l : List Int} {a : Int} (h : LevM ts w wr k l) (hl : levF (ts.take k') = some (l.set m a)) : LevM ts w (wr.setCell ⟨w.heap.size + 1, m, none⟩ (.int .i64 a)) k' (l.set m a) := by
  refine ⟨hl, ?_, ?_, h.bel.setCell (p := ⟨w.heap.size + 1, m, none⟩) (Nat.le_succ _) _⟩
  · rw [Below.heap_setCell _ _ _ _ (by simp)]; exact h.res
  · rw [setCell_eq_setRow wr (w.heap.size + 1) m _ 61 (0, 0) _ h.arr, ar9_set]
    exact setRow_heap _ _ _ _ 61 _ h.arr

set_option maxHeartbeats 4000000 in
set_option maxRecDepth 20000 in
theorem levelsOf_calls (ts : List Tk) (ao : Option Addr) (n cap : Nat) (w : World) (hr : Row w 3 ao n cap (tokC ts)) (hn : n = ts.length) (hnn : n ≤ 1000) :
    Calls Tryd.prog 38 #[.slice ao n cap] w fun e w' => ∃ (l : List Int) (r : Int), e = .returned (.tuple #[.agg (ar9 l), .bool (decide (r = 1))]) ∧ LevOf ts l (decide (r = 1)) ∧ Below w.heap.size w w' := by
  have HN : Hid (n = ts.length) := hn
  have HR : Hid (Row w 3 ao n cap (tokC ts)) := hr
  have hle := hr.le
  have hmx : cap ≤ 9223372036854775807 := by have := hr.max; unfold maxLen at this; omega
  clear hr hn
  go_enter Tryd.func38, Tryd.ntmps38
  go_wp2
  go_loopg [9] n (fun kx s9 wr => ∃ k : Nat, s9 = .int .i64 k ∧ k ≤ n ∧ n - k ≤ kx ∧ Hid (∃ l, LevM ts w wr k l))
  case atStart => exact ⟨0, rfl, Nat.zero_le _, by omega, (⟨zero9, rfl, block_below (below_alloc _ _) (heap_alloc_new _ _), by have := heap_alloc_new (w.alloc (.cells (ar9 zero9) 61)) (.cells (ar9 zero9) 61); rw [size_alloc1] at this; exact this, below_step (below_alloc _ _) (below_alloc _ _)⟩ : ∃ l, LevM ts w _ 0 l)⟩
  case round =>
    obtain ⟨k, rfl, hk, hg, J⟩ := hrel
    obtain ⟨l, JJ⟩ := J.out
    have JM : Hid (LevM ts w wr k l) := JJ
    have hl9 := levF_length JJ.lev
    clear J JJ
    by_cases hlt : k < n
    · obtain ⟨t, ht⟩ : ∃ t, ts[k]? = some t := ⟨ts[k]'(by rw [← HN.out]; exact hlt), List.getElem?_eq_getElem _⟩
      obtain ⟨b, o, rfl, c0, c1, c2⟩ := tok_at (HR.out.below JM.out.bel) ht
      have HT : Hid (ts[k]? = some t) := ht
      obtain ⟨tn, tl, ta⟩ := t
      simp only at c0 c1 c2
      clear ht
      go_upto_region 5 with fail
      have HQ : Hid (LevM ts w (wr.alloc (.cells #[.string tn, .int .i64 tl, .int .i64 ta] 35)) k l) := JM.out.step (below_alloc _ _)
      have d0 : (wr.alloc (.cells #[.string tn, .int .i64 tl, .int .i64 ta] 35)).cell? ⟨wr.heap.size, 0, none⟩ = some (.string tn) := by rw [World.cell?_alloc_mark]; rfl
      have d1 : (wr.alloc (.cells #[.string tn, .int .i64 tl, .int .i64 ta] 35)).cell? ⟨wr.heap.size, 1, none⟩ = some (.int .i64 tl) := by rw [World.cell?_alloc_mark]; rfl
      have d2 : (wr.alloc (.cells #[.string tn, .int .i64 tl, .int .i64 ta] 35)).cell? ⟨wr.heap.size, 2, none⟩ = some (.int .i64 ta) := by rw [World.cell?_alloc_mark]; rfl
      generalize wr.alloc (.cells #[.string tn, .int .i64 tl, .int .i64 ta] 35) = wq at HQ d0 d1 d2 ⊢
      generalize wr.heap.size = tb at d0 d1 d2 ⊢
      have HC : Hid (∀ W : World, Calls Tryd.prog 51 #[.agg #[.string tn, .int .i64 tl, .int .i64 ta]] W fun e w' => e = .returned (.bool (levB ⟨tn, tl, ta⟩)) ∧ Below W.heap.size W w') := fun W => mayLevel_calls ⟨tn, tl, ta⟩ W
      clear c0 c1 c2 JM
      have g0 := cell_onto d0
      have g1 := cell_onto d1
      have g2 := cell_onto d2
      by_cases hP : LevP ⟨tn, tl, ta⟩
      · have hd : levB ⟨tn, tl, ta⟩ = true := levB_iff.2 hP
        rw [hd] at HC
        obtain ⟨m, hm⟩ : ∃ m : Nat, tl = m := ⟨tl.toNat, by rcases hP with h | h <;> (simp only at h; omega)⟩
        subst hm
        have hm9 : m < 9 := by rcases hP with h | h <;> (simp only at h; omega)
        have hx := HQ.out.cell hm9
        have gx := cell_onto hx
        have HLS : Hid (levF (ts.take (k + 1)) = if (l[m]?).getD 0 = 0 ∨ (l[m]?).getD 0 = ta then some (l.set m ta) else none) := by
          show _ = _
          rw [take_succ HT.out, levF_snoc, HQ.out.lev]
          unfold levS at9
          simp [hP]
        generalize (l[m]?).getD 0 = x at hx gx HLS
        clear hP hd
        by_cases hx0 : x = 0
        · have hx1 : (x != 0) = false := by simpa using hx0
          have HL2 : Hid (levF (ts.take (k + 1)) = some (l.set m ta)) := by have := HLS.out; rwa [if_pos (.inl hx0)] at this
          clear HLS hx0
          refine wp_region_onto (by kernel_rfl) ?_
          repeat (go_big_quiet_step (first | (go_at_call 51; exact calls_onto (HC.out _))))
          refine wpQuiet_nil ?_
          intro _ hwq
          obtain ⟨⟨nq, osq⟩, hwe⟩ := hwq
          subst hwe
          have HQ2 : Hid (LevM ts w (onto wq nq osq) k l) := HQ.out.step (onto_below _ _ _)
          have d1 := g1 nq osq
          have d2 := g2 nq osq
          have hx := gx nq osq
          simp only
          generalize onto wq nq osq = wz at HQ2 d1 d2 hx ⊢
          clear g0 g1 g2 d0 HC HQ gx
          have fx : wz.frozen? ⟨w.heap.size + 1, m, none⟩ = false := frozen_block HQ2.out.arr m
          go_wp2
          go_roundg (n - (k + 1))
          case measure => omega
          case rel => exact ⟨k + 1, by simp, by omega, Nat.le_refl _, (⟨l.set m ta, HQ2.out.put HL2.out⟩ : ∃ l, LevM ts w _ (k + 1) l)⟩
        · have hx1 : (x != 0) = true := by simpa using hx0
          by_cases hxa : x = ta
          · have hx2 : (x != ta) = false := by simpa using hxa
            have HL2 : Hid (levF (ts.take (k + 1)) = some (l.set m ta)) := by have := HLS.out; rwa [if_pos (.inr hxa)] at this
            clear HLS hx0 hxa
            refine wp_region_onto (by kernel_rfl) ?_
            repeat (go_big_quiet_step (first | (go_at_call 51; exact calls_onto (HC.out _))))
            refine wpQuiet_nil ?_
            intro _ hwq
            obtain ⟨⟨nq, osq⟩, hwe⟩ := hwq
            subst hwe
            have HQ2 : Hid (LevM ts w (onto wq nq osq) k l) := HQ.out.step (onto_below _ _ _)
            have d1 := g1 nq osq
            have d2 := g2 nq osq
            have hx := gx nq osq
            simp only
            generalize onto wq nq osq = wz at HQ2 d1 d2 hx ⊢
            clear g0 g1 g2 d0 HC HQ gx
            have fx : wz.frozen? ⟨w.heap.size + 1, m, none⟩ = false := frozen_block HQ2.out.arr m
            go_wp2
            go_roundg (n - (k + 1))
            case measure => omega
            case rel => exact ⟨k + 1, by simp, by omega, Nat.le_refl _, (⟨l.set m ta, HQ2.out.put HL2.out⟩ : ∃ l, LevM ts w _ (k + 1) l)⟩
          · have hx2 : (x != ta) = true := by simpa using hxa
            have HF : Hid (levF ts = none) := levF_bad (k := k + 1) (by have := HLS.out; rwa [if_neg (fun h => h.elim hx0 hxa)] at this)
            clear HLS hx0 hxa
            refine wp_region_onto (by kernel_rfl) ?_
            repeat (go_big_quiet_step (first | (go_at_call 51; exact calls_onto (HC.out _))))
            refine wpQuiet_nil ?_
            intro _ hwq
            obtain ⟨⟨nq, osq⟩, hwe⟩ := hwq
            subst hwe
            have HQ2 : Hid (LevM ts w (onto wq nq osq) k l) := HQ.out.step (onto_below _ _ _)
            simp only
            generalize onto wq nq osq = wz at HQ2 ⊢
            clear g0 g1 g2 d0 d1 d2 HC HQ gx hx
            have rc : ∀ j, wz.frozen? ⟨w.heap.size, j, none⟩ = false := frozen_block HQ2.out.res
            have r0 : wz.cell? ⟨w.heap.size, 0, none⟩ = some (.int .i64 0) := cell_block HQ2.out.res 0
            have r1 : wz.cell? ⟨w.heap.size, 1, none⟩ = some (.int .i64 0) := cell_block HQ2.out.res 1
            have r2 : wz.cell? ⟨w.heap.size, 2, none⟩ = some (.int .i64 0) := cell_block HQ2.out.res 2
            have r3 : wz.cell? ⟨w.heap.size, 3, none⟩ = some (.int .i64 0) := cell_block HQ2.out.res 3
            have r4 : wz.cell? ⟨w.heap.size, 4, none⟩ = some (.int .i64 0) := cell_block HQ2.out.res 4
            have r5 : wz.cell? ⟨w.heap.size, 5, none⟩ = some (.int .i64 0) := cell_block HQ2.out.res 5
            have r6 : wz.cell? ⟨w.heap.size, 6, none⟩ = some (.int .i64 0) := cell_block HQ2.out.res 6
            have r7 : wz.cell? ⟨w.heap.size, 7, none⟩ = some (.int .i64 0) := cell_block HQ2.out.res 7
            have r8 : wz.cell? ⟨w.heap.size, 8, none⟩ = some (.int .i64 0) := cell_block HQ2.out.res 8
            go_wp2
            have HBz : Hid (Below w.heap.size w wz) := HQ2.out.bel
            refine bodyPost_ret (v := .tuple #[.agg (ar9 zero9), .bool false]) (by simp [results, Tryd.results38, go_sem, r0, r1, r2, r3, r4, r5, r6, r7, r8, ar9, zero9]) rfl ?_
            refine ⟨zero9, 0, rfl, ⟨rfl, ⟨fun h => (by cases h), fun ⟨l', h, _⟩ => (by rw [HF.out] at h; cases h)⟩, fun h => (by cases h)⟩, ?_⟩
            exact (((((((((HBz.out.setCell (p := ⟨w.heap.size, 0, none⟩) (Nat.le_refl _) _).setCell (p := ⟨w.heap.size, 1, none⟩) (Nat.le_refl _) _).setCell (p := ⟨w.heap.size, 2, none⟩) (Nat.le_refl _) _).setCell (p := ⟨w.heap.size, 3, none⟩) (Nat.le_refl _) _).setCell (p := ⟨w.heap.size, 4, none⟩) (Nat.le_refl _) _).setCell (p := ⟨w.heap.size, 5, none⟩) (Nat.le_refl _) _).setCell (p := ⟨w.heap.size, 6, none⟩) (Nat.le_refl _) _).setCell (p := ⟨w.heap.size, 7, none⟩) (Nat.le_refl _) _).setCell (p := ⟨w.heap.size, 8, none⟩) (Nat.le_refl _) _)
      · have hd : levB ⟨tn, tl, ta⟩ = false := levB_not hP
        rw [hd] at HC
        have HF : Hid (levF ts = none) := levF_bad (k := k + 1) (by rw [take_succ HT.out, levF_snoc, HQ.out.lev]; unfold levS; simp [hP])
        clear hP hd
        refine wp_region_onto (by kernel_rfl) ?_
        repeat (go_big_quiet_step (first | (go_at_call 51; exact calls_onto (HC.out _))))
        refine wpQuiet_nil ?_
        intro _ hwq
        obtain ⟨⟨nq, osq⟩, hwe⟩ := hwq
        subst hwe
        have HQ2 : Hid (LevM ts w (onto wq nq osq) k l) := HQ.out.step (onto_below _ _ _)
        simp only
        generalize onto wq nq osq = wz at HQ2 ⊢
        clear g0 g1 g2 d0 d1 d2 HC HQ
        have rc : ∀ j, wz.frozen? ⟨w.heap.size, j, none⟩ = false := frozen_block HQ2.out.res
        have r0 : wz.cell? ⟨w.heap.size, 0, none⟩ = some (.int .i64 0) := cell_block HQ2.out.res 0
        have r1 : wz.cell? ⟨w.heap.size, 1, none⟩ = some (.int .i64 0) := cell_block HQ2.out.res 1
        have r2 : wz.cell? ⟨w.heap.size, 2, none⟩ = some (.int .i64 0) := cell_block HQ2.out.res 2
        have r3 : wz.cell? ⟨w.heap.size, 3, none⟩ = some (.int .i64 0) := cell_block HQ2.out.res 3
        have r4 : wz.cell? ⟨w.heap.size, 4, none⟩ = some (.int .i64 0) := cell_block HQ2.out.res 4
        have r5 : wz.cell? ⟨w.heap.size, 5, none⟩ = some (.int .i64 0) := cell_block HQ2.out.res 5
        have r6 : wz.cell? ⟨w.heap.size, 6, none⟩ = some (.int .i64 0) := cell_block HQ2.out.res 6
        have r7 : wz.cell? ⟨w.heap.size, 7, none⟩ = some (.int .i64 0) := cell_block HQ2.out.res 7
        have r8 : wz.cell? ⟨w.heap.size, 8, none⟩ = some (.int .i64 0) := cell_block HQ2.out.res 8
        go_wp2
        have HBz : Hid (Below w.heap.size w wz) := HQ2.out.bel
        refine bodyPost_ret (v := .tuple #[.agg (ar9 zero9), .bool false]) (by simp [results, Tryd.results38, go_sem, r0, r1, r2, r3, r4, r5, r6, r7, r8, ar9, zero9]) rfl ?_
        refine ⟨zero9, 0, rfl, ⟨rfl, ⟨fun h => (by cases h), fun ⟨l', h, _⟩ => (by rw [HF.out] at h; cases h)⟩, fun h => (by cases h)⟩, ?_⟩
        exact (((((((((HBz.out.setCell (p := ⟨w.heap.size, 0, none⟩) (Nat.le_refl _) _).setCell (p := ⟨w.heap.size, 1, none⟩) (Nat.le_refl _) _).setCell (p := ⟨w.heap.size, 2, none⟩) (Nat.le_refl _) _).setCell (p := ⟨w.heap.size, 3, none⟩) (Nat.le_refl _) _).setCell (p := ⟨w.heap.size, 4, none⟩) (Nat.le_refl _) _).setCell (p := ⟨w.heap.size, 5, none⟩) (Nat.le_refl _) _).setCell (p := ⟨w.heap.size, 6, none⟩) (Nat.le_refl _) _).setCell (p := ⟨w.heap.size, 7, none⟩) (Nat.le_refl _) _).setCell (p := ⟨w.heap.size, 8, none⟩) (Nat.le_refl _) _)
    · obtain rfl : k = n := by omega
      have HLF : Hid (levF ts = some l) := by have := JM.out.lev; rwa [HN.out, List.take_length] at this
      obtain ⟨r, hr⟩ := bool_of (¬ NoGap l)
      have HC : Hid (∀ W : World, Calls Tryd.prog 52 #[.agg (ar9 l)] W fun e w' => e = .returned (.bool r) ∧ Below W.heap.size W w') := fun W => gap_calls l hl9 r hr W
      have HO : Hid (LevOf ts l (!r)) := ⟨hl9, ⟨fun h => ⟨l, HLF.out, (by rcases Classical.em (NoGap l) with h1 | h1; exact h1; rw [b_true hr h1] at h; cases h)⟩, fun ⟨l', h1, h2⟩ => (by rw [HLF.out] at h1; cases h1; rw [b_false hr (fun h => h h2)]; rfl)⟩, fun _ => HLF.out⟩
      clear hr HLF
      go_upto_region 9 with fail
      obtain ⟨xa, xb, xc, xd, xe, xf, xg, xi, xj, rfl⟩ := nine hl9
      have hA : ar9 [xa, xb, xc, xd, xe, xf, xg, xi, xj] = #[.int .i64 xa, .int .i64 xb, .int .i64 xc, .int .i64 xd, .int .i64 xe, .int .i64 xf, .int .i64 xg, .int .i64 xi, .int .i64 xj] := rfl
      rw [hA] at HC
      have rz : ∀ j, wr.frozen? ⟨w.heap.size, j, none⟩ = false := frozen_block JM.out.res
      have r0 : wr.cell? ⟨w.heap.size, 0, none⟩ = some (.int .i64 0) := cell_block JM.out.res 0
      have q0 : wr.cell? ⟨w.heap.size + 1, 0, none⟩ = some (.int .i64 xa) := cell_block JM.out.arr 0
      have r1 : wr.cell? ⟨w.heap.size, 1, none⟩ = some (.int .i64 0) := cell_block JM.out.res 1
      have q1 : wr.cell? ⟨w.heap.size + 1, 1, none⟩ = some (.int .i64 xb) := cell_block JM.out.arr 1
      have r2 : wr.cell? ⟨w.heap.size, 2, none⟩ = some (.int .i64 0) := cell_block JM.out.res 2
      have q2 : wr.cell? ⟨w.heap.size + 1, 2, none⟩ = some (.int .i64 xc) := cell_block JM.out.arr 2
      have r3 : wr.cell? ⟨w.heap.size, 3, none⟩ = some (.int .i64 0) := cell_block JM.out.res 3
      have q3 : wr.cell? ⟨w.heap.size + 1, 3, none⟩ = some (.int .i64 xd) := cell_block JM.out.arr 3
      have r4 : wr.cell? ⟨w.heap.size, 4, none⟩ = some (.int .i64 0) := cell_block JM.out.res 4
      have q4 : wr.cell? ⟨w.heap.size + 1, 4, none⟩ = some (.int .i64 xe) := cell_block JM.out.arr 4
      have r5 : wr.cell? ⟨w.heap.size, 5, none⟩ = some (.int .i64 0) := cell_block JM.out.res 5
      have q5 : wr.cell? ⟨w.heap.size + 1, 5, none⟩ = some (.int .i64 xf) := cell_block JM.out.arr 5
      have r6 : wr.cell? ⟨w.heap.size, 6, none⟩ = some (.int .i64 0) := cell_block JM.out.res 6
      have q6 : wr.cell? ⟨w.heap.size + 1, 6, none⟩ = some (.int .i64 xg) := cell_block JM.out.arr 6
      have r7 : wr.cell? ⟨w.heap.size, 7, none⟩ = some (.int .i64 0) := cell_block JM.out.res 7
      have q7 : wr.cell? ⟨w.heap.size + 1, 7, none⟩ = some (.int .i64 xi) := cell_block JM.out.arr 7
      have r8 : wr.cell? ⟨w.heap.size, 8, none⟩ = some (.int .i64 0) := cell_block JM.out.res 8
      have q8 : wr.cell? ⟨w.heap.size + 1, 8, none⟩ = some (.int .i64 xj) := cell_block JM.out.arr 8
      clear hl9 HR hA
      go_region_with (go_at_call 52; refine (HC.out _).mono ?_; rintro e w9 ⟨rfl, hB⟩; have HM : Hid (LevM ts w w9 k [xa, xb, xc, xd, xe, xf, xg, xi, xj]) := JM.out.drew.step hB; clear hB; have rz : ∀ j, w9.frozen? ⟨w.heap.size, j, none⟩ = false := frozen_block HM.out.res; have r0 : w9.cell? ⟨w.heap.size, 0, none⟩ = some (.int .i64 0) := cell_block HM.out.res 0; have q0 : w9.cell? ⟨w.heap.size + 1, 0, none⟩ = some (.int .i64 xa) := cell_block HM.out.arr 0; have r1 : w9.cell? ⟨w.heap.size, 1, none⟩ = some (.int .i64 0) := cell_block HM.out.res 1; have q1 : w9.cell? ⟨w.heap.size + 1, 1, none⟩ = some (.int .i64 xb) := cell_block HM.out.arr 1; have r2 : w9.cell? ⟨w.heap.size, 2, none⟩ = some (.int .i64 0) := cell_block HM.out.res 2; have q2 : w9.cell? ⟨w.heap.size + 1, 2, none⟩ = some (.int .i64 xc) := cell_block HM.out.arr 2; have r3 : w9.cell? ⟨w.heap.size, 3, none⟩ = some (.int .i64 0) := cell_block HM.out.res 3; have q3 : w9.cell? ⟨w.heap.size + 1, 3, none⟩ = some (.int .i64 xd) := cell_block HM.out.arr 3; have r4 : w9.cell? ⟨w.heap.size, 4, none⟩ = some (.int .i64 0) := cell_block HM.out.res 4; have q4 : w9.cell? ⟨w.heap.size + 1, 4, none⟩ = some (.int .i64 xe) := cell_block HM.out.arr 4; have r5 : w9.cell? ⟨w.heap.size, 5, none⟩ = some (.int .i64 0) := cell_block HM.out.res 5; have q5 : w9.cell? ⟨w.heap.size + 1, 5, none⟩ = some (.int .i64 xf) := cell_block HM.out.arr 5; have r6 : w9.cell? ⟨w.heap.size, 6, none⟩ = some (.int .i64 0) := cell_block HM.out.res 6; have q6 : w9.cell? ⟨w.heap.size + 1, 6, none⟩ = some (.int .i64 xg) := cell_block HM.out.arr 6; have r7 : w9.cell? ⟨w.heap.size, 7, none⟩ = some (.int .i64 0) := cell_block HM.out.res 7; have q7 : w9.cell? ⟨w.heap.size + 1, 7, none⟩ = some (.int .i64 xi) := cell_block HM.out.arr 7; have r8 : w9.cell? ⟨w.heap.size, 8, none⟩ = some (.int .i64 0) := cell_block HM.out.res 8; have q8 : w9.cell? ⟨w.heap.size + 1, 8, none⟩ = some (.int .i64 xj) := cell_block HM.out.arr 8)
      all_goals
        obtain ⟨ri, HI⟩ : ∃ ri : Int, Hid (decide (ri = 1) = !r) := by
          cases r
          · exact ⟨1, rfl⟩
          · exact ⟨0, rfl⟩
        have HBz : Hid (Below w.heap.size w w9) := HM.out.bel
        go_wp2
        refine bodyPost_ret (v := .tuple #[.agg (ar9 [xa, xb, xc, xd, xe, xf, xg, xi, xj]), .bool (!r)]) (by simp [results, Tryd.results38, go_sem, r0, r1, r2, r3, r4, r5, r6, r7, r8, ar9]) rfl ?_
        exact ⟨[xa, xb, xc, xd, xe, xf, xg, xi, xj], ri, by rw [HI.out], by rw [HI.out]; exact HO.out, (((((((((HBz.out.setCell (p := ⟨w.heap.size, 0, none⟩) (Nat.le_refl _) _).setCell (p := ⟨w.heap.size, 1, none⟩) (Nat.le_refl _) _).setCell (p := ⟨w.heap.size, 2, none⟩) (Nat.le_refl _) _).setCell (p := ⟨w.heap.size, 3, none⟩) (Nat.le_refl _) _).setCell (p := ⟨w.heap.size, 4, none⟩) (Nat.le_refl _) _).setCell (p := ⟨w.heap.size, 5, none⟩) (Nat.le_refl _) _).setCell (p := ⟨w.heap.size, 6, none⟩) (Nat.le_refl _) _).setCell (p := ⟨w.heap.size, 7, none⟩) (Nat.le_refl _) _).setCell (p := ⟨w.heap.size, 8, none⟩) (Nat.le_refl _) _)⟩

end Go.Proofs.YtdgadamkiililaaDoor
