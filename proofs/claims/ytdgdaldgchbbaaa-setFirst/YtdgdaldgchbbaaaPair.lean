/-
  Pairs that are alike by their keys: the order as the program tells it.
-/
import Derived.Test.YtdgdaldgchbbaaaHas
namespace Go.Proofs.Ytdgdaldgchbbaaa
open Go.RowKit Go.Shelf Go.Sort

/-- A pair as a value, and as its cells. -/
def encP (a : Int × Int) : Value := .agg #[.int .i64 a.1, .int .i64 a.2]
def cellsP (xs : List (Int × Int)) : List Value := xs.flatMap fun a => [.int .i64 a.1, .int .i64 a.2]
def cmpP (a b : Int × Int) : Int := cmpI a.1 b.1

theorem cmpP_ord : Ord cmpP where
  trans := fun a b c h k => by unfold cmpP at *; rw [cmpI_neg] at *; omega
  alike := fun a b c h k => by unfold cmpP at *; rw [cmpI_neg] at *; rw [cmpI_zero] at k; omega
  turn := fun a b h => by unfold cmpP at *; rw [cmpI_pos] at h; rw [cmpI_neg]; exact h
  same := fun a => by unfold cmpP; rw [cmpI_zero]

theorem Try.info44 : (Try.prog.info? 44).map (fun i => (i.zero, i.size, i.bytes)) = some (some (.agg #[.int .i64 0, .int .i64 0]), 2, 16) := by kernel_rfl

set_option maxHeartbeats 1000000 in
theorem pair_spec (a b : Int × Int) (w : World) : Calls Try.prog 24 #[encP a, encP b] w fun e w' => e = .returned (.int .i64 (cmpP a b)) ∧ ∃ q os, w' = grow (w.drewN q) os := by
  obtain ⟨a1, a2⟩ := a
  obtain ⟨b1, b2⟩ := b
  have hc : ∀ W, Calls Try.prog 9 #[.int .i64 a1, .int .i64 b1] W fun e w' => e = .returned (.int .i64 (cmpI a1 b1)) ∧ w' = W := compare_spec a1 b1
  have HC : Hid (∀ W, Calls Try.prog 9 #[.int .i64 a1, .int .i64 b1] W fun e w' => e = .returned (.int .i64 (cmpI a1 b1)) ∧ w' = W) := hc
  clear hc
  unfold encP cmpP
  simp only
  generalize cmpI a1 b1 = r at HC ⊢
  go_enter Try.func24, Try.ntmps24
  go_wp2_with (go_at_call 9; refine (HC.out _).mono ?_; rintro e w1 ⟨rfl, rfl⟩)
  go_ret
  exact ⟨rfl, 0, _, by rw [alloc_grow, alloc_grow, grow_grow]; rfl⟩

/-- A slice of pairs that reads as a list. -/
structure SegP (w : World) (ao : Option Addr) (len cap : Nat) (xs : List (Int × Int)) : Prop where
  size : xs.length = len
  le : len ≤ cap
  max : cap ≤ maxLen
  nil : ao = none → len = 0 ∧ cap = 0
  cell : ∀ a, ao = some a → ∃ g, a = ⟨g, 0, none⟩ ∧ g < w.heap.size ∧ ∀ j, j < len → w.cell? ⟨g, j * 2, none⟩ = some (.int .i64 (xs[j]?.getD (0, 0)).1) ∧ w.cell? ⟨g, j * 2 + 1, none⟩ = some (.int .i64 (xs[j]?.getD (0, 0)).2)

theorem SegP.below {w w' : World} {ao : Option Addr} {len cap : Nat} {xs : List (Int × Int)} (h : SegP w ao len cap xs) (hb : Below w.heap.size w w') : SegP w' ao len cap xs := by
  refine ⟨h.size, h.le, h.max, h.nil, fun a ha => ?_⟩
  obtain ⟨g, rfl, hg, hc⟩ := h.cell a ha
  refine ⟨g, rfl, Nat.lt_of_lt_of_le hg hb.size, fun j hj => ?_⟩
  obtain ⟨h0, h1⟩ := hc j hj
  exact ⟨by rw [hb.cell hg]; exact h0, by rw [hb.cell hg]; exact h1⟩

theorem SegP.at {w : World} {ao : Option Addr} {len cap : Nat} {xs : List (Int × Int)} (h : SegP w ao len cap xs) (hp : 0 < len) :
    ∃ g, ao = some ⟨g, 0, none⟩ ∧ g < w.heap.size ∧ ∀ j, j < len → w.cell? ⟨g, j * 2, none⟩ = some (.int .i64 (xs[j]?.getD (0, 0)).1) ∧ w.cell? ⟨g, j * 2 + 1, none⟩ = some (.int .i64 (xs[j]?.getD (0, 0)).2) := by
  cases ao with
  | none => have := (h.nil rfl).1; omega
  | some a => obtain ⟨g, rfl, hg, hc⟩ := h.cell a rfl; exact ⟨g, rfl, hg, hc⟩

theorem grow_step (W : World) (k nq : Nat) (os osq : Array Obj) : grow ((grow (W.drewN k) os).drewN nq) osq = grow (W.drewN (k + nq)) (os ++ osq) := by
  show grow (grow ((W.drewN k).drewN nq) os) osq = _
  rw [grow_grow, World.drewN_drewN]

set_option maxHeartbeats 4000000 in
theorem search_pair {w : World} {ao : Option Addr} {n cap : Nat} {xs : List (Int × Int)} (h : SegP w ao n cap xs) (hs : Sorted cmpP xs) (hn : n ≤ 1048576) (x : Int × Int) :
    Calls Try.prog 48 #[.slice ao n cap, encP x, fnv 24] w fun e w' => e = .returned (.tuple #[.int .i64 (pos cmpP x xs), .bool (isIn cmpP x xs)]) ∧ ∃ q os, w' = grow (w.drewN q) os := by
  have mx := mixed
  have HC : Hid (∀ a b W, Calls Try.prog 24 #[encP a, encP b] W fun e w' => e = .returned (.int .i64 (cmpP a b)) ∧ ∃ q os, w' = grow (W.drewN q) os) := pair_spec
  have HM : Hid (∀ i j, i ≤ j → j < n → cmpP (xs[j]?.getD (0, 0)) x < 0 → cmpP (xs[i]?.getD (0, 0)) x < 0) := fun i j hij hj hx =>
    hs.mono cmpP_ord x hij (get_some (by rw [h.size]; omega)) (get_some (by rw [h.size]; exact hj)) hx
  have HL : Hid (xs.length = n) := h.size
  have HS : Hid (SegP w ao n cap xs) := h
  generalize hpp : pos cmpP x xs = pp
  have HP : Hid (pos cmpP x xs = pp) := hpp
  generalize hqq : isIn cmpP x xs = qq
  have HQ : Hid (isIn cmpP x xs = qq) := hqq
  clear hpp hqq h hs
  obtain ⟨x1, x2⟩ := x
  unfold fnv
  have ex : encP (x1, x2) = .agg #[.int .i64 x1, .int .i64 x2] := rfl
  rw [ex]
  go_enter Try.func48, Try.ntmps48
  go_wp2_with fail
  have HB0 : Hid ((w.alloc (.cells #[.int .i64 x1, .int .i64 x2] 44)).cell? ⟨w.heap.size, 0, none⟩ = some (.int .i64 x1) ∧ (w.alloc (.cells #[.int .i64 x1, .int .i64 x2] 44)).cell? ⟨w.heap.size, 1, none⟩ = some (.int .i64 x2) ∧ w.heap.size < (w.alloc (.cells #[.int .i64 x1, .int .i64 x2] 44)).heap.size) := by
    refine ⟨?_, ?_, by simp⟩
    · rw [World.cell?_alloc_at (w := w) _ _ w.heap.size _ rfl]; rfl
    · rw [World.cell?_alloc_at (w := w) _ _ w.heap.size _ rfl]; rfl
  have HE : Hid (w.alloc (.cells #[.int .i64 x1, .int .i64 x2] 44) = grow w #[.cells #[.int .i64 x1, .int .i64 x2] 44]) := alloc_grow _ _
  have HW : Hid (Below w.heap.size w (w.alloc (.cells #[.int .i64 x1, .int .i64 x2] 44))) := below_alloc _ _
  generalize w.alloc (.cells #[.int .i64 x1, .int .i64 x2] 44) = W0 at HB0 HE HW ⊢
  generalize w.heap.size = bx at HB0 ⊢
  go_loopg [9, 10] n (fun kx s9 s10 wr => ∃ lo hi : Nat, s9 = .int .i64 lo ∧ s10 = .int .i64 hi ∧ lo ≤ hi ∧ hi ≤ n ∧ hi - lo ≤ kx ∧ Hid (∃ k os, wr = grow (W0.drewN k) os) ∧
    Hid ((∀ t, t < lo → cmpP (xs[t]?.getD (0, 0)) (x1, x2) < 0) ∧ (∀ t, hi ≤ t → t < n → 0 ≤ cmpP (xs[t]?.getD (0, 0)) (x1, x2))))
  case atStart => exact ⟨0, n, rfl, rfl, Nat.zero_le _, Nat.le_refl _, by omega, (⟨0, #[], by rw [grow_empty]; rfl⟩ : ∃ k os, W0 = grow (W0.drewN k) os), (⟨fun t ht => absurd ht (Nat.not_lt_zero _), fun t h1 h2 => by omega⟩ : (∀ t, t < 0 → cmpP (xs[t]?.getD (0, 0)) (x1, x2) < 0) ∧ (∀ t, n ≤ t → t < n → 0 ≤ cmpP (xs[t]?.getD (0, 0)) (x1, x2)))⟩
  case round =>
    obtain ⟨lo, hi, rfl, rfl, hlh, hin, hg, G, I⟩ := hrel
    obtain ⟨kk, os, hwr⟩ := G.out
    have HWR : Hid (wr = grow (W0.drewN kk) os) := hwr
    have hbw : Below W0.heap.size W0 wr := by rw [hwr]; exact below_grow _ _ _
    have cb0 : wr.cell? ⟨bx, 0, none⟩ = some (.int .i64 x1) := by rw [hbw.cell HB0.out.2.2]; exact HB0.out.1
    have cb1 : wr.cell? ⟨bx, 1, none⟩ = some (.int .i64 x2) := by rw [hbw.cell HB0.out.2.2]; exact HB0.out.2.1
    have HG : Hid (SegP wr ao n cap xs) := (HS.out.below HW.out).below hbw
    clear G hwr hbw
    have cb0g := cell_grown (World.block_lt_of_cell? _ _ cb0) cb0
    have cb1g := cell_grown (World.block_lt_of_cell? _ _ cb1) cb1
    by_cases hlt : lo < hi
    · obtain ⟨g, rfl, hgl, hcell⟩ := HG.out.at (by omega)
      have cm := hcell ((lo + hi) / 2) (by omega)
      generalize hy : xs[(lo + hi) / 2]?.getD (0, 0) = y at cm
      have Y : Hid (xs[(lo + hi) / 2]?.getD (0, 0) = y) := hy
      clear hy hcell
      have cm0g := cell_grown (World.block_lt_of_cell? _ _ cm.1) cm.1
      have cm1g := cell_grown (World.block_lt_of_cell? _ _ cm.2) cm.2
      have hc := HC.out y (x1, x2)
      obtain ⟨y1, y2⟩ := y
      rw [ex, show encP (y1, y2) = .agg #[.int .i64 y1, .int .i64 y2] from rfl] at hc
      simp only at cm0g cm1g
      have HCC : Hid (∀ W, Calls Try.prog 24 #[.agg #[.int .i64 y1, .int .i64 y2], .agg #[.int .i64 x1, .int .i64 x2]] W fun e w' => e = .returned (.int .i64 (cmpP (y1, y2) (x1, x2))) ∧ ∃ q os, w' = grow (W.drewN q) os) := hc
      clear hc cm
      generalize hr : cmpP (y1, y2) (x1, x2) = r at HCC
      have R : Hid (cmpP (y1, y2) (x1, x2) = r) := hr
      clear hr
      by_cases hyx : r < 0
      · go_upto_region 5 with fail
        refine wp_region_quiet_grown mx (by kernel_rfl) ?_
        repeat (go_big_quiet_step (first
          | (go_at_call 24; exact Calls.grown_of (HCC.out _))))
        refine wpQuiet_nil ?_
        intro _ hwq
        obtain ⟨⟨nq, osq⟩, hwe⟩ := hwq
        subst hwe
        go_wp2_with fail
        go_roundg (hi - ((lo + hi) / 2 + 1))
        case measure => omega
        case rel =>
          have I2 : Hid ((∀ t, t < (lo + hi) / 2 + 1 → cmpP (xs[t]?.getD (0, 0)) (x1, x2) < 0) ∧ (∀ t, hi ≤ t → t < n → 0 ≤ cmpP (xs[t]?.getD (0, 0)) (x1, x2))) := ⟨fun t ht => HM.out t ((lo + hi) / 2) (by omega) (by omega) (by rw [Y.out, R.out]; exact hyx), I.out.2⟩
          exact ⟨(lo + hi) / 2 + 1, hi, by rw [show ((lo : Int) + (hi : Int)) / 2 + 1 = (((lo + hi) / 2 + 1 : Nat) : Int) by omega], rfl, by omega, hin, Nat.le_refl _, (⟨kk + nq, os ++ osq, by rw [HWR.out, grow_step]⟩ : ∃ k os, grow (wr.drewN nq) osq = grow (W0.drewN k) os), I2⟩
      · go_upto_region 5 with fail
        refine wp_region_quiet_grown mx (by kernel_rfl) ?_
        repeat (go_big_quiet_step (first
          | (go_at_call 24; exact Calls.grown_of (HCC.out _))))
        refine wpQuiet_nil ?_
        intro _ hwq
        obtain ⟨⟨nq, osq⟩, hwe⟩ := hwq
        subst hwe
        go_wp2_with fail
        go_roundg ((lo + hi) / 2 - lo)
        case measure => omega
        case rel =>
          have I2 : Hid ((∀ t, t < lo → cmpP (xs[t]?.getD (0, 0)) (x1, x2) < 0) ∧ (∀ t, (lo + hi) / 2 ≤ t → t < n → 0 ≤ cmpP (xs[t]?.getD (0, 0)) (x1, x2))) := ⟨I.out.1, fun t ht htn => Int.not_lt.1 fun hx => by have := HM.out ((lo + hi) / 2) t ht htn hx; rw [Y.out, R.out] at this; omega⟩
          exact ⟨lo, (lo + hi) / 2, rfl, by rw [show ((lo : Int) + (hi : Int)) / 2 = (((lo + hi) / 2 : Nat) : Int) by omega], by omega, by omega, Nat.le_refl _, (⟨kk + nq, os ++ osq, by rw [HWR.out, grow_step]⟩ : ∃ k os, grow (wr.drewN nq) osq = grow (W0.drewN k) os), I2⟩
    · obtain rfl : hi = lo := by omega
      have ep : pp = hi := by
        rw [← HP.out]
        refine pos_unique cmpP (x1, x2) xs hi (by rw [HL.out]; exact hin) (fun j y hj e => ?_) (fun y e => ?_)
        · have := I.out.1 j hj; rw [e] at this; exact this
        · have hlt : hi < n := by rw [← HL.out]; exact (List.getElem?_eq_some_iff.1 e).1
          have := I.out.2 hi (Nat.le_refl _) hlt; rw [e] at this; exact Int.not_lt.2 this
      subst ep
      have HFW : Hid (∀ nq osq, ∃ q os, grow (wr.drewN nq) osq = grow (w.drewN q) os) := fun nq osq => by
        refine ⟨kk + nq, #[.cells #[.int .i64 x1, .int .i64 x2] 44] ++ (os ++ osq), ?_⟩
        rw [HWR.out, grow_step, HE.out]
        show grow (grow (w.drewN (kk + nq)) _) _ = _
        rw [grow_grow]
      by_cases hlast : pp < n
      · obtain ⟨g, rfl, hgl, hcell⟩ := HG.out.at (by omega)
        have cm := hcell pp hlast
        generalize hy : xs[pp]?.getD (0, 0) = y at cm
        have hq : qq = decide (cmpP y (x1, x2) = 0) := by
          rw [← HQ.out, ← hy]
          exact isIn_at HP.out (get_some (by rw [HL.out]; exact hlast))
        clear hy hcell
        have cm0g := cell_grown (World.block_lt_of_cell? _ _ cm.1) cm.1
        have cm1g := cell_grown (World.block_lt_of_cell? _ _ cm.2) cm.2
        have hc := HC.out y (x1, x2)
        obtain ⟨y1, y2⟩ := y
        rw [ex, show encP (y1, y2) = .agg #[.int .i64 y1, .int .i64 y2] from rfl] at hc
        simp only at cm0g cm1g
        have HCC : Hid (∀ W, Calls Try.prog 24 #[.agg #[.int .i64 y1, .int .i64 y2], .agg #[.int .i64 x1, .int .i64 x2]] W fun e w' => e = .returned (.int .i64 (cmpP (y1, y2) (x1, x2))) ∧ ∃ q os, w' = grow (W.drewN q) os) := hc
        clear hc cm
        generalize cmpP (y1, y2) (x1, x2) = r at HCC hq
        have HQ2 : Hid (qq = decide (r = 0)) := hq
        clear hq
        have hltd : decide ((pp : Int) < (n : Int)) = true := by simpa using hlast
        by_cases hyx : r = 0
        · have hyb : (r == 0) = true := by simpa using hyx
          have hq' : Hid (qq = true) := HQ2.out.trans (by simpa using hyx)
          go_upto_region 8 with fail
          refine wp_region_quiet_grown mx (by kernel_rfl) ?_
          repeat (go_big_quiet_step (first
            | (go_at_call 24; exact Calls.grown_of (HCC.out _))))
          refine wpQuiet_nil ?_
          intro _ hwq
          obtain ⟨⟨nq, osq⟩, hwe⟩ := hwq
          subst hwe
          go_wp2
          go_ret2
          exact ⟨by rw [hq'.out]; rfl, HFW.out _ _⟩
        · have hyb : (r == 0) = false := by simpa using hyx
          have hq' : Hid (qq = false) := HQ2.out.trans (by simpa using hyx)
          go_upto_region 8 with fail
          refine wp_region_quiet_grown mx (by kernel_rfl) ?_
          repeat (go_big_quiet_step (first
            | (go_at_call 24; exact Calls.grown_of (HCC.out _))))
          refine wpQuiet_nil ?_
          intro _ hwq
          obtain ⟨⟨nq, osq⟩, hwe⟩ := hwq
          subst hwe
          go_wp2
          go_ret2
          exact ⟨by rw [hq'.out]; rfl, HFW.out _ _⟩
      · have hq' : Hid (qq = false) := by
          show qq = false
          rw [← HQ.out]
          exact isIn_end HP.out (by rw [HL.out]; omega)
        have hltd : decide ((pp : Int) < (n : Int)) = false := decide_eq_false (by omega)
        go_upto_region 8 with fail
        refine wp_region_quiet_grown mx (by kernel_rfl) ?_
        repeat (go_big_quiet_step (fail))
        refine wpQuiet_nil ?_
        intro _ hwq
        obtain ⟨⟨nq, osq⟩, hwe⟩ := hwq
        subst hwe
        go_wp2
        go_ret2
        exact ⟨by rw [hq'.out]; rfl, HFW.out _ _⟩

end Go.Proofs.Ytdgdaldgchbbaaa
