/-
  The walk of the reference's Eq.
-/
import Derived.Test.YtdgadamkiililaaDoorEq
import Derived.Test.YtdgadamkiililaaDoorKept
import Derived.Deep.RegionHeld
namespace Go.Proofs.YtdgadamkiililaaDoor
open Go.RowKit

theorem size_alloc2 (w : World) (o o' : Obj) : ((w.alloc o).alloc o').heap.size = w.heap.size + 1 + 1 := by simp

theorem bne_eq {n m : Nat} (h : n = m) : ((n : Int) != (m : Int)) = false := by simp [h]
theorem bne_ne {n m : Nat} (h : n ≠ m) : ((n : Int) != (m : Int)) = true := by simp; omega

/-- Two new blocks. -/
theorem two_fst (w : World) (a b : Array Value) (S T : TypeId) (j : Nat) : ((w.alloc (.cells a S)).alloc (.cells b T)).drew.cell? ⟨w.heap.size, j, none⟩ = a[j]? :=
  cell_block (w := ((w.alloc (.cells a S)).alloc (.cells b T)).drew) (T := S) (fr := (0, 0)) (show ((w.alloc (.cells a S)).alloc (.cells b T)).heap[w.heap.size]? = _ from block_below (below_alloc _ _) (heap_alloc_new _ _)) j
theorem two_snd (w : World) (a b : Array Value) (S T : TypeId) (j : Nat) : ((w.alloc (.cells a S)).alloc (.cells b T)).drew.cell? ⟨w.heap.size + 1, j, none⟩ = b[j]? := by
  have h := heap_alloc_new (w.alloc (.cells a S)) (.cells b T)
  rw [size_alloc1] at h
  exact cell_block (w := ((w.alloc (.cells a S)).alloc (.cells b T)).drew) (T := T) (fr := (0, 0)) h j
theorem two_below {w w0 : World} (h : Below w0.heap.size w0 w) (o o' : Obj) : Below w0.heap.size w0 ((w.alloc o).alloc o').drew := below_step h (below_step (below_step (below_alloc _ _) (below_alloc _ _)) ⟨rfl, rfl, rfl, Nat.le_refl _, fun _ _ => rfl⟩)

set_option maxHeartbeats 8000000 in
set_option maxRecDepth 20000 in
theorem req_calls : EqCalls 15 := by
  intro G K h k w r hG hK hp
  obtain ⟨ts, st, ex, rs⟩ := G
  obtain ⟨ta, tc, ra, rc⟩ := h
  obtain ⟨us, su, ey, ss⟩ := K
  obtain ⟨ua, uc, sa, sc⟩ := k
  have hm1 : ts.length ≤ tc ∧ tc ≤ 9223372036854775807 := by have h1 := hG.tok.le; have h2 := hG.tok.max; simp only at h1 h2; unfold maxLen at h2; omega
  have hm2 : us.length ≤ uc ∧ uc ≤ 9223372036854775807 := by have h1 := hK.tok.le; have h2 := hK.tok.max; simp only at h1 h2; unfold maxLen at h2; omega
  have hm3 := rules_le hG.rul
  have hm4 := rules_le hK.rul
  simp only at hm3 hm4
  unfold gv
  simp only
  obtain ⟨o1, ho1⟩ : ∃ o1 : Obj, o1 = .cells #[.slice ta ts.length tc, .string st, .int .i64 ex, .slice ra rs.length rc] 25 := ⟨_, rfl⟩
  obtain ⟨o2, ho2⟩ : ∃ o2 : Obj, o2 = .cells #[.slice ua us.length uc, .string su, .int .i64 ey, .slice sa ss.length sc] 25 := ⟨_, rfl⟩
  have hB : Below w.heap.size w ((w.alloc o1).alloc o2) := below_step (below_alloc _ _) (below_alloc _ _)
  have hb0 : ((w.alloc o1).alloc o2).heap[w.heap.size]? = some o1 := block_below (below_alloc _ _) (heap_alloc_new _ _)
  have hb1 : ((w.alloc o1).alloc o2).heap[w.heap.size + 1]? = some o2 := by
    have := heap_alloc_new (w.alloc o1) o2
    rwa [size_alloc1] at this
  have HS : Hid (ts.length ≤ 100 ∧ rs.length ≤ 200 ∧ ∀ x ∈ rs, x.r.length ≤ 100) := ⟨hG.small.nt, hG.small.nr, fun x hx => (hG.small.rl x hx).2.2.1⟩
  have HR : Hid (Row ((w.alloc o1).alloc o2) 3 ta ts.length tc (tokC ts) ∧ RulesAt ((w.alloc o1).alloc o2) ra rs.length rc rs ∧ Row ((w.alloc o1).alloc o2) 3 ua us.length uc (tokC us) ∧ RulesAt ((w.alloc o1).alloc o2) sa ss.length sc ss) := ⟨hG.tok.below hB, hG.rul.below hB, hK.tok.below hB, hK.rul.below hB⟩
  have HP : Hid (r = true ↔ (ts = us ∧ st = su ∧ ex = ey ∧ rs = ss)) := by
    refine hp.trans ⟨fun h => by cases h; exact ⟨rfl, rfl, rfl, rfl⟩, ?_⟩
    rintro ⟨rfl, rfl, rfl, rfl⟩
    rfl
  clear hG hK hp
  subst ho1 ho2
  generalize etn : ts.length = tn at *
  generalize eun : us.length = un at *
  generalize ern : rs.length = rn at *
  generalize esn : ss.length = sn at *
  have HE : Hid (ts.length = tn ∧ us.length = un ∧ rs.length = rn ∧ ss.length = sn) := ⟨etn, eun, ern, esn⟩
  clear etn eun ern esn
  by_cases e1 : tn = un
  rotate_left
  · have HF : Hid (r = false) := b_false HP.out (fun h => e1 (by rw [← HE.out.1, ← HE.out.2.1, h.1]))
    have hb := bne_ne e1
    have HBB : Hid _ := hB
    clear HP e1 HR HS hb0 hb1 hB
    go_enter Tryd.func15, Tryd.ntmps15
    go_wp2_with fail
    go_ret
    exact ⟨by rw [HF.out]; rfl, below_step (below_alloc _ _) (below_alloc _ _)⟩
  have hb1' := bne_eq e1
  by_cases e2 : st = su
  rotate_left
  · have HF : Hid (r = false) := b_false HP.out (fun h => e2 h.2.1)
    have hb := toList_beq_ne e2
    clear HP e1 e2 HR HS hb0 hb1 hB
    go_enter Tryd.func15, Tryd.ntmps15
    go_wp2_with fail
    go_ret
    exact ⟨by rw [HF.out]; rfl, below_step (below_alloc _ _) (below_alloc _ _)⟩
  have hb2' := toList_beq_eq e2
  by_cases e3 : ex = ey
  rotate_left
  · have HF : Hid (r = false) := b_false HP.out (fun h => e3 h.2.2.1)
    have hb : (ex != ey) = true := by simp [e3]
    clear HP e1 e2 e3 HR HS hb0 hb1 hB
    go_enter Tryd.func15, Tryd.ntmps15
    go_wp2_with fail
    go_ret
    exact ⟨by rw [HF.out]; rfl, below_step (below_alloc _ _) (below_alloc _ _)⟩
  have hb3' : (ex != ey) = false := by simp [e3]
  by_cases e4 : rn = sn
  rotate_left
  · have HF : Hid (r = false) := b_false HP.out (fun h => e4 (by rw [← HE.out.2.2.1, ← HE.out.2.2.2, h.2.2.2]))
    have hb := bne_ne e4
    clear HP e1 e2 e3 e4 HR HS hb0 hb1 hB
    go_enter Tryd.func15, Tryd.ntmps15
    go_wp2_with fail
    go_ret
    exact ⟨by rw [HF.out]; rfl, below_step (below_alloc _ _) (below_alloc _ _)⟩
  have hb4' := bne_eq e4
  have HP2 : Hid (r = true ↔ (ts = us ∧ rs = ss)) := HP.out.trans ⟨fun h => ⟨h.1, h.2.2.2⟩, fun h => ⟨h.1, e2, e3, h.2⟩⟩
  have HQ : Hid (tn = un ∧ rn = sn) := ⟨e1, e4⟩
  have HB : Hid (Below w.heap.size w ((w.alloc (.cells #[.slice ta tn tc, .string st, .int .i64 ex, .slice ra rn rc] 25)).alloc (.cells #[.slice ua un uc, .string su, .int .i64 ey, .slice sa sn sc] 25))) := hB
  have HX : Hid (((w.alloc (.cells #[.slice ta tn tc, .string st, .int .i64 ex, .slice ra rn rc] 25)).alloc (.cells #[.slice ua un uc, .string su, .int .i64 ey, .slice sa sn sc] 25)).heap[w.heap.size]? = some (.cells #[.slice ta tn tc, .string st, .int .i64 ex, .slice ra rn rc] 25 (0, 0)) ∧ ((w.alloc (.cells #[.slice ta tn tc, .string st, .int .i64 ex, .slice ra rn rc] 25)).alloc (.cells #[.slice ua un uc, .string su, .int .i64 ey, .slice sa sn sc] 25)).heap[w.heap.size + 1]? = some (.cells #[.slice ua un uc, .string su, .int .i64 ey, .slice sa sn sc] 25 (0, 0))) := ⟨hb0, hb1⟩
  clear HP e1 e2 e3 e4 hb0 hb1 hB
  go_enter Tryd.func15, Tryd.ntmps15
  go_upto_region 3 with fail
  generalize (w.alloc (.cells #[.slice ta tn tc, .string st, .int .i64 ex, .slice ra rn rc] 25)).alloc (.cells #[.slice ua un uc, .string su, .int .i64 ey, .slice sa sn sc] 25) = W at HR HB HX ⊢
  obtain ⟨nb, hnb⟩ : ∃ nb, nb = w.heap.size := ⟨_, rfl⟩
  rw [← hnb] at HX ⊢
  have HN : Hid (nb = w.heap.size) := hnb
  clear hnb hb1' hb2' hb3' hb4'
  go_wp2_with fail
  go_loopg [5] tn (fun kx s5 wr => ∃ k : Nat, s5 = .int .i64 k ∧ k ≤ tn ∧ tn - k ≤ kx ∧ Hid (Below W.heap.size W wr ∧ ∀ (i : Nat) (x y : Tk), i < k → ts[i]? = some x → us[i]? = some y → x = y))
  case atStart => exact ⟨0, rfl, Nat.zero_le _, by omega, (⟨Below.refl _ _, fun i x y h => absurd h (Nat.not_lt_zero _)⟩ : Below W.heap.size W _ ∧ ∀ (i : Nat) (x y : Tk), i < 0 → ts[i]? = some x → us[i]? = some y → x = y)⟩
  case round =>
    obtain ⟨k, rfl, hk, hg, J⟩ := hrel
    have x0 : wr.cell? ⟨nb, 0, none⟩ = some (.slice ta tn tc) := cell_below J.out.1 (by rw [cell_block HX.out.1]; rfl)
    have x1 : wr.cell? ⟨nb + 1, 0, none⟩ = some (.slice ua un uc) := cell_below J.out.1 (by rw [cell_block HX.out.2]; rfl)
    by_cases hlt : k < tn
    · have hlt' : (k : Int) < (tn : Int) := by omega
      have hlt2' : (k : Int) < (un : Int) := by have := HQ.out.1; omega
      have hlt2 : k < un := by omega
      obtain ⟨x, hx⟩ : ∃ x, ts[k]? = some x := ⟨ts[k]'(by rw [HE.out.1]; exact hlt), List.getElem?_eq_getElem _⟩
      obtain ⟨y, hy⟩ : ∃ y, us[k]? = some y := ⟨us[k]'(by rw [HE.out.2.1]; exact hlt2), List.getElem?_eq_getElem _⟩
      obtain ⟨b1, p1, rfl, c1, c2, c3⟩ := tok_at (HR.out.1.below J.out.1) hx
      obtain ⟨b2, p2, rfl, d1, d2, d3⟩ := tok_at (HR.out.2.2.1.below J.out.1) hy
      have HXY : Hid (ts[k]? = some x ∧ us[k]? = some y) := ⟨hx, hy⟩
      clear hx hy
      obtain ⟨xn, xl, xa⟩ := x
      obtain ⟨yn, yl, ya⟩ := y
      simp only at c1 c2 c3 d1 d2 d3
      go_upto_region 6 with fail
      go_cut [6, 7] from 42 to 77 (fun s6 s7 wd => ∃ p q : Nat, s6 = .pointer (some ⟨p, 0, none⟩) ∧ s7 = .pointer (some ⟨q, 0, none⟩) ∧ Hid (Below W.heap.size W wd ∧ wd.cell? ⟨p, 0, none⟩ = some (.string xn) ∧ wd.cell? ⟨p, 1, none⟩ = some (.int .i64 xl) ∧ wd.cell? ⟨p, 2, none⟩ = some (.int .i64 xa) ∧ wd.cell? ⟨q, 0, none⟩ = some (.string yn) ∧ wd.cell? ⟨q, 1, none⟩ = some (.int .i64 yl) ∧ wd.cell? ⟨q, 2, none⟩ = some (.int .i64 ya)))
      case first =>
        go_region_held (fun w' => w'.cell? ⟨nb, 0, none⟩ = some (.slice (some ⟨b1, p1, none⟩) tn tc) ∧ w'.cell? ⟨nb + 1, 0, none⟩ = some (.slice (some ⟨b2, p2, none⟩) un uc) ∧ w'.cell? ⟨b1, p1 + k * 3, none⟩ = some (.string xn) ∧ w'.cell? ⟨b1, p1 + k * 3 + 1, none⟩ = some (.int .i64 xl) ∧ w'.cell? ⟨b1, p1 + k * 3 + 2, none⟩ = some (.int .i64 xa) ∧ w'.cell? ⟨b2, p2 + k * 3, none⟩ = some (.string yn) ∧ w'.cell? ⟨b2, p2 + k * 3 + 1, none⟩ = some (.int .i64 yl) ∧ w'.cell? ⟨b2, p2 + k * 3 + 2, none⟩ = some (.int .i64 ya)) (go_keep) (fail)
        all_goals
          go_wp2_with fail
          go_meet
        · exact ⟨_, _, rfl, rfl, (⟨two_below J.out.1 _ _, two_fst _ _ _ _ _ 0, two_fst _ _ _ _ _ 1, two_fst _ _ _ _ _ 2, two_snd _ _ _ _ _ 0, two_snd _ _ _ _ _ 1, two_snd _ _ _ _ _ 2⟩ : _ ∧ _)⟩
        · exact ⟨_, _, rfl, rfl, (⟨two_below J.out.1 _ _, two_snd _ _ _ _ _ 0, two_snd _ _ _ _ _ 1, two_snd _ _ _ _ _ 2, two_fst _ _ _ _ _ 0, two_fst _ _ _ _ _ 1, two_fst _ _ _ _ _ 2⟩ : _ ∧ _)⟩
      case rest =>
        obtain ⟨p, q, rfl, rfl, J2⟩ := hcut
        obtain ⟨w2, hw2⟩ : ∃ w2, w2 = wc := ⟨_, rfl⟩
        subst wc
        clear c1 c2 c3 d1 d2 d3 x0 x1
        obtain ⟨-, q0, q1, q2, q3, q4, q5⟩ := J2.out
        have HB2 : Hid (Below W.heap.size W w2) := J2.out.1
        have HJ : Hid (∀ (i : Nat) (x y : Tk), i < k → ts[i]? = some x → us[i]? = some y → x = y) := J.out.2
        clear J J2
        by_cases hxy : (⟨xn, xl, xa⟩ : Tk) = ⟨yn, yl, ya⟩
        · obtain ⟨h1, h2, h3⟩ := (tk_eq_iff _ _ _ _ _ _).1 hxy
          have g2 : (xl != yl) = false := by simp [h2]
          have g3 : (xa != ya) = false := by simp [h3]
          have HF : Hid (∀ (i : Nat) (x y : Tk), i < k + 1 → ts[i]? = some x → us[i]? = some y → x = y) := fun i u v hi hu hv => by
            rcases Nat.lt_or_ge i k with h | h
            · exact HJ.out i u v h hu hv
            · have : i = k := by omega
              subst this
              rw [HXY.out.1] at hu
              rw [HXY.out.2] at hv
              cases hu; cases hv
              exact hxy
          clear hxy h2 h3 HJ
          go_wp2_with fail
          go_roundg (tn - (k + 1))
          case measure => omega
          case rel => exact ⟨k + 1, by simp, by omega, Nat.le_refl _, (⟨HB2.out, HF.out⟩ : Below W.heap.size W _ ∧ ∀ (i : Nat) (x y : Tk), i < k + 1 → ts[i]? = some x → us[i]? = some y → x = y)⟩
        · have HF : Hid (r = false) := b_false HP2.out (fun h => by have h5 := HXY.out; rw [h.1] at h5; rw [h5.1] at h5; exact hxy (Option.some.inj h5.2))
          have HBF : Hid (Below w.heap.size w w2) := below_step HB.out HB2.out
          rcases Bool.eq_false_or_eq_true (xn.toList == yn.toList) with h1 | h1
          · rcases Bool.eq_false_or_eq_true (xl != yl) with h2 | h2
            · clear hxy
              go_wp2_with fail
              go_ret
              exact ⟨by rw [HF.out]; rfl, HBF.out⟩
            · have h3 : (xa != ya) = true := by
                rcases Bool.eq_false_or_eq_true (xa != ya) with h3 | h3
                · exact h3
                · exact absurd ((tk_eq_iff _ _ _ _ _ _).2 ⟨h1, by simpa using h2, by simpa using h3⟩) hxy
              clear hxy
              go_wp2_with fail
              go_ret
              exact ⟨by rw [HF.out]; rfl, HBF.out⟩
          · clear hxy
            go_wp2_with fail
            go_ret
            exact ⟨by rw [HF.out]; rfl, HBF.out⟩
    · have hlt' : ¬ (k : Int) < (tn : Int) := by omega
      have HTS : Hid (ts = us) := list_eq_of (by rw [HE.out.1, HE.out.2.1]; exact HQ.out.1) (fun i x y hx hy => J.out.2 i x y (by have := (List.getElem?_eq_some_iff.1 hx).1; rw [HE.out.1] at this; omega) hx hy)
      obtain ⟨w3, hw3⟩ : ∃ w3, w3 = wr := ⟨_, rfl⟩
      subst wr
      have HB3 : Hid (Below W.heap.size W w3) := J.out.1
      clear J x1
      go_wp2_with fail
      clear x0
      go_loopg [8] rn (fun kx s8 wr => ∃ k : Nat, s8 = .int .i64 k ∧ k ≤ rn ∧ rn - k ≤ kx ∧ Hid (Below W.heap.size W wr ∧ ∀ (i : Nat) (x y : Ru), i < k → rs[i]? = some x → ss[i]? = some y → x = y))
      case atStart => exact ⟨0, rfl, Nat.zero_le _, by omega, (⟨HB3.out, fun i x y h => absurd h (Nat.not_lt_zero _)⟩ : Below W.heap.size W _ ∧ ∀ (i : Nat) (x y : Ru), i < 0 → rs[i]? = some x → ss[i]? = some y → x = y)⟩
      case round =>
        obtain ⟨k2, rfl, hk2, hg2, J⟩ := hrel
        clear HB3
        have x0 : wr.cell? ⟨nb, 3, none⟩ = some (.slice ra rn rc) := cell_below J.out.1 (by rw [cell_block HX.out.1]; rfl)
        have x1 : wr.cell? ⟨nb + 1, 3, none⟩ = some (.slice sa sn sc) := cell_below J.out.1 (by rw [cell_block HX.out.2]; rfl)
        by_cases hlt : k2 < rn
        · have hlt' : (k2 : Int) < (rn : Int) := by omega
          have hlt2' : (k2 : Int) < (sn : Int) := by have := HQ.out.2; omega
          have hlt2 : k2 < sn := by omega
          obtain ⟨x, hx⟩ : ∃ x, rs[k2]? = some x := ⟨rs[k2]'(by rw [HE.out.2.2.1]; exact hlt), List.getElem?_eq_getElem _⟩
          obtain ⟨y, hy⟩ : ∃ y, ss[k2]? = some y := ⟨ss[k2]'(by rw [HE.out.2.2.2]; exact hlt2), List.getElem?_eq_getElem _⟩
          obtain ⟨b1, p1, xa, xc, rfl, c1, c2, c3, c4⟩ := (HR.out.2.1.below J.out.1).at hx
          obtain ⟨b2, p2, ya, yc, rfl, d1, d2, d3, d4⟩ := (HR.out.2.2.2.below J.out.1).at hy
          have HXY : Hid (rs[k2]? = some x ∧ ss[k2]? = some y) := ⟨hx, hy⟩
          have hxl : x.r.length ≤ 100 := HS.out.2.2 x (List.mem_of_getElem? hx)
          clear hx hy
          obtain ⟨xl, xr, xp⟩ := x
          obtain ⟨yl, yr, yp⟩ := y
          simp only at c1 c2 c3 c4 d1 d2 d3 d4 hxl
          have HRW : Hid (Row wr 1 xa xr.length xc (strC xr) ∧ Row wr 1 ya yr.length yc (strC yr)) := ⟨c4, d4⟩
          have hq1 : xr.length ≤ xc ∧ xc ≤ 9223372036854775807 := by have := c4.le; have h := c4.max; unfold maxLen at h; omega
          have hq2 : yr.length ≤ yc ∧ yc ≤ 9223372036854775807 := by have := d4.le; have h := d4.max; unfold maxLen at h; omega
          clear c4 d4
          generalize exn : xr.length = xn at *
          generalize eyn : yr.length = yn at *
          have HLN : Hid (xr.length = xn ∧ yr.length = yn) := ⟨exn, eyn⟩
          clear exn eyn
          obtain ⟨wo, hwo⟩ : ∃ wo, wo = wr := ⟨_, rfl⟩
          subst wr
          go_upto_region 12 with fail
          go_cut [9, 10] from 78 to 133 (fun s9 s10 wd => ∃ p q : Nat, s9 = .pointer (some ⟨p, 0, none⟩) ∧ s10 = .pointer (some ⟨q, 0, none⟩) ∧ Hid (Below wo.heap.size wo wd ∧ wd.cell? ⟨p, 0, none⟩ = some (.string xl) ∧ wd.cell? ⟨p, 1, none⟩ = some (.slice xa xn xc) ∧ wd.cell? ⟨p, 2, none⟩ = some (.string xp) ∧ wd.cell? ⟨q, 0, none⟩ = some (.string yl) ∧ wd.cell? ⟨q, 1, none⟩ = some (.slice ya yn yc) ∧ wd.cell? ⟨q, 2, none⟩ = some (.string yp)))
          case first =>
            go_region_held (fun w' => w'.cell? ⟨nb, 3, none⟩ = some (.slice (some ⟨b1, p1, none⟩) rn rc) ∧ w'.cell? ⟨nb + 1, 3, none⟩ = some (.slice (some ⟨b2, p2, none⟩) sn sc) ∧ w'.cell? ⟨b1, p1 + k2 * 3, none⟩ = some (.string xl) ∧ w'.cell? ⟨b1, p1 + k2 * 3 + 1, none⟩ = some (.slice xa xn xc) ∧ w'.cell? ⟨b1, p1 + k2 * 3 + 2, none⟩ = some (.string xp) ∧ w'.cell? ⟨b2, p2 + k2 * 3, none⟩ = some (.string yl) ∧ w'.cell? ⟨b2, p2 + k2 * 3 + 1, none⟩ = some (.slice ya yn yc) ∧ w'.cell? ⟨b2, p2 + k2 * 3 + 2, none⟩ = some (.string yp)) (go_keep) (fail)
            all_goals
              go_wp2_with fail
              go_meet
            · exact ⟨_, _, rfl, rfl, (⟨two_below (Below.refl _ _) _ _, two_fst _ _ _ _ _ 0, two_fst _ _ _ _ _ 1, two_fst _ _ _ _ _ 2, two_snd _ _ _ _ _ 0, two_snd _ _ _ _ _ 1, two_snd _ _ _ _ _ 2⟩ : _ ∧ _)⟩
            · exact ⟨_, _, rfl, rfl, (⟨two_below (Below.refl _ _) _ _, two_snd _ _ _ _ _ 0, two_snd _ _ _ _ _ 1, two_snd _ _ _ _ _ 2, two_fst _ _ _ _ _ 0, two_fst _ _ _ _ _ 1, two_fst _ _ _ _ _ 2⟩ : _ ∧ _)⟩
          case rest =>
            obtain ⟨p, q, rfl, rfl, J2⟩ := hcut
            obtain ⟨w2, hw2⟩ : ∃ w2, w2 = wc := ⟨_, rfl⟩
            subst wc
            clear c1 c2 c3 d1 d2 d3 x0 x1
            obtain ⟨-, q0, q1, q2, q3, q4, q5⟩ := J2.out
            have HB2 : Hid (Below W.heap.size W w2) := below_step J.out.1 J2.out.1
            have HRW2 : Hid (Row w2 1 xa xn xc (strC xr) ∧ Row w2 1 ya yn yc (strC yr)) := ⟨HRW.out.1.below J2.out.1, HRW.out.2.below J2.out.1⟩
            have HC2 : Hid (w2.cell? ⟨p, 1, none⟩ = some (.slice xa xn xc) ∧ w2.cell? ⟨q, 1, none⟩ = some (.slice ya yn yc)) := ⟨q1, q4⟩
            have HJ : Hid (∀ (i : Nat) (x y : Ru), i < k2 → rs[i]? = some x → ss[i]? = some y → x = y) := J.out.2
            have HBF : Hid (Below w.heap.size w w2) := below_step HB.out HB2.out
            clear J J2 HRW
            have HNE : Hid ((⟨xl, xr, xp⟩ : Ru) ≠ ⟨yl, yr, yp⟩ → r = false) := fun hxy => b_false HP2.out (fun h => by have h5 := HXY.out; rw [h.2] at h5; rw [h5.1] at h5; exact hxy (Option.some.inj h5.2))
            by_cases h1 : xl = yl
            rotate_left
            · have g1 := toList_beq_ne h1
              have HF : Hid (r = false) := HNE.out (fun h => h1 (by cases h; rfl))
              clear h1
              go_wp2_with fail
              go_ret
              exact ⟨by rw [HF.out]; rfl, HBF.out⟩
            have g1 := toList_beq_eq h1
            by_cases h2 : xp = yp
            rotate_left
            · have g2 := toList_beq_ne h2
              have HF : Hid (r = false) := HNE.out (fun h => h2 (by cases h; rfl))
              clear h1 h2
              go_wp2_with fail
              go_ret
              exact ⟨by rw [HF.out]; rfl, HBF.out⟩
            have g2 := toList_beq_eq h2
            by_cases h3 : xn = yn
            rotate_left
            · have g3 := bne_ne h3
              have HF : Hid (r = false) := HNE.out (fun h => h3 (by rw [← HLN.out.1, ← HLN.out.2]; cases h; rfl))
              clear h1 h2 h3
              go_wp2_with fail
              go_ret
              exact ⟨by rw [HF.out]; rfl, HBF.out⟩
            have g3 := bne_eq h3
            have HE3 : Hid (xl = yl ∧ xp = yp ∧ xn = yn) := ⟨h1, h2, h3⟩
            clear h1 h2 h3
            go_upto_region 15 with fail
            clear g1 g2 g3 q0 q1 q2 q3 q4 q5
            go_wp2_with fail
            go_loopg [11] xn (fun kx s11 wr => ∃ j : Nat, s11 = .int .i64 j ∧ j ≤ xn ∧ xn - j ≤ kx ∧ Hid (Below w2.heap.size w2 wr ∧ ∀ (i : Nat) (x y : ByteArray), i < j → xr[i]? = some x → yr[i]? = some y → x = y))
            case atStart => exact ⟨0, rfl, Nat.zero_le _, by omega, (⟨Below.refl _ _, fun i x y h => absurd h (Nat.not_lt_zero _)⟩ : Below w2.heap.size w2 _ ∧ ∀ (i : Nat) (x y : ByteArray), i < 0 → xr[i]? = some x → yr[i]? = some y → x = y)⟩
            case round =>
              obtain ⟨j, rfl, hj, hg3, J3⟩ := hrel
              have q1 := cell_below J3.out.1 HC2.out.1
              have q4 := cell_below J3.out.1 HC2.out.2
              by_cases hjlt : j < xn
              · have hjlt' : (j : Int) < (xn : Int) := by omega
                have hj2' : (j : Int) < (yn : Int) := by have := HE3.out.2.2; omega
                have hj2 : j < yn := by omega
                obtain ⟨x, hx⟩ : ∃ x, xr[j]? = some x := ⟨xr[j]'(by rw [HLN.out.1]; exact hjlt), List.getElem?_eq_getElem _⟩
                obtain ⟨y, hy⟩ : ∃ y, yr[j]? = some y := ⟨yr[j]'(by rw [HLN.out.2]; exact hj2), List.getElem?_eq_getElem _⟩
                obtain ⟨b3, p3, rfl, c1⟩ := str_at (HRW2.out.1.below J3.out.1) hx
                obtain ⟨b4, p4, rfl, c2⟩ := str_at (HRW2.out.2.below J3.out.1) hy
                have HZ : Hid (xr[j]? = some x ∧ yr[j]? = some y) := ⟨hx, hy⟩
                clear hx hy
                go_upto_region 18 with fail
                have m1 := cell_onto c1
                have m2 := cell_onto c2
                have m3 := cell_onto q1
                have m4 := cell_onto q4
                have HO : Hid (∀ n os, Below w2.heap.size w2 (onto wr n os)) := fun n os => below_step J3.out.1 (onto_below wr n os)
                clear c1 c2 q1 q4
                by_cases hxy : x = y
                · have e3 : (x.toList == y.toList) = true := toList_beq_eq hxy
                  have HF : Hid (∀ (i : Nat) (x y : ByteArray), i < j + 1 → xr[i]? = some x → yr[i]? = some y → x = y) := fun i u v hi hu hv => by
                    rcases Nat.lt_or_ge i j with h | h
                    · exact J3.out.2 i u v h hu hv
                    · have : i = j := by omega
                      subst this
                      rw [HZ.out.1] at hu
                      rw [HZ.out.2] at hv
                      cases hu; cases hv
                      exact hxy
                  clear hxy J3
                  refine wp_region_onto (by kernel_rfl) ?_
                  repeat (go_big_quiet_step (fail))
                  refine wpQuiet_nil ?_
                  intro _ hwq
                  obtain ⟨⟨nq, osq⟩, hwe⟩ := hwq
                  subst hwe
                  simp only
                  go_wp2_with fail
                  go_roundg (xn - (j + 1))
                  case measure => omega
                  case rel => exact ⟨j + 1, by simp, by omega, Nat.le_refl _, (⟨HO.out _ _, HF.out⟩ : Below w2.heap.size w2 _ ∧ ∀ (i : Nat) (x y : ByteArray), i < j + 1 → xr[i]? = some x → yr[i]? = some y → x = y)⟩
                · have e3 : (x.toList == y.toList) = false := toList_beq_ne hxy
                  have HF : Hid (r = false) := HNE.out (fun h => by
                    have h5 := HZ.out
                    have h6 : xr = yr := by cases h; rfl
                    rw [h6] at h5
                    rw [h5.1] at h5
                    exact hxy (Option.some.inj h5.2))
                  clear hxy J3
                  refine wp_region_onto (by kernel_rfl) ?_
                  repeat (go_big_quiet_step (fail))
                  refine wpQuiet_nil ?_
                  intro _ hwq
                  obtain ⟨⟨nq, osq⟩, hwe⟩ := hwq
                  subst hwe
                  simp only
                  go_wp2_with fail
                  go_ret
                  exact ⟨by rw [HF.out]; rfl, below_step HBF.out (HO.out _ _)⟩
              · have hjlt' : ¬ (j : Int) < (xn : Int) := by omega
                have hxr : xr = yr := list_eq_of (by rw [HLN.out.1, HLN.out.2]; exact HE3.out.2.2) (fun i x y hx hy => J3.out.2 i x y (by have := (List.getElem?_eq_some_iff.1 hx).1; rw [HLN.out.1] at this; omega) hx hy)
                have HF : Hid (∀ (i : Nat) (x y : Ru), i < k2 + 1 → rs[i]? = some x → ss[i]? = some y → x = y) := fun i u v hi hu hv => by
                  rcases Nat.lt_or_ge i k2 with h | h
                  · exact HJ.out i u v h hu hv
                  · have : i = k2 := by omega
                    subst this
                    rw [HXY.out.1] at hu
                    rw [HXY.out.2] at hv
                    cases hu; cases hv
                    rw [HE3.out.1, HE3.out.2.1, hxr]
                have HB4 : Hid (Below W.heap.size W wr) := below_step HB2.out J3.out.1
                clear J3 hxr
                go_wp2_with fail
                go_roundg (rn - (k2 + 1))
                case measure => omega
                case rel => exact ⟨k2 + 1, by simp, by omega, Nat.le_refl _, (⟨HB4.out, HF.out⟩ : Below W.heap.size W _ ∧ ∀ (i : Nat) (x y : Ru), i < k2 + 1 → rs[i]? = some x → ss[i]? = some y → x = y)⟩
        · have hlt' : ¬ (k2 : Int) < (rn : Int) := by omega
          have HF : Hid (r = true) := b_true HP2.out ⟨HTS.out, list_eq_of (by rw [HE.out.2.2.1, HE.out.2.2.2]; exact HQ.out.2) (fun i x y hx hy => J.out.2 i x y (by have := (List.getElem?_eq_some_iff.1 hx).1; rw [HE.out.2.2.1] at this; omega) hx hy)⟩
          have HBF : Hid (Below w.heap.size w wr) := below_step HB.out J.out.1
          clear J
          go_wp2_with fail
          go_ret
          exact ⟨by rw [HF.out]; rfl, HBF.out⟩

end Go.Proofs.YtdgadamkiililaaDoor
