/-
  Texts that the proof of the Read statements stands on, part Own10.
-/
import Derived.Test.YtkaojokhdleeiaaGreatDoorOwn09
import Derived.Test.YtkaojokhdleeiaaGreatDoorOwn04
import Derived.Test.YtkaojokhdleeiaaGreatDoorOwn03
import Derived.Deep.RegionHeld
import Derived.Test.YtkaojokhdleeiaaGreatDoorOwn05
import Derived.Test.YtkaojokhdleeiaaGreatDoorOwn06
import Derived.Test.YtkaojokhdleeiaaGreatDoorOwn08
/-
  A scan that ends at a fault: what stands before the fault scans without one.
-/
namespace Go.Proofs.YtkaojokhdleeiaaGreatDoor
open Go.RowKit

set_option maxRecDepth 20000

theorem bt_take {l : List UInt8} {m i : Nat} (h : i < m) : bt (l.take m) i = bt l i := by
  unfold bt; rw [List.getElem?_take, if_pos h]

theorem runLen_take (p : Int → Bool) : ∀ (l : List UInt8) (m : Nat), runLen p (l.take m) = min (runLen p l) m
  | [], m => by simp [runLen]
  | b :: r, 0 => by simp [runLen]
  | b :: r, m + 1 => by
    rw [List.take_succ_cons]
    unfold runLen
    split
    · rw [runLen_take p r m]; omega
    · omega

theorem runEnd_take {p : Int → Bool} {l : List UInt8} {m i : Nat} (h : i ≤ m) (he : runEnd p l i ≤ m) : runEnd p (l.take m) i = runEnd p l i := by
  unfold runEnd at *
  rw [List.drop_take, runLen_take]
  omega

theorem part_take {l : List UInt8} {m i e : Nat} (he : e ≤ m) : part (l.take m) i e = part l i e := by
  unfold part
  rw [List.drop_take, List.take_take, show min (e - i) (m - i) = e - i by omega]

theorem len_take {l : List UInt8} {m : Nat} (hm : m ≤ l.length) : (l.take m).length = m := by rw [List.length_take]; omega

theorem pre2_take {x y : Int} {l : List UInt8} {m i : Nat} (hm : m ≤ l.length) (h : i + 1 < m) : pre2 x y (l.take m) i = pre2 x y l i := by
  unfold pre2
  rw [len_take hm, bt_take (by omega), bt_take h, decide_eq_true h, decide_eq_true (show i + 1 < l.length by omega)]

theorem pre2_take_no {x y : Int} {l : List UInt8} {m i : Nat} (hm : m ≤ l.length) (h : pre2 x y l i = false) : pre2 x y (l.take m) i = false := by
  by_cases hi : i + 1 < m
  · rw [pre2_take hm hi, h]
  · unfold pre2
    rw [len_take hm, decide_eq_false hi]
    rfl

theorem skipF_take {l : List UInt8} {m : Nat} (hm : m ≤ l.length) : ∀ (f f' i : Nat), i ≤ m → m - i < f' → l.length - i < f → skipF f l i ≤ m → skipF f' (l.take m) i = skipF f l i
  | 0, _, _, _, _, h, _ => by omega
  | f + 1, 0, _, _, h, _, _ => by omega
  | f + 1, f' + 1, i, hi, h1, h2, h3 => by
    have hl := len_take hm
    by_cases he : i = m
    · rw [skip_out (by omega)]
      by_cases hb : i < l.length
      · have := (skipF_le (l := l) (f + 1) i (by omega)).1
        omega
      · rw [skip_out (by omega)]
    · have hlt : i < l.length := by omega
      have hb' := bt_take (l := l) (show i < m by omega)
      by_cases hb : isB (bt l i) = true
      · rw [skip_blank hlt hb] at h3 ⊢
        rw [skip_blank (by omega) (by rw [hb']; exact hb)]
        exact skipF_take hm f f' (i + 1) (by omega) (by omega) (by omega) h3
      · have hb : isB (bt l i) = false := by simpa using hb
        by_cases hp : pre2 47 47 l i = true
        · rw [skip_line hlt hb hp] at h3 ⊢
          have hr := line_more hp
          have hle := runEnd_le (p := noNl) (l := l) (i := i) (by omega)
          have hs := (skipF_le (l := l) f (runEnd noNl l i) hle).1
          have h47 : runEnd noNl l i = runEnd noNl l (i + 1 + 1) := by
            simp only [pre2, Bool.and_eq_true, decide_eq_true_eq, beq_iff_eq] at hp
            rw [runEnd_step hlt (by rw [hp.1.2]; rfl), runEnd_step hp.1.1 (by rw [hp.2]; rfl)]
          have h48 := le_runEnd noNl l (i + 1 + 1)
          rw [skip_line (by omega) (by rw [hb']; exact hb) (by rw [pre2_take hm (by omega)]; exact hp), runEnd_take hi (by omega)]
          exact skipF_take hm f f' _ (by omega) (by omega) (by omega) h3
        · have hp : pre2 47 47 l i = false := by simpa using hp
          rw [skip_word hb hp, skip_word (by rw [hb']; exact hb) (pre2_take_no hm hp)]

theorem skip_take {l : List UInt8} {m i : Nat} (hm : m ≤ l.length) (hi : i ≤ m) (h : skip l i ≤ m) : skip (l.take m) i = skip l i := by
  unfold skip at *
  exact skipF_take hm _ _ i hi (by rw [len_take hm]; omega) (by omega) h

theorem wordP_take {l : List UInt8} {m i : Nat} (hm : m ≤ l.length) (hi : i < m) (hk : (wordP l i).1 ≠ 0) (he : (wordP l i).2 ≤ m) : wordP (l.take m) i = wordP l i := by
  have hb := bt_take (l := l) hi
  by_cases h1 : isL (bt l i) = true
  · rw [wordP_name h1] at hk he ⊢
    rw [wordP_name (by rw [hb]; exact h1)]
    unfold nameP at *
    split at hk
    · exact absurd rfl hk
    · rename_i hc
      rw [if_neg hc] at he
      rw [runEnd_take (by omega) he]
  · have h1 : isL (bt l i) = false := by simpa using h1
    by_cases h2 : isD (bt l i) = true
    · rw [wordP_num h1 h2] at hk he ⊢
      rw [wordP_num (by rw [hb]; exact h1) (by rw [hb]; exact h2)]
      unfold numberP at *
      split at hk
      · exact absurd rfl hk
      · rename_i hc
        rw [if_neg hc] at he ⊢
        rw [runEnd_take (by omega) he, if_neg]
        intro hn
        apply hc
        unfold numBad at *
        rw [len_take hm, hb] at hn
        simp only [Bool.or_eq_true, Bool.and_eq_true, decide_eq_true_eq] at hn ⊢
        rcases hn with hn | ⟨hn, hn2⟩
        · exact Or.inl hn
        · rw [bt_take hn] at hn2
          exact Or.inr ⟨by omega, hn2⟩
    · have h2 : isD (bt l i) = false := by simpa using h2
      by_cases h3 : (bt l i == 37) = true
      · rw [wordP_key h1 h2 h3] at hk he ⊢
        rw [wordP_key (by rw [hb]; exact h1) (by rw [hb]; exact h2) (by rw [hb]; exact h3)]
        unfold keyP at *
        by_cases hp : pre2 37 37 l i = true
        · rw [if_pos hp] at he ⊢
          simp only at he
          rw [if_pos (by rw [pre2_take hm (by omega)]; exact hp)]
        · rw [if_neg hp] at hk he ⊢
          rw [if_neg (by rw [pre2_take_no hm (by simpa using hp)]; simp)]
          split at hk
          · rename_i hc
            rw [if_pos hc] at he ⊢
            rw [runEnd_take (by omega) he, part_take he, if_pos hc]
          · exact absurd rfl hk
      · have h3 : (bt l i == 37) = false := by simpa using h3
        by_cases h4 : isS (bt l i) = true
        · rw [wordP_sign h1 h2 h3 h4, wordP_sign (by rw [hb]; exact h1) (by rw [hb]; exact h2) (by rw [hb]; exact h3) (by rw [hb]; exact h4)]
        · rw [wordP_none h1 h2 h3 (by simpa using h4)] at hk
          exact absurd rfl hk

/-- A fault lies at or behind the place where the scan stands. -/
theorem scanF_behind {l : List UInt8} {m : Nat} : ∀ (f i : Nat) (a : List (Nat × Nat × Nat)), (scanF f l i a).2 = (m : Int) → i ≤ m ∧ m < l.length
  | 0, i, a, h => by simp only [scanF] at h; omega
  | f + 1, i, a, h => by
    by_cases hi : i < l.length
    · by_cases hK : (wordP l i).1 = 0
      · rw [scan_bad hi hK] at h
        simp only at h
        omega
      · rw [scan_next hi hK] at h
        have h1 := scanF_behind f _ _ h
        have h2 := wordP_range hi
        have h3 := skip_le (l := l) (i := (wordP l i).2) h2.2.1
        omega
    · rw [scan_out (by omega)] at h
      simp only at h
      omega

theorem scanF_take {l : List UInt8} {m : Nat} : ∀ (f f' i : Nat) (a : List (Nat × Nat × Nat)), m - i < f' → (scanF f l i a).2 = (m : Int) → (scanF f' (l.take m) i a).2 = -1
  | 0, _, i, a, _, h => by simp only [scanF] at h; omega
  | f + 1, 0, _, _, h, _ => by omega
  | f + 1, f' + 1, i, a, hf, h => by
    have hr := scanF_behind _ _ _ h
    have hm : m ≤ l.length := by omega
    have hl := len_take hm
    have hi : i < l.length := by omega
    by_cases he : i = m
    · rw [scan_out (by omega)]
    · by_cases hK : (wordP l i).1 = 0
      · rw [scan_bad hi hK] at h
        simp only at h
        omega
      · rw [scan_next hi hK] at h
        have h1 := scanF_behind f _ _ h
        have h2 := wordP_range hi
        have h3 := skip_le (l := l) (i := (wordP l i).2) h2.2.1
        have hw := wordP_take hm (by omega : i < m) hK (by omega)
        rw [scan_next (by omega) (by rw [hw]; exact hK), hw, skip_take hm (by omega) h1.1]
        exact scanF_take f f' _ _ (by have := h2.2.2.1 hK; omega) h

/-- What stands before a scan's fault has none. -/
theorem scan_take {l : List UInt8} {m : Nat} (h : (scan l).2 = (m : Int)) : m < l.length ∧ (scan (l.take m)).2 = -1 := by
  unfold scan at *
  have hr := scanF_behind _ _ _ h
  refine ⟨hr.2, ?_⟩
  have hm : m ≤ l.length := by omega
  rw [skip_take hm (by omega) hr.1, len_take hm]
  exact scanF_take _ _ _ _ (by omega) h
end Go.Proofs.YtkaojokhdleeiaaGreatDoor

/-
  The walk of the reference's Eq.
-/
namespace Go.Proofs.YtkaojokhdleeiaaGreatDoor
open Go.RowKit

set_option maxRecDepth 20000

theorem size_alloc2 (w : World) (o o' : Obj) : ((w.alloc o).alloc o').heap.size = w.heap.size + 1 + 1 := by simp

theorem bne_eq {n m : Nat} (h : n = m) : ((n : Int) != (m : Int)) = false := by simp [h]
theorem bne_ne {n m : Nat} (h : n ≠ m) : ((n : Int) != (m : Int)) = true := by simp; omega

/-- Two new blocks. -/
theorem two_fst (w : World) (a b : Array Value) (S T : TypeId) (j : Nat) : ((w.alloc (.cells a S)).alloc (.cells b T)).drew.cell? ⟨w.heap.size, j, none⟩ = a[j]? :=
  cell_block (w := ((w.alloc (.cells a S)).alloc (.cells b T)).drew) (T := S) (fr := (0, 0)) (show ((w.alloc (.cells a S)).alloc (.cells b T)).heap[w.heap.size]? = _ from block_below (below_alloc _ _) (heap_alloc_new _ _)) j
theorem two_snd (w : World) (a b : Array Value) (S T : TypeId) (j : Nat) : ((w.alloc (.cells a S)).alloc (.cells b T)).drew.cell? ⟨w.heap.size + 1, j, none⟩ = b[j]? := by
  have h := heap_alloc_new (w.alloc (.cells a S)) (.cells b T)
  rw [size_alloc1] at h
  exact cell_block (w := ((w.alloc (.cells a S)).alloc (.cells b T)).drew) (T := T) (fr := (0, 0)) h j
theorem two_below {w w0 : World} (h : Below w0.heap.size w0 w) (o o' : Obj) : Below w0.heap.size w0 ((w.alloc o).alloc o').drew := below_step h (below_step (below_step (below_alloc _ _) (below_alloc _ _)) ⟨rfl, rfl, rfl, Nat.le_refl _, fun _ _ => rfl⟩)

set_option maxHeartbeats 8000000 in
set_option maxRecDepth 20000 in
theorem req_calls : EqCalls 16 := by
  intro G K h k w r hG hK hp
  obtain ⟨ts, st, ex, rs⟩ := G
  obtain ⟨ta, tc, ra, rc⟩ := h
  obtain ⟨us, su, ey, ss⟩ := K
  obtain ⟨ua, uc, sa, sc⟩ := k
  have hm1 : ts.length ≤ tc ∧ tc ≤ 9223372036854775807 := by have h1 := hG.tok.le; have h2 := hG.tok.max; simp only at h1 h2; unfold maxLen at h2; omega
  have hm2 : us.length ≤ uc ∧ uc ≤ 9223372036854775807 := by have h1 := hK.tok.le; have h2 := hK.tok.max; simp only at h1 h2; unfold maxLen at h2; omega
  have hm3 := rules_le hG.rul
  have hm4 := rules_le hK.rul
  simp only at hm3 hm4
  unfold gv
  simp only
  obtain ⟨o1, ho1⟩ : ∃ o1 : Obj, o1 = .cells #[.slice ta ts.length tc, .string st, .int .i64 ex, .slice ra rs.length rc] 28 := ⟨_, rfl⟩
  obtain ⟨o2, ho2⟩ : ∃ o2 : Obj, o2 = .cells #[.slice ua us.length uc, .string su, .int .i64 ey, .slice sa ss.length sc] 28 := ⟨_, rfl⟩
  have hB : Below w.heap.size w ((w.alloc o1).alloc o2) := below_step (below_alloc _ _) (below_alloc _ _)
  have hb0 : ((w.alloc o1).alloc o2).heap[w.heap.size]? = some o1 := block_below (below_alloc _ _) (heap_alloc_new _ _)
  have hb1 : ((w.alloc o1).alloc o2).heap[w.heap.size + 1]? = some o2 := by
    have := heap_alloc_new (w.alloc o1) o2
    rwa [size_alloc1] at this
  have HS : Hid (ts.length ≤ 100 ∧ rs.length ≤ 200 ∧ ∀ x ∈ rs, x.r.length ≤ 100) := ⟨hG.small.nt, hG.small.nr, fun x hx => (hG.small.rl x hx).2.2.1⟩
  have HR : Hid (Row ((w.alloc o1).alloc o2) 3 ta ts.length tc (tokC ts) ∧ RulesAt ((w.alloc o1).alloc o2) ra rs.length rc rs ∧ Row ((w.alloc o1).alloc o2) 3 ua us.length uc (tokC us) ∧ RulesAt ((w.alloc o1).alloc o2) sa ss.length sc ss) := ⟨hG.tok.below hB, hG.rul.below hB, hK.tok.below hB, hK.rul.below hB⟩
  have HP : Hid (r = true ↔ (ts = us ∧ st = su ∧ ex = ey ∧ rs = ss)) := by
    refine hp.trans ⟨fun h => by cases h; exact ⟨rfl, rfl, rfl, rfl⟩, ?_⟩
    rintro ⟨rfl, rfl, rfl, rfl⟩
    rfl
  clear hG hK hp
  subst ho1 ho2
  generalize etn : ts.length = tn at *
  generalize eun : us.length = un at *
  generalize ern : rs.length = rn at *
  generalize esn : ss.length = sn at *
  have HE : Hid (ts.length = tn ∧ us.length = un ∧ rs.length = rn ∧ ss.length = sn) := ⟨etn, eun, ern, esn⟩
  clear etn eun ern esn
  by_cases e1 : tn = un
  rotate_left
  · have HF : Hid (r = false) := b_false HP.out (fun h => e1 (by rw [← HE.out.1, ← HE.out.2.1, h.1]))
    have hb := bne_ne e1
    have HBB : Hid _ := hB
    clear HP e1 HR HS hb0 hb1 hB
    go_enter Tryz.func16, Tryz.ntmps16
    go_wp2_with fail
    go_ret
    exact ⟨by rw [HF.out]; rfl, below_step (below_alloc _ _) (below_alloc _ _)⟩
  have hb1' := bne_eq e1
  by_cases e2 : st = su
  rotate_left
  · have HF : Hid (r = false) := b_false HP.out (fun h => e2 h.2.1)
    have hb := toList_beq_ne e2
    clear HP e1 e2 HR HS hb0 hb1 hB
    go_enter Tryz.func16, Tryz.ntmps16
    go_wp2_with fail
    go_ret
    exact ⟨by rw [HF.out]; rfl, below_step (below_alloc _ _) (below_alloc _ _)⟩
  have hb2' := toList_beq_eq e2
  by_cases e3 : ex = ey
  rotate_left
  · have HF : Hid (r = false) := b_false HP.out (fun h => e3 h.2.2.1)
    have hb : (ex != ey) = true := by simp [e3]
    clear HP e1 e2 e3 HR HS hb0 hb1 hB
    go_enter Tryz.func16, Tryz.ntmps16
    go_wp2_with fail
    go_ret
    exact ⟨by rw [HF.out]; rfl, below_step (below_alloc _ _) (below_alloc _ _)⟩
  have hb3' : (ex != ey) = false := by simp [e3]
  by_cases e4 : rn = sn
  rotate_left
  · have HF : Hid (r = false) := b_false HP.out (fun h => e4 (by rw [← HE.out.2.2.1, ← HE.out.2.2.2, h.2.2.2]))
    have hb := bne_ne e4
    clear HP e1 e2 e3 e4 HR HS hb0 hb1 hB
    go_enter Tryz.func16, Tryz.ntmps16
    go_wp2_with fail
    go_ret
    exact ⟨by rw [HF.out]; rfl, below_step (below_alloc _ _) (below_alloc _ _)⟩
  have hb4' := bne_eq e4
  have HP2 : Hid (r = true ↔ (ts = us ∧ rs = ss)) := HP.out.trans ⟨fun h => ⟨h.1, h.2.2.2⟩, fun h => ⟨h.1, e2, e3, h.2⟩⟩
  have HQ : Hid (tn = un ∧ rn = sn) := ⟨e1, e4⟩
  have HB : Hid (Below w.heap.size w ((w.alloc (.cells #[.slice ta tn tc, .string st, .int .i64 ex, .slice ra rn rc] 28)).alloc (.cells #[.slice ua un uc, .string su, .int .i64 ey, .slice sa sn sc] 28))) := hB
  have HX : Hid (((w.alloc (.cells #[.slice ta tn tc, .string st, .int .i64 ex, .slice ra rn rc] 28)).alloc (.cells #[.slice ua un uc, .string su, .int .i64 ey, .slice sa sn sc] 28)).heap[w.heap.size]? = some (.cells #[.slice ta tn tc, .string st, .int .i64 ex, .slice ra rn rc] 28 (0, 0)) ∧ ((w.alloc (.cells #[.slice ta tn tc, .string st, .int .i64 ex, .slice ra rn rc] 28)).alloc (.cells #[.slice ua un uc, .string su, .int .i64 ey, .slice sa sn sc] 28)).heap[w.heap.size + 1]? = some (.cells #[.slice ua un uc, .string su, .int .i64 ey, .slice sa sn sc] 28 (0, 0))) := ⟨hb0, hb1⟩
  clear HP e1 e2 e3 e4 hb0 hb1 hB
  go_enter Tryz.func16, Tryz.ntmps16
  go_upto_region 3 with fail
  generalize (w.alloc (.cells #[.slice ta tn tc, .string st, .int .i64 ex, .slice ra rn rc] 28)).alloc (.cells #[.slice ua un uc, .string su, .int .i64 ey, .slice sa sn sc] 28) = W at HR HB HX ⊢
  obtain ⟨nb, hnb⟩ : ∃ nb, nb = w.heap.size := ⟨_, rfl⟩
  rw [← hnb] at HX ⊢
  have HN : Hid (nb = w.heap.size) := hnb
  clear hnb hb1' hb2' hb3' hb4'
  go_wp2_with fail
  go_loopg [5] tn (fun kx s5 wr => ∃ k : Nat, s5 = .int .i64 k ∧ k ≤ tn ∧ tn - k ≤ kx ∧ Hid (Below W.heap.size W wr ∧ ∀ (i : Nat) (x y : Tk), i < k → ts[i]? = some x → us[i]? = some y → x = y))
  case atStart => exact ⟨0, rfl, Nat.zero_le _, by omega, (⟨Below.refl _ _, fun i x y h => absurd h (Nat.not_lt_zero _)⟩ : Below W.heap.size W _ ∧ ∀ (i : Nat) (x y : Tk), i < 0 → ts[i]? = some x → us[i]? = some y → x = y)⟩
  case round =>
    obtain ⟨k, rfl, hk, hg, J⟩ := hrel
    have x0 : wr.cell? ⟨nb, 0, none⟩ = some (.slice ta tn tc) := cell_below J.out.1 (by rw [cell_block HX.out.1]; rfl)
    have x1 : wr.cell? ⟨nb + 1, 0, none⟩ = some (.slice ua un uc) := cell_below J.out.1 (by rw [cell_block HX.out.2]; rfl)
    by_cases hlt : k < tn
    · have hlt' : (k : Int) < (tn : Int) := by omega
      have hlt2' : (k : Int) < (un : Int) := by have := HQ.out.1; omega
      have hlt2 : k < un := by omega
      obtain ⟨x, hx⟩ : ∃ x, ts[k]? = some x := ⟨ts[k]'(by rw [HE.out.1]; exact hlt), List.getElem?_eq_getElem _⟩
      obtain ⟨y, hy⟩ : ∃ y, us[k]? = some y := ⟨us[k]'(by rw [HE.out.2.1]; exact hlt2), List.getElem?_eq_getElem _⟩
      obtain ⟨b1, p1, rfl, c1, c2, c3⟩ := tok_at (HR.out.1.below J.out.1) hx
      obtain ⟨b2, p2, rfl, d1, d2, d3⟩ := tok_at (HR.out.2.2.1.below J.out.1) hy
      have HXY : Hid (ts[k]? = some x ∧ us[k]? = some y) := ⟨hx, hy⟩
      clear hx hy
      obtain ⟨xn, xl, xa⟩ := x
      obtain ⟨yn, yl, ya⟩ := y
      simp only at c1 c2 c3 d1 d2 d3
      go_upto_region 6 with fail
      go_cut [6, 7] from 42 to 77 (fun s6 s7 wd => ∃ p q : Nat, s6 = .pointer (some ⟨p, 0, none⟩) ∧ s7 = .pointer (some ⟨q, 0, none⟩) ∧ Hid (Below W.heap.size W wd ∧ wd.cell? ⟨p, 0, none⟩ = some (.string xn) ∧ wd.cell? ⟨p, 1, none⟩ = some (.int .i64 xl) ∧ wd.cell? ⟨p, 2, none⟩ = some (.int .i64 xa) ∧ wd.cell? ⟨q, 0, none⟩ = some (.string yn) ∧ wd.cell? ⟨q, 1, none⟩ = some (.int .i64 yl) ∧ wd.cell? ⟨q, 2, none⟩ = some (.int .i64 ya)))
      case first =>
        go_region_held (fun w' => w'.cell? ⟨nb, 0, none⟩ = some (.slice (some ⟨b1, p1, none⟩) tn tc) ∧ w'.cell? ⟨nb + 1, 0, none⟩ = some (.slice (some ⟨b2, p2, none⟩) un uc) ∧ w'.cell? ⟨b1, p1 + k * 3, none⟩ = some (.string xn) ∧ w'.cell? ⟨b1, p1 + k * 3 + 1, none⟩ = some (.int .i64 xl) ∧ w'.cell? ⟨b1, p1 + k * 3 + 2, none⟩ = some (.int .i64 xa) ∧ w'.cell? ⟨b2, p2 + k * 3, none⟩ = some (.string yn) ∧ w'.cell? ⟨b2, p2 + k * 3 + 1, none⟩ = some (.int .i64 yl) ∧ w'.cell? ⟨b2, p2 + k * 3 + 2, none⟩ = some (.int .i64 ya)) (go_keep) (fail)
        all_goals
          go_wp2_with fail
          go_meet
        · exact ⟨_, _, rfl, rfl, (⟨two_below J.out.1 _ _, two_fst _ _ _ _ _ 0, two_fst _ _ _ _ _ 1, two_fst _ _ _ _ _ 2, two_snd _ _ _ _ _ 0, two_snd _ _ _ _ _ 1, two_snd _ _ _ _ _ 2⟩ : _ ∧ _)⟩
        · exact ⟨_, _, rfl, rfl, (⟨two_below J.out.1 _ _, two_snd _ _ _ _ _ 0, two_snd _ _ _ _ _ 1, two_snd _ _ _ _ _ 2, two_fst _ _ _ _ _ 0, two_fst _ _ _ _ _ 1, two_fst _ _ _ _ _ 2⟩ : _ ∧ _)⟩
      case rest =>
        obtain ⟨p, q, rfl, rfl, J2⟩ := hcut
        obtain ⟨w2, hw2⟩ : ∃ w2, w2 = wc := ⟨_, rfl⟩
        subst wc
        clear c1 c2 c3 d1 d2 d3 x0 x1
        obtain ⟨-, q0, q1, q2, q3, q4, q5⟩ := J2.out
        have HB2 : Hid (Below W.heap.size W w2) := J2.out.1
        have HJ : Hid (∀ (i : Nat) (x y : Tk), i < k → ts[i]? = some x → us[i]? = some y → x = y) := J.out.2
        clear J J2
        by_cases hxy : (⟨xn, xl, xa⟩ : Tk) = ⟨yn, yl, ya⟩
        · obtain ⟨h1, h2, h3⟩ := (tk_eq_iff _ _ _ _ _ _).1 hxy
          have g2 : (xl != yl) = false := by simp [h2]
          have g3 : (xa != ya) = false := by simp [h3]
          have HF : Hid (∀ (i : Nat) (x y : Tk), i < k + 1 → ts[i]? = some x → us[i]? = some y → x = y) := fun i u v hi hu hv => by
            rcases Nat.lt_or_ge i k with h | h
            · exact HJ.out i u v h hu hv
            · have : i = k := by omega
              subst this
              rw [HXY.out.1] at hu
              rw [HXY.out.2] at hv
              cases hu; cases hv
              exact hxy
          clear hxy h2 h3 HJ
          go_wp2_with fail
          go_roundg (tn - (k + 1))
          case measure => omega
          case rel => exact ⟨k + 1, by simp, by omega, Nat.le_refl _, (⟨HB2.out, HF.out⟩ : Below W.heap.size W _ ∧ ∀ (i : Nat) (x y : Tk), i < k + 1 → ts[i]? = some x → us[i]? = some y → x = y)⟩
        · have HF : Hid (r = false) := b_false HP2.out (fun h => by have h5 := HXY.out; rw [h.1] at h5; rw [h5.1] at h5; exact hxy (Option.some.inj h5.2))
          have HBF : Hid (Below w.heap.size w w2) := below_step HB.out HB2.out
          rcases Bool.eq_false_or_eq_true (xn.toList == yn.toList) with h1 | h1
          · rcases Bool.eq_false_or_eq_true (xl != yl) with h2 | h2
            · clear hxy
              go_wp2_with fail
              go_ret
              exact ⟨by rw [HF.out]; rfl, HBF.out⟩
            · have h3 : (xa != ya) = true := by
                rcases Bool.eq_false_or_eq_true (xa != ya) with h3 | h3
                · exact h3
                · exact absurd ((tk_eq_iff _ _ _ _ _ _).2 ⟨h1, by simpa using h2, by simpa using h3⟩) hxy
              clear hxy
              go_wp2_with fail
              go_ret
              exact ⟨by rw [HF.out]; rfl, HBF.out⟩
          · clear hxy
            go_wp2_with fail
            go_ret
            exact ⟨by rw [HF.out]; rfl, HBF.out⟩
    · have hlt' : ¬ (k : Int) < (tn : Int) := by omega
      have HTS : Hid (ts = us) := list_eq_of (by rw [HE.out.1, HE.out.2.1]; exact HQ.out.1) (fun i x y hx hy => J.out.2 i x y (by have := (List.getElem?_eq_some_iff.1 hx).1; rw [HE.out.1] at this; omega) hx hy)
      obtain ⟨w3, hw3⟩ : ∃ w3, w3 = wr := ⟨_, rfl⟩
      subst wr
      have HB3 : Hid (Below W.heap.size W w3) := J.out.1
      clear J x1
      go_wp2_with fail
      clear x0
      go_loopg [8] rn (fun kx s8 wr => ∃ k : Nat, s8 = .int .i64 k ∧ k ≤ rn ∧ rn - k ≤ kx ∧ Hid (Below W.heap.size W wr ∧ ∀ (i : Nat) (x y : Ru), i < k → rs[i]? = some x → ss[i]? = some y → x = y))
      case atStart => exact ⟨0, rfl, Nat.zero_le _, by omega, (⟨HB3.out, fun i x y h => absurd h (Nat.not_lt_zero _)⟩ : Below W.heap.size W _ ∧ ∀ (i : Nat) (x y : Ru), i < 0 → rs[i]? = some x → ss[i]? = some y → x = y)⟩
      case round =>
        obtain ⟨k2, rfl, hk2, hg2, J⟩ := hrel
        clear HB3
        have x0 : wr.cell? ⟨nb, 3, none⟩ = some (.slice ra rn rc) := cell_below J.out.1 (by rw [cell_block HX.out.1]; rfl)
        have x1 : wr.cell? ⟨nb + 1, 3, none⟩ = some (.slice sa sn sc) := cell_below J.out.1 (by rw [cell_block HX.out.2]; rfl)
        by_cases hlt : k2 < rn
        · have hlt' : (k2 : Int) < (rn : Int) := by omega
          have hlt2' : (k2 : Int) < (sn : Int) := by have := HQ.out.2; omega
          have hlt2 : k2 < sn := by omega
          obtain ⟨x, hx⟩ : ∃ x, rs[k2]? = some x := ⟨rs[k2]'(by rw [HE.out.2.2.1]; exact hlt), List.getElem?_eq_getElem _⟩
          obtain ⟨y, hy⟩ : ∃ y, ss[k2]? = some y := ⟨ss[k2]'(by rw [HE.out.2.2.2]; exact hlt2), List.getElem?_eq_getElem _⟩
          obtain ⟨b1, p1, xa, xc, rfl, c1, c2, c3, c4⟩ := (HR.out.2.1.below J.out.1).at hx
          obtain ⟨b2, p2, ya, yc, rfl, d1, d2, d3, d4⟩ := (HR.out.2.2.2.below J.out.1).at hy
          have HXY : Hid (rs[k2]? = some x ∧ ss[k2]? = some y) := ⟨hx, hy⟩
          have hxl : x.r.length ≤ 100 := HS.out.2.2 x (List.mem_of_getElem? hx)
          clear hx hy
          obtain ⟨xl, xr, xp⟩ := x
          obtain ⟨yl, yr, yp⟩ := y
          simp only at c1 c2 c3 c4 d1 d2 d3 d4 hxl
          have HRW : Hid (Row wr 1 xa xr.length xc (strC xr) ∧ Row wr 1 ya yr.length yc (strC yr)) := ⟨c4, d4⟩
          have hq1 : xr.length ≤ xc ∧ xc ≤ 9223372036854775807 := by have := c4.le; have h := c4.max; unfold maxLen at h; omega
          have hq2 : yr.length ≤ yc ∧ yc ≤ 9223372036854775807 := by have := d4.le; have h := d4.max; unfold maxLen at h; omega
          clear c4 d4
          generalize exn : xr.length = xn at *
          generalize eyn : yr.length = yn at *
          have HLN : Hid (xr.length = xn ∧ yr.length = yn) := ⟨exn, eyn⟩
          clear exn eyn
          obtain ⟨wo, hwo⟩ : ∃ wo, wo = wr := ⟨_, rfl⟩
          subst wr
          go_upto_region 12 with fail
          go_cut [9, 10] from 78 to 133 (fun s9 s10 wd => ∃ p q : Nat, s9 = .pointer (some ⟨p, 0, none⟩) ∧ s10 = .pointer (some ⟨q, 0, none⟩) ∧ Hid (Below wo.heap.size wo wd ∧ wd.cell? ⟨p, 0, none⟩ = some (.string xl) ∧ wd.cell? ⟨p, 1, none⟩ = some (.slice xa xn xc) ∧ wd.cell? ⟨p, 2, none⟩ = some (.string xp) ∧ wd.cell? ⟨q, 0, none⟩ = some (.string yl) ∧ wd.cell? ⟨q, 1, none⟩ = some (.slice ya yn yc) ∧ wd.cell? ⟨q, 2, none⟩ = some (.string yp)))
          case first =>
            go_region_held (fun w' => w'.cell? ⟨nb, 3, none⟩ = some (.slice (some ⟨b1, p1, none⟩) rn rc) ∧ w'.cell? ⟨nb + 1, 3, none⟩ = some (.slice (some ⟨b2, p2, none⟩) sn sc) ∧ w'.cell? ⟨b1, p1 + k2 * 3, none⟩ = some (.string xl) ∧ w'.cell? ⟨b1, p1 + k2 * 3 + 1, none⟩ = some (.slice xa xn xc) ∧ w'.cell? ⟨b1, p1 + k2 * 3 + 2, none⟩ = some (.string xp) ∧ w'.cell? ⟨b2, p2 + k2 * 3, none⟩ = some (.string yl) ∧ w'.cell? ⟨b2, p2 + k2 * 3 + 1, none⟩ = some (.slice ya yn yc) ∧ w'.cell? ⟨b2, p2 + k2 * 3 + 2, none⟩ = some (.string yp)) (go_keep) (fail)
            all_goals
              go_wp2_with fail
              go_meet
            · exact ⟨_, _, rfl, rfl, (⟨two_below (Below.refl _ _) _ _, two_fst _ _ _ _ _ 0, two_fst _ _ _ _ _ 1, two_fst _ _ _ _ _ 2, two_snd _ _ _ _ _ 0, two_snd _ _ _ _ _ 1, two_snd _ _ _ _ _ 2⟩ : _ ∧ _)⟩
            · exact ⟨_, _, rfl, rfl, (⟨two_below (Below.refl _ _) _ _, two_snd _ _ _ _ _ 0, two_snd _ _ _ _ _ 1, two_snd _ _ _ _ _ 2, two_fst _ _ _ _ _ 0, two_fst _ _ _ _ _ 1, two_fst _ _ _ _ _ 2⟩ : _ ∧ _)⟩
          case rest =>
            obtain ⟨p, q, rfl, rfl, J2⟩ := hcut
            obtain ⟨w2, hw2⟩ : ∃ w2, w2 = wc := ⟨_, rfl⟩
            subst wc
            clear c1 c2 c3 d1 d2 d3 x0 x1
            obtain ⟨-, q0, q1, q2, q3, q4, q5⟩ := J2.out
            have HB2 : Hid (Below W.heap.size W w2) := below_step J.out.1 J2.out.1
            have HRW2 : Hid (Row w2 1 xa xn xc (strC xr) ∧ Row w2 1 ya yn yc (strC yr)) := ⟨HRW.out.1.below J2.out.1, HRW.out.2.below J2.out.1⟩
            have HC2 : Hid (w2.cell? ⟨p, 1, none⟩ = some (.slice xa xn xc) ∧ w2.cell? ⟨q, 1, none⟩ = some (.slice ya yn yc)) := ⟨q1, q4⟩
            have HJ : Hid (∀ (i : Nat) (x y : Ru), i < k2 → rs[i]? = some x → ss[i]? = some y → x = y) := J.out.2
            have HBF : Hid (Below w.heap.size w w2) := below_step HB.out HB2.out
            clear J J2 HRW
            have HNE : Hid ((⟨xl, xr, xp⟩ : Ru) ≠ ⟨yl, yr, yp⟩ → r = false) := fun hxy => b_false HP2.out (fun h => by have h5 := HXY.out; rw [h.2] at h5; rw [h5.1] at h5; exact hxy (Option.some.inj h5.2))
            by_cases h1 : xl = yl
            rotate_left
            · have g1 := toList_beq_ne h1
              have HF : Hid (r = false) := HNE.out (fun h => h1 (by cases h; rfl))
              clear h1
              go_wp2_with fail
              go_ret
              exact ⟨by rw [HF.out]; rfl, HBF.out⟩
            have g1 := toList_beq_eq h1
            by_cases h2 : xp = yp
            rotate_left
            · have g2 := toList_beq_ne h2
              have HF : Hid (r = false) := HNE.out (fun h => h2 (by cases h; rfl))
              clear h1 h2
              go_wp2_with fail
              go_ret
              exact ⟨by rw [HF.out]; rfl, HBF.out⟩
            have g2 := toList_beq_eq h2
            by_cases h3 : xn = yn
            rotate_left
            · have g3 := bne_ne h3
              have HF : Hid (r = false) := HNE.out (fun h => h3 (by rw [← HLN.out.1, ← HLN.out.2]; cases h; rfl))
              clear h1 h2 h3
              go_wp2_with fail
              go_ret
              exact ⟨by rw [HF.out]; rfl, HBF.out⟩
            have g3 := bne_eq h3
            have HE3 : Hid (xl = yl ∧ xp = yp ∧ xn = yn) := ⟨h1, h2, h3⟩
            clear h1 h2 h3
            go_upto_region 15 with fail
            clear g1 g2 g3 q0 q1 q2 q3 q4 q5
            go_wp2_with fail
            go_loopg [11] xn (fun kx s11 wr => ∃ j : Nat, s11 = .int .i64 j ∧ j ≤ xn ∧ xn - j ≤ kx ∧ Hid (Below w2.heap.size w2 wr ∧ ∀ (i : Nat) (x y : ByteArray), i < j → xr[i]? = some x → yr[i]? = some y → x = y))
            case atStart => exact ⟨0, rfl, Nat.zero_le _, by omega, (⟨Below.refl _ _, fun i x y h => absurd h (Nat.not_lt_zero _)⟩ : Below w2.heap.size w2 _ ∧ ∀ (i : Nat) (x y : ByteArray), i < 0 → xr[i]? = some x → yr[i]? = some y → x = y)⟩
            case round =>
              obtain ⟨j, rfl, hj, hg3, J3⟩ := hrel
              have q1 := cell_below J3.out.1 HC2.out.1
              have q4 := cell_below J3.out.1 HC2.out.2
              by_cases hjlt : j < xn
              · have hjlt' : (j : Int) < (xn : Int) := by omega
                have hj2' : (j : Int) < (yn : Int) := by have := HE3.out.2.2; omega
                have hj2 : j < yn := by omega
                obtain ⟨x, hx⟩ : ∃ x, xr[j]? = some x := ⟨xr[j]'(by rw [HLN.out.1]; exact hjlt), List.getElem?_eq_getElem _⟩
                obtain ⟨y, hy⟩ : ∃ y, yr[j]? = some y := ⟨yr[j]'(by rw [HLN.out.2]; exact hj2), List.getElem?_eq_getElem _⟩
                obtain ⟨b3, p3, rfl, c1⟩ := str_at (HRW2.out.1.below J3.out.1) hx
                obtain ⟨b4, p4, rfl, c2⟩ := str_at (HRW2.out.2.below J3.out.1) hy
                have HZ : Hid (xr[j]? = some x ∧ yr[j]? = some y) := ⟨hx, hy⟩
                clear hx hy
                go_upto_region 18 with fail
                have m1 := cell_onto c1
                have m2 := cell_onto c2
                have m3 := cell_onto q1
                have m4 := cell_onto q4
                have HO : Hid (∀ n os, Below w2.heap.size w2 (onto wr n os)) := fun n os => below_step J3.out.1 (onto_below wr n os)
                clear c1 c2 q1 q4
                by_cases hxy : x = y
                · have e3 : (x.toList == y.toList) = true := toList_beq_eq hxy
                  have HF : Hid (∀ (i : Nat) (x y : ByteArray), i < j + 1 → xr[i]? = some x → yr[i]? = some y → x = y) := fun i u v hi hu hv => by
                    rcases Nat.lt_or_ge i j with h | h
                    · exact J3.out.2 i u v h hu hv
                    · have : i = j := by omega
                      subst this
                      rw [HZ.out.1] at hu
                      rw [HZ.out.2] at hv
                      cases hu; cases hv
                      exact hxy
                  clear hxy J3
                  refine wp_region_onto (by kernel_rfl) ?_
                  repeat (go_big_quiet_step (fail))
                  refine wpQuiet_nil ?_
                  intro _ hwq
                  obtain ⟨⟨nq, osq⟩, hwe⟩ := hwq
                  subst hwe
                  simp only
                  go_wp2_with fail
                  go_roundg (xn - (j + 1))
                  case measure => omega
                  case rel => exact ⟨j + 1, by simp, by omega, Nat.le_refl _, (⟨HO.out _ _, HF.out⟩ : Below w2.heap.size w2 _ ∧ ∀ (i : Nat) (x y : ByteArray), i < j + 1 → xr[i]? = some x → yr[i]? = some y → x = y)⟩
                · have e3 : (x.toList == y.toList) = false := toList_beq_ne hxy
                  have HF : Hid (r = false) := HNE.out (fun h => by
                    have h5 := HZ.out
                    have h6 : xr = yr := by cases h; rfl
                    rw [h6] at h5
                    rw [h5.1] at h5
                    exact hxy (Option.some.inj h5.2))
                  clear hxy J3
                  refine wp_region_onto (by kernel_rfl) ?_
                  repeat (go_big_quiet_step (fail))
                  refine wpQuiet_nil ?_
                  intro _ hwq
                  obtain ⟨⟨nq, osq⟩, hwe⟩ := hwq
                  subst hwe
                  simp only
                  go_wp2_with fail
                  go_ret
                  exact ⟨by rw [HF.out]; rfl, below_step HBF.out (HO.out _ _)⟩
              · have hjlt' : ¬ (j : Int) < (xn : Int) := by omega
                have hxr : xr = yr := list_eq_of (by rw [HLN.out.1, HLN.out.2]; exact HE3.out.2.2) (fun i x y hx hy => J3.out.2 i x y (by have := (List.getElem?_eq_some_iff.1 hx).1; rw [HLN.out.1] at this; omega) hx hy)
                have HF : Hid (∀ (i : Nat) (x y : Ru), i < k2 + 1 → rs[i]? = some x → ss[i]? = some y → x = y) := fun i u v hi hu hv => by
                  rcases Nat.lt_or_ge i k2 with h | h
                  · exact HJ.out i u v h hu hv
                  · have : i = k2 := by omega
                    subst this
                    rw [HXY.out.1] at hu
                    rw [HXY.out.2] at hv
                    cases hu; cases hv
                    rw [HE3.out.1, HE3.out.2.1, hxr]
                have HB4 : Hid (Below W.heap.size W wr) := below_step HB2.out J3.out.1
                clear J3 hxr
                go_wp2_with fail
                go_roundg (rn - (k2 + 1))
                case measure => omega
                case rel => exact ⟨k2 + 1, by simp, by omega, Nat.le_refl _, (⟨HB4.out, HF.out⟩ : Below W.heap.size W _ ∧ ∀ (i : Nat) (x y : Ru), i < k2 + 1 → rs[i]? = some x → ss[i]? = some y → x = y)⟩
        · have hlt' : ¬ (k2 : Int) < (rn : Int) := by omega
          have HF : Hid (r = true) := b_true HP2.out ⟨HTS.out, list_eq_of (by rw [HE.out.2.2.1, HE.out.2.2.2]; exact HQ.out.2) (fun i x y hx hy => J.out.2 i x y (by have := (List.getElem?_eq_some_iff.1 hx).1; rw [HE.out.2.2.1] at this; omega) hx hy)⟩
          have HBF : Hid (Below w.heap.size w wr) := below_step HB.out J.out.1
          clear J
          go_wp2_with fail
          go_ret
          exact ⟨by rw [HF.out]; rfl, HBF.out⟩

end Go.Proofs.YtkaojokhdleeiaaGreatDoor

/-
  Levels, told by the tokens that have them; the text of one level as the reference lays it.
-/
namespace Go.Proofs.YtkaojokhdleeiaaGreatDoor
open Go.RowKit

set_option maxRecDepth 20000

/-- The kinds l are those of the tokens ts. -/
structure LevI (ts : List Tk) (l : List Int) : Prop where
  len : l.length = 9
  of : ∀ t ∈ ts, LevP t ∧ at9 l t.l = t.a
  has : ∀ k : Nat, (l[k]?).getD 0 ≠ 0 → ∃ t ∈ ts, t.l = (k : Int)

theorem LevP.range {t : Tk} (h : LevP t) : 0 ≤ t.l ∧ t.l ≤ 8 := by unfold LevP at h; omega

theorem at9_set (l : List Int) (i j a : Int) (hl : l.length = 9) (hi : 0 ≤ i ∧ i ≤ 8) (hj : 0 ≤ j) : at9 (l.set i.toNat a) j = if i = j then a else at9 l j := by
  unfold at9
  rw [List.getElem?_set]
  by_cases h : i = j
  · subst h
    rw [if_pos rfl, if_pos rfl, if_pos (by omega)]
    rfl
  · rw [if_neg (by omega), if_neg h]

theorem LevI.step {ts : List Tk} {l l' : List Int} {t : Tk} (h : LevI ts l) (hs : levS (some l) t = some l') : LevI (ts ++ [t]) l' := by
  unfold levS at hs
  simp only at hs
  split at hs
  · rename_i hc
    cases hs
    obtain ⟨hL, hA⟩ := hc
    have hr := hL.range
    refine ⟨by simpa using h.len, fun u hu => ?_, fun k hk => ?_⟩
    · rw [List.mem_append] at hu
      rcases hu with hu | hu
      · obtain ⟨h1, h2⟩ := h.of u hu
        refine ⟨h1, ?_⟩
        rw [at9_set l t.l u.l t.a h.len hr h1.range.1]
        split
        · rename_i he
          rw [he] at hA
          rw [h2] at hA
          rcases hA with hA | hA
          · unfold LevP at h1 hL
            omega
          · exact hA.symm
        · exact h2
      · obtain rfl : u = t := by simpa using hu
        refine ⟨hL, ?_⟩
        rw [at9_set l u.l u.l u.a h.len hr hr.1, if_pos rfl]
    · rw [List.getElem?_set] at hk
      split at hk
      · rename_i he
        exact ⟨t, by simp, by omega⟩
      · obtain ⟨u, hu, he⟩ := h.has k hk
        exact ⟨u, by simp [hu], he⟩
  · cases hs

theorem levI_fold : ∀ (ts done : List Tk) (l l' : List Int), LevI done l → ts.foldl levS (some l) = some l' → LevI (done ++ ts) l'
  | [], done, l, l', h, hf => by cases hf; rw [List.append_nil]; exact h
  | t :: r, done, l, l', h, hf => by
    have hf : r.foldl levS (levS (some l) t) = some l' := hf
    cases hm : levS (some l) t with
    | none => rw [hm, levS_none] at hf; cases hf
    | some m =>
      rw [hm] at hf
      have := levI_fold r (done ++ [t]) m l' (h.step hm) hf
      rwa [List.append_assoc] at this

theorem zero9_at (k : Nat) : (zero9[k]?).getD 0 = 0 := by
  match k with
  | 0 => rfl
  | 1 => rfl
  | 2 => rfl
  | 3 => rfl
  | 4 => rfl
  | 5 => rfl
  | 6 => rfl
  | 7 => rfl
  | 8 => rfl
  | n + 9 => rfl

theorem levI_zero : LevI [] zero9 := ⟨rfl, fun _ h => (by cases h), fun k hk => absurd (zero9_at k) hk⟩

theorem levI {ts : List Tk} {l : List Int} (h : levF ts = some l) : LevI ts l := levI_fold ts [] zero9 l levI_zero h

/-- What the tokens of one level are called, with their kind ahead. -/
def lineK (ts : List Tk) (k a : Int) : List UInt8 := if namesAt ts k = [] then [] else by8 (keyA a) ++ sp ((namesAt ts k).map by8)

theorem namesAt_nil {ts : List Tk} {k : Int} : namesAt ts k = [] ↔ ∀ t ∈ ts, t.l ≠ k := by
  unfold namesAt
  rw [List.map_eq_nil_iff, List.filter_eq_nil_iff]
  constructor
  · intro h t ht he; exact h t ht (by simpa using he)
  · intro h t ht he; exact h t ht (by simpa using he)

/-- A level's line, as the text has it. -/
theorem lineK_ln {ts : List Tk} {l : List Int} (h : LevI ts l) (k : Nat) (hk : 1 ≤ k) : tx (levLn ts l k) = if namesAt ts k = [] then [] else lineK ts k ((l[k]?).getD 0) ++ [10] := by
  unfold levLn lineK
  by_cases h0 : (l[k]?).getD 0 = 0
  · rw [if_pos h0]
    have hn : namesAt ts k = [] := namesAt_nil.2 (fun t ht he => by
      obtain ⟨h1, h2⟩ := h.of t ht
      unfold at9 at h2
      rw [he, Int.toNat_natCast, h0] at h2
      unfold LevP at h1
      omega)
    rw [if_pos hn]
    rfl
  · rw [if_neg h0]
    have hn : namesAt ts k ≠ [] := fun hc => by
      obtain ⟨t, ht, he⟩ := h.has k h0
      exact namesAt_nil.1 hc t ht he
    rw [if_neg hn, if_neg hn, tx_one]
    rfl

theorem lineK_snoc (ts : List Tk) (t : Tk) (k a : Int) (h : t.l = k) : lineK (ts ++ [t]) k a = (if namesAt ts k = [] then by8 (keyA a) else []) ++ lineK ts k a ++ (32 :: by8 t.n) := by
  have e : namesAt (ts ++ [t]) k = namesAt ts k ++ [t.n] := by rw [namesAt_snoc, if_pos (by simpa using h)]
  unfold lineK
  rw [e, if_neg (by simp), List.map_append, sp_append]
  show _ ++ (_ ++ sp [by8 t.n]) = _
  rw [sp_one]
  by_cases hn : namesAt ts k = []
  · rw [if_pos hn, if_pos hn, hn]
    simp [sp]
  · rw [if_neg hn, if_neg hn]
    simp

theorem lineK_skip (ts : List Tk) (t : Tk) (k a : Int) (h : t.l ≠ k) : lineK (ts ++ [t]) k a = lineK ts k a := by
  have e : namesAt (ts ++ [t]) k = namesAt ts k := by rw [namesAt_snoc, if_neg (by simpa using h), List.append_nil]
  unfold lineK
  rw [e]

theorem lineK_nil {ts : List Tk} {k a : Int} (h : namesAt ts k = []) : lineK ts k a = [] := by unfold lineK; rw [if_pos h]
theorem lineK_pos {ts : List Tk} {k a : Int} (h : namesAt ts k ≠ []) : 1 ≤ (lineK ts k a).length := by
  unfold lineK
  rw [if_neg h, List.length_append]
  have : 1 ≤ (by8 (keyA a)).length := by unfold keyA; split <;> (try split) <;> decide
  omega

theorem namesAt_mem {ts : List Tk} {k : Int} {x : ByteArray} (h : x ∈ namesAt ts k) : ∃ t ∈ ts, t.n = x := by
  unfold namesAt at h
  obtain ⟨t, ht, rfl⟩ := List.mem_map.1 h
  exact ⟨t, (List.mem_filter.1 ht).1, rfl⟩

theorem lineK_length {ts : List Tk} {k a : Int} (hs : ∀ t ∈ ts, t.n.size ≤ 100) : (lineK ts k a).length ≤ 100 + 101 * ts.length := by
  unfold lineK
  split
  · simp
  · rw [List.length_append]
    have h1 : (by8 (keyA a)).length ≤ 100 := keyA_size a
    have h2 := sp_length ((namesAt ts k).map by8) (fun x hx => by
      obtain ⟨y, hy, rfl⟩ := List.mem_map.1 hx
      obtain ⟨t, ht, rfl⟩ := namesAt_mem hy
      exact hs t ht)
    rw [List.length_map] at h2
    have h3 := namesAt_length ts k
    omega

end Go.Proofs.YtkaojokhdleeiaaGreatDoor

/-
  The walk of the reference's Text.
-/
namespace Go.Proofs.YtkaojokhdleeiaaGreatDoor
open Go.RowKit

set_option maxRecDepth 20000

/-- A rule's line, piece by piece. -/
theorem ruleT (r : Ru) : lineT ((ruleL r).map by8) = by8 r.l ++ [32, 58] ++ sp (r.r.map by8) ++ (if r.p = ⟨#[]⟩ then [] else [32, 37, 112, 114, 101, 99, 32] ++ by8 r.p) ++ [32, 59, 10] := by
  unfold ruleL lineT
  by_cases hp : r.p = ⟨#[]⟩
  · rw [if_pos hp, if_pos hp]
    simp [jn, sp, by8]
  · rw [if_neg hp, if_neg hp]
    simp [jn, sp, by8]

theorem sz32 (x : ByteArray) : ((⟨#[32]⟩ : ByteArray) ++ x).size = 1 + x.size := by rw [ByteArray.size_append]; rfl

theorem empty_of_len {s : ByteArray} (h : by8 s = []) : s = ⟨#[]⟩ := by8_inj (by rw [h]; rfl)

set_option maxHeartbeats 8000000 in
set_option maxRecDepth 20000 in
theorem rtext_calls : TextCalls 12 := by
  intro G h w T hG _ hT
  obtain ⟨r, hr⟩ := bool_of (MayP G)
  have HM : Hid (∀ W : World, Below w.heap.size w W → Calls Tryz.prog 19 #[gv h G] W fun e w' => e = .returned (.bool r) ∧ Below W.heap.size W w') := fun W hW => rmay_calls G h W r (hG.below hW) hr
  obtain ⟨ts, st, ex, rs⟩ := G
  obtain ⟨ta, tc, ra, rc⟩ := h
  have hm1 : ts.length ≤ tc ∧ tc ≤ 9223372036854775807 := by have h1 := hG.tok.le; have h2 := hG.tok.max; simp only at h1 h2; unfold maxLen at h2; omega
  have hm2 := rules_le hG.rul
  simp only at hm2
  have hs1 : ts.length ≤ 100 := hG.small.nt
  have hs2 : rs.length ≤ 200 := hG.small.nr
  have hs3 : st.size ≤ 100 := hG.small.st
  have HG : Hid (IsG w ⟨ta, tc, ra, rc⟩ ⟨ts, st, ex, rs⟩) := hG
  have HT : Hid (TextP ⟨ts, st, ex, rs⟩ T) := hT
  have HR : Hid (r = true ↔ MayP ⟨ts, st, ex, rs⟩) := hr
  unfold gv at HM ⊢
  simp only at HM ⊢
  clear hG hT hr
  obtain ⟨tn, hTN⟩ : ∃ n, ts.length = n := ⟨_, rfl⟩
  have HTN : Hid (ts.length = tn) := hTN
  obtain ⟨rn, hRN⟩ : ∃ n, rs.length = n := ⟨_, rfl⟩
  have HRN : Hid (rs.length = rn) := hRN
  rw [hTN] at hm1 hs1 HM ⊢
  rw [hRN] at hm2 hs2 HM ⊢
  clear hTN hRN
  go_enter Tryz.func12, Tryz.ntmps12
  go_upto_region 1 with fail
  have c0 : (w.alloc (.cells #[.slice ta tn tc, .string st, .int .i64 ex, .slice ra rn rc] 28)).cell? ⟨w.heap.size, 0, none⟩ = some (.slice ta tn tc) := by rw [World.cell?_alloc_mark]; rfl
  have c1 : (w.alloc (.cells #[.slice ta tn tc, .string st, .int .i64 ex, .slice ra rn rc] 28)).cell? ⟨w.heap.size, 1, none⟩ = some (.string st) := by rw [World.cell?_alloc_mark]; rfl
  have c2 : (w.alloc (.cells #[.slice ta tn tc, .string st, .int .i64 ex, .slice ra rn rc] 28)).cell? ⟨w.heap.size, 2, none⟩ = some (.int .i64 ex) := by rw [World.cell?_alloc_mark]; rfl
  have c3 : (w.alloc (.cells #[.slice ta tn tc, .string st, .int .i64 ex, .slice ra rn rc] 28)).cell? ⟨w.heap.size, 3, none⟩ = some (.slice ra rn rc) := by rw [World.cell?_alloc_mark]; rfl
  have HB : Hid (Below w.heap.size w (w.alloc (.cells #[.slice ta tn tc, .string st, .int .i64 ex, .slice ra rn rc] 28))) := below_alloc _ _
  generalize w.alloc (.cells #[.slice ta tn tc, .string st, .int .i64 ex, .slice ra rn rc] 28) = wq at c0 c1 c2 c3 HB ⊢
  obtain ⟨gb, hgb⟩ : ∃ gb, gb = w.heap.size := ⟨_, rfl⟩
  rw [← hgb] at c0 c1 c2 c3 ⊢
  clear hgb
  go_wp2_with fail
  refine (HM.out _ HB.out).mono ?_
  rintro e w1 ⟨rfl, hB1⟩
  have C0 : Hid (∀ W : World, Below w1.heap.size w1 W → W.cell? ⟨gb, 0, none⟩ = some (.slice ta tn tc) ∧ W.cell? ⟨gb, 1, none⟩ = some (.string st) ∧ W.cell? ⟨gb, 2, none⟩ = some (.int .i64 ex) ∧ W.cell? ⟨gb, 3, none⟩ = some (.slice ra rn rc)) := fun W hW => ⟨cell_below (below_step hB1 hW) c0, cell_below (below_step hB1 hW) c1, cell_below (below_step hB1 hW) c2, cell_below (below_step hB1 hW) c3⟩
  have HB1 : Hid (Below w.heap.size w w1) := below_step HB.out hB1
  clear c0 c1 c2 c3 HB hB1 HM
  cases r
  · have HF : Hid (T = ⟨#[]⟩) := HT.out.2 (fun h => by have := HR.out.2 h; cases this)
    go_wp2_with fail
    go_ret
    exact ⟨by rw [HF.out]; rfl, HB1.out⟩
  · have hMay : MayP ⟨ts, st, ex, rs⟩ := HR.out.1 rfl
    obtain ⟨l, hl1, -⟩ := hMay.tk.2
    have HLI : Hid (LevI ts l) := levI hl1
    have HTX : Hid (by8 T = tx (linesG ⟨ts, st, ex, rs⟩ l)) := HT.out.1 hMay l hl1
    have HTR : Hid (∀ W : World, Below w1.heap.size w1 W → Row W 3 ta tn tc (tokC ts)) := fun W hW => by
      have := HG.out.tok.below (below_step HB1.out hW)
      simp only at this
      rwa [HTN.out] at this
    have HRR : Hid (∀ W : World, Below w1.heap.size w1 W → RulesAt W ra rn rc rs) := fun W hW => by
      have := HG.out.rul.below (below_step HB1.out hW)
      simp only at this
      rwa [HRN.out] at this
    have HSZ : Hid (∀ t ∈ ts, t.n.size ≤ 100) := HG.out.small.tk
    have HSR : Hid (∀ r ∈ rs, r.l.size ≤ 100 ∧ r.p.size ≤ 100 ∧ r.r.length ≤ 100 ∧ ∀ x ∈ r.r, x.size ≤ 100) := HG.out.small.rl
    have he0 : 0 ≤ ex := hMay.e0
    have he1 : ex ≤ 9999 := hMay.e1
    clear hMay hl1 HG HT HR
    obtain ⟨c0, -, -, -⟩ := C0.out w1 (Below.refl _ _)
    go_upto_if 17 with fail
    go_cut [3] (fun s3 wd => wd = w1 ∧ ∃ s : ByteArray, s3 = .string s ∧ s.size ≤ 12000 ∧ Hid (by8 s = tx (tokLn ts)))
    case first =>
      by_cases htn : tn = 0
      · have HF : Hid (by8 (⟨#[]⟩ : ByteArray) = tx (tokLn ts)) := by
          have e : ts = [] := List.eq_nil_of_length_eq_zero (by rw [HTN.out]; exact htn)
          show _ = _
          rw [e]
          rfl
        have h1 : ¬ (0 : Int) < (tn : Int) := by omega
        clear htn
        go_wp2_with fail
        go_meet
        exact ⟨rfl, _, rfl, by decide, HF⟩
      · have h1 : (0 : Int) < (tn : Int) := by omega
        have HNE : Hid (ts ≠ []) := fun h => htn (by rw [← HTN.out, h]; rfl)
        clear htn
        go_wp2_with fail
        go_loopg [3, 4] tn (fun kx s3 s4 wr => ∃ (i : Nat) (s : ByteArray), s3 = .string s ∧ s4 = .int .i64 i ∧ i ≤ tn ∧ tn - i ≤ kx ∧ wr = w1 ∧ s.size ≤ 6 + 101 * i ∧ Hid (by8 s = [37, 116, 111, 107, 101, 110] ++ sp ((ts.take i).map fun t => by8 t.n)))
        case atStart => exact ⟨0, _, rfl, rfl, Nat.zero_le _, by omega, rfl, by decide, (rfl : by8 (⟨#[37, 116, 111, 107, 101, 110]⟩ : ByteArray) = [37, 116, 111, 107, 101, 110] ++ sp ((ts.take 0).map fun t => by8 t.n))⟩
        case round =>
          obtain ⟨i, s, rfl, rfl, hi, hg, hwr, hsz, J⟩ := hrel
          subst wr
          by_cases hlt : i < tn
          · obtain ⟨t, ht⟩ : ∃ t, ts[i]? = some t := ⟨ts[i]'(by rw [HTN.out]; exact hlt), List.getElem?_eq_getElem _⟩
            obtain ⟨b, o, hta, p0, p1, p2⟩ := tok_at (HTR.out w1 (Below.refl _ _)) ht
            subst hta
            have hz := HSZ.out t (List.mem_of_getElem? ht)
            have HF : Hid (by8 (s ++ (⟨#[32]⟩ ++ t.n)) = [37, 116, 111, 107, 101, 110] ++ sp ((ts.take (i + 1)).map fun t => by8 t.n)) := by
              show _ = _
              rw [take_succ ht, List.map_append, sp_append, by8_append, by8_append, J.out, List.map_singleton, sp_one, List.append_assoc]
              rfl
            obtain ⟨nm, tl, tk⟩ := t
            simp only at p0 p1 p2 hz HF
            have hq1 : (⟨#[32]⟩ : ByteArray).size + nm.size ≤ 200 := by have : (⟨#[32]⟩ : ByteArray).size = 1 := rfl; omega
            have hq2 : s.size + ((⟨#[32]⟩ : ByteArray) ++ nm).size ≤ 20000 := by rw [sz32]; omega
            have HZ : Hid ((s ++ (⟨#[32]⟩ ++ nm)).size ≤ 6 + 101 * (i + 1)) := by show _ ≤ _; rw [ByteArray.size_append, sz32]; omega
            clear ht J
            go_wp2_with fail
            go_roundg (tn - (i + 1))
            case measure => omega
            case rel => exact ⟨i + 1, _, rfl, by simp, by omega, Nat.le_refl _, rfl, HZ.out, HF⟩
          · obtain rfl : i = tn := by omega
            have HF : Hid (by8 (s ++ ⟨#[10]⟩) = tx (tokLn ts)) := by
              show _ = _
              rw [by8_append, J.out, ← HTN.out, List.take_length]
              unfold tokLn
              rw [if_neg HNE.out, tx_one]
              simp [lineT, jn, by8, Function.comp_def]
            have hq1 : s.size + (⟨#[10]⟩ : ByteArray).size ≤ 12000 := by have : (⟨#[10]⟩ : ByteArray).size = 1 := rfl; omega
            have HZ : Hid ((s ++ ⟨#[10]⟩).size ≤ 12000) := by show _ ≤ _; rw [ByteArray.size_append]; exact hq1
            clear J
            go_wp2_with fail
            go_meet
            exact ⟨rfl, _, rfl, HZ.out, HF⟩
    case rest =>
      obtain ⟨hwc, s0, rfl, hz0, HS0⟩ := hcut
      subst wc
      clear c0
      go_upto_block 2 with fail
      go_cut [3] (fun s3 wd => Hid (Below w1.heap.size w1 wd) ∧ ∃ s : ByteArray, s3 = .string s ∧ s.size ≤ 120000 ∧ Hid (by8 s = tx (tokLn ts ++ levLs ts l 8)))
      case first =>
        go_wp2_with fail
        go_loopg [3, 5] 8 (fun kx s3 s5 wr => ∃ (j : Nat) (s : ByteArray), s3 = .string s ∧ s5 = .int .i64 (j : Int) ∧ 1 ≤ j ∧ j ≤ 9 ∧ 9 - j ≤ kx ∧ Hid (Below w1.heap.size w1 wr) ∧ s.size ≤ 12000 * j ∧ Hid (by8 s = tx (tokLn ts ++ levLs ts l (j - 1))))
        case atStart => exact ⟨1, s0, rfl, rfl, Nat.le_refl _, by omega, by omega, Below.refl _ _, by omega, (by show _ = _; rw [HS0.out, show levLs ts l (1 - 1) = [] from rfl, List.append_nil])⟩
        case round =>
          obtain ⟨j, s, rfl, rfl, hj1, hj9, hg, HBo, hzs, J⟩ := hrel
          clear HS0 hz0
          by_cases hj : j ≤ 8
          · obtain ⟨wo, hwo⟩ : ∃ wo, wo = wr := ⟨_, rfl⟩
            subst wr
            have hj' : (j : Int) ≤ 8 := by omega
            have HK : Hid (∀ t ∈ ts, t.l = (j : Int) → t.a = (l[j]?).getD 0 ∧ 1 ≤ t.a ∧ t.a ≤ 3) := fun t ht he => by
              obtain ⟨h1, h2⟩ := HLI.out.of t ht
              unfold at9 at h2
              rw [he, Int.toNat_natCast] at h2
              unfold LevP at h1
              exact ⟨h2.symm, by omega, by omega⟩
            have HLN : Hid (tx (levLn ts l j) = if namesAt ts j = [] then [] else lineK ts j ((l[j]?).getD 0) ++ [10]) := lineK_ln HLI.out j hj1
            have HJ1 : Hid (levLs ts l (j + 1 - 1) = levLs ts l (j - 1) ++ levLn ts l j) := by
              show _ = _
              have := levLs_succ ts l (j - 1)
              rwa [show j - 1 + 1 = j by omega] at this
            generalize (l[j]?).getD 0 = a at HK HLN
            go_upto_block 4 with fail
            go_cut [6] from 36 to 91 (fun s6 wd => Hid (Below wo.heap.size wo wd) ∧ ∃ line : ByteArray, s6 = .string line ∧ line.size ≤ 11000 ∧ Hid (by8 line = lineK ts j a))
            case first =>
              go_wp2_with fail
              go_loopg [6, 7] tn (fun kx s6 s7 wr => ∃ (i : Nat) (line : ByteArray), s6 = .string line ∧ s7 = .int .i64 i ∧ i ≤ tn ∧ tn - i ≤ kx ∧ Hid (Below wo.heap.size wo wr) ∧ Hid (by8 line = lineK (ts.take i) j a))
              case atStart => exact ⟨0, _, rfl, rfl, Nat.zero_le _, by omega, Below.refl _ _, (rfl : by8 (⟨#[]⟩ : ByteArray) = lineK (ts.take 0) j a)⟩
              case round =>
                obtain ⟨i, line, rfl, rfl, hi, hgi, HBi, JL⟩ := hrel
                obtain ⟨c0, -, -, -⟩ := C0.out wr (below_step HBo.out HBi.out)
                have hls : line.size ≤ 100 + 101 * i := by
                  rw [← by8_length, JL.out]
                  have h1 := lineK_length (ts := ts.take i) (k := j) (a := a) (fun t ht => HSZ.out t (List.mem_of_mem_take ht))
                  rw [List.length_take, HTN.out, Nat.min_eq_left hi] at h1
                  exact h1
                by_cases hlt : i < tn
                · obtain ⟨t, ht⟩ : ∃ t, ts[i]? = some t := ⟨ts[i]'(by rw [HTN.out]; exact hlt), List.getElem?_eq_getElem _⟩
                  obtain ⟨b, o, hta, p0, p1, p2⟩ := tok_at (HTR.out wr (below_step HBo.out HBi.out)) ht
                  subst hta
                  have hz := HSZ.out t (List.mem_of_getElem? ht)
                  have hka := HK.out t (List.mem_of_getElem? ht)
                  have e1 := lineK_snoc (ts.take i) t j a
                  have e2 := lineK_skip (ts.take i) t j a
                  rw [← take_succ ht, ← JL.out] at e1 e2
                  have hE0 : namesAt (ts.take i) j = [] → line = ⟨#[]⟩ := fun h => empty_of_len (by rw [JL.out, lineK_nil h])
                  have hE1 : namesAt (ts.take i) j ≠ [] → 1 ≤ line.size := fun h => by rw [← by8_length, JL.out]; exact lineK_pos h
                  obtain ⟨nm, tl, tk⟩ := t
                  simp only at p0 p1 p2 hz hka e1 e2
                  have hq1 : (⟨#[32]⟩ : ByteArray).size + nm.size ≤ 200 := by have : (⟨#[32]⟩ : ByteArray).size = 1 := rfl; omega
                  have hq2 : line.size + ((⟨#[32]⟩ : ByteArray) ++ nm).size ≤ 20000 := by rw [sz32]; omega
                  have hqs : (line ++ ((⟨#[32]⟩ : ByteArray) ++ nm)).size = line.size + 1 + nm.size := by rw [ByteArray.size_append, sz32]; omega
                  have hgk : tn - (i + 1) < gk := by omega
                  clear ht JL
                  by_cases hlv : tl = (j : Int)
                  · have hlv1 : (tl == (j : Int)) = true := by simpa using hlv
                    obtain ⟨hka1, hka2, hka3⟩ := hka hlv
                    have e1 := e1 hlv
                    clear e2 hka hlv
                    by_cases hE : namesAt (ts.take i) j = []
                    · obtain rfl := hE0 hE
                      rw [if_pos hE] at e1
                      have HE1 : Hid (by8 (keyA a) ++ 32 :: by8 nm = lineK (ts.take (i + 1)) j a) := by show _ = _; rw [e1]; simp [by8]
                      have hcmp : ((((⟨#[]⟩ : ByteArray) ++ (⟨#[32]⟩ ++ nm)).size : Int) == (nm.size : Int) + 1) = true := by
                        have h5 : (((⟨#[]⟩ : ByteArray) ++ (⟨#[32]⟩ ++ nm)).size : Int) = (nm.size : Int) + 1 := by
                          have : (⟨#[]⟩ : ByteArray).size = 0 := rfl
                          rw [hqs, this]; omega
                        rw [h5]; simp
                      have c0' := cell_alloc c0
                      have p2' := cell_alloc p2
                      clear e1 hE hE0 hE1
                      rcases (by omega : tk = 1 ∨ tk = 2 ∨ tk = 3) with rfl | rfl | rfl
                      · have kc : (wr.alloc (.cells #[.string ⟨#[]⟩, .string ⟨#[37, 108, 101, 102, 116]⟩, .string ⟨#[37, 114, 105, 103, 104, 116]⟩, .string ⟨#[37, 110, 111, 110, 97, 115, 115, 111, 99]⟩] 9)).cell? ⟨wr.heap.size, 1, none⟩ = some (.string ⟨#[37, 108, 101, 102, 116]⟩) := by rw [World.cell?_alloc_mark]; rfl
                        have hq3 : (⟨#[37, 108, 101, 102, 116]⟩ : ByteArray).size + ((⟨#[]⟩ : ByteArray) ++ (⟨#[32]⟩ ++ nm)).size ≤ 20000 := by
                          have h0 : (⟨#[]⟩ : ByteArray).size = 0 := rfl
                          have h1 : (⟨#[37, 108, 101, 102, 116]⟩ : ByteArray).size = 5 := rfl
                          omega
                        have HF : Hid (by8 ((⟨#[37, 108, 101, 102, 116]⟩ : ByteArray) ++ ((⟨#[]⟩ : ByteArray) ++ (⟨#[32]⟩ ++ nm))) = lineK (ts.take (i + 1)) j a) := by
                          show _ = _
                          rw [← HE1.out, ← hka1, by8_append, by8_append, by8_append]
                          rfl
                        have HBF : Hid (Below wo.heap.size wo (wr.alloc (.cells #[.string ⟨#[]⟩, .string ⟨#[37, 108, 101, 102, 116]⟩, .string ⟨#[37, 114, 105, 103, 104, 116]⟩, .string ⟨#[37, 110, 111, 110, 97, 115, 115, 111, 99]⟩] 9))) := below_step HBi.out (below_alloc _ _)
                        clear hka1
                        go_wp2_with fail
                        go_roundg (tn - (i + 1))
                        case measure => omega
                        case rel => exact ⟨i + 1, _, rfl, by simp, by omega, Nat.le_refl _, HBF, HF⟩
                      · have kc : (wr.alloc (.cells #[.string ⟨#[]⟩, .string ⟨#[37, 108, 101, 102, 116]⟩, .string ⟨#[37, 114, 105, 103, 104, 116]⟩, .string ⟨#[37, 110, 111, 110, 97, 115, 115, 111, 99]⟩] 9)).cell? ⟨wr.heap.size, 2, none⟩ = some (.string ⟨#[37, 114, 105, 103, 104, 116]⟩) := by rw [World.cell?_alloc_mark]; rfl
                        have hq3 : (⟨#[37, 114, 105, 103, 104, 116]⟩ : ByteArray).size + ((⟨#[]⟩ : ByteArray) ++ (⟨#[32]⟩ ++ nm)).size ≤ 20000 := by
                          have h0 : (⟨#[]⟩ : ByteArray).size = 0 := rfl
                          have h1 : (⟨#[37, 114, 105, 103, 104, 116]⟩ : ByteArray).size = 6 := rfl
                          omega
                        have HF : Hid (by8 ((⟨#[37, 114, 105, 103, 104, 116]⟩ : ByteArray) ++ ((⟨#[]⟩ : ByteArray) ++ (⟨#[32]⟩ ++ nm))) = lineK (ts.take (i + 1)) j a) := by
                          show _ = _
                          rw [← HE1.out, ← hka1, by8_append, by8_append, by8_append]
                          rfl
                        have HBF : Hid (Below wo.heap.size wo (wr.alloc (.cells #[.string ⟨#[]⟩, .string ⟨#[37, 108, 101, 102, 116]⟩, .string ⟨#[37, 114, 105, 103, 104, 116]⟩, .string ⟨#[37, 110, 111, 110, 97, 115, 115, 111, 99]⟩] 9))) := below_step HBi.out (below_alloc _ _)
                        clear hka1
                        go_wp2_with fail
                        go_roundg (tn - (i + 1))
                        case measure => omega
                        case rel => exact ⟨i + 1, _, rfl, by simp, by omega, Nat.le_refl _, HBF, HF⟩
                      · have kc : (wr.alloc (.cells #[.string ⟨#[]⟩, .string ⟨#[37, 108, 101, 102, 116]⟩, .string ⟨#[37, 114, 105, 103, 104, 116]⟩, .string ⟨#[37, 110, 111, 110, 97, 115, 115, 111, 99]⟩] 9)).cell? ⟨wr.heap.size, 3, none⟩ = some (.string ⟨#[37, 110, 111, 110, 97, 115, 115, 111, 99]⟩) := by rw [World.cell?_alloc_mark]; rfl
                        have hq3 : (⟨#[37, 110, 111, 110, 97, 115, 115, 111, 99]⟩ : ByteArray).size + ((⟨#[]⟩ : ByteArray) ++ (⟨#[32]⟩ ++ nm)).size ≤ 20000 := by
                          have h0 : (⟨#[]⟩ : ByteArray).size = 0 := rfl
                          have h1 : (⟨#[37, 110, 111, 110, 97, 115, 115, 111, 99]⟩ : ByteArray).size = 9 := rfl
                          omega
                        have HF : Hid (by8 ((⟨#[37, 110, 111, 110, 97, 115, 115, 111, 99]⟩ : ByteArray) ++ ((⟨#[]⟩ : ByteArray) ++ (⟨#[32]⟩ ++ nm))) = lineK (ts.take (i + 1)) j a) := by
                          show _ = _
                          rw [← HE1.out, ← hka1, by8_append, by8_append, by8_append]
                          rfl
                        have HBF : Hid (Below wo.heap.size wo (wr.alloc (.cells #[.string ⟨#[]⟩, .string ⟨#[37, 108, 101, 102, 116]⟩, .string ⟨#[37, 114, 105, 103, 104, 116]⟩, .string ⟨#[37, 110, 111, 110, 97, 115, 115, 111, 99]⟩] 9))) := below_step HBi.out (below_alloc _ _)
                        clear hka1
                        go_wp2_with fail
                        go_roundg (tn - (i + 1))
                        case measure => omega
                        case rel => exact ⟨i + 1, _, rfl, by simp, by omega, Nat.le_refl _, HBF, HF⟩
                    · have HE1 : Hid (by8 (line ++ (⟨#[32]⟩ ++ nm)) = lineK (ts.take (i + 1)) j a) := by
                        show _ = _
                        rw [e1, if_neg hE, by8_append, by8_append]
                        rfl
                      have hcmp : (((line ++ (⟨#[32]⟩ ++ nm)).size : Int) == (nm.size : Int) + 1) = false := by
                        have h5 := hE1 hE
                        rw [hqs]
                        simp only [beq_eq_false_iff_ne, ne_eq]
                        omega
                      clear e1 hE hE0 hE1
                      go_wp2_with fail
                      go_roundg (tn - (i + 1))
                      case measure => omega
                      case rel => exact ⟨i + 1, _, rfl, by simp, by omega, Nat.le_refl _, HBi, HE1⟩
                  · have hlv1 : (tl == (j : Int)) = false := by simpa using hlv
                    have HE1 : Hid (by8 line = lineK (ts.take (i + 1)) j a) := (e2 hlv).symm
                    clear e1 e2 hka hlv hE0 hE1
                    go_wp2_with fail
                    go_roundg (tn - (i + 1))
                    case measure => omega
                    case rel => exact ⟨i + 1, _, rfl, by simp, by omega, Nat.le_refl _, HBi, HE1⟩
                · obtain rfl : i = tn := by omega
                  have HF : Hid (by8 line = lineK ts j a) := by
                    have := JL.out
                    rwa [← HTN.out, List.take_length] at this
                  have hlz : line.size ≤ 11000 := by omega
                  clear JL
                  go_wp2_with fail
                  go_meet
                  exact ⟨HBi, _, rfl, hlz, HF⟩
            case rest =>
              obtain ⟨HBi, line, rfl, hlz, HL⟩ := hcut
              have HBF : Hid (Below w1.heap.size w1 wc) := below_step HBo.out HBi.out
              obtain ⟨w2, hw2⟩ : ∃ w2, w2 = wc := ⟨_, rfl⟩
              subst wc
              obtain ⟨le, hle⟩ : ∃ le : Bool, (line.toList == []) = le := ⟨_, rfl⟩
              go_upto_if 87 with fail
              have HLE : Hid (le = true ↔ line = ⟨#[]⟩) := by show _ ↔ _; rw [← hle]; exact toList_nil line
              clear hle HBi
              by_cases hE : namesAt ts j = []
              · have hl0 : line = ⟨#[]⟩ := empty_of_len (by rw [HL.out, lineK_nil hE])
                have h1 : le = true := HLE.out.2 hl0
                subst h1
                have HF : Hid (by8 s = tx (tokLn ts ++ levLs ts l (j + 1 - 1))) := by
                  have e := HLN.out
                  rw [if_pos hE] at e
                  show _ = _
                  rw [HJ1.out, ← List.append_assoc, tx_append, e, List.append_nil]
                  exact J.out
                clear hE hl0 HL HLE J
                go_wp2_with fail
                go_roundg (9 - (j + 1))
                case measure => omega
                case rel => exact ⟨j + 1, s, rfl, by simp, by omega, by omega, Nat.le_refl _, HBF, by omega, HF⟩
              · have hl0 : line ≠ ⟨#[]⟩ := fun h => by
                  have h1 := lineK_pos (a := a) hE
                  rw [← HL.out, h] at h1
                  exact absurd h1 (by decide)
                have h1 : le = false := b_false HLE.out hl0
                subst h1
                have hq1 : line.size + (⟨#[10]⟩ : ByteArray).size ≤ 11001 := by have : (⟨#[10]⟩ : ByteArray).size = 1 := rfl; omega
                have hqe : (line ++ (⟨#[10]⟩ : ByteArray)).size = line.size + 1 := by rw [ByteArray.size_append]; rfl
                have hq2 : s.size + (line ++ (⟨#[10]⟩ : ByteArray)).size ≤ 12000 * (j + 1) := by omega
                have HZ : Hid ((s ++ (line ++ ⟨#[10]⟩)).size ≤ 12000 * (j + 1)) := by show _ ≤ _; rw [ByteArray.size_append]; exact hq2
                have HF : Hid (by8 (s ++ (line ++ ⟨#[10]⟩)) = tx (tokLn ts ++ levLs ts l (j + 1 - 1))) := by
                  have e := HLN.out
                  rw [if_neg hE] at e
                  show _ = _
                  rw [HJ1.out, ← List.append_assoc, tx_append, e, by8_append, by8_append, J.out, HL.out]
                  rfl
                clear hE hl0 HL HLE J
                go_wp2_with fail
                go_roundg (9 - (j + 1))
                case measure => omega
                case rel => exact ⟨j + 1, _, rfl, by simp, by omega, by omega, Nat.le_refl _, HBF, HZ.out, HF⟩
          · obtain rfl : j = 9 := by omega
            have hj' : ¬ ((9 : Nat) : Int) ≤ 8 := by omega
            have hz9 : s.size ≤ 120000 := by omega
            go_wp2_with fail
            go_meet
            exact ⟨HBo, _, rfl, hz9, J⟩
      case rest =>
        obtain ⟨HB2, s1, rfl, hz1, HS1⟩ := hcut
        obtain ⟨w2, hw2⟩ : ∃ w2, w2 = wc := ⟨_, rfl⟩
        subst wc
        clear HS0 hz0
        obtain ⟨-, c1, -, -⟩ := C0.out w2 HB2.out
        obtain ⟨se, hse⟩ : ∃ pe : Bool, (st.toList == []) = pe := ⟨_, rfl⟩
        go_upto_if 94 with fail
        have HSE : Hid (se = true ↔ st = ⟨#[]⟩) := by show _ ↔ _; rw [← hse]; exact toList_nil st
        clear hse
        go_cut [3] (fun s3 wd => wd = w2 ∧ ∃ s : ByteArray, s3 = .string s ∧ s.size ≤ 120200 ∧ Hid (by8 s = tx (tokLn ts ++ levLs ts l 8 ++ startLn st)))
        case first =>
          by_cases hst : st = ⟨#[]⟩
          · have h1 : se = true := HSE.out.2 hst
            subst h1
            have HF : Hid (by8 s1 = tx (tokLn ts ++ levLs ts l 8 ++ startLn st)) := by
              have e : startLn st = [] := by unfold startLn; rw [if_pos hst]
              rw [e, List.append_nil]; exact HS1
            clear hst
            go_wp2_with fail
            go_meet
            exact ⟨rfl, _, rfl, by omega, HF⟩
          · have h1 : se = false := b_false HSE.out hst
            subst h1
            have e7 : (⟨#[37, 115, 116, 97, 114, 116, 32]⟩ : ByteArray).size = 7 := rfl
            have e8 : ((⟨#[37, 115, 116, 97, 114, 116, 32]⟩ : ByteArray) ++ st).size = 7 + st.size := by rw [ByteArray.size_append, e7]
            have e9 : (((⟨#[37, 115, 116, 97, 114, 116, 32]⟩ : ByteArray) ++ st) ++ ⟨#[10]⟩).size = 8 + st.size := by rw [ByteArray.size_append, e8]; show 7 + st.size + 1 = _; omega
            have hq1 : (⟨#[37, 115, 116, 97, 114, 116, 32]⟩ : ByteArray).size + st.size ≤ 200 := by omega
            have hq2 : ((⟨#[37, 115, 116, 97, 114, 116, 32]⟩ : ByteArray) ++ st).size + (⟨#[10]⟩ : ByteArray).size ≤ 200 := by rw [e8]; show 7 + st.size + 1 ≤ _; omega
            have hq3 : s1.size + (((⟨#[37, 115, 116, 97, 114, 116, 32]⟩ : ByteArray) ++ st) ++ ⟨#[10]⟩).size ≤ 120200 := by omega
            have HZ : Hid ((s1 ++ (((⟨#[37, 115, 116, 97, 114, 116, 32]⟩ : ByteArray) ++ st) ++ ⟨#[10]⟩)).size ≤ 120200) := by show _ ≤ _; rw [ByteArray.size_append]; exact hq3
            have HF : Hid (by8 (s1 ++ (((⟨#[37, 115, 116, 97, 114, 116, 32]⟩ : ByteArray) ++ st) ++ ⟨#[10]⟩)) = tx (tokLn ts ++ levLs ts l 8 ++ startLn st)) := by
              have e : startLn st = [([⟨#[37, 115, 116, 97, 114, 116]⟩, st] : List ByteArray).map by8] := by unfold startLn; rw [if_neg hst]
              show _ = _
              rw [e, tx_append, tx_one, by8_append, by8_append, by8_append, HS1.out]
              simp [lineT, jn, sp, by8]
            clear hst e7 e8 e9
            go_wp2_with fail
            go_meet
            exact ⟨rfl, _, rfl, HZ.out, HF⟩
        case rest =>
          obtain ⟨hwc, s2, rfl, hz2, HS2⟩ := hcut
          subst wc
          clear HS1 hz1 HSE c1
          obtain ⟨-, -, c2, -⟩ := C0.out w2 HB2.out
          go_upto_if 103 with fail
          go_cut [3] (fun s3 wd => Hid (Below w1.heap.size w1 wd) ∧ ∃ s : ByteArray, s3 = .string s ∧ s.size ≤ 120400 ∧ Hid (by8 s = tx (tokLn ts ++ levLs ts l 8 ++ startLn st ++ expLn ex)))
          case first =>
            by_cases hex : ex = 0
            · have h1 : ¬ 0 < ex := by omega
              have HF : Hid (by8 s2 = tx (tokLn ts ++ levLs ts l 8 ++ startLn st ++ expLn ex)) := by
                have e : expLn ex = [] := by unfold expLn; rw [if_pos hex]
                rw [e, List.append_nil]; exact HS2
              clear hex
              go_wp2_with fail
              go_meet
              exact ⟨HB2, _, rfl, by omega, HF⟩
            · have h1 : 0 < ex := by omega
              have HC : Hid (Calls Tryz.prog 20 #[.int .i64 ex] w2 fun e w' => ∃ t, e = .returned (.string t) ∧ by8 t = dg 6 ex.toNat [] ∧ Below w2.heap.size w2 w') := by
                have := digits_calls ex.toNat w2 (by omega)
                rwa [show ((ex.toNat : Nat) : Int) = ex by omega] at this
              go_wp2_with fail
              refine HC.out.mono ?_
              rintro e w5 ⟨t, rfl, ht, hB5⟩
              have hts : t.size ≤ 100 := by
                rw [← by8_length, ht]
                exact dg_len _ (by omega)
              have HB5 : Hid (Below w1.heap.size w1 w5) := below_step HB2.out hB5
              have e7 : (⟨#[37, 101, 120, 112, 101, 99, 116, 32]⟩ : ByteArray).size = 8 := rfl
              have e8 : ((⟨#[37, 101, 120, 112, 101, 99, 116, 32]⟩ : ByteArray) ++ t).size = 8 + t.size := by rw [ByteArray.size_append, e7]
              have e9 : (((⟨#[37, 101, 120, 112, 101, 99, 116, 32]⟩ : ByteArray) ++ t) ++ ⟨#[10]⟩).size = 9 + t.size := by rw [ByteArray.size_append, e8]; show 8 + t.size + 1 = _; omega
              have hq1 : (⟨#[37, 101, 120, 112, 101, 99, 116, 32]⟩ : ByteArray).size + t.size ≤ 200 := by omega
              have hq2 : ((⟨#[37, 101, 120, 112, 101, 99, 116, 32]⟩ : ByteArray) ++ t).size + (⟨#[10]⟩ : ByteArray).size ≤ 200 := by rw [e8]; show 8 + t.size + 1 ≤ _; omega
              have hq3 : s2.size + (((⟨#[37, 101, 120, 112, 101, 99, 116, 32]⟩ : ByteArray) ++ t) ++ ⟨#[10]⟩).size ≤ 120400 := by omega
              have HZ : Hid ((s2 ++ (((⟨#[37, 101, 120, 112, 101, 99, 116, 32]⟩ : ByteArray) ++ t) ++ ⟨#[10]⟩)).size ≤ 120400) := by show _ ≤ _; rw [ByteArray.size_append]; exact hq3
              have HF : Hid (by8 (s2 ++ (((⟨#[37, 101, 120, 112, 101, 99, 116, 32]⟩ : ByteArray) ++ t) ++ ⟨#[10]⟩)) = tx (tokLn ts ++ levLs ts l 8 ++ startLn st ++ expLn ex)) := by
                have e : expLn ex = [[by8 ⟨#[37, 101, 120, 112, 101, 99, 116]⟩, by8 t]] := by unfold expLn; rw [if_neg hex, ← ht]
                show _ = _
                rw [e, tx_append, tx_one, by8_append, by8_append, by8_append, HS2.out]
                simp [lineT, jn, sp, by8]
              clear hex ht hB5 HC e7 e8 e9
              go_wp2_with fail
              go_meet
              exact ⟨HB5, _, rfl, HZ.out, HF⟩
          case rest =>
            obtain ⟨HB3, s3, rfl, hz3, HS3⟩ := hcut
            obtain ⟨w3, hw3⟩ : ∃ w3, w3 = wc := ⟨_, rfl⟩
            subst wc
            clear HS2 hz2 c2 HB2
            have hq0 : s3.size + (⟨#[37, 37, 10]⟩ : ByteArray).size ≤ 121000 := by have : (⟨#[37, 37, 10]⟩ : ByteArray).size = 3 := rfl; omega
            have hz4 : (s3 ++ (⟨#[37, 37, 10]⟩ : ByteArray)).size ≤ 121000 := by rw [ByteArray.size_append]; exact hq0
            have HS4 : Hid (by8 (s3 ++ (⟨#[37, 37, 10]⟩ : ByteArray)) = tx (headLn ⟨ts, st, ex, rs⟩ l)) := by
              show _ = _
              unfold headLn
              rw [tx_append, tx_one, by8_append, HS3.out]
              rfl
            go_upto_block 6 with fail
            clear hq0 HS3 hz3
            generalize s3 ++ (⟨#[37, 37, 10]⟩ : ByteArray) = s4 at hz4 HS4 ⊢
            go_cut [3] (fun s3 wd => Hid (Below w1.heap.size w1 wd) ∧ s3 = .string T)
            case first =>
              go_wp2_with fail
              go_loopg [3, 8] rn (fun kx s3 s8 wr => ∃ (i : Nat) (s : ByteArray), s3 = .string s ∧ s8 = .int .i64 i ∧ i ≤ rn ∧ rn - i ≤ kx ∧ Hid (Below w1.heap.size w1 wr) ∧ s.size ≤ 121000 + 20000 * i ∧ Hid (by8 s = tx (headLn ⟨ts, st, ex, rs⟩ l ++ (rs.take i).map fun r => (ruleL r).map by8)))
              case atStart => exact ⟨0, s4, rfl, rfl, Nat.zero_le _, by omega, HB3, by omega, (by show _ = _; rw [List.take_zero, List.map_nil, List.append_nil]; exact HS4.out)⟩
              case round =>
                obtain ⟨i, s, rfl, rfl, hi, hg, HBr, hzs, J⟩ := hrel
                clear HS4 hz4 HB3
                obtain ⟨-, -, -, c3⟩ := C0.out wr HBr.out
                by_cases hlt : i < rn
                · obtain ⟨x, hx⟩ : ∃ x, rs[i]? = some x := ⟨rs[i]'(by rw [HRN.out]; exact hlt), List.getElem?_eq_getElem _⟩
                  obtain ⟨b, o, xa, xc, hra, p0, p1, p2, hrow⟩ := (HRR.out wr HBr.out).at hx
                  subst hra
                  have hsz := HSR.out x (List.mem_of_getElem? hx)
                  have HJ2 : Hid (tx (headLn ⟨ts, st, ex, rs⟩ l ++ (rs.take (i + 1)).map fun r => (ruleL r).map by8) = by8 s ++ (by8 x.l ++ [32, 58] ++ sp (x.r.map by8) ++ (if x.p = ⟨#[]⟩ then [] else [32, 37, 112, 114, 101, 99, 32] ++ by8 x.p) ++ [32, 59, 10])) := by
                    show _ = _
                    rw [take_succ hx, List.map_append, ← List.append_assoc, tx_append, ← J.out, ← ruleT x, ← tx_one]
                    rfl
                  obtain ⟨nl, nr, np⟩ := x
                  simp only at p0 p1 p2 hrow hsz HJ2
                  obtain ⟨n, HN⟩ : ∃ n, Hid (nr.length = n) := ⟨_, rfl⟩
                  rw [HN.out] at p1 hrow hsz
                  have hle := hrow.le
                  have hmx : xc ≤ 9223372036854775807 := by have := hrow.max; unfold maxLen at this; omega
                  have HRW : Hid (Row wr 1 xa n xc (strC nr)) := hrow
                  clear hx hrow J
                  go_upto_region 33 with fail
                  have d0 : (wr.alloc (.cells #[.string nl, .slice xa n xc, .string np] 58)).cell? ⟨wr.heap.size, 0, none⟩ = some (.string nl) := by rw [World.cell?_alloc_mark]; rfl
                  have d1 : (wr.alloc (.cells #[.string nl, .slice xa n xc, .string np] 58)).cell? ⟨wr.heap.size, 1, none⟩ = some (.slice xa n xc) := by rw [World.cell?_alloc_mark]; rfl
                  have d2 : (wr.alloc (.cells #[.string nl, .slice xa n xc, .string np] 58)).cell? ⟨wr.heap.size, 2, none⟩ = some (.string np) := by rw [World.cell?_alloc_mark]; rfl
                  have HQ : Hid (Row (wr.alloc (.cells #[.string nl, .slice xa n xc, .string np] 58)) 1 xa n xc (strC nr)) := HRW.out.below (below_alloc _ _)
                  have HQB : Hid (Below w1.heap.size w1 (wr.alloc (.cells #[.string nl, .slice xa n xc, .string np] 58))) := below_step HBr.out (below_alloc _ _)
                  generalize wr.alloc (.cells #[.string nl, .slice xa n xc, .string np] 58) = wq at HQ HQB d0 d1 d2 ⊢
                  generalize wr.heap.size = tb at d0 d1 d2 ⊢
                  clear p0 p1 p2 HRW c3 HBr
                  have e2 : (⟨#[32, 58]⟩ : ByteArray).size = 2 := rfl
                  have hq1 : nl.size + (⟨#[32, 58]⟩ : ByteArray).size ≤ 200 := by omega
                  have hqe : (nl ++ (⟨#[32, 58]⟩ : ByteArray)).size = nl.size + 2 := by rw [ByteArray.size_append, e2]
                  have hq2 : s.size + (nl ++ (⟨#[32, 58]⟩ : ByteArray)).size ≤ 121102 + 20000 * i := by omega
                  have hz5 : (s ++ (nl ++ (⟨#[32, 58]⟩ : ByteArray))).size ≤ 121102 + 20000 * i := by rw [ByteArray.size_append]; exact hq2
                  have HS5 : Hid (by8 s ++ (by8 nl ++ [32, 58]) = by8 (s ++ (nl ++ (⟨#[32, 58]⟩ : ByteArray)))) := by show _ = _; rw [by8_append, by8_append]; rfl
                  go_upto_block 8 with fail
                  clear hq1 hqe hq2 e2
                  generalize s ++ (nl ++ (⟨#[32, 58]⟩ : ByteArray)) = s5 at hz5 HS5 ⊢
                  go_cut [3] from 113 to 154 (fun s3 wd => wd = wq ∧ ∃ z : ByteArray, s3 = .string z ∧ z.size ≤ 131300 + 20000 * i ∧ Hid (by8 z = by8 s5 ++ sp (nr.map by8)))
                  case first =>
                    go_wp2_with fail
                    go_loopg [3, 10] n (fun kx s3 s10 wr => ∃ (k : Nat) (z : ByteArray), s3 = .string z ∧ s10 = .int .i64 k ∧ k ≤ n ∧ n - k ≤ kx ∧ wr = wq ∧ z.size ≤ 121102 + 20000 * i + 101 * k ∧ Hid (by8 z = by8 s5 ++ sp ((nr.take k).map by8)))
                    case atStart => exact ⟨0, s5, rfl, rfl, Nat.zero_le _, by omega, rfl, by omega, (by show _ = _; rw [List.take_zero, List.map_nil]; exact (List.append_nil _).symm)⟩
                    case round =>
                      obtain ⟨k, z, rfl, rfl, hk, hg2, hwr, hzz, K⟩ := hrel
                      subst wr
                      by_cases hlt2 : k < n
                      · obtain ⟨y, hy⟩ : ∃ y, nr[k]? = some y := ⟨nr[k]'(by rw [HN.out]; exact hlt2), List.getElem?_eq_getElem _⟩
                        obtain ⟨b2, o2, hxa, q0⟩ := str_at HQ.out hy
                        subst hxa
                        have hyz := hsz.2.2.2 y (List.mem_of_getElem? hy)
                        have hq1 : (⟨#[32]⟩ : ByteArray).size + y.size ≤ 200 := by have : (⟨#[32]⟩ : ByteArray).size = 1 := rfl; omega
                        have hq2 : z.size + ((⟨#[32]⟩ : ByteArray) ++ y).size ≤ 121102 + 20000 * i + 101 * (k + 1) := by rw [sz32]; omega
                        have HZ : Hid ((z ++ (⟨#[32]⟩ ++ y)).size ≤ 121102 + 20000 * i + 101 * (k + 1)) := by show _ ≤ _; rw [ByteArray.size_append]; exact hq2
                        have HF : Hid (by8 (z ++ (⟨#[32]⟩ ++ y)) = by8 s5 ++ sp ((nr.take (k + 1)).map by8)) := by
                          show _ = _
                          rw [take_succ hy, List.map_append, sp_append, by8_append, by8_append, K.out, List.map_singleton, sp_one, List.append_assoc]
                          rfl
                        clear hy K
                        go_wp2_with fail
                        go_roundg (n - (k + 1))
                        case measure => omega
                        case rel => exact ⟨k + 1, _, rfl, by simp, by omega, Nat.le_refl _, rfl, HZ.out, HF⟩
                      · obtain rfl : k = n := by omega
                        have HF : Hid (by8 z = by8 s5 ++ sp (nr.map by8)) := by
                          have := K.out
                          rwa [← HN.out, List.take_length] at this
                        have hzf : z.size ≤ 131300 + 20000 * i := by omega
                        clear K
                        go_wp2_with fail
                        go_meet
                        exact ⟨rfl, _, rfl, hzf, HF⟩
                  case rest =>
                    obtain ⟨hwc, z, rfl, hzz, HZS⟩ := hcut
                    subst wc
                    obtain ⟨pe, hpe⟩ : ∃ pe : Bool, (np.toList == []) = pe := ⟨_, rfl⟩
                    go_upto_if 147 with fail
                    have HPE : Hid (pe = true ↔ np = ⟨#[]⟩) := by show _ ↔ _; rw [← hpe]; exact toList_nil np
                    clear hpe
                    have e3 : (⟨#[32, 59, 10]⟩ : ByteArray).size = 3 := rfl
                    by_cases hp : np = ⟨#[]⟩
                    · have h1 : pe = true := HPE.out.2 hp
                      subst h1
                      have hq1 : z.size + (⟨#[32, 59, 10]⟩ : ByteArray).size ≤ 121000 + 20000 * (i + 1) := by omega
                      have HZ : Hid ((z ++ ⟨#[32, 59, 10]⟩).size ≤ 121000 + 20000 * (i + 1)) := by show _ ≤ _; rw [ByteArray.size_append]; exact hq1
                      have HF : Hid (by8 (z ++ ⟨#[32, 59, 10]⟩) = tx (headLn ⟨ts, st, ex, rs⟩ l ++ (rs.take (i + 1)).map fun r => (ruleL r).map by8)) := by
                        show _ = _
                        rw [HJ2.out, if_pos hp, by8_append, HZS.out, ← HS5.out]
                        simp [by8]
                      clear hp HJ2 HZS HS5
                      go_wp2_with fail
                      go_roundg (rn - (i + 1))
                      case measure => omega
                      case rel => exact ⟨i + 1, _, rfl, by simp, by omega, Nat.le_refl _, HQB, HZ.out, HF⟩
                    · have h1 : pe = false := b_false HPE.out hp
                      subst h1
                      have e7 : (⟨#[32, 37, 112, 114, 101, 99, 32]⟩ : ByteArray).size = 7 := rfl
                      have e8 : ((⟨#[32, 37, 112, 114, 101, 99, 32]⟩ : ByteArray) ++ np).size = 7 + np.size := by rw [ByteArray.size_append, e7]
                      have e9 : (z ++ ((⟨#[32, 37, 112, 114, 101, 99, 32]⟩ : ByteArray) ++ np)).size = z.size + 7 + np.size := by rw [ByteArray.size_append, e8]; omega
                      have hq1 : (⟨#[32, 37, 112, 114, 101, 99, 32]⟩ : ByteArray).size + np.size ≤ 200 := by omega
                      have hq2 : z.size + ((⟨#[32, 37, 112, 114, 101, 99, 32]⟩ : ByteArray) ++ np).size ≤ 121000 + 20000 * (i + 1) := by omega
                      have hq3 : (z ++ ((⟨#[32, 37, 112, 114, 101, 99, 32]⟩ : ByteArray) ++ np)).size + (⟨#[32, 59, 10]⟩ : ByteArray).size ≤ 121000 + 20000 * (i + 1) := by omega
                      have HZ : Hid (((z ++ ((⟨#[32, 37, 112, 114, 101, 99, 32]⟩ : ByteArray) ++ np)) ++ ⟨#[32, 59, 10]⟩).size ≤ 121000 + 20000 * (i + 1)) := by show _ ≤ _; rw [ByteArray.size_append]; exact hq3
                      have HF : Hid (by8 ((z ++ ((⟨#[32, 37, 112, 114, 101, 99, 32]⟩ : ByteArray) ++ np)) ++ ⟨#[32, 59, 10]⟩) = tx (headLn ⟨ts, st, ex, rs⟩ l ++ (rs.take (i + 1)).map fun r => (ruleL r).map by8)) := by
                        show _ = _
                        rw [HJ2.out, if_neg hp, by8_append, by8_append, by8_append, HZS.out, ← HS5.out]
                        simp [by8]
                      clear hp HJ2 HZS HS5
                      go_wp2_with fail
                      go_roundg (rn - (i + 1))
                      case measure => omega
                      case rel => exact ⟨i + 1, _, rfl, by simp, by omega, Nat.le_refl _, HQB, HZ.out, HF⟩
                · obtain rfl : i = rn := by omega
                  have HF : Hid (s = T) := by
                    apply by8_inj
                    rw [HTX.out, J.out, ← HRN.out, List.take_length]
                    rfl
                  clear J
                  go_wp2_with fail
                  go_meet
                  exact ⟨HBr, by rw [HF.out]⟩
            case rest =>
              obtain ⟨HBF, rfl⟩ := hcut
              have HBE : Hid (Below w.heap.size w wc) := below_step HB1.out HBF.out
              go_wp2_with fail
              go_ret
              exact ⟨rfl, HBE.out⟩

end Go.Proofs.YtkaojokhdleeiaaGreatDoor

/-
  Two boxes with a grammar each that the call owns.
-/
namespace Go.Proofs.YtkaojokhdleeiaaGreatDoor
open Go.RowKit

set_option maxRecDepth 20000

theorem OwnG.far {w : World} {base b j : Nat} {h : Hd} {G : Gm} {qs : List (Ru × Option Addr × Nat)} {u : Value} (o : OwnG w base h G qs) (hb : b < base) : OwnG (w.setCell ⟨b, j, none⟩ u) base h G qs := by
  refine ⟨?_, ?_, o.map, fun q hq => ?_⟩
  · exact ownsRow_of_block o.tok (fun i hi => Below.heap_setCell _ _ _ _ (fun e => by simp only at e; have := (World.ownsRow.lt o.tok i hi).1; omega))
  · exact ownsRow_of_block o.rul (fun i hi => Below.heap_setCell _ _ _ _ (fun e => by simp only at e; have := (World.ownsRow.lt o.rul i hi).1; omega))
  · exact ownsRow_of_block (o.row q hq) (fun i hi => Below.heap_setCell _ _ _ _ (fun e => by simp only at e; have := (World.ownsRow.lt (o.row q hq) i hi).1; omega))

theorem OwnG.mono {w : World} {base base' : Nat} {h : Hd} {G : Gm} {qs : List (Ru × Option Addr × Nat)} (o : OwnG w base h G qs) (hb : base' ≤ base) : OwnG w base' h G qs :=
  ⟨own_mono o.tok hb, own_mono o.rul hb, o.map, fun q hq => own_mono (o.row q hq) hb⟩

/-- Four cells are stored. -/
def set4 (W : World) (b : Nat) (v0 v1 v2 v3 : Value) : World := (((W.setCell ⟨b, 0, none⟩ v0).setCell ⟨b, 1, none⟩ v1).setCell ⟨b, 2, none⟩ v2).setCell ⟨b, 3, none⟩ v3

theorem setCell_heap {W : World} {b j T : Nat} {cs : Array Value} (v : Value) (h : W.heap[b]? = some (.cells cs T (0, 0))) : (W.setCell ⟨b, j, none⟩ v).heap[b]? = some (.cells (cs.setIfInBounds j v) T (0, 0)) := by
  rw [setCell_eq_setRow W b j _ T (0, 0) _ h]
  exact setRow_heap _ _ _ _ T _ h

theorem set4_heap {W : World} {b T : Nat} {a0 a1 a2 a3 : Value} (v0 v1 v2 v3 : Value) (h : W.heap[b]? = some (.cells #[a0, a1, a2, a3] T (0, 0))) : (set4 W b v0 v1 v2 v3).heap[b]? = some (.cells #[v0, v1, v2, v3] T (0, 0)) :=
  setCell_heap (cs := #[v0, v1, v2, a3]) v3 (setCell_heap (cs := #[v0, v1, a2, a3]) v2 (setCell_heap (cs := #[v0, a1, a2, a3]) v1 (setCell_heap v0 h)))

theorem set4_other {W : World} {b k : Nat} (v0 v1 v2 v3 : Value) (h : k ≠ b) : (set4 W b v0 v1 v2 v3).heap[k]? = W.heap[k]? := by
  unfold set4
  rw [Below.heap_setCell _ _ _ _ h, Below.heap_setCell _ _ _ _ h, Below.heap_setCell _ _ _ _ h, Below.heap_setCell _ _ _ _ h]

theorem set4_below {w W : World} {b : Nat} (v0 v1 v2 v3 : Value) (h : Below w.heap.size w W) (hb : w.heap.size ≤ b) : Below w.heap.size w (set4 W b v0 v1 v2 v3) :=
  (((h.setCell (p := ⟨b, 0, none⟩) hb _).setCell (p := ⟨b, 1, none⟩) hb _).setCell (p := ⟨b, 2, none⟩) hb _).setCell (p := ⟨b, 3, none⟩) hb _

theorem OwnG.set4 {w : World} {base b : Nat} {h : Hd} {G : Gm} {qs : List (Ru × Option Addr × Nat)} (v0 v1 v2 v3 : Value) (o : OwnG w base h G qs) (hb : b < base) : OwnG (set4 w b v0 v1 v2 v3) base h G qs :=
  (((o.far hb).far hb).far hb).far hb

theorem box_cells {W : World} {b T : Nat} {a0 a1 a2 a3 : Value} (h : W.heap[b]? = some (.cells #[a0, a1, a2, a3] T (0, 0))) :
    W.cell? ⟨b, 0, none⟩ = some a0 ∧ W.cell? ⟨b, 1, none⟩ = some a1 ∧ W.cell? ⟨b, 2, none⟩ = some a2 ∧ W.cell? ⟨b, 3, none⟩ = some a3 ∧ W.frozen? ⟨b, 0, none⟩ = false ∧ W.frozen? ⟨b, 1, none⟩ = false ∧ W.frozen? ⟨b, 2, none⟩ = false ∧ W.frozen? ⟨b, 3, none⟩ = false :=
  ⟨by rw [cell_block h]; rfl, by rw [cell_block h]; rfl, by rw [cell_block h]; rfl, by rw [cell_block h]; rfl, frozen_block h 0, frozen_block h 1, frozen_block h 2, frozen_block h 3⟩

/-- Two grammars in boxes b and b + 1, all else as it was. -/
structure TwoG (w W : World) (b : Nat) (h : Hd) (G : Gm) (k : Hd) (K : Gm) : Prop where
  ba : W.heap[b]? = some (.cells (boxC h G) 28 (0, 0))
  bb : W.heap[b + 1]? = some (.cells (boxC k K) 28 (0, 0))
  oa : IsG W h G
  ob : IsG W k K
  be : Below w.heap.size w W

theorem gv_box (h : Hd) (G : Gm) : gv h G = .agg (boxC h G) := rfl

end Go.Proofs.YtkaojokhdleeiaaGreatDoor

/-
  The walk of read's gram: what has been read, as a grammar.
-/
namespace Go.Proofs.YtkaojokhdleeiaaGreatDoor
open Go.RowKit

set_option maxRecDepth 20000

/-- A grammar whose tokens grow in new memory. -/
structure GT (W1 wr : World) (gb : Nat) (ta : Option Addr) (tc : Nat) (ts : List Tk) (st : ByteArray) (ex : Int) (v : Value) : Prop where
  box : wr.heap[gb]? = some (.cells #[.slice ta ts.length tc, .string st, .int .i64 ex, v] 28 (0, 0))
  tok : wr.ownsRow W1.heap.size 50 3 (.slice ta ts.length tc) ts.length (tokC ts)
  bel : Below W1.heap.size W1 wr
  new : W1.heap.size ≤ gb

theorem GT.step {W1 wr wr' : World} {gb tc : Nat} {ta : Option Addr} {ts : List Tk} {st : ByteArray} {ex : Int} {v : Value} (g : GT W1 wr gb ta tc ts st ex v) (hb : Below wr.heap.size wr wr') : GT W1 wr' gb ta tc ts st ex v :=
  ⟨block_below hb g.box, ownsRow_of_block g.tok (fun i hi => hb.block i (World.ownsRow.lt g.tok i hi).2), below_step g.bel hb, g.new⟩

theorem GT.add {W1 W : World} {gb tc : Nat} {ta : Option Addr} {ts : List Tk} {st : ByteArray} {ex : Int} {v : Value} (g : GT W1 W gb ta tc ts st ex v) (hn : ts.length ≤ 1000) (t : Tk) :
    ∃ ao n c w', (Builtin.append_ #[25, 25] 25 #[.slice ta ts.length tc, .slice (some ⟨W.heap.size, 0, none⟩) 1 1]).run Tryz.prog (W.alloc (.cells #[.string t.n, .int .i64 t.l, .int .i64 t.a] 50)) = .ok (.slice ao n c) w' ∧ n = ts.length + 1 ∧ w'.heap[gb]? = some (.cells #[.slice ta ts.length tc, .string st, .int .i64 ex, v] 28 (0, 0)) ∧
      GT W1 (w'.setCell ⟨gb, 0, none⟩ (.slice ao n c)) gb ao c (ts ++ [t]) st ex v := by
  obtain ⟨i0, hi, hz0, hz1, hz2⟩ := info_parts Tryz.info50
  have g1 := g.step (below_alloc W (.cells #[.string t.n, .int .i64 t.l, .int .i64 t.a] 50))
  have hnews : ∀ j u, (tokC [t])[j]? = some u → (W.alloc (.cells #[.string t.n, .int .i64 t.l, .int .i64 t.a] 50)).cell? ((⟨W.heap.size, 0, none⟩ : Addr).add j) = some u := by
    intro j u hu
    rw [Addr.add_lit, Nat.zero_add, World.cell?_alloc_mark, ← hu]
    exact List.getElem?_toArray (xs := tokC [t]) (i := j)
  obtain ⟨v', w', hr, h2, h3, -⟩ := run_append_own (P := Tryz.prog) (W.alloc (.cells #[.string t.n, .int .i64 t.l, .int .i64 t.a] 50)) W1.heap.size 25 25 50 i0 _ 3 32 Tryz.underlying25 hi hz0 hz1 hz2 rfl (by decide) _ ts.length _ g1.tok ⟨W.heap.size, 0, none⟩ 1 1 (tokC [t]) rfl hnews
    (fun u hu => by simp [tokC] at hu; rcases hu with rfl | rfl | rfl <;> rfl) (by unfold maxLen; omega) (by omega) (by have := g1.bel.size; exact this)
  obtain ⟨ao, c, rfl, -⟩ := own_slice h2
  have hbox : w'.heap[gb]? = some (.cells #[.slice ta ts.length tc, .string st, .int .i64 ex, v] 28 (0, 0)) := by
    rw [h3.block gb (Array.getElem?_eq_some_iff.1 g1.box).1 (fun e => loc_ne ⟨_, g1.box⟩ (own_loc g1.tok e.symm) (by decide) rfl)]
    exact g1.box
  refine ⟨ao, _, c, w', hr, rfl, hbox, ?_, ?_, ?_, g.new⟩
  · rw [setCell_eq_setRow w' gb 0 _ 28 (0, 0) _ hbox]
    have e : (#[.slice ta ts.length tc, .string st, .int .i64 ex, v] : Array Value).setIfInBounds 0 (.slice ao (ts.length + 1) c) = #[.slice ao (ts ++ [t]).length c, .string st, .int .i64 ex, v] := by simp
    rw [e]
    exact setRow_heap _ _ _ _ 28 _ hbox
  · have ho : w'.ownsRow W1.heap.size 50 3 (.slice ao (ts ++ [t]).length c) (ts ++ [t]).length (tokC (ts ++ [t])) := by
      rw [tokC_append, List.length_append]
      exact h2
    exact ownsRow_of_block ho (fun i hi => Below.heap_setCell _ _ _ _ (loc_ne (own_loc ho hi) ⟨_, hbox⟩ (by decide)))
  · exact (g1.bel.grown h3 (g1.bel.size) (fun k hk => (World.ownsRow.lt g1.tok k hk).1)).setCell (p := ⟨gb, 0, none⟩) g.new _

/-- What was read, as a grammar. -/
def gmOf (S : St) : Gm := ⟨S.ts, S.st, S.ex, S.rs⟩

set_option maxHeartbeats 8000000 in
theorem rdGram_calls (w W : World) (rb : Nat) (h : RHd) (S : St) (qs : List (Ru × Option Addr × Nat)) (r : RD w W rb h S qs) :
    Calls Tryz.prog 29 #[.pointer (some ⟨rb, 0, none⟩)] W fun e W' => ∃ h', e = .returned (gv h' (gmOf S)) ∧ OwnG W' w.heap.size h' (gmOf S) qs ∧ Below W.heap.size W W' := by
  have hb1 : (W.alloc (.cells #[.slice none 0 0, .string ⟨#[]⟩, .int .i64 0, .slice none 0 0] 28)).heap[W.heap.size]? = some (.cells #[.slice none 0 0, .string ⟨#[]⟩, .int .i64 0, .slice none 0 0] 28 (0, 0)) := heap_alloc_new _ _
  have HR : Hid (RD w (W.alloc (.cells #[.slice none 0 0, .string ⟨#[]⟩, .int .i64 0, .slice none 0 0] 28)) rb h S qs) := r.step (below_alloc _ _)
  have HB1 : Hid (Below W.heap.size W (W.alloc (.cells #[.slice none 0 0, .string ⟨#[]⟩, .int .i64 0, .slice none 0 0] 28))) := below_alloc _ _
  obtain ⟨hle, hmx⟩ := r.tlen
  have hnn : S.ts.length ≤ 40 := r.ok.nt
  clear r
  go_enter Tryz.func29, Tryz.ntmps29
  go_upto_region 1 with fail
  generalize W.alloc (.cells #[.slice none 0 0, .string ⟨#[]⟩, .int .i64 0, .slice none 0 0] 28) = W1 at HR hb1 HB1 ⊢
  obtain ⟨nb, hnb⟩ : ∃ nb, nb = W.heap.size := ⟨_, rfl⟩
  rw [← hnb] at hb1 ⊢
  have HNB : Hid (W.heap.size ≤ nb ∧ nb < W1.heap.size) := ⟨Nat.le_of_eq hnb.symm, (Array.getElem?_eq_some_iff.1 hb1).1⟩
  have HBX : Hid (W1.heap[nb]? = some (.cells #[.slice none 0 0, .string ⟨#[]⟩, .int .i64 0, .slice none 0 0] 28 (0, 0))) := hb1
  clear hb1 hnb
  have c3 : W1.cell? ⟨rb, 3, none⟩ = some (.string S.st) := by rw [cell_block HR.out.box]; rfl
  have c5 : W1.cell? ⟨rb, 5, none⟩ = some (.int .i64 S.ex) := by rw [cell_block HR.out.box]; rfl
  have c6 : W1.cell? ⟨rb, 6, none⟩ = some (.slice h.ra S.rs.length h.rc) := by rw [cell_block HR.out.box]; rfl
  have HG0 : Hid (GT W1 (W1.alloc (.cells #[.slice none 0 0, .string S.st, .int .i64 S.ex, .slice h.ra S.rs.length h.rc] 28)).drew W1.heap.size none 0 [] S.st S.ex (.slice h.ra S.rs.length h.rc)) := GT.step (⟨heap_alloc_new _ _, World.ownsRow_nil _ _ _ _, below_alloc _ _, Nat.le_refl _⟩ : GT W1 (W1.alloc (.cells #[.slice none 0 0, .string S.st, .int .i64 S.ex, .slice h.ra S.rs.length h.rc] 28)) W1.heap.size none 0 [] S.st S.ex (.slice h.ra S.rs.length h.rc)) (below_drew' _)
  go_cut [3] (fun s3 wd => s3 = .pointer (some ⟨W1.heap.size, 0, none⟩) ∧ Hid (GT W1 wd W1.heap.size none 0 [] S.st S.ex (.slice h.ra S.rs.length h.rc)))
  case first =>
    go_region_held (fun w' => w'.cell? ⟨rb, 3, none⟩ = some (.string S.st) ∧ w'.cell? ⟨rb, 5, none⟩ = some (.int .i64 S.ex) ∧ w'.cell? ⟨rb, 6, none⟩ = some (.slice h.ra S.rs.length h.rc)) (go_keep) (fail)
    all_goals
      go_wp2_with fail
      go_meet
      exact ⟨rfl, HG0⟩
  case rest =>
    obtain ⟨rfl, HG⟩ := hcut
    obtain ⟨W2, hW2⟩ : ∃ W2, W2 = wc := ⟨_, rfl⟩
    subst wc
    clear c3 c5 c6 HG0
    obtain ⟨gb, hgb⟩ : ∃ gb, gb = W1.heap.size := ⟨_, rfl⟩
    rw [← hgb] at HG ⊢
    have HNG : Hid (nb < gb) := by rw [hgb]; exact HNB.out.2
    clear hgb
    have c1 : W2.cell? ⟨rb, 1, none⟩ = some (.slice h.ta S.ts.length h.tc) := by rw [cell_block (HR.out.step HG.out.bel).box]; rfl
    obtain ⟨wb, wo, wl, ta, tc, ra, rc⟩ := h
    simp only at hle hmx c1 HG
    generalize en : S.ts.length = n at *
    have HN : Hid (S.ts.length = n) := en
    clear en
    go_wp2_with fail
    go_loopg [24] n (fun kx s24 wr => ∃ k : Nat, s24 = .int .i64 k ∧ k ≤ n ∧ n - k ≤ kx ∧ Hid (∃ qa qc, GT W1 wr gb qa qc (S.ts.take k) S.st S.ex (.slice ra S.rs.length rc)))
    case atStart => exact ⟨0, rfl, Nat.zero_le _, by omega, (⟨none, 0, HG.out⟩ : ∃ qa qc, GT W1 W2 gb qa qc (S.ts.take 0) S.st S.ex (.slice ra S.rs.length rc))⟩
    case round =>
      obtain ⟨k, rfl, hk, hg, J⟩ := hrel
      clear HG
      obtain ⟨qa, qc, hG⟩ := J.out
      have elk : (S.ts.take k).length = k := by rw [List.length_take, HN.out]; omega
      by_cases hlt : k < n
      · have hlt' : (k : Int) < (n : Int) := by omega
        obtain ⟨t, ht⟩ : ∃ t, S.ts[k]? = some t := ⟨S.ts[k]'(by rw [HN.out]; exact hlt), List.getElem?_eq_getElem _⟩
        obtain ⟨tb, bb, hta, -, d0, d1, d2, d3, -⟩ := (HR.out.step hG.bel).tokAt ht
        simp only at hta
        subst hta
        obtain ⟨tn, tl, tA⟩ := t
        simp only at d0 d1 d2
        have hG1 := hG.step (below_alloc wr (.cells #[.string tn, .int .i64 tl, .int .i64 tA, .bool bb] 78))
        have e0 : wr.cell? ⟨gb, 0, none⟩ = some (.slice qa k qc) := by rw [cell_block hG.box, elk]; rfl
        have e0' := cell_alloc e0 (.cells #[.string tn, .int .i64 tl, .int .i64 tA, .bool bb] 78)
        obtain ⟨ao, m, c, w5, hrun, hm, hbox, hG2⟩ := hG1.add (by rw [elk]; omega) ⟨tn, tl, tA⟩
        simp only [elk, size_alloc1] at hrun hm
        have f0 : w5.cell? ⟨gb, 0, none⟩ = some (.slice qa k qc) := by rw [cell_block hbox, elk]; rfl
        have z0 : w5.frozen? ⟨gb, 0, none⟩ = false := frozen_block hbox 0
        have HF : Hid (∃ qa qc, GT W1 (w5.setCell ⟨gb, 0, none⟩ (.slice ao m c)) gb qa qc (S.ts.take (k + 1)) S.st S.ex (.slice ra S.rs.length rc)) := by
          have e : S.ts.take (k + 1) = S.ts.take k ++ [⟨tn, tl, tA⟩] := take_succ ht
          rw [e]
          exact ⟨_, _, hG2⟩
        clear hG hG1 hG2 hbox hm J elk ht
        go_wp2_with (at_builtin; refine Lib.wpList_append_run _ rfl _ _ _ _ rfl _ _ rfl rfl _ _ hrun ?_)
        go_roundg (n - (k + 1))
        case measure => omega
        case rel => exact ⟨k + 1, by simp, by omega, Nat.le_refl _, HF⟩
      · have hlt' : ¬ (k : Int) < (n : Int) := by omega
        have htk : S.ts.take k = S.ts := List.take_of_length_le (by rw [HN.out]; omega)
        rw [htk] at hG
        have t0 := hG.bel.block nb HNB.out.2
        rw [HBX.out] at t0
        obtain ⟨y0, y1, y2, y3, y4, y5, y6, y7⟩ := box_cells t0
        obtain ⟨g0, g1, g2, g3, -⟩ := box_cells hG.box
        have HG3 : Hid (GT W1 wr gb qa qc S.ts S.st S.ex (.slice ra S.rs.length rc)) := hG
        rw [HN.out] at g0
        have HFN : Hid (OwnG (set4 wr nb (.slice qa n qc) (.string S.st) (.int .i64 S.ex) (.slice ra S.rs.length rc)) w.heap.size ⟨qa, qc, ra, rc⟩ (gmOf S) qs ∧ Below W.heap.size W (set4 wr nb (.slice qa n qc) (.string S.st) (.int .i64 S.ex) (.slice ra S.rs.length rc))) := by
          have hr := HR.out.step hG.bel
          have hw1 : w.heap.size ≤ W1.heap.size := HR.out.bel.size
          have hl28 : Loc wr nb 28 := ⟨_, t0⟩
          have far : ∀ {V : World} {E k n : Nat} {v : Value} {cs : List Value} {j : Nat} {u : Value}, Loc V nb 28 → E ≠ 28 → V.ownsRow w.heap.size E k v n cs → (V.setCell ⟨nb, j, none⟩ u).ownsRow w.heap.size E k v n cs := by
            intro V E k n v cs j u hl hE ho
            exact ownsRow_of_block ho (fun i hi => Below.heap_setCell _ _ _ _ (loc_ne (own_loc ho hi) hl hE))
          have far4 : ∀ {E k n' : Nat} {v : Value} {cs : List Value}, E ≠ 28 → wr.ownsRow w.heap.size E k v n' cs → (set4 wr nb (.slice qa n qc) (.string S.st) (.int .i64 S.ex) (.slice ra S.rs.length rc)).ownsRow w.heap.size E k v n' cs := by
            intro E k n' v cs hE ho
            exact far (((hl28.set _ _ _).set _ _ _).set _ _ _) hE (far ((hl28.set _ _ _).set _ _ _) hE (far (hl28.set _ _ _) hE (far hl28 hE ho)))
          refine ⟨⟨far4 (by decide) (own_mono hG.tok hw1), far4 (by decide) hr.rul, hr.map, fun q hq => far4 (by decide) (hr.row q hq)⟩, ?_⟩
          exact set4_below _ _ _ _ (below_step HB1.out hG.bel) HNB.out.1
        unfold set4 at HFN
        clear hG J t0 elk htk
        have HGM : Hid (gv ⟨qa, qc, ra, rc⟩ (gmOf S) = .agg #[.slice qa n qc, .string S.st, .int .i64 S.ex, .slice ra S.rs.length rc]) := by
          show _ = _
          unfold gv gmOf
          simp only [HN.out]
        generalize S.rs.length = rn at *
        generalize S.st = st at *
        generalize S.ex = ex at *
        go_wp2_with fail
        refine bodyPost_ret (v := .agg #[.slice qa n qc, .string st, .int .i64 ex, .slice ra rn rc]) (by simp [results, Tryz.results29, go_sem, *]) rfl ?_
        exact ⟨⟨qa, qc, ra, rc⟩, by rw [HGM.out], HFN.out.1, HFN.out.2⟩

end Go.Proofs.YtkaojokhdleeiaaGreatDoor

/-
  Read as plain mathematics; the reader as it begins.
-/
namespace Go.Proofs.YtkaojokhdleeiaaGreatDoor
open Go.RowKit

set_option maxRecDepth 20000

/-- The reader before its first word. -/
def st0 (ws : List Wd) : St := ⟨ws, [], [], 0, ⟨#[]⟩, false, 0, []⟩

/-- The words of a text. -/
def wordsOf (s : ByteArray) : List Wd := (scan (by8 s)).1.map (wdOf s)

/-- What Read answers: a grammar's state, or a fault. -/
def readS (s : ByteArray) : Except Flt St :=
  if 2000 < s.size then .error (6, 0) else
  if (scan (by8 s)).2 < 0 then readP (st0 (wordsOf s)) else
  match readP (st0 (wordsOf (s.extract 0 (scan (by8 s)).2.toNat))) with
  | .error e => .error e
  | .ok _ => .error (1, (scan (by8 s)).2)

theorem cellsW_eq (s : ByteArray) : ∀ ws : List (Nat × Nat × Nat), cellsW s ws = wdC (ws.map (wdOf s))
  | [] => rfl
  | x :: r => by
    have e : cellsW s (x :: r) = wcells s x ++ cellsW s r := rfl
    rw [e, cellsW_eq s r]
    rfl

/-- The fault of a scan: none, or a place. -/
theorem scanF_fault {l : List UInt8} : ∀ (f i : Nat) (a : List (Nat × Nat × Nat)), i ≤ l.length → l.length - i < f → (scanF f l i a).2 = -1 ∨ ∃ m : Nat, (scanF f l i a).2 = (m : Int)
  | 0, _, _, _, h => by omega
  | f + 1, i, a, h, hf => by
    by_cases hi : i < l.length
    · by_cases hK : (wordP l i).1 = 0
      · rw [scan_bad hi hK]; exact .inr ⟨i, rfl⟩
      · rw [scan_next hi hK]
        have h2 := wordP_range hi
        have h3 := skip_le (l := l) (i := (wordP l i).2) h2.2.1
        exact scanF_fault f _ _ h3.2 (by have := h2.2.2.1 hK; omega)
    · rw [scan_out (by omega)]; exact .inl rfl

theorem scan_fault (l : List UInt8) : (scan l).2 = -1 ∨ ∃ m : Nat, (scan l).2 = (m : Int) :=
  scanF_fault _ _ _ (skip_le (Nat.zero_le _)).2 (by omega)

theorem by8_take (s : ByteArray) (m : Nat) : by8 (s.extract 0 m) = (by8 s).take m := by
  rw [by8_extract]
  unfold part
  rw [List.drop_zero, Nat.sub_zero]

/-- What stands before a fault has none. -/
theorem scan_before {s : ByteArray} {m : Nat} (h : (scan (by8 s)).2 = (m : Int)) : m < s.size ∧ (scan (by8 (s.extract 0 m))).2 = -1 := by
  have h1 := scan_take h
  rw [by8_take s m]
  exact ⟨by rw [← by8_length]; exact h1.1, h1.2⟩

/-- The reader as it begins. -/
theorem RD.init {w : World} {base : Nat} {s : ByteArray} {v : Value} (h : IsW w base s v (scan (by8 s)).1) (hf : (scan (by8 s)).2 = -1) :
    ∃ hd : RHd, v = .slice (some ⟨hd.wb, hd.wo, none⟩) (st0 (wordsOf s)).ws.length hd.wc ∧ hd.ta = none ∧ hd.tc = 0 ∧ hd.ra = none ∧ hd.rc = 0 ∧
      RD w (w.alloc (.cells (rdC hd (st0 (wordsOf s))) 63)) w.heap.size hd (st0 (wordsOf s)) [] := by
  have he : Ends (wordsOf s) := scan_ends hf
  have hp := he.pos
  have hl : (wordsOf s).length = (scan (by8 s)).1.length := List.length_map _
  unfold IsW at h
  obtain ⟨g, cap, rfl⟩ : ∃ g cap, v = .slice (some ⟨g, 0, none⟩) (scan (by8 s)).1.length cap := by
    rcases h.2 with ⟨_, h0⟩ | ⟨g, cap, cur, hv, _⟩
    · omega
    · exact ⟨g, cap, hv⟩
  refine ⟨⟨g, 0, cap, none, 0, none, 0⟩, by rw [← hl]; rfl, rfl, rfl, rfl, rfl, ?_⟩
  have hr := Row.of_own h
  rw [cellsW_eq, ← hl] at hr
  exact ⟨heap_alloc_new _ _, hr, World.ownsRow_nil _ _ _ _, World.ownsRow_nil _ _ _ _, rfl, fun q hq => (by cases hq), below_alloc _ _, Nat.le_refl _, ⟨he, Nat.zero_le _, rfl, Nat.zero_le _, Nat.zero_le _⟩⟩

/-- A fault has a kind. -/
theorem partsP_flt : ∀ {f : Nat} {S : St} {g : Flt}, partsP f S = .error g → g.1 ≠ 0
  | 0, S, g, h => by simp [partsP] at h
  | f + 1, S, g, h => by
    unfold partsP at h
    split at h
    · cases h
    · split at h
      · rename_i e he
        cases h
        exact partP_flt he
      · exact partsP_flt h

theorem rulesP_flt : ∀ {f : Nat} {S : St} {g : Flt}, rulesP f S = .error g → g.1 ≠ 0
  | 0, S, g, h => by simp [rulesP] at h
  | f + 1, S, g, h => by
    unfold rulesP at h
    split at h
    · cases h
    · split at h
      · rename_i e he
        cases h
        exact ruleRd_flt he
      · exact rulesP_flt h

theorem readP_flt {S : St} {g : Flt} (h : readP S = .error g) : g.1 ≠ 0 := by
  unfold readP at h
  split at h
  · rename_i e he
    cases h
    exact partsP_flt he
  · exact rulesP_flt h

end Go.Proofs.YtkaojokhdleeiaaGreatDoor
