/-
  Texts that the proof of the Well statements stands on, part Own11.
-/
import Derived.Test.YtebehlmidoencaaGreatDoorOwn10
import Derived.Test.YtebehlmidoencaaGreatDoorOwn03
import Derived.Test.YtebehlmidoencaaGreatDoorOwn06
import Derived.Lib.ConvBytes
/-
  A scan that ends at a fault: what stands before the fault scans without one.
-/
namespace Go.Proofs.YtebehlmidoencaaGreatDoor
open Go.RowKit

set_option maxRecDepth 20000

theorem bt_take {l : List UInt8} {m i : Nat} (h : i < m) : bt (l.take m) i = bt l i := by
  unfold bt; rw [List.getElem?_take, if_pos h]

theorem runLen_take (p : Int → Bool) : ∀ (l : List UInt8) (m : Nat), runLen p (l.take m) = min (runLen p l) m
  | [], m => by simp [runLen]
  | b :: r, 0 => by simp [runLen]
  | b :: r, m + 1 => by
    rw [List.take_succ_cons]
    unfold runLen
    split
    · rw [runLen_take p r m]; omega
    · omega

theorem runEnd_take {p : Int → Bool} {l : List UInt8} {m i : Nat} (h : i ≤ m) (he : runEnd p l i ≤ m) : runEnd p (l.take m) i = runEnd p l i := by
  unfold runEnd at *
  rw [List.drop_take, runLen_take]
  omega

theorem part_take {l : List UInt8} {m i e : Nat} (he : e ≤ m) : part (l.take m) i e = part l i e := by
  unfold part
  rw [List.drop_take, List.take_take, show min (e - i) (m - i) = e - i by omega]

theorem len_take {l : List UInt8} {m : Nat} (hm : m ≤ l.length) : (l.take m).length = m := by rw [List.length_take]; omega

theorem pre2_take {x y : Int} {l : List UInt8} {m i : Nat} (hm : m ≤ l.length) (h : i + 1 < m) : pre2 x y (l.take m) i = pre2 x y l i := by
  unfold pre2
  rw [len_take hm, bt_take (by omega), bt_take h, decide_eq_true h, decide_eq_true (show i + 1 < l.length by omega)]

theorem pre2_take_no {x y : Int} {l : List UInt8} {m i : Nat} (hm : m ≤ l.length) (h : pre2 x y l i = false) : pre2 x y (l.take m) i = false := by
  by_cases hi : i + 1 < m
  · rw [pre2_take hm hi, h]
  · unfold pre2
    rw [len_take hm, decide_eq_false hi]
    rfl

theorem skipF_take {l : List UInt8} {m : Nat} (hm : m ≤ l.length) : ∀ (f f' i : Nat), i ≤ m → m - i < f' → l.length - i < f → skipF f l i ≤ m → skipF f' (l.take m) i = skipF f l i
  | 0, _, _, _, _, h, _ => by omega
  | f + 1, 0, _, _, h, _, _ => by omega
  | f + 1, f' + 1, i, hi, h1, h2, h3 => by
    have hl := len_take hm
    by_cases he : i = m
    · rw [skip_out (by omega)]
      by_cases hb : i < l.length
      · have := (skipF_le (l := l) (f + 1) i (by omega)).1
        omega
      · rw [skip_out (by omega)]
    · have hlt : i < l.length := by omega
      have hb' := bt_take (l := l) (show i < m by omega)
      by_cases hb : isB (bt l i) = true
      · rw [skip_blank hlt hb] at h3 ⊢
        rw [skip_blank (by omega) (by rw [hb']; exact hb)]
        exact skipF_take hm f f' (i + 1) (by omega) (by omega) (by omega) h3
      · have hb : isB (bt l i) = false := by simpa using hb
        by_cases hp : pre2 47 47 l i = true
        · rw [skip_line hlt hb hp] at h3 ⊢
          have hr := line_more hp
          have hle := runEnd_le (p := noNl) (l := l) (i := i) (by omega)
          have hs := (skipF_le (l := l) f (runEnd noNl l i) hle).1
          have h47 : runEnd noNl l i = runEnd noNl l (i + 1 + 1) := by
            simp only [pre2, Bool.and_eq_true, decide_eq_true_eq, beq_iff_eq] at hp
            rw [runEnd_step hlt (by rw [hp.1.2]; rfl), runEnd_step hp.1.1 (by rw [hp.2]; rfl)]
          have h48 := le_runEnd noNl l (i + 1 + 1)
          rw [skip_line (by omega) (by rw [hb']; exact hb) (by rw [pre2_take hm (by omega)]; exact hp), runEnd_take hi (by omega)]
          exact skipF_take hm f f' _ (by omega) (by omega) (by omega) h3
        · have hp : pre2 47 47 l i = false := by simpa using hp
          rw [skip_word hb hp, skip_word (by rw [hb']; exact hb) (pre2_take_no hm hp)]

theorem skip_take {l : List UInt8} {m i : Nat} (hm : m ≤ l.length) (hi : i ≤ m) (h : skip l i ≤ m) : skip (l.take m) i = skip l i := by
  unfold skip at *
  exact skipF_take hm _ _ i hi (by rw [len_take hm]; omega) (by omega) h

theorem wordP_take {l : List UInt8} {m i : Nat} (hm : m ≤ l.length) (hi : i < m) (hk : (wordP l i).1 ≠ 0) (he : (wordP l i).2 ≤ m) : wordP (l.take m) i = wordP l i := by
  have hb := bt_take (l := l) hi
  by_cases h1 : isL (bt l i) = true
  · rw [wordP_name h1] at hk he ⊢
    rw [wordP_name (by rw [hb]; exact h1)]
    unfold nameP at *
    split at hk
    · exact absurd rfl hk
    · rename_i hc
      rw [if_neg hc] at he
      rw [runEnd_take (by omega) he]
  · have h1 : isL (bt l i) = false := by simpa using h1
    by_cases h2 : isD (bt l i) = true
    · rw [wordP_num h1 h2] at hk he ⊢
      rw [wordP_num (by rw [hb]; exact h1) (by rw [hb]; exact h2)]
      unfold numberP at *
      split at hk
      · exact absurd rfl hk
      · rename_i hc
        rw [if_neg hc] at he ⊢
        rw [runEnd_take (by omega) he, if_neg]
        intro hn
        apply hc
        unfold numBad at *
        rw [len_take hm, hb] at hn
        simp only [Bool.or_eq_true, Bool.and_eq_true, decide_eq_true_eq] at hn ⊢
        rcases hn with hn | ⟨hn, hn2⟩
        · exact Or.inl hn
        · rw [bt_take hn] at hn2
          exact Or.inr ⟨by omega, hn2⟩
    · have h2 : isD (bt l i) = false := by simpa using h2
      by_cases h3 : (bt l i == 37) = true
      · rw [wordP_key h1 h2 h3] at hk he ⊢
        rw [wordP_key (by rw [hb]; exact h1) (by rw [hb]; exact h2) (by rw [hb]; exact h3)]
        unfold keyP at *
        by_cases hp : pre2 37 37 l i = true
        · rw [if_pos hp] at he ⊢
          simp only at he
          rw [if_pos (by rw [pre2_take hm (by omega)]; exact hp)]
        · rw [if_neg hp] at hk he ⊢
          rw [if_neg (by rw [pre2_take_no hm (by simpa using hp)]; simp)]
          split at hk
          · rename_i hc
            rw [if_pos hc] at he ⊢
            rw [runEnd_take (by omega) he, part_take he, if_pos hc]
          · exact absurd rfl hk
      · have h3 : (bt l i == 37) = false := by simpa using h3
        by_cases h4 : isS (bt l i) = true
        · rw [wordP_sign h1 h2 h3 h4, wordP_sign (by rw [hb]; exact h1) (by rw [hb]; exact h2) (by rw [hb]; exact h3) (by rw [hb]; exact h4)]
        · rw [wordP_none h1 h2 h3 (by simpa using h4)] at hk
          exact absurd rfl hk

/-- A fault lies at or behind the place where the scan stands. -/
theorem scanF_behind {l : List UInt8} {m : Nat} : ∀ (f i : Nat) (a : List (Nat × Nat × Nat)), (scanF f l i a).2 = (m : Int) → i ≤ m ∧ m < l.length
  | 0, i, a, h => by simp only [scanF] at h; omega
  | f + 1, i, a, h => by
    by_cases hi : i < l.length
    · by_cases hK : (wordP l i).1 = 0
      · rw [scan_bad hi hK] at h
        simp only at h
        omega
      · rw [scan_next hi hK] at h
        have h1 := scanF_behind f _ _ h
        have h2 := wordP_range hi
        have h3 := skip_le (l := l) (i := (wordP l i).2) h2.2.1
        omega
    · rw [scan_out (by omega)] at h
      simp only at h
      omega

theorem scanF_take {l : List UInt8} {m : Nat} : ∀ (f f' i : Nat) (a : List (Nat × Nat × Nat)), m - i < f' → (scanF f l i a).2 = (m : Int) → (scanF f' (l.take m) i a).2 = -1
  | 0, _, i, a, _, h => by simp only [scanF] at h; omega
  | f + 1, 0, _, _, h, _ => by omega
  | f + 1, f' + 1, i, a, hf, h => by
    have hr := scanF_behind _ _ _ h
    have hm : m ≤ l.length := by omega
    have hl := len_take hm
    have hi : i < l.length := by omega
    by_cases he : i = m
    · rw [scan_out (by omega)]
    · by_cases hK : (wordP l i).1 = 0
      · rw [scan_bad hi hK] at h
        simp only at h
        omega
      · rw [scan_next hi hK] at h
        have h1 := scanF_behind f _ _ h
        have h2 := wordP_range hi
        have h3 := skip_le (l := l) (i := (wordP l i).2) h2.2.1
        have hw := wordP_take hm (by omega : i < m) hK (by omega)
        rw [scan_next (by omega) (by rw [hw]; exact hK), hw, skip_take hm (by omega) h1.1]
        exact scanF_take f f' _ _ (by have := h2.2.2.1 hK; omega) h

/-- What stands before a scan's fault has none. -/
theorem scan_take {l : List UInt8} {m : Nat} (h : (scan l).2 = (m : Int)) : m < l.length ∧ (scan (l.take m)).2 = -1 := by
  unfold scan at *
  have hr := scanF_behind _ _ _ h
  refine ⟨hr.2, ?_⟩
  have hm : m ≤ l.length := by omega
  rw [skip_take hm (by omega) hr.1, len_take hm]
  exact scanF_take _ _ _ _ (by omega) h
end Go.Proofs.YtebehlmidoencaaGreatDoor

/-
  The walk of read's token.
-/
namespace Go.Proofs.YtebehlmidoencaaGreatDoor
open Go.RowKit

set_option maxRecDepth 20000

/-- What token answers. -/
def TokA (w W : World) (rb : Nat) (qs : List (Ru × Option Addr × Nat)) (R : Except Flt (Nat × St)) (e : Ending) (W' : World) : Prop :=
  match R with
  | .ok (i, S1) => ∃ h' tb, e = .returned (.tuple #[.pointer (some ⟨tb, i * 4, none⟩), fv (0, 0)]) ∧ h'.ta = some ⟨tb, 0, none⟩ ∧ RD w W' rb h' S1 qs ∧ Keep W W'
  | .error f => e = .returned (.tuple #[.pointer none, fv f]) ∧ (∃ h' S1, RD w W' rb h' S1 qs) ∧ Keep W W'

theorem Keep.far {W W' : World} (k : Keep W W') {b : Nat} (hb : W.heap.size ≤ b) (j : Nat) (u : Value) : Keep W (W'.setCell ⟨b, j, none⟩ u) :=
  ⟨by have := k.size; simpa using this, fun b' c T h0 h1 h2 h3 h4 => by
    rw [Below.heap_setCell _ _ _ _ (fun e => by simp only at e; have := (Array.getElem?_eq_some_iff.1 h0).1; omega)]
    exact k.loc b' c T h0 h1 h2 h3 h4⟩

set_option maxHeartbeats 8000000 in
theorem rdToken_calls (x : Wd) (w W : World) (rb : Nat) (h : RHd) (S : St) (qs : List (Ru × Option Addr × Nat)) (r : RD w W rb h S qs) :
    Calls Tryz.prog 117 #[.pointer (some ⟨rb, 0, none⟩), wv x] W fun e W' => TokA w W rb qs (tokP x S) e W' := by
  obtain ⟨xk, xt, xa⟩ := x
  unfold wv
  simp only
  have hB : Below W.heap.size W ((W.alloc (.cells #[.int .i64 xk, .string xt, .int .i64 xa] 109)).alloc (.cells #[.int .i64 0, .int .i64 0] 85)) := below_step (below_alloc _ _) (below_alloc _ _)
  have hb0 : ((W.alloc (.cells #[.int .i64 xk, .string xt, .int .i64 xa] 109)).alloc (.cells #[.int .i64 0, .int .i64 0] 85)).heap[W.heap.size]? = some (.cells #[.int .i64 xk, .string xt, .int .i64 xa] 109 (0, 0)) := block_below (below_alloc _ _) (heap_alloc_new _ _)
  have hb1 : ((W.alloc (.cells #[.int .i64 xk, .string xt, .int .i64 xa] 109)).alloc (.cells #[.int .i64 0, .int .i64 0] 85)).heap[W.heap.size + 1]? = some (.cells #[.int .i64 0, .int .i64 0] 85 (0, 0)) := by
    have := heap_alloc_new (W.alloc (.cells #[.int .i64 xk, .string xt, .int .i64 xa] 109)) (.cells #[.int .i64 0, .int .i64 0] 85)
    rwa [size_alloc1] at this
  have hrb : rb < W.heap.size := (Array.getElem?_eq_some_iff.1 r.box).1
  have HR : Hid (RD w ((W.alloc (.cells #[.int .i64 xk, .string xt, .int .i64 xa] 109)).alloc (.cells #[.int .i64 0, .int .i64 0] 85)) rb h S qs) := r.step hB
  have HWW : Hid (w.heap.size ≤ W.heap.size) := r.bel.size
  obtain ⟨hle, hmx⟩ := r.tlen
  have hnn : S.ts.length ≤ 40 := r.ok.nt
  clear r
  obtain ⟨wb, wo, wl, ta, tc, ra, rc⟩ := h
  simp only at hle hmx
  have HL0 : Hid ((S.ts.length = 40) ∨ ¬ (S.ts.length = 40)) := Classical.em _
  generalize en : S.ts.length = n at *
  have HN : Hid (S.ts.length = n) := en
  clear en
  go_enter Tryz.func117, Tryz.ntmps117
  go_upto_region 1 with fail
  generalize (W.alloc (.cells #[.int .i64 xk, .string xt, .int .i64 xa] 109)).alloc (.cells #[.int .i64 0, .int .i64 0] 85) = W1 at hB hb0 hb1 HR ⊢
  obtain ⟨nb, hnb⟩ : ∃ nb, nb = W.heap.size := ⟨_, rfl⟩
  rw [← hnb] at hb0 hb1 ⊢
  have HNB : Hid (nb = W.heap.size ∧ rb < nb) := ⟨hnb, by rw [hnb]; exact hrb⟩
  have HB1 : Hid (Below W.heap.size W W1) := hB
  have HBX : Hid (W1.heap[nb]? = some (.cells #[.int .i64 xk, .string xt, .int .i64 xa] 109 (0, 0)) ∧ W1.heap[nb + 1]? = some (.cells #[.int .i64 0, .int .i64 0] 85 (0, 0))) := ⟨hb0, hb1⟩
  clear hb0 hb1 hrb hnb hB
  have HC : Hid (Calls Tryz.prog 129 #[.slice ta n tc, .func (.func 130) #[] #[.pointer (some ⟨nb, 0, none⟩)]] W1 fun e w' => e = .returned (.int .i64 (idxI (findN S.ts xt))) ∧ Below W1.heap.size W1 w') := by
    have := tknIndex_calls w W1 rb ⟨wb, wo, wl, ta, tc, ra, rc⟩ S qs HR.out nb xt (by rw [cell_block HBX.out.1]; rfl)
    simp only [HN.out] at this
    exact this
  have b1 : W1.cell? ⟨rb, 1, none⟩ = some (.slice ta n tc) := by
    rw [cell_block HR.out.box]
    unfold rdC
    simp only [HN.out]
    rfl
  go_wp2_with fail
  refine HC.out.mono ?_
  rintro e W2 ⟨rfl, hB⟩
  have HB2 : Hid (Below W1.heap.size W1 W2) := hB
  clear hB b1 HC
  have b1 : W2.cell? ⟨rb, 1, none⟩ = some (.slice ta n tc) := by
    rw [cell_block (block_below HB2.out HR.out.box)]
    unfold rdC
    simp only [HN.out]
    rfl
  have t2 := block_below HB2.out HBX.out.2
  have q3 : W2.cell? ⟨nb + 1, 0, none⟩ = some (.int .i64 0) := by rw [cell_block t2]; rfl
  have q4 : W2.cell? ⟨nb + 1, 1, none⟩ = some (.int .i64 0) := by rw [cell_block t2]; rfl
  have z3 : W2.frozen? ⟨nb + 1, 0, none⟩ = false := frozen_block t2 0
  have z4 : W2.frozen? ⟨nb + 1, 1, none⟩ = false := frozen_block t2 1
  have HL2 : Hid (Loc W2 (nb + 1) 85) := ⟨_, t2⟩
  clear t2
  cases hf : findN S.ts xt with
  | some i =>
    obtain ⟨t, ht, htn⟩ := findN_lt hf
    have hi : i < n := by rw [← HN.out]; exact (List.getElem?_eq_some_iff.1 ht).1
    obtain ⟨tb, bb, hta, -⟩ := (HR.out.step HB2.out).tokAt ht
    simp only at hta
    subst hta
    have hi' : (i : Int) < (n : Int) := by omega
    have HF : Hid (tokP ⟨xk, xt, xa⟩ S = .ok (i, S)) := by
      show _ = _
      unfold tokP
      simp only [hf]
    clear hf ht htn
    unfold idxI
    simp only
    go_wp2_with fail
    refine bodyPost_ret (v := .tuple #[.pointer (some ⟨tb, i * 4, none⟩), .agg #[.int .i64 0, .int .i64 0]]) (by simp [results, Tryz.results117, go_sem, *]) rfl ?_
    rw [HF.out]
    have hn : W.heap.size ≤ nb := Nat.le_of_eq HNB.out.1.symm
    have hk : Keep W W2 := keep_of_below (below_step HB1.out HB2.out)
    refine ⟨⟨wb, wo, wl, some ⟨tb, 0, none⟩, tc, ra, rc⟩, tb, rfl, rfl, ?_, (hk.far (by omega) _ _).far (by omega) _ _⟩
    exact ((HR.out.step HB2.out).far HL2.out (by decide) (by have := HWW.out; omega)).far (HL2.out.set _ _ _) (by decide) (by have := HWW.out; omega)
  | none =>
    unfold idxI
    simp only
    by_cases h40 : n = 40
    · have hq : ((n : Int) == 40) = true := by simp [h40]
      have HF : Hid (tokP ⟨xk, xt, xa⟩ S = .error (formF ⟨xk, xt, xa⟩)) := by
        show _ = _
        unfold tokP
        simp only [hf, HN.out, h40, if_true]
      have t1 := block_below HB2.out HBX.out.1
      have p0 : W2.cell? ⟨nb, 0, none⟩ = some (.int .i64 xk) := by rw [cell_block t1]; rfl
      have p1 : W2.cell? ⟨nb, 1, none⟩ = some (.string xt) := by rw [cell_block t1]; rfl
      have p2 : W2.cell? ⟨nb, 2, none⟩ = some (.int .i64 xa) := by rw [cell_block t1]; rfl
      clear hf t1 q3 q4 z3 z4 h40
      go_wp2_with fail
      refine (form_calls ⟨xk, xt, xa⟩ _).mono ?_
      rintro e W3 ⟨rfl, hB⟩
      have HB3 : Hid (Below W1.heap.size W1 W3) := below_step HB2.out hB
      clear hB b1 p0 p1 p2
      unfold fv formF
      simp only
      have t2 := block_below HB3.out HBX.out.2
      have q3 : W3.cell? ⟨nb + 1, 0, none⟩ = some (.int .i64 0) := by rw [cell_block t2]; rfl
      have q4 : W3.cell? ⟨nb + 1, 1, none⟩ = some (.int .i64 0) := by rw [cell_block t2]; rfl
      have z3 : W3.frozen? ⟨nb + 1, 0, none⟩ = false := frozen_block t2 0
      have z4 : W3.frozen? ⟨nb + 1, 1, none⟩ = false := frozen_block t2 1
      have HL3 : Hid (Loc W3 (nb + 1) 85) := ⟨_, t2⟩
      clear t2
      go_wp2_with fail
      refine bodyPost_ret (v := .tuple #[.pointer none, .agg #[.int .i64 1, .int .i64 xa]]) (by simp [results, Tryz.results117, go_sem, *]) rfl ?_
      rw [HF.out]
      have hn : W.heap.size ≤ nb := Nat.le_of_eq HNB.out.1.symm
      have hk : Keep W W3 := keep_of_below (below_step HB1.out HB3.out)
      refine ⟨rfl, ⟨⟨wb, wo, wl, ta, tc, ra, rc⟩, S, ?_⟩, (hk.far (by omega) _ _).far (by omega) _ _⟩
      exact ((HR.out.step HB3.out).far HL3.out (by decide) (by have := HWW.out; omega)).far (HL3.out.set _ _ _) (by decide) (by have := HWW.out; omega)
    · have hq : ((n : Int) == 40) = false := by simp; omega
      have h41 : S.ts.length < 40 := by rw [HN.out]; omega
      have HF : Hid (tokP ⟨xk, xt, xa⟩ S = .ok (n, ⟨S.ws, S.ts ++ [⟨xt, 0, 0⟩], S.ls ++ [false], S.lv, S.st, S.ed, S.ex, S.rs⟩)) := by
        show _ = _
        unfold tokP
        simp only [hf, HN.out]
        rw [if_neg h40]
      have p1 : W2.cell? ⟨nb, 1, none⟩ = some (.string xt) := by rw [cell_block (block_below HB2.out HBX.out.1)]; rfl
      obtain ⟨tb, m, c, W3, hrun, hm, hbox, hrd, hkp⟩ := ((HR.out.step HB2.out).step (below_drew' W2)).addTok xt h41
      simp only [HN.out] at hrun hm
      have hrun2 : (Builtin.append_ #[97, 97] 97 #[.slice ta n tc, .slice (some ⟨W2.heap.size, 0, none⟩) 1 1]).run Tryz.prog (W2.alloc (.cells #[.string xt, .int .i64 0, .int .i64 0, .bool false] 113)).drew = .ok (.slice (some ⟨tb, 0, none⟩) m c) W3 := hrun
      have d1 : W3.cell? ⟨rb, 1, none⟩ = some (.slice ta n tc) := by
        rw [cell_block hbox]
        unfold rdC
        simp only [HN.out]
        rfl
      have f1 : W3.frozen? ⟨rb, 1, none⟩ = false := frozen_block hbox 1
      have HD : Hid (RD w (W3.setCell ⟨rb, 1, none⟩ (.slice (some ⟨tb, 0, none⟩) m c)) rb ⟨wb, wo, wl, some ⟨tb, 0, none⟩, c, ra, rc⟩ ⟨S.ws, S.ts ++ [⟨xt, 0, 0⟩], S.ls ++ [false], S.lv, S.st, S.ed, S.ex, S.rs⟩ qs ∧ Keep W2 (W3.setCell ⟨rb, 1, none⟩ (.slice (some ⟨tb, 0, none⟩) m c))) := ⟨hrd, hkp.size, hkp.loc⟩
      subst hm
      have p1' := cell_alloc p1 (.cells #[.string xt, .int .i64 0, .int .i64 0, .bool false] 113)
      have b1' := cell_alloc b1 (.cells #[.string xt, .int .i64 0, .int .i64 0, .bool false] 113)
      clear hrun hrd hkp hbox q3 q4 z3 z4 hf h40
      go_upto_region 6 with fail
      go_cut [40] (fun s40 wd => Hid (RD w wd rb ⟨wb, wo, wl, some ⟨tb, 0, none⟩, c, ra, rc⟩ ⟨S.ws, S.ts ++ [⟨xt, 0, 0⟩], S.ls ++ [false], S.lv, S.st, S.ed, S.ex, S.rs⟩ qs ∧ Keep W2 wd))
      case first =>
        go_region_law (refine step_append_told rfl (.tmp 34) (.tmp 39) rfl rfl (by simp [Act.eval]) (by simp [Act.eval]) hrun2 ?_)
        all_goals (go_wp2_with fail; go_meet; exact HD)
      case rest =>
        obtain ⟨W4, hW4⟩ : ∃ W4, W4 = wc := ⟨_, rfl⟩
        subst wc
        have HD4 : Hid (RD w W4 rb ⟨wb, wo, wl, some ⟨tb, 0, none⟩, c, ra, rc⟩ ⟨S.ws, S.ts ++ [⟨xt, 0, 0⟩], S.ls ++ [false], S.lv, S.st, S.ed, S.ex, S.rs⟩ qs ∧ Keep W2 W4) := hcut
        clear hcut HD d1 f1 b1 b1' p1 p1' hrun2
        have t2 := HD4.out.2.loc _ _ _ (block_below HB2.out HBX.out.2) (by decide) (by decide) (by decide) (by decide)
        have q3 : W4.cell? ⟨nb + 1, 0, none⟩ = some (.int .i64 0) := by rw [cell_block t2]; rfl
        have q4 : W4.cell? ⟨nb + 1, 1, none⟩ = some (.int .i64 0) := by rw [cell_block t2]; rfl
        have z3 : W4.frozen? ⟨nb + 1, 0, none⟩ = false := frozen_block t2 0
        have z4 : W4.frozen? ⟨nb + 1, 1, none⟩ = false := frozen_block t2 1
        have HL4 : Hid (Loc W4 (nb + 1) 85) := ⟨_, t2⟩
        have b1 : W4.cell? ⟨rb, 1, none⟩ = some (.slice (some ⟨tb, 0, none⟩) (n + 1) c) := by
          rw [cell_block HD4.out.1.box]
          unfold rdC
          simp only [List.length_append, List.length_cons, List.length_nil, HN.out]
          rfl
        obtain ⟨hl2, hm2⟩ := HD4.out.1.tlen
        simp only [List.length_append, List.length_cons, List.length_nil, HN.out] at hl2 hm2
        have hw2 : (n : Int) < (n : Int) + 1 := by omega
        clear t2
        go_upto_region 7 with fail
        go_region
        all_goals
          go_wp2_with fail
          refine bodyPost_ret (v := .tuple #[.pointer (some ⟨tb, n * 4, none⟩), .agg #[.int .i64 0, .int .i64 0]]) (by simp [results, Tryz.results117, go_sem, *]) rfl ?_
          rw [HF.out]
          have hn : W.heap.size ≤ nb := Nat.le_of_eq HNB.out.1.symm
          have hk : Keep W W4 := (keep_of_below (below_step HB1.out HB2.out)).trans HD4.out.2
          have hk2 := (hk.far (b := nb + 1) (by omega) 0 (.int .i64 0)).far (b := nb + 1) (by omega) 1 (.int .i64 0)
          have hr2 := ((HD4.out.1.far (j := 0) (u := .int .i64 0) HL4.out (by decide) (by have := HWW.out; omega)).far (j := 1) (u := .int .i64 0) (HL4.out.set _ _ _) (by decide) (by have := HWW.out; omega)).step (below_drew' _)
          exact ⟨⟨wb, wo, wl, some ⟨tb, 0, none⟩, c, ra, rc⟩, tb, rfl, rfl, hr2, hk2.size, hk2.loc⟩

end Go.Proofs.YtebehlmidoencaaGreatDoor

/-
  The walk of read's list: a token is said in a %token.
-/
namespace Go.Proofs.YtebehlmidoencaaGreatDoor
open Go.RowKit

set_option maxRecDepth 20000

theorem set_self {α : Type} : ∀ {l : List α} {i : Nat} {x : α}, l[i]? = some x → l.set i x = l
  | [], _, _, h => by cases h
  | y :: r, 0, x, h => by cases h; rfl
  | y :: r, i + 1, x, h => by
    rw [List.set_cons_succ, set_self (l := r) (by simpa using h)]

theorem zip_set {α β : Type} : ∀ {l : List α} {m : List β} {i : Nat} {x : α} {y : β}, (l.set i x).zip (m.set i y) = (l.zip m).set i (x, y)
  | [], m, i, x, y => by simp
  | a :: l, [], i, x, y => by simp
  | a :: l, b :: m, 0, x, y => rfl
  | a :: l, b :: m, i + 1, x, y => by
    simp only [List.set_cons_succ, List.zip_cons_cons]
    rw [zip_set]

/-- A token's cell is stored into. -/
theorem RD.setTok {w W : World} {rb tb : Nat} {h : RHd} {S : St} {qs : List (Ru × Option Addr × Nat)} (r : RD w W rb h S qs) (hta : h.ta = some ⟨tb, 0, none⟩) {i j : Nat} {t t' : Tk} {b b' : Bool} (ht : S.ts[i]? = some t) (hb : S.ls[i]? = some b) (hj : j < 4) (u : Value)
    (hc : ([.string t.n, .int .i64 t.l, .int .i64 t.a, .bool b] : List Value).set j u = [.string t'.n, .int .i64 t'.l, .int .i64 t'.a, .bool b']) :
    RD w (W.setCell ⟨tb, i * 4 + j, none⟩ u) rb h ⟨S.ws, S.ts.set i t', S.ls.set i b', S.lv, S.st, S.ed, S.ex, S.rs⟩ qs ∧ Keep W (W.setCell ⟨tb, i * 4 + j, none⟩ u) := by
  have ho := r.tok
  rw [hta] at ho
  have hl : Loc W tb 113 := own_loc ho rfl
  have far : ∀ {E k n : Nat} {v : Value} {cs : List Value}, W.ownsRow w.heap.size E k v n cs → E ≠ 113 → (W.setCell ⟨tb, i * 4 + j, none⟩ u).ownsRow w.heap.size E k v n cs := by
    intro E k n v cs ho hE
    exact ownsRow_of_block ho (fun i hi => Below.heap_setCell _ _ _ _ (loc_ne (own_loc ho hi) hl hE))
  have hz : (S.ts.zip S.ls)[i]? = some (t, b) := by rw [List.getElem?_zip_eq_some]; exact ⟨ht, hb⟩
  refine ⟨⟨?_, r.wds, ?_, far r.rul (by decide), r.map, fun q hq => far (r.row q hq) (by decide), ?_, r.new, ?_⟩, (Keep.refl W).set hl (.inr (.inl rfl)) _ _⟩
  · rw [Below.heap_setCell _ _ _ _ (loc_ne ⟨_, r.box⟩ hl (by decide)), r.box]
    unfold rdC
    simp only [List.length_set]
  · have h1 := own_set (u := u) (j := i * 4 + j) ho
    have h2 : (rtC (S.ts.zip S.ls)).set (i * 4 + j) u = rtC ((S.ts.set i t').zip (S.ls.set i b')) := by
      rw [zip_set]
      exact four_set _ (fun _ => rfl) (t', b') j u (S.ts.zip S.ls) i (t, b) hz hj hc
    rw [h2] at h1
    simp only [List.length_set]
    rw [hta]
    exact h1
  · exact r.bel.setCell (p := ⟨tb, i * 4 + j, none⟩) (World.ownsRow.lt ho tb rfl).1 _
  · exact ⟨r.ok.ends, by simp only [List.length_set]; exact r.ok.nt, by simp only [List.length_set]; exact r.ok.nl, r.ok.lv, r.ok.nr⟩

/-- What a call that may end in a fault answers and leaves. -/
def fltOf (R : Except Flt St) : Flt := match R with | .ok _ => (0, 0) | .error f => f
def Did (w W : World) (rb : Nat) (qs : List (Ru × Option Addr × Nat)) (R : Except Flt St) (e : Ending) (W' : World) : Prop :=
  ∃ h' S', e = .returned (fv (fltOf R)) ∧ RD w W' rb h' S' qs ∧ Keep W W' ∧ ∀ S1, R = .ok S1 → S' = S1

/-- The end: the fault is laid into the result's box. -/
theorem did_fin {w W W' : World} {rb b : Nat} {h' : RHd} {S' : St} {qs : List (Ru × Option Addr × Nat)} {R : Except Flt St} {f1 f2 : Int} (r : RD w W' rb h' S' qs) (k : Keep W W') (hl : Loc W' b 85) (hb : W.heap.size ≤ b) (hw : w.heap.size ≤ W.heap.size) (hf : fltOf R = (f1, f2)) (hs : ∀ S1, R = .ok S1 → S' = S1) :
    Did w W rb qs R (.returned (.agg #[.int .i64 f1, .int .i64 f2])) ((W'.setCell ⟨b, 0, none⟩ (.int .i64 f1)).setCell ⟨b, 1, none⟩ (.int .i64 f2)) := by
  refine ⟨h', S', by rw [hf]; rfl, ?_, (k.far hb _ _).far hb _ _, hs⟩
  exact (r.far hl (by decide) (by omega)).far (hl.set _ _ _) (by decide) (by omega)

theorem box46 {W : World} {b : Nat} {a c : Value} (h : W.heap[b]? = some (.cells #[a, c] 85 (0, 0))) : W.cell? ⟨b, 0, none⟩ = some a ∧ W.cell? ⟨b, 1, none⟩ = some c ∧ W.frozen? ⟨b, 0, none⟩ = false ∧ W.frozen? ⟨b, 1, none⟩ = false :=
  ⟨by rw [cell_block h]; rfl, by rw [cell_block h]; rfl, frozen_block h 0, frozen_block h 1⟩

theorem box35 {W : World} {b : Nat} {a c d : Value} (h : W.heap[b]? = some (.cells #[a, c, d] 109 (0, 0))) : W.cell? ⟨b, 0, none⟩ = some a ∧ W.cell? ⟨b, 1, none⟩ = some c ∧ W.cell? ⟨b, 2, none⟩ = some d :=
  ⟨by rw [cell_block h]; rfl, by rw [cell_block h]; rfl, by rw [cell_block h]; rfl⟩

set_option maxHeartbeats 8000000 in
theorem rdList_calls (x : Wd) (w W : World) (rb : Nat) (h : RHd) (S : St) (qs : List (Ru × Option Addr × Nat)) (r : RD w W rb h S qs) :
    Calls Tryz.prog 99 #[.pointer (some ⟨rb, 0, none⟩), wv x] W fun e W' => Did w W rb qs (listP x S) e W' := by
  obtain ⟨xk, xt, xa⟩ := x
  have hB : Below W.heap.size W ((W.alloc (.cells #[.int .i64 xk, .string xt, .int .i64 xa] 109)).alloc (.cells #[.int .i64 0, .int .i64 0] 85)) := below_step (below_alloc _ _) (below_alloc _ _)
  have hb0 : ((W.alloc (.cells #[.int .i64 xk, .string xt, .int .i64 xa] 109)).alloc (.cells #[.int .i64 0, .int .i64 0] 85)).heap[W.heap.size]? = some (.cells #[.int .i64 xk, .string xt, .int .i64 xa] 109 (0, 0)) := block_below (below_alloc _ _) (heap_alloc_new _ _)
  have hb1 : ((W.alloc (.cells #[.int .i64 xk, .string xt, .int .i64 xa] 109)).alloc (.cells #[.int .i64 0, .int .i64 0] 85)).heap[W.heap.size + 1]? = some (.cells #[.int .i64 0, .int .i64 0] 85 (0, 0)) := by
    have := heap_alloc_new (W.alloc (.cells #[.int .i64 xk, .string xt, .int .i64 xa] 109)) (.cells #[.int .i64 0, .int .i64 0] 85)
    rwa [size_alloc1] at this
  have HR : Hid (RD w ((W.alloc (.cells #[.int .i64 xk, .string xt, .int .i64 xa] 109)).alloc (.cells #[.int .i64 0, .int .i64 0] 85)) rb h S qs) := r.step hB
  have HWW : Hid (w.heap.size ≤ W.heap.size) := r.bel.size
  have HOK : Hid (StOk S) := r.ok
  clear r
  unfold wv
  simp only
  go_enter Tryz.func99, Tryz.ntmps99
  go_upto_region 1 with fail
  generalize (W.alloc (.cells #[.int .i64 xk, .string xt, .int .i64 xa] 109)).alloc (.cells #[.int .i64 0, .int .i64 0] 85) = W1 at hB hb0 hb1 HR ⊢
  obtain ⟨nb, hnb⟩ : ∃ nb, nb = W.heap.size := ⟨_, rfl⟩
  rw [← hnb] at hb0 hb1 ⊢
  have HNB : Hid (W.heap.size ≤ nb) := Nat.le_of_eq hnb.symm
  have HB1 : Hid (Below W.heap.size W W1) := hB
  have HBX : Hid (W1.heap[nb]? = some (.cells #[.int .i64 xk, .string xt, .int .i64 xa] 109 (0, 0)) ∧ W1.heap[nb + 1]? = some (.cells #[.int .i64 0, .int .i64 0] 85 (0, 0))) := ⟨hb0, hb1⟩
  have p0 : W1.cell? ⟨nb, 0, none⟩ = some (.int .i64 xk) := by rw [cell_block hb0]; rfl
  have p1 : W1.cell? ⟨nb, 1, none⟩ = some (.string xt) := by rw [cell_block hb0]; rfl
  have p2 : W1.cell? ⟨nb, 2, none⟩ = some (.int .i64 xa) := by rw [cell_block hb0]; rfl
  clear hb0 hb1 hnb hB
  have HC : Hid (Calls Tryz.prog 117 #[.pointer (some ⟨rb, 0, none⟩), .agg #[.int .i64 xk, .string xt, .int .i64 xa]] W1 fun e W' => TokA w W1 rb qs (tokP ⟨xk, xt, xa⟩ S) e W') := rdToken_calls ⟨xk, xt, xa⟩ w W1 rb h S qs HR.out
  go_wp2_with fail
  refine HC.out.mono ?_
  intro e W2 hA
  clear HC p0 p1 p2
  cases hR : tokP ⟨xk, xt, xa⟩ S with
  | error f =>
    rw [hR] at hA
    obtain ⟨rfl, ⟨h', S', hrd⟩, hkp⟩ := hA
    obtain ⟨f1, f2⟩ := f
    have HF : Hid (listP ⟨xk, xt, xa⟩ S = .error (f1, f2)) := by
      show _ = _
      unfold listP
      rw [hR]
    have hf1 : (f1 == 0) = false := by
      unfold tokP at hR
      split at hR
      · cases hR
      · split at hR
        · cases hR
          rfl
        · cases hR
    have hf1' : (f1 != 0) = true := by simpa using hf1
    have HD : Hid (RD w W2 rb h' S' qs ∧ Keep W1 W2) := ⟨hrd, hkp⟩
    have t2 := hkp.loc _ _ _ HBX.out.2 (by decide) (by decide) (by decide) (by decide)
    have t3 := block_below (below_alloc W2 (.cells #[.int .i64 f1, .int .i64 f2] 85)) t2
    obtain ⟨q3, q4, z3, z4⟩ := box46 t3
    have HL : Hid (Loc (W2.alloc (.cells #[.int .i64 f1, .int .i64 f2] 85)) (nb + 1) 85) := ⟨_, t3⟩
    clear hrd hkp t2 t3 hf1 hR
    unfold fv
    simp only
    go_wp2_with fail
    refine bodyPost_ret (v := .agg #[.int .i64 f1, .int .i64 f2]) (by simp [results, Tryz.results99, go_sem, *]) rfl ?_
    exact did_fin (HD.out.1.step (below_alloc _ _)) (((keep_of_below HB1.out).trans HD.out.2).trans (keep_of_below (below_alloc _ _))) HL.out (Nat.le_succ_of_le HNB.out) HWW.out (by rw [HF.out]; rfl) (fun S1 h => by rw [HF.out] at h; cases h)
  | ok p =>
    obtain ⟨i, S1⟩ := p
    rw [hR] at hA
    obtain ⟨h', tb, rfl, hta, hrd, hkp⟩ := hA
    obtain ⟨-, hi, -, -⟩ := tokP_ok HOK.out hR
    obtain ⟨t, ht⟩ : ∃ t, S1.ts[i]? = some t := ⟨S1.ts[i], List.getElem?_eq_getElem hi⟩
    obtain ⟨tb', b, hta', hlb, -, -, -, c3, fz⟩ := hrd.tokAt ht
    rw [hta] at hta'
    cases hta'
    have HD : Hid (RD w W2 rb h' S1 qs ∧ Keep W1 W2 ∧ h'.ta = some ⟨tb, 0, none⟩ ∧ S1.ts[i]? = some t ∧ S1.ls[i]? = some b) := ⟨hrd, hkp, hta, ht, hlb⟩
    have t1 := hkp.loc _ _ _ HBX.out.1 (by decide) (by decide) (by decide) (by decide)
    have t2 := hkp.loc _ _ _ HBX.out.2 (by decide) (by decide) (by decide) (by decide)
    have HT : Hid (W2.heap[nb]? = some (.cells #[.int .i64 xk, .string xt, .int .i64 xa] 109 (0, 0)) ∧ W2.heap[nb + 1]? = some (.cells #[.int .i64 0, .int .i64 0] 85 (0, 0))) := ⟨t1, t2⟩
    have c3' := cell_alloc c3 (.cells #[.int .i64 0, .int .i64 0] 85)
    have z5 : (W2.alloc (.cells #[.int .i64 0, .int .i64 0] 85)).frozen? ⟨tb, i * 4 + 3, none⟩ = false := by
      obtain ⟨c, hc⟩ : Loc W2 tb 113 := own_loc (by have := hrd.tok; rw [hta] at this; exact this) rfl
      exact frozen_block (block_below (below_alloc _ _) hc) _
    have HLR : Hid (listP ⟨xk, xt, xa⟩ S = if b = true then .error (againF ⟨xk, xt, xa⟩) else .ok ⟨S1.ws, S1.ts, S1.ls.set i true, S1.lv, S1.st, S1.ed, S1.ex, S1.rs⟩) := by
      show _ = _
      unfold listP
      rw [hR]
      simp only [hlb, Option.getD_some]
    clear hrd hkp hta ht hlb hi hR fz t1 t2 c3
    unfold fv
    simp only
    cases b
    · have HF : Hid (listP ⟨xk, xt, xa⟩ S = .ok ⟨S1.ws, S1.ts, S1.ls.set i true, S1.lv, S1.st, S1.ed, S1.ex, S1.rs⟩) := by
        show _ = _
        have := HLR.out
        simpa using this
      clear HLR
      have hst := (HD.out.1.step (below_alloc W2 (.cells #[.int .i64 0, .int .i64 0] 85))).setTok (t' := t) (b' := true) (j := 3) HD.out.2.2.1 HD.out.2.2.2.1 HD.out.2.2.2.2 (by omega) (.bool true) rfl
      rw [set_self HD.out.2.2.2.1] at hst
      have t3 := block_below (below_alloc W2 (.cells #[.int .i64 0, .int .i64 0] 85)) HT.out.2
      have t4 := hst.2.loc _ _ _ t3 (by decide) (by decide) (by decide) (by decide)
      obtain ⟨q3, q4, z3, z4⟩ := box46 t4
      have HS : Hid (RD w ((W2.alloc (.cells #[.int .i64 0, .int .i64 0] 85)).setCell ⟨tb, i * 4 + 3, none⟩ (.bool true)) rb h' ⟨S1.ws, S1.ts, S1.ls.set i true, S1.lv, S1.st, S1.ed, S1.ex, S1.rs⟩ qs ∧ Keep (W2.alloc (.cells #[.int .i64 0, .int .i64 0] 85)) ((W2.alloc (.cells #[.int .i64 0, .int .i64 0] 85)).setCell ⟨tb, i * 4 + 3, none⟩ (.bool true)) ∧ Loc ((W2.alloc (.cells #[.int .i64 0, .int .i64 0] 85)).setCell ⟨tb, i * 4 + 3, none⟩ (.bool true)) (nb + 1) 85) := ⟨hst.1, hst.2, ⟨_, t4⟩⟩
      clear hst t3 t4
      go_wp2_with fail
      refine bodyPost_ret (v := .agg #[.int .i64 0, .int .i64 0]) (by simp [results, Tryz.results99, go_sem, *]) rfl ?_
      exact did_fin HS.out.1 ((((keep_of_below HB1.out).trans HD.out.2.1).trans (keep_of_below (below_alloc _ _))).trans HS.out.2.1) HS.out.2.2 (Nat.le_succ_of_le HNB.out) HWW.out (by rw [HF.out]; rfl) (fun S1 h => by rw [HF.out] at h; cases h; rfl)
    · have HF : Hid (listP ⟨xk, xt, xa⟩ S = .error (againF ⟨xk, xt, xa⟩)) := by
        show _ = _
        have := HLR.out
        simpa using this
      clear HLR
      obtain ⟨p0, p1, p2⟩ := box35 (block_below (below_alloc W2 (.cells #[.int .i64 0, .int .i64 0] 85)) HT.out.1)
      go_wp2_with fail
      refine (again_calls ⟨xk, xt, xa⟩ _).mono ?_
      rintro e W3 ⟨rfl, hB⟩
      have HB3 : Hid (Below W2.heap.size W2 W3) := below_step (below_alloc _ _) hB
      clear hB p0 p1 p2 c3' z5
      obtain ⟨q3, q4, z3, z4⟩ := box46 (block_below HB3.out HT.out.2)
      unfold fv againF
      simp only
      go_wp2_with fail
      refine bodyPost_ret (v := .agg #[.int .i64 7, .int .i64 xa]) (by simp [results, Tryz.results99, go_sem, *]) rfl ?_
      exact did_fin (HD.out.1.step HB3.out) (((keep_of_below HB1.out).trans HD.out.2.1).trans (keep_of_below HB3.out)) ⟨_, block_below HB3.out HT.out.2⟩ (Nat.le_succ_of_le HNB.out) HWW.out (by rw [HF.out]; rfl) (fun S1 h => by rw [HF.out] at h; cases h)

end Go.Proofs.YtebehlmidoencaaGreatDoor

/-
  The walk of the function within read's level: a token is said in a level.
-/
namespace Go.Proofs.YtebehlmidoencaaGreatDoor
open Go.RowKit

set_option maxRecDepth 20000

theorem Did.step {w W W' W'' : World} {rb : Nat} {qs : List (Ru × Option Addr × Nat)} {R : Except Flt St} {e : Ending} (d : Did w W rb qs R e W') (hb : Below W'.heap.size W' W'') : Did w W rb qs R e W'' := by
  obtain ⟨h', S', h1, h2, h3, h4⟩ := d
  exact ⟨h', S', h1, h2.step hb, h3.trans (keep_of_below hb), h4⟩

set_option maxHeartbeats 8000000 in
theorem rdLev1_calls (a : Int) (cr ca : Nat) (x : Wd) (w W : World) (rb : Nat) (h : RHd) (S : St) (qs : List (Ru × Option Addr × Nat)) (r : RD w W rb h S qs) (hcr : W.heap[cr]? = some (.cells #[.pointer (some ⟨rb, 0, none⟩)] 110 (0, 0))) (hca : W.heap[ca]? = some (.cells #[.int .i64 a] 3 (0, 0))) :
    Calls Tryz.prog 119 #[wv x, .pointer (some ⟨cr, 0, none⟩), .pointer (some ⟨ca, 0, none⟩)] W fun e W' => Did w W rb qs (levP (S.lv : Int) a x S) e W' := by
  obtain ⟨xk, xt, xa⟩ := x
  have hB : Below W.heap.size W ((W.alloc (.cells #[.int .i64 xk, .string xt, .int .i64 xa] 109)).alloc (.cells #[.int .i64 0, .int .i64 0] 85)) := below_step (below_alloc _ _) (below_alloc _ _)
  have hb0 : ((W.alloc (.cells #[.int .i64 xk, .string xt, .int .i64 xa] 109)).alloc (.cells #[.int .i64 0, .int .i64 0] 85)).heap[W.heap.size]? = some (.cells #[.int .i64 xk, .string xt, .int .i64 xa] 109 (0, 0)) := block_below (below_alloc _ _) (heap_alloc_new _ _)
  have hb1 : ((W.alloc (.cells #[.int .i64 xk, .string xt, .int .i64 xa] 109)).alloc (.cells #[.int .i64 0, .int .i64 0] 85)).heap[W.heap.size + 1]? = some (.cells #[.int .i64 0, .int .i64 0] 85 (0, 0)) := by
    have := heap_alloc_new (W.alloc (.cells #[.int .i64 xk, .string xt, .int .i64 xa] 109)) (.cells #[.int .i64 0, .int .i64 0] 85)
    rwa [size_alloc1] at this
  have HR : Hid (RD w ((W.alloc (.cells #[.int .i64 xk, .string xt, .int .i64 xa] 109)).alloc (.cells #[.int .i64 0, .int .i64 0] 85)) rb h S qs) := r.step hB
  have HWW : Hid (w.heap.size ≤ W.heap.size) := r.bel.size
  have HOK : Hid (StOk S) := r.ok
  have HCP : Hid (∀ V : World, Keep W V → V.heap[cr]? = some (.cells #[.pointer (some ⟨rb, 0, none⟩)] 110 (0, 0)) ∧ V.heap[ca]? = some (.cells #[.int .i64 a] 3 (0, 0))) := fun V hV => ⟨hV.loc _ _ _ hcr (by decide) (by decide) (by decide) (by decide), hV.loc _ _ _ hca (by decide) (by decide) (by decide) (by decide)⟩
  clear hcr hca
  clear r
  unfold wv
  simp only
  go_enter Tryz.func119, Tryz.ntmps119
  go_upto_region 1 with fail
  generalize (W.alloc (.cells #[.int .i64 xk, .string xt, .int .i64 xa] 109)).alloc (.cells #[.int .i64 0, .int .i64 0] 85) = W1 at hB hb0 hb1 HR ⊢
  obtain ⟨nb, hnb⟩ : ∃ nb, nb = W.heap.size := ⟨_, rfl⟩
  rw [← hnb] at hb0 hb1 ⊢
  have HNB : Hid (W.heap.size ≤ nb) := Nat.le_of_eq hnb.symm
  have HB1 : Hid (Below W.heap.size W W1) := hB
  have HBX : Hid (W1.heap[nb]? = some (.cells #[.int .i64 xk, .string xt, .int .i64 xa] 109 (0, 0)) ∧ W1.heap[nb + 1]? = some (.cells #[.int .i64 0, .int .i64 0] 85 (0, 0))) := ⟨hb0, hb1⟩
  have p0 : W1.cell? ⟨nb, 0, none⟩ = some (.int .i64 xk) := by rw [cell_block hb0]; rfl
  have p1 : W1.cell? ⟨nb, 1, none⟩ = some (.string xt) := by rw [cell_block hb0]; rfl
  have p2 : W1.cell? ⟨nb, 2, none⟩ = some (.int .i64 xa) := by rw [cell_block hb0]; rfl
  clear hb0 hb1 hnb hB
  have s0 : W1.cell? ⟨cr, 0, none⟩ = some (.pointer (some ⟨rb, 0, none⟩)) := by rw [cell_block (HCP.out _ (keep_of_below HB1.out)).1]; rfl
  have HC : Hid (Calls Tryz.prog 117 #[.pointer (some ⟨rb, 0, none⟩), .agg #[.int .i64 xk, .string xt, .int .i64 xa]] W1 fun e W' => TokA w W1 rb qs (tokP ⟨xk, xt, xa⟩ S) e W') := rdToken_calls ⟨xk, xt, xa⟩ w W1 rb h S qs HR.out
  go_wp2_with fail
  refine HC.out.mono ?_
  intro e W2 hA
  clear HC p0 p1 p2 s0
  cases hR : tokP ⟨xk, xt, xa⟩ S with
  | error f =>
    rw [hR] at hA
    obtain ⟨rfl, ⟨h', S', hrd⟩, hkp⟩ := hA
    obtain ⟨f1, f2⟩ := f
    have HF : Hid (levP (S.lv : Int) a ⟨xk, xt, xa⟩ S = .error (f1, f2)) := by
      show _ = _
      unfold levP
      rw [hR]
    have hf1 : (f1 == 0) = false := by
      unfold tokP at hR
      split at hR
      · cases hR
      · split at hR
        · cases hR
          rfl
        · cases hR
    have hf1' : (f1 != 0) = true := by simpa using hf1
    have HD : Hid (RD w W2 rb h' S' qs ∧ Keep W1 W2) := ⟨hrd, hkp⟩
    have t2 := hkp.loc _ _ _ HBX.out.2 (by decide) (by decide) (by decide) (by decide)
    have t3 := block_below (below_alloc W2 (.cells #[.int .i64 f1, .int .i64 f2] 85)) t2
    obtain ⟨q3, q4, z3, z4⟩ := box46 t3
    have HL : Hid (Loc (W2.alloc (.cells #[.int .i64 f1, .int .i64 f2] 85)) (nb + 1) 85) := ⟨_, t3⟩
    clear hrd hkp t2 t3 hf1 hR
    unfold fv
    simp only
    go_wp2_with fail
    refine bodyPost_ret (v := .agg #[.int .i64 f1, .int .i64 f2]) (by simp [results, Tryz.results119, go_sem, *]) rfl ?_
    exact did_fin (HD.out.1.step (below_alloc _ _)) (((keep_of_below HB1.out).trans HD.out.2).trans (keep_of_below (below_alloc _ _))) HL.out (Nat.le_succ_of_le HNB.out) HWW.out (by rw [HF.out]; rfl) (fun S1 h => by rw [HF.out] at h; cases h)
  | ok p =>
    obtain ⟨i, S1⟩ := p
    rw [hR] at hA
    obtain ⟨h', tb, rfl, hta, hrd, hkp⟩ := hA
    obtain ⟨-, hi, -, -⟩ := tokP_ok HOK.out hR
    obtain ⟨t, ht⟩ : ∃ t, S1.ts[i]? = some t := ⟨S1.ts[i], List.getElem?_eq_getElem hi⟩
    obtain ⟨tb', b, hta', hlb, -, c1, c2, -, -⟩ := hrd.tokAt ht
    rw [hta] at hta'
    cases hta'
    have HD : Hid (RD w W2 rb h' S1 qs ∧ Keep W1 W2 ∧ h'.ta = some ⟨tb, 0, none⟩ ∧ S1.ts[i]? = some t ∧ S1.ls[i]? = some b) := ⟨hrd, hkp, hta, ht, hlb⟩
    have hkW : Keep W W2 := (keep_of_below HB1.out).trans hkp
    have t1 := hkp.loc _ _ _ HBX.out.1 (by decide) (by decide) (by decide) (by decide)
    have t2 := hkp.loc _ _ _ HBX.out.2 (by decide) (by decide) (by decide) (by decide)
    have HT : Hid (W2.heap[nb]? = some (.cells #[.int .i64 xk, .string xt, .int .i64 xa] 109 (0, 0)) ∧ W2.heap[nb + 1]? = some (.cells #[.int .i64 0, .int .i64 0] 85 (0, 0)) ∧ Keep W W2) := ⟨t1, t2, hkW⟩
    have c1' := cell_alloc c1 (.cells #[.int .i64 0, .int .i64 0] 85)
    have c2' := cell_alloc c2 (.cells #[.int .i64 0, .int .i64 0] 85)
    have hl78 : Loc W2 tb 113 := own_loc (by have := hrd.tok; rw [hta] at this; exact this) rfl
    obtain ⟨c78, h78⟩ := hl78
    have z5 : (W2.alloc (.cells #[.int .i64 0, .int .i64 0] 85)).frozen? ⟨tb, i * 4 + 1, none⟩ = false := frozen_block (block_below (below_alloc _ _) h78) _
    have z6 : (W2.alloc (.cells #[.int .i64 0, .int .i64 0] 85)).frozen? ⟨tb, i * 4 + 2, none⟩ = false := frozen_block (block_below (below_alloc _ _) h78) _
    obtain ⟨hlv1, hlv2, hlv3, hlv4⟩ := tokP_ok HOK.out hR
    have HLV : Hid (S1.lv = S.lv) := hlv4
    have HLR : Hid (levP (S.lv : Int) a ⟨xk, xt, xa⟩ S = if t.l ≠ 0 then .error (againF ⟨xk, xt, xa⟩) else .ok ⟨S1.ws, S1.ts.set i ⟨t.n, (S.lv : Int), a⟩, S1.ls, S1.lv, S1.st, S1.ed, S1.ex, S1.rs⟩) := by
      show _ = _
      unfold levP
      rw [hR]
      have e : tkAt S1.ts i = t := by unfold tkAt; rw [ht]; rfl
      simp only [e]
    obtain ⟨tn, tl, tA⟩ := t
    simp only at c1 c2 c1' c2' HLR
    clear hrd hkp hta ht hlb hi hR t1 t2 c1 c2 hlv1 hlv2 hlv3 hlv4 hkW h78
    unfold fv
    simp only
    by_cases htl : tl = 0
    · have hq : (tl != 0) = false := by simp [htl]
      have HF : Hid (levP (S.lv : Int) a ⟨xk, xt, xa⟩ S = .ok ⟨S1.ws, S1.ts.set i ⟨tn, (S.lv : Int), a⟩, S1.ls, S1.lv, S1.st, S1.ed, S1.ex, S1.rs⟩) := by
        show _ = _
        have := HLR.out
        rw [if_neg (by simpa using htl)] at this
        exact this
      clear HLR htl
      have hst1 := (HD.out.1.step (below_alloc W2 (.cells #[.int .i64 0, .int .i64 0] 85))).setTok (t' := ⟨tn, (S.lv : Int), tA⟩) (b' := b) (j := 1) HD.out.2.2.1 HD.out.2.2.2.1 HD.out.2.2.2.2 (by omega) (.int .i64 (S.lv : Int)) rfl
      have hst2 := hst1.1.setTok (t := ⟨tn, (S.lv : Int), tA⟩) (t' := ⟨tn, (S.lv : Int), a⟩) (b := b) (b' := b) (i := i) (j := 2) HD.out.2.2.1 (by simp only; rw [List.getElem?_set_self (List.getElem?_eq_some_iff.1 HD.out.2.2.2.1).1]) (by simp only; rw [List.getElem?_set_self (List.getElem?_eq_some_iff.1 HD.out.2.2.2.2).1]) (by omega) (.int .i64 a) rfl
      simp only [List.set_set] at hst2
      rw [set_self HD.out.2.2.2.2] at hst2
      have hkA : Keep W (W2.alloc (.cells #[.int .i64 0, .int .i64 0] 85)) := HT.out.2.2.trans (keep_of_below (below_alloc _ _))
      have s0 : (W2.alloc (.cells #[.int .i64 0, .int .i64 0] 85)).cell? ⟨cr, 0, none⟩ = some (.pointer (some ⟨rb, 0, none⟩)) := by rw [cell_block (HCP.out _ hkA).1]; rfl
      have s1 : (W2.alloc (.cells #[.int .i64 0, .int .i64 0] 85)).cell? ⟨ca, 0, none⟩ = some (.int .i64 a) := by rw [cell_block (HCP.out _ hkA).2]; rfl
      have s2 : (W2.alloc (.cells #[.int .i64 0, .int .i64 0] 85)).cell? ⟨rb, 2, none⟩ = some (.int .i64 (S.lv : Int)) := by
        rw [cell_block (HD.out.1.step (below_alloc _ _)).box, ← HLV.out]; rfl
      have t3 := block_below (below_alloc W2 (.cells #[.int .i64 0, .int .i64 0] 85)) HT.out.2.1
      have t4 := hst2.2.loc _ _ _ (hst1.2.loc _ _ _ t3 (by decide) (by decide) (by decide) (by decide)) (by decide) (by decide) (by decide) (by decide)
      obtain ⟨q3, q4, z3, z4⟩ := box46 t4
      have HS : Hid (RD w (((W2.alloc (.cells #[.int .i64 0, .int .i64 0] 85)).setCell ⟨tb, i * 4 + 1, none⟩ (.int .i64 (S.lv : Int))).setCell ⟨tb, i * 4 + 2, none⟩ (.int .i64 a)) rb h' ⟨S1.ws, S1.ts.set i ⟨tn, (S.lv : Int), a⟩, S1.ls, S1.lv, S1.st, S1.ed, S1.ex, S1.rs⟩ qs ∧ Keep W (((W2.alloc (.cells #[.int .i64 0, .int .i64 0] 85)).setCell ⟨tb, i * 4 + 1, none⟩ (.int .i64 (S.lv : Int))).setCell ⟨tb, i * 4 + 2, none⟩ (.int .i64 a)) ∧ Loc (((W2.alloc (.cells #[.int .i64 0, .int .i64 0] 85)).setCell ⟨tb, i * 4 + 1, none⟩ (.int .i64 (S.lv : Int))).setCell ⟨tb, i * 4 + 2, none⟩ (.int .i64 a)) (nb + 1) 85) := ⟨hst2.1, (hkA.trans hst1.2).trans hst2.2, ⟨_, t4⟩⟩
      clear hst1 hst2 t3 t4 hkA
      go_upto_region 6 with fail
      go_region
      all_goals
        go_wp2_with fail
        refine bodyPost_ret (v := .agg #[.int .i64 0, .int .i64 0]) (by simp [results, Tryz.results119, go_sem, *]) rfl ?_
        exact (did_fin HS.out.1 HS.out.2.1 HS.out.2.2 (Nat.le_succ_of_le HNB.out) HWW.out (by rw [HF.out]; rfl) (fun S1 h => by rw [HF.out] at h; cases h; rfl)).step (below_drew' _)
    · have hq : (tl != 0) = true := by simp [htl]
      have HF : Hid (levP (S.lv : Int) a ⟨xk, xt, xa⟩ S = .error (againF ⟨xk, xt, xa⟩)) := by
        show _ = _
        have := HLR.out
        rw [if_pos htl] at this
        exact this
      clear HLR htl
      obtain ⟨p0, p1, p2⟩ := box35 (block_below (below_alloc W2 (.cells #[.int .i64 0, .int .i64 0] 85)) HT.out.1)
      go_wp2_with fail
      refine (again_calls ⟨xk, xt, xa⟩ _).mono ?_
      rintro e W3 ⟨rfl, hB⟩
      have HB3 : Hid (Below W2.heap.size W2 W3) := below_step (below_alloc _ _) hB
      clear hB p0 p1 p2 c1' c2' z5 z6
      obtain ⟨q3, q4, z3, z4⟩ := box46 (block_below HB3.out HT.out.2.1)
      unfold fv againF
      simp only
      go_wp2_with fail
      refine bodyPost_ret (v := .agg #[.int .i64 7, .int .i64 xa]) (by simp [results, Tryz.results119, go_sem, *]) rfl ?_
      exact did_fin (HD.out.1.step HB3.out) (HT.out.2.2.trans (keep_of_below HB3.out)) ⟨_, block_below HB3.out HT.out.2.1⟩ (Nat.le_succ_of_le HNB.out) HWW.out (by rw [HF.out]; rfl) (fun S1 h => by rw [HF.out] at h; cases h)

end Go.Proofs.YtebehlmidoencaaGreatDoor

/-
  The walks of read's names: one name or more, each told to list, or to level's function.
-/
namespace Go.Proofs.YtebehlmidoencaaGreatDoor
open Go.RowKit

set_option maxRecDepth 20000

theorem takeP_cases (k : Int) (S : St) : (S.hd.k = k ∧ takeP k S = .ok (S.hd, S.next) ∧ takeW k S = S.hd ∧ takeS k S = S.next ∧ takeF k S = (0, 0)) ∨ (S.hd.k ≠ k ∧ takeP k S = .error (formF S.hd) ∧ takeF k S = formF S.hd ∧ takeS k S = S) := by
  by_cases h : S.hd.k = k
  · left
    unfold takeP takeW takeS takeF
    rw [if_pos h, if_pos h, if_pos h, if_pos h]
    exact ⟨h, rfl, rfl, rfl, rfl⟩
  · right
    unfold takeP takeS takeF
    rw [if_neg h, if_neg h, if_neg h]
    exact ⟨h, rfl, rfl, rfl⟩

/-- No fault is nought. -/
theorem tokP_flt {x : Wd} {S : St} {f : Flt} (h : tokP x S = .error f) : f = formF x := by
  unfold tokP at h
  split at h
  · cases h
  · split at h
    · cases h; rfl
    · cases h
theorem listP_flt {x : Wd} {S : St} {f : Flt} (h : listP x S = .error f) : f.1 ≠ 0 := by
  unfold listP at h
  split at h
  · rename_i f' h'
    cases h
    rw [tokP_flt h']
    show (1 : Int) ≠ 0
    decide
  · split at h
    · cases h
      show (7 : Int) ≠ 0
      decide
    · cases h
theorem levP_flt {l a : Int} {x : Wd} {S : St} {f : Flt} (h : levP l a x S = .error f) : f.1 ≠ 0 := by
  unfold levP at h
  split at h
  · rename_i f' h'
    cases h
    rw [tokP_flt h']
    show (1 : Int) ≠ 0
    decide
  · split at h
    · cases h
      show (7 : Int) ≠ 0
      decide
    · cases h

set_option maxHeartbeats 8000000 in
theorem rdNamesL_calls (w W : World) (rb : Nat) (h : RHd) (S : St) (qs : List (Ru × Option Addr × Nat)) (r : RD w W rb h S qs) (f0 : Nat) (hf0 : S.ws.length ≤ f0) :
    Calls Tryz.prog 98 #[.pointer (some ⟨rb, 0, none⟩), .func (.func 99) #[.pointer (some ⟨rb, 0, none⟩)] #[]] W fun e W' => Did w W rb qs (namesP (listP) f0 S) e W' := by
  have hrb : Loc W rb 99 := ⟨_, r.box⟩
  have HR : Hid (RD w (W.alloc (.cells #[.int .i64 0, .int .i64 0] 85)) rb h S qs) := r.step (below_alloc _ _)
  have HWW : Hid (w.heap.size ≤ W.heap.size) := r.bel.size
  have hb1 : (W.alloc (.cells #[.int .i64 0, .int .i64 0] 85)).heap[W.heap.size]? = some (.cells #[.int .i64 0, .int .i64 0] 85 (0, 0)) := heap_alloc_new _ _
  have HK1 : Hid (Keep W (W.alloc (.cells #[.int .i64 0, .int .i64 0] 85))) := keep_of_below (below_alloc _ _)
  obtain ⟨R, hR⟩ : ∃ R, namesP (listP) f0 S = R := ⟨_, rfl⟩
  rw [hR]
  have HR0 : Hid (namesP (listP) f0 S = R) := hR
  clear r hrb hR
  go_enter Tryz.func98, Tryz.ntmps98
  go_upto_block 0 with fail
  generalize W.alloc (.cells #[.int .i64 0, .int .i64 0] 85) = W1 at HR hb1 HK1 ⊢
  obtain ⟨nb, hnb⟩ : ∃ nb, nb = W.heap.size := ⟨_, rfl⟩
  rw [← hnb] at hb1 ⊢
  have HNB : Hid (W.heap.size ≤ nb) := Nat.le_of_eq hnb.symm
  have HBX : Hid (W1.heap[nb]? = some (.cells #[.int .i64 0, .int .i64 0] 85 (0, 0))) := hb1
  clear hb1 hnb
  go_wp2_with fail
  go_loopg [5] f0 (fun kx s5 wr => ∃ f, f ≤ kx ∧ Hid (∃ S1 h1, S1.ws.length ≤ f ∧ RD w wr rb h1 S1 qs ∧ Keep W1 wr ∧ namesP (listP) f S1 = R ∧ S1.lv = S.lv))
  case atStart => exact ⟨f0, Nat.le_refl _, (⟨S, h, hf0, HR.out, Keep.refl _, HR0.out, rfl⟩ : ∃ S1 h1, S1.ws.length ≤ f0 ∧ RD w W1 rb h1 S1 qs ∧ Keep W1 W1 ∧ namesP (listP) f0 S1 = R ∧ S1.lv = S.lv)⟩
  case round =>
    obtain ⟨f, hfk, J⟩ := hrel
    obtain ⟨S1, h1, hlen, hrd, hkp, hN, hlv⟩ := J.out
    clear J HR HR0
    obtain ⟨f', rfl⟩ : ∃ f', f = f' + 1 := ⟨f - 1, by have := hrd.ok.ends.pos; omega⟩
    have HT : Hid (Calls Tryz.prog 104 #[.pointer (some ⟨rb, 0, none⟩), .int .i64 1] wr fun e W' => e = .returned (.tuple #[wv (takeW 1 S1), fv (takeF 1 S1)]) ∧ Went w wr rb (takeS 1 S1) qs W') := rdTake_calls 1 (by decide) w wr rb h1 S1 qs hrd
    have HJ : Hid (S1.ws.length ≤ f' + 1 ∧ RD w wr rb h1 S1 qs ∧ Keep W1 wr ∧ namesP (listP) (f' + 1) S1 = R ∧ S1.lv = S.lv) := ⟨hlen, hrd, hkp, hN, hlv⟩
    clear hlen hrd hkp hN hlv
    unfold wv fv at HT
    rcases takeP_cases 1 S1 with ⟨hk, hP, hW, hS, hF⟩ | ⟨hk, hP, hF, hS⟩
    · rw [hW, hS, hF] at HT
      generalize hx : S1.hd = x at *
      obtain ⟨xk, xt, xa⟩ := x
      simp only at HT
      have HTK : Hid (takeP 1 S1 = .ok (⟨xk, xt, xa⟩, S1.next) ∧ S1.hd = ⟨xk, xt, xa⟩) := ⟨hP, hx⟩
      clear hk hP hW hS hF hx
      go_wp2_with fail
      refine HT.out.mono ?_
      rintro e W2 ⟨rfl, hwent⟩
      have HW2 : Hid (Went w wr rb S1.next qs W2 ∧ Keep W1 W2) := ⟨hwent, HJ.out.2.2.1.trans (hwent.keep ⟨_, HJ.out.2.1.box⟩)⟩
      clear hwent HT
      obtain ⟨h2, hrd2⟩ := HW2.out.1.rd
      have hb3 : Below W2.heap.size W2 ((W2.alloc (.cells #[.int .i64 xk, .string xt, .int .i64 xa] 109)).alloc (.cells #[.int .i64 0, .int .i64 0] 85)) := below_step (below_alloc _ _) (below_alloc _ _)
      have HRD3 : Hid (RD w ((W2.alloc (.cells #[.int .i64 xk, .string xt, .int .i64 xa] 109)).alloc (.cells #[.int .i64 0, .int .i64 0] 85)) rb h2 S1.next qs ∧ Keep W1 ((W2.alloc (.cells #[.int .i64 xk, .string xt, .int .i64 xa] 109)).alloc (.cells #[.int .i64 0, .int .i64 0] 85))) := ⟨hrd2.step hb3, HW2.out.2.trans (keep_of_below hb3)⟩
      clear hrd2 hb3
      have HSAY : Hid (Calls Tryz.prog 99 #[.pointer (some ⟨rb, 0, none⟩), .agg #[.int .i64 xk, .string xt, .int .i64 xa]] ((W2.alloc (.cells #[.int .i64 xk, .string xt, .int .i64 xa] 109)).alloc (.cells #[.int .i64 0, .int .i64 0] 85)) fun e W' => Did w ((W2.alloc (.cells #[.int .i64 xk, .string xt, .int .i64 xa] 109)).alloc (.cells #[.int .i64 0, .int .i64 0] 85)) rb qs (listP ⟨xk, xt, xa⟩ S1.next) e W') := rdList_calls ⟨xk, xt, xa⟩ w _ rb h2 S1.next qs HRD3.out.1
      go_wp2_with fail
      refine HSAY.out.mono ?_
      intro e W3 hD
      obtain ⟨h3, S3, rfl, hrd3, hkp3, hS3⟩ := hD
      have HD3 : Hid (RD w W3 rb h3 S3 qs ∧ Keep W1 W3) := ⟨hrd3, HRD3.out.2.trans hkp3⟩
      clear hrd3 hkp3 HSAY
      have hNx : namesP (listP) (f' + 1) S1 = (match listP ⟨xk, xt, xa⟩ S1.next with | .error e => .error e | .ok S2 => if S2.hd.k = 1 then namesP (listP) f' S2 else .ok S2) := by
        conv => lhs; unfold namesP
        rw [HTK.out.1]
        rfl
      cases hL : listP ⟨xk, xt, xa⟩ S1.next with
      | error g =>
        obtain ⟨g1, g2⟩ := g
        have hg : g1 ≠ 0 := listP_flt (f := (g1, g2)) hL
        have hg' : (g1 != 0) = true := by simpa using hg
        have HF : Hid (R = .error (g1, g2)) := by
          show _ = _
          rw [← HJ.out.2.2.2.1, hNx, hL]
        have t2 := block_below (below_alloc W3 (.cells #[.int .i64 g1, .int .i64 g2] 85)) (HD3.out.2.loc _ _ _ HBX.out (by decide) (by decide) (by decide) (by decide))
        obtain ⟨q3, q4, z3, z4⟩ := box46 t2
        have HL : Hid (Loc (W3.alloc (.cells #[.int .i64 g1, .int .i64 g2] 85)) nb 85) := ⟨_, t2⟩
        clear hNx hL hS3 hg t2
        unfold fltOf fv
        simp only
        go_wp2_with fail
        refine bodyPost_ret (v := .agg #[.int .i64 g1, .int .i64 g2]) (by simp [results, Tryz.results98, go_sem, *]) rfl ?_
        exact did_fin (HD3.out.1.step (below_alloc _ _)) ((HK1.out.trans HD3.out.2).trans (keep_of_below (below_alloc _ _))) HL.out HNB.out HWW.out (by rw [HF.out]; rfl) (fun S1 h => by rw [HF.out] at h; cases h)
      | ok S4 =>
        have e3 : S3 = S4 := hS3 S4 hL
        subst e3
        have hbA := below_alloc W3 (.cells #[.int .i64 0, .int .i64 0] 85)
        have HWD : Hid (Calls Tryz.prog 84 #[.pointer (some ⟨rb, 0, none⟩)] (W3.alloc (.cells #[.int .i64 0, .int .i64 0] 85)) fun e W' => e = .returned (wv S3.hd) ∧ Below (W3.alloc (.cells #[.int .i64 0, .int .i64 0] 85)).heap.size (W3.alloc (.cells #[.int .i64 0, .int .i64 0] 85)) W') := rdWord_calls w _ rb h3 S3 qs (HD3.out.1.step hbA)
        have hok := listP_ok HRD3.out.1.ok hL
        have HS3 : Hid (S3.ws.length ≤ f' ∧ S3.lv = S.lv) := by
          obtain ⟨o1, o2, o3⟩ := hok
          have n1 := next_len HJ.out.2.1.ok
          refine ⟨?_, ?_⟩
          · rw [o2]
            have := HJ.out.1
            omega
          · rw [o3]
            exact HJ.out.2.2.2.2
        have HNX : Hid (R = if S3.hd.k = 1 then namesP (listP) f' S3 else .ok S3) := by
          show _ = _
          rw [← HJ.out.2.2.2.1, hNx, hL]
        clear hNx hL hS3 hok hbA
        unfold wv at HWD
        generalize hy : S3.hd = y at *
        obtain ⟨yk, yt, ya⟩ := y
        simp only at HWD HNX
        have hfk' := run_wk yk ya yt
        unfold fltOf fv
        simp only
        go_wp2_with fail
        refine HWD.out.mono ?_
        rintro e W4 ⟨rfl, hB⟩
        have HB4 : Hid (Below W3.heap.size W3 W4) := below_step (below_alloc _ _) hB
        clear hB HWD hy
        by_cases hyk : yk = 1
        · have hq : (yk != 1) = false := by simp [hyk]
          have HF : Hid (namesP (listP) f' S3 = R) := by
            show _ = _
            have := HNX.out
            rw [if_pos hyk] at this
            exact this.symm
          clear hyk HNX
          go_wp2_with fail
          go_roundg f'
          case measure => omega
          case rel => exact ⟨f', Nat.le_refl _, (⟨S3, h3, HS3.out.1, HD3.out.1.step HB4.out, HD3.out.2.trans (keep_of_below HB4.out), HF.out, HS3.out.2⟩ : ∃ S1 h1, S1.ws.length ≤ f' ∧ RD w W4 rb h1 S1 qs ∧ Keep W1 W4 ∧ namesP (listP) f' S1 = R ∧ S1.lv = S.lv)⟩
        · have hq : (yk != 1) = true := by simp [hyk]
          have HF : Hid (R = .ok S3) := by
            show _ = _
            have := HNX.out
            rw [if_neg hyk] at this
            exact this
          clear hyk HNX
          have t2 := block_below HB4.out (HD3.out.2.loc _ _ _ HBX.out (by decide) (by decide) (by decide) (by decide))
          obtain ⟨q3, q4, z3, z4⟩ := box46 t2
          have HL : Hid (Loc W4 nb 85) := ⟨_, t2⟩
          clear t2
          go_wp2_with fail
          refine bodyPost_ret (v := .agg #[.int .i64 0, .int .i64 0]) (by simp [results, Tryz.results98, go_sem, *]) rfl ?_
          exact did_fin (HD3.out.1.step HB4.out) ((HK1.out.trans HD3.out.2).trans (keep_of_below HB4.out)) HL.out HNB.out HWW.out (by rw [HF.out]; rfl) (fun S1 h => by rw [HF.out] at h; cases h; rfl)
    · have HN : Hid (R = .error (formF S1.hd)) := by
        show _ = _
        rw [← HJ.out.2.2.2.1]
        conv => lhs; unfold namesP
        rw [hP]
      rw [hF, hS] at HT
      unfold formF at HT HN
      generalize takeW 1 S1 = y at HT
      generalize S1.hd.a = xa at *
      obtain ⟨yk, yt, ya⟩ := y
      simp only at HT
      clear hk hP hF hS
      go_wp2_with fail
      refine HT.out.mono ?_
      rintro e W2 ⟨rfl, hwent⟩
      have HW2 : Hid (Went w wr rb S1 qs W2 ∧ Keep W1 W2) := ⟨hwent, HJ.out.2.2.1.trans (hwent.keep ⟨_, HJ.out.2.1.box⟩)⟩
      clear hwent HT
      have hb3 : Below W2.heap.size W2 ((W2.alloc (.cells #[.int .i64 yk, .string yt, .int .i64 ya] 109)).alloc (.cells #[.int .i64 1, .int .i64 xa] 85)) := below_step (below_alloc _ _) (below_alloc _ _)
      have t2 := block_below hb3 (HW2.out.2.loc _ _ _ HBX.out (by decide) (by decide) (by decide) (by decide))
      obtain ⟨q3, q4, z3, z4⟩ := box46 t2
      have HL : Hid (Loc ((W2.alloc (.cells #[.int .i64 yk, .string yt, .int .i64 ya] 109)).alloc (.cells #[.int .i64 1, .int .i64 xa] 85)) nb 85 ∧ Below W2.heap.size W2 ((W2.alloc (.cells #[.int .i64 yk, .string yt, .int .i64 ya] 109)).alloc (.cells #[.int .i64 1, .int .i64 xa] 85))) := ⟨⟨_, t2⟩, hb3⟩
      clear t2 hb3
      go_wp2_with fail
      refine bodyPost_ret (v := .agg #[.int .i64 1, .int .i64 xa]) (by simp [results, Tryz.results98, go_sem, *]) rfl ?_
      obtain ⟨h2, hrd2⟩ := HW2.out.1.rd
      exact did_fin (hrd2.step HL.out.2) ((HK1.out.trans HW2.out.2).trans (keep_of_below HL.out.2)) HL.out.1 HNB.out HWW.out (by rw [HN.out]; rfl) (fun S1 h => by rw [HN.out] at h; cases h)

set_option maxHeartbeats 8000000 in
theorem rdNamesV_calls (a : Int) (cr ca : Nat) (w W : World) (rb : Nat) (h : RHd) (S : St) (qs : List (Ru × Option Addr × Nat)) (r : RD w W rb h S qs) (f0 : Nat) (hf0 : S.ws.length ≤ f0) (hcr : W.heap[cr]? = some (.cells #[.pointer (some ⟨rb, 0, none⟩)] 110 (0, 0))) (hca : W.heap[ca]? = some (.cells #[.int .i64 a] 3 (0, 0))) :
    Calls Tryz.prog 98 #[.pointer (some ⟨rb, 0, none⟩), .func (.func 119) #[] #[.pointer (some ⟨cr, 0, none⟩), .pointer (some ⟨ca, 0, none⟩)]] W fun e W' => Did w W rb qs (namesP (levP (S.lv : Int) a) f0 S) e W' := by
  have hrb : Loc W rb 99 := ⟨_, r.box⟩
  have HR : Hid (RD w (W.alloc (.cells #[.int .i64 0, .int .i64 0] 85)) rb h S qs) := r.step (below_alloc _ _)
  have HWW : Hid (w.heap.size ≤ W.heap.size) := r.bel.size
  have hb1 : (W.alloc (.cells #[.int .i64 0, .int .i64 0] 85)).heap[W.heap.size]? = some (.cells #[.int .i64 0, .int .i64 0] 85 (0, 0)) := heap_alloc_new _ _
  have HK1 : Hid (Keep W (W.alloc (.cells #[.int .i64 0, .int .i64 0] 85))) := keep_of_below (below_alloc _ _)
  have HCP : Hid (∀ V : World, Keep W V → V.heap[cr]? = some (.cells #[.pointer (some ⟨rb, 0, none⟩)] 110 (0, 0)) ∧ V.heap[ca]? = some (.cells #[.int .i64 a] 3 (0, 0))) := fun V hV => ⟨hV.loc _ _ _ hcr (by decide) (by decide) (by decide) (by decide), hV.loc _ _ _ hca (by decide) (by decide) (by decide) (by decide)⟩
  clear hcr hca
  obtain ⟨R, hR⟩ : ∃ R, namesP (levP (S.lv : Int) a) f0 S = R := ⟨_, rfl⟩
  rw [hR]
  have HR0 : Hid (namesP (levP (S.lv : Int) a) f0 S = R) := hR
  clear r hrb hR
  go_enter Tryz.func98, Tryz.ntmps98
  go_upto_block 0 with fail
  generalize W.alloc (.cells #[.int .i64 0, .int .i64 0] 85) = W1 at HR hb1 HK1 ⊢
  obtain ⟨nb, hnb⟩ : ∃ nb, nb = W.heap.size := ⟨_, rfl⟩
  rw [← hnb] at hb1 ⊢
  have HNB : Hid (W.heap.size ≤ nb) := Nat.le_of_eq hnb.symm
  have HBX : Hid (W1.heap[nb]? = some (.cells #[.int .i64 0, .int .i64 0] 85 (0, 0))) := hb1
  clear hb1 hnb
  go_wp2_with fail
  go_loopg [5] f0 (fun kx s5 wr => ∃ f, f ≤ kx ∧ Hid (∃ S1 h1, S1.ws.length ≤ f ∧ RD w wr rb h1 S1 qs ∧ Keep W1 wr ∧ namesP (levP (S.lv : Int) a) f S1 = R ∧ S1.lv = S.lv))
  case atStart => exact ⟨f0, Nat.le_refl _, (⟨S, h, hf0, HR.out, Keep.refl _, HR0.out, rfl⟩ : ∃ S1 h1, S1.ws.length ≤ f0 ∧ RD w W1 rb h1 S1 qs ∧ Keep W1 W1 ∧ namesP (levP (S.lv : Int) a) f0 S1 = R ∧ S1.lv = S.lv)⟩
  case round =>
    obtain ⟨f, hfk, J⟩ := hrel
    obtain ⟨S1, h1, hlen, hrd, hkp, hN, hlv⟩ := J.out
    clear J HR HR0
    obtain ⟨f', rfl⟩ : ∃ f', f = f' + 1 := ⟨f - 1, by have := hrd.ok.ends.pos; omega⟩
    have HT : Hid (Calls Tryz.prog 104 #[.pointer (some ⟨rb, 0, none⟩), .int .i64 1] wr fun e W' => e = .returned (.tuple #[wv (takeW 1 S1), fv (takeF 1 S1)]) ∧ Went w wr rb (takeS 1 S1) qs W') := rdTake_calls 1 (by decide) w wr rb h1 S1 qs hrd
    have HJ : Hid (S1.ws.length ≤ f' + 1 ∧ RD w wr rb h1 S1 qs ∧ Keep W1 wr ∧ namesP (levP (S.lv : Int) a) (f' + 1) S1 = R ∧ S1.lv = S.lv) := ⟨hlen, hrd, hkp, hN, hlv⟩
    clear hlen hrd hkp hN hlv
    unfold wv fv at HT
    rcases takeP_cases 1 S1 with ⟨hk, hP, hW, hS, hF⟩ | ⟨hk, hP, hF, hS⟩
    · rw [hW, hS, hF] at HT
      generalize hx : S1.hd = x at *
      obtain ⟨xk, xt, xa⟩ := x
      simp only at HT
      have HTK : Hid (takeP 1 S1 = .ok (⟨xk, xt, xa⟩, S1.next) ∧ S1.hd = ⟨xk, xt, xa⟩) := ⟨hP, hx⟩
      clear hk hP hW hS hF hx
      go_wp2_with fail
      refine HT.out.mono ?_
      rintro e W2 ⟨rfl, hwent⟩
      have HW2 : Hid (Went w wr rb S1.next qs W2 ∧ Keep W1 W2) := ⟨hwent, HJ.out.2.2.1.trans (hwent.keep ⟨_, HJ.out.2.1.box⟩)⟩
      clear hwent HT
      obtain ⟨h2, hrd2⟩ := HW2.out.1.rd
      have hb3 : Below W2.heap.size W2 ((W2.alloc (.cells #[.int .i64 xk, .string xt, .int .i64 xa] 109)).alloc (.cells #[.int .i64 0, .int .i64 0] 85)) := below_step (below_alloc _ _) (below_alloc _ _)
      have HRD3 : Hid (RD w ((W2.alloc (.cells #[.int .i64 xk, .string xt, .int .i64 xa] 109)).alloc (.cells #[.int .i64 0, .int .i64 0] 85)) rb h2 S1.next qs ∧ Keep W1 ((W2.alloc (.cells #[.int .i64 xk, .string xt, .int .i64 xa] 109)).alloc (.cells #[.int .i64 0, .int .i64 0] 85))) := ⟨hrd2.step hb3, HW2.out.2.trans (keep_of_below hb3)⟩
      clear hrd2 hb3
      have HSAY : Hid (Calls Tryz.prog 119 #[.agg #[.int .i64 xk, .string xt, .int .i64 xa], .pointer (some ⟨cr, 0, none⟩), .pointer (some ⟨ca, 0, none⟩)] ((W2.alloc (.cells #[.int .i64 xk, .string xt, .int .i64 xa] 109)).alloc (.cells #[.int .i64 0, .int .i64 0] 85)) fun e W' => Did w ((W2.alloc (.cells #[.int .i64 xk, .string xt, .int .i64 xa] 109)).alloc (.cells #[.int .i64 0, .int .i64 0] 85)) rb qs (levP (S.lv : Int) a ⟨xk, xt, xa⟩ S1.next) e W') := by
        have hc := HCP.out _ (HK1.out.trans HRD3.out.2)
        have := rdLev1_calls a cr ca ⟨xk, xt, xa⟩ w _ rb h2 S1.next qs HRD3.out.1 hc.1 hc.2
        rw [show S1.next.lv = S.lv from HJ.out.2.2.2.2] at this
        exact this
      go_wp2_with fail
      refine HSAY.out.mono ?_
      intro e W3 hD
      obtain ⟨h3, S3, rfl, hrd3, hkp3, hS3⟩ := hD
      have HD3 : Hid (RD w W3 rb h3 S3 qs ∧ Keep W1 W3) := ⟨hrd3, HRD3.out.2.trans hkp3⟩
      clear hrd3 hkp3 HSAY
      have hNx : namesP (levP (S.lv : Int) a) (f' + 1) S1 = (match levP (S.lv : Int) a ⟨xk, xt, xa⟩ S1.next with | .error e => .error e | .ok S2 => if S2.hd.k = 1 then namesP (levP (S.lv : Int) a) f' S2 else .ok S2) := by
        conv => lhs; unfold namesP
        rw [HTK.out.1]
        rfl
      cases hL : levP (S.lv : Int) a ⟨xk, xt, xa⟩ S1.next with
      | error g =>
        obtain ⟨g1, g2⟩ := g
        have hg : g1 ≠ 0 := levP_flt (f := (g1, g2)) hL
        have hg' : (g1 != 0) = true := by simpa using hg
        have HF : Hid (R = .error (g1, g2)) := by
          show _ = _
          rw [← HJ.out.2.2.2.1, hNx, hL]
        have t2 := block_below (below_alloc W3 (.cells #[.int .i64 g1, .int .i64 g2] 85)) (HD3.out.2.loc _ _ _ HBX.out (by decide) (by decide) (by decide) (by decide))
        obtain ⟨q3, q4, z3, z4⟩ := box46 t2
        have HL : Hid (Loc (W3.alloc (.cells #[.int .i64 g1, .int .i64 g2] 85)) nb 85) := ⟨_, t2⟩
        clear hNx hL hS3 hg t2
        unfold fltOf fv
        simp only
        go_wp2_with fail
        refine bodyPost_ret (v := .agg #[.int .i64 g1, .int .i64 g2]) (by simp [results, Tryz.results98, go_sem, *]) rfl ?_
        exact did_fin (HD3.out.1.step (below_alloc _ _)) ((HK1.out.trans HD3.out.2).trans (keep_of_below (below_alloc _ _))) HL.out HNB.out HWW.out (by rw [HF.out]; rfl) (fun S1 h => by rw [HF.out] at h; cases h)
      | ok S4 =>
        have e3 : S3 = S4 := hS3 S4 hL
        subst e3
        have hbA := below_alloc W3 (.cells #[.int .i64 0, .int .i64 0] 85)
        have HWD : Hid (Calls Tryz.prog 84 #[.pointer (some ⟨rb, 0, none⟩)] (W3.alloc (.cells #[.int .i64 0, .int .i64 0] 85)) fun e W' => e = .returned (wv S3.hd) ∧ Below (W3.alloc (.cells #[.int .i64 0, .int .i64 0] 85)).heap.size (W3.alloc (.cells #[.int .i64 0, .int .i64 0] 85)) W') := rdWord_calls w _ rb h3 S3 qs (HD3.out.1.step hbA)
        have hok := levP_ok HRD3.out.1.ok hL
        have HS3 : Hid (S3.ws.length ≤ f' ∧ S3.lv = S.lv) := by
          obtain ⟨o1, o2, o3⟩ := hok
          have n1 := next_len HJ.out.2.1.ok
          refine ⟨?_, ?_⟩
          · rw [o2]
            have := HJ.out.1
            omega
          · rw [o3]
            exact HJ.out.2.2.2.2
        have HNX : Hid (R = if S3.hd.k = 1 then namesP (levP (S.lv : Int) a) f' S3 else .ok S3) := by
          show _ = _
          rw [← HJ.out.2.2.2.1, hNx, hL]
        clear hNx hL hS3 hok hbA
        unfold wv at HWD
        generalize hy : S3.hd = y at *
        obtain ⟨yk, yt, ya⟩ := y
        simp only at HWD HNX
        have hfk' := run_wk yk ya yt
        unfold fltOf fv
        simp only
        go_wp2_with fail
        refine HWD.out.mono ?_
        rintro e W4 ⟨rfl, hB⟩
        have HB4 : Hid (Below W3.heap.size W3 W4) := below_step (below_alloc _ _) hB
        clear hB HWD hy
        by_cases hyk : yk = 1
        · have hq : (yk != 1) = false := by simp [hyk]
          have HF : Hid (namesP (levP (S.lv : Int) a) f' S3 = R) := by
            show _ = _
            have := HNX.out
            rw [if_pos hyk] at this
            exact this.symm
          clear hyk HNX
          go_wp2_with fail
          go_roundg f'
          case measure => omega
          case rel => exact ⟨f', Nat.le_refl _, (⟨S3, h3, HS3.out.1, HD3.out.1.step HB4.out, HD3.out.2.trans (keep_of_below HB4.out), HF.out, HS3.out.2⟩ : ∃ S1 h1, S1.ws.length ≤ f' ∧ RD w W4 rb h1 S1 qs ∧ Keep W1 W4 ∧ namesP (levP (S.lv : Int) a) f' S1 = R ∧ S1.lv = S.lv)⟩
        · have hq : (yk != 1) = true := by simp [hyk]
          have HF : Hid (R = .ok S3) := by
            show _ = _
            have := HNX.out
            rw [if_neg hyk] at this
            exact this
          clear hyk HNX
          have t2 := block_below HB4.out (HD3.out.2.loc _ _ _ HBX.out (by decide) (by decide) (by decide) (by decide))
          obtain ⟨q3, q4, z3, z4⟩ := box46 t2
          have HL : Hid (Loc W4 nb 85) := ⟨_, t2⟩
          clear t2
          go_wp2_with fail
          refine bodyPost_ret (v := .agg #[.int .i64 0, .int .i64 0]) (by simp [results, Tryz.results98, go_sem, *]) rfl ?_
          exact did_fin (HD3.out.1.step HB4.out) ((HK1.out.trans HD3.out.2).trans (keep_of_below HB4.out)) HL.out HNB.out HWW.out (by rw [HF.out]; rfl) (fun S1 h => by rw [HF.out] at h; cases h; rfl)
    · have HN : Hid (R = .error (formF S1.hd)) := by
        show _ = _
        rw [← HJ.out.2.2.2.1]
        conv => lhs; unfold namesP
        rw [hP]
      rw [hF, hS] at HT
      unfold formF at HT HN
      generalize takeW 1 S1 = y at HT
      generalize S1.hd.a = xa at *
      obtain ⟨yk, yt, ya⟩ := y
      simp only at HT
      clear hk hP hF hS
      go_wp2_with fail
      refine HT.out.mono ?_
      rintro e W2 ⟨rfl, hwent⟩
      have HW2 : Hid (Went w wr rb S1 qs W2 ∧ Keep W1 W2) := ⟨hwent, HJ.out.2.2.1.trans (hwent.keep ⟨_, HJ.out.2.1.box⟩)⟩
      clear hwent HT
      have hb3 : Below W2.heap.size W2 ((W2.alloc (.cells #[.int .i64 yk, .string yt, .int .i64 ya] 109)).alloc (.cells #[.int .i64 1, .int .i64 xa] 85)) := below_step (below_alloc _ _) (below_alloc _ _)
      have t2 := block_below hb3 (HW2.out.2.loc _ _ _ HBX.out (by decide) (by decide) (by decide) (by decide))
      obtain ⟨q3, q4, z3, z4⟩ := box46 t2
      have HL : Hid (Loc ((W2.alloc (.cells #[.int .i64 yk, .string yt, .int .i64 ya] 109)).alloc (.cells #[.int .i64 1, .int .i64 xa] 85)) nb 85 ∧ Below W2.heap.size W2 ((W2.alloc (.cells #[.int .i64 yk, .string yt, .int .i64 ya] 109)).alloc (.cells #[.int .i64 1, .int .i64 xa] 85))) := ⟨⟨_, t2⟩, hb3⟩
      clear t2 hb3
      go_wp2_with fail
      refine bodyPost_ret (v := .agg #[.int .i64 1, .int .i64 xa]) (by simp [results, Tryz.results98, go_sem, *]) rfl ?_
      obtain ⟨h2, hrd2⟩ := HW2.out.1.rd
      exact did_fin (hrd2.step HL.out.2) ((HK1.out.trans HW2.out.2).trans (keep_of_below HL.out.2)) HL.out.1 HNB.out HWW.out (by rw [HN.out]; rfl) (fun S1 h => by rw [HN.out] at h; cases h)

end Go.Proofs.YtebehlmidoencaaGreatDoor

/-
  The walks of read's level and readStart.
-/
namespace Go.Proofs.YtebehlmidoencaaGreatDoor
open Go.RowKit

set_option maxRecDepth 20000

/-- A plain cell of the reader's box is stored into. -/
theorem RD.setBox {w W : World} {rb : Nat} {h : RHd} {S : St} {qs : List (Ru × Option Addr × Nat)} (r : RD w W rb h S qs) (j : Nat) (u : Value) (S' : St) (e1 : S'.ws = S.ws) (e2 : S'.ts = S.ts) (e3 : S'.ls = S.ls) (e4 : S'.rs = S.rs) (he : (rdC h S).setIfInBounds j u = rdC h S') (ok : StOk S') :
    RD w (W.setCell ⟨rb, j, none⟩ u) rb h S' qs ∧ Keep W (W.setCell ⟨rb, j, none⟩ u) := by
  have hl : Loc W rb 99 := ⟨_, r.box⟩
  have far : ∀ {E k n : Nat} {v : Value} {cs : List Value}, W.ownsRow w.heap.size E k v n cs → E ≠ 99 → (W.setCell ⟨rb, j, none⟩ u).ownsRow w.heap.size E k v n cs := by
    intro E k n v cs ho hE
    exact ownsRow_of_block ho (fun i hi => Below.heap_setCell _ _ _ _ (loc_ne (own_loc ho hi) hl hE))
  refine ⟨⟨?_, ?_, ?_, ?_, ?_, fun q hq => far (r.row q hq) (by decide), r.bel.setCell (p := ⟨rb, j, none⟩) r.new _, r.new, ok⟩, (Keep.refl W).set hl (.inl rfl) _ _⟩
  · rw [setCell_eq_setRow W rb j _ 99 (0, 0) _ r.box, he]
    exact setRow_heap _ _ _ _ 99 _ r.box
  · rw [e1]; exact r.wds
  · rw [e2, e3]; exact far r.tok (by decide)
  · rw [e4]; exact far r.rul (by decide)
  · rw [e4]; exact r.map

set_option maxHeartbeats 8000000 in
theorem rdLevel_calls (a : Int) (x : Wd) (w W : World) (rb : Nat) (h : RHd) (S : St) (qs : List (Ru × Option Addr × Nat)) (r : RD w W rb h S qs) :
    Calls Tryz.prog 100 #[.pointer (some ⟨rb, 0, none⟩), wv x, .int .i64 a] W fun e W' => Did w W rb qs (levelP x a S) e W' := by
  obtain ⟨xk, xt, xa⟩ := x
  obtain ⟨o1, ho1⟩ : ∃ o : Obj, o = .cells #[.pointer (some ⟨rb, 0, none⟩)] 110 := ⟨_, rfl⟩
  obtain ⟨o2, ho2⟩ : ∃ o : Obj, o = .cells #[.int .i64 xk, .string xt, .int .i64 xa] 109 := ⟨_, rfl⟩
  obtain ⟨o3, ho3⟩ : ∃ o : Obj, o = .cells #[.int .i64 a] 3 := ⟨_, rfl⟩
  obtain ⟨o4, ho4⟩ : ∃ o : Obj, o = .cells #[.int .i64 0, .int .i64 0] 85 := ⟨_, rfl⟩
  have hB : Below W.heap.size W ((((W.alloc o1).alloc o2).alloc o3).alloc o4) := below_step (below_step (below_step (below_alloc _ _) (below_alloc _ _)) (below_alloc _ _)) (below_alloc _ _)
  have hb0 : ((((W.alloc o1).alloc o2).alloc o3).alloc o4).heap[W.heap.size]? = some o1 := block_below (below_step (below_step (below_alloc _ _) (below_alloc _ _)) (below_alloc _ _)) (heap_alloc_new _ _)
  have hb1 : ((((W.alloc o1).alloc o2).alloc o3).alloc o4).heap[W.heap.size + 1]? = some o2 := by
    have := heap_alloc_new (W.alloc o1) o2
    rw [size_alloc1] at this
    exact block_below (below_step (below_alloc _ _) (below_alloc _ _)) this
  have hb2 : ((((W.alloc o1).alloc o2).alloc o3).alloc o4).heap[W.heap.size + 1 + 1]? = some o3 := by
    have := heap_alloc_new ((W.alloc o1).alloc o2) o3
    rw [size_alloc1, size_alloc1] at this
    exact block_below (below_alloc _ _) this
  have hb3 : ((((W.alloc o1).alloc o2).alloc o3).alloc o4).heap[W.heap.size + 1 + 1 + 1]? = some o4 := by
    have := heap_alloc_new (((W.alloc o1).alloc o2).alloc o3) o4
    rw [size_alloc1, size_alloc1, size_alloc1] at this
    exact this
  subst ho1 ho2 ho3 ho4
  have HR : Hid (RD w ((((W.alloc (.cells #[.pointer (some ⟨rb, 0, none⟩)] 110)).alloc (.cells #[.int .i64 xk, .string xt, .int .i64 xa] 109)).alloc (.cells #[.int .i64 a] 3)).alloc (.cells #[.int .i64 0, .int .i64 0] 85)) rb h S qs) := r.step hB
  have HWW : Hid (w.heap.size ≤ W.heap.size) := r.bel.size
  clear r
  unfold wv
  simp only
  go_enter Tryz.func100, Tryz.ntmps100
  go_upto_region 1 with fail
  generalize (((W.alloc (.cells #[.pointer (some ⟨rb, 0, none⟩)] 110)).alloc (.cells #[.int .i64 xk, .string xt, .int .i64 xa] 109)).alloc (.cells #[.int .i64 a] 3)).alloc (.cells #[.int .i64 0, .int .i64 0] 85) = W1 at hB hb0 hb1 hb2 hb3 HR ⊢
  obtain ⟨nb, hnb⟩ : ∃ nb, nb = W.heap.size := ⟨_, rfl⟩
  rw [← hnb] at hb0 hb1 hb2 hb3 ⊢
  have HNB : Hid (W.heap.size ≤ nb + 1 + 1 + 1) := by have := Nat.le_of_eq hnb.symm; show _ ≤ _; omega
  have HK1 : Hid (Keep W W1) := keep_of_below hB
  have HBX : Hid (W1.heap[nb]? = some (.cells #[.pointer (some ⟨rb, 0, none⟩)] 110 (0, 0)) ∧ W1.heap[nb + 1]? = some (.cells #[.int .i64 xk, .string xt, .int .i64 xa] 109 (0, 0)) ∧ W1.heap[nb + 1 + 1]? = some (.cells #[.int .i64 a] 3 (0, 0)) ∧ W1.heap[nb + 1 + 1 + 1]? = some (.cells #[.int .i64 0, .int .i64 0] 85 (0, 0))) := ⟨hb0, hb1, hb2, hb3⟩
  have s0 : W1.cell? ⟨nb, 0, none⟩ = some (.pointer (some ⟨rb, 0, none⟩)) := by rw [cell_block hb0]; rfl
  have s2 : W1.cell? ⟨rb, 2, none⟩ = some (.int .i64 (S.lv : Int)) := by rw [cell_block HR.out.box]; rfl
  have f2 : W1.frozen? ⟨rb, 2, none⟩ = false := frozen_block HR.out.box 2
  have hlv := HR.out.ok.lv
  clear hnb hB hb0 hb2
  by_cases h8 : S.lv = 8
  · have hq : ((S.lv : Int) == 8) = true := by simp [h8]
    have HF : Hid (levelP ⟨xk, xt, xa⟩ a S = .error (formF ⟨xk, xt, xa⟩)) := by
      show _ = _
      unfold levelP
      rw [if_pos h8]
    obtain ⟨p0, p1, p2⟩ := box35 hb1
    clear h8 hb1 hb3 hlv
    generalize (S.lv : Int) = lv at *
    go_wp2_with fail
    refine (form_calls ⟨xk, xt, xa⟩ _).mono ?_
    rintro e W2 ⟨rfl, hB⟩
    have HB2 : Hid (Below W1.heap.size W1 W2) := hB
    clear hB p0 p1 p2 s0 s2 f2
    obtain ⟨q3, q4, z3, z4⟩ := box46 (block_below HB2.out HBX.out.2.2.2)
    unfold fv formF
    simp only
    go_wp2_with fail
    refine bodyPost_ret (v := .agg #[.int .i64 1, .int .i64 xa]) (by simp [results, Tryz.results100, go_sem, *]) rfl ?_
    exact did_fin (HR.out.step HB2.out) (HK1.out.trans (keep_of_below HB2.out)) ⟨_, block_below HB2.out HBX.out.2.2.2⟩ HNB.out HWW.out (by rw [HF.out]; rfl) (fun S1 h => by rw [HF.out] at h; cases h)
  · have hq : ((S.lv : Int) == 8) = false := by simp; omega
    have hst := HR.out.setBox 2 (.int .i64 ((S.lv : Int) + 1)) ⟨S.ws, S.ts, S.ls, S.lv + 1, S.st, S.ed, S.ex, S.rs⟩ rfl rfl rfl rfl (by unfold rdC; simp) ⟨HR.out.ok.ends, HR.out.ok.nt, HR.out.ok.nl, by simp only; omega, HR.out.ok.nr⟩
    have t0 := hst.2.loc _ _ _ HBX.out.1 (by decide) (by decide) (by decide) (by decide)
    have t2 := hst.2.loc _ _ _ HBX.out.2.2.1 (by decide) (by decide) (by decide) (by decide)
    have HC : Hid (Calls Tryz.prog 98 #[.pointer (some ⟨rb, 0, none⟩), .func (.func 119) #[] #[.pointer (some ⟨nb, 0, none⟩), .pointer (some ⟨nb + 1 + 1, 0, none⟩)]] (W1.setCell ⟨rb, 2, none⟩ (.int .i64 ((S.lv : Int) + 1))) fun e W' => Did w (W1.setCell ⟨rb, 2, none⟩ (.int .i64 ((S.lv : Int) + 1))) rb qs (levelP ⟨xk, xt, xa⟩ a S) e W') := by
      have := rdNamesV_calls a nb (nb + 1 + 1) w _ rb h _ qs hst.1 S.ws.length (Nat.le_refl _) t0 t2
      have e : levelP ⟨xk, xt, xa⟩ a S = namesP (levP (((S.lv + 1 : Nat)) : Int) a) S.ws.length ⟨S.ws, S.ts, S.ls, S.lv + 1, S.st, S.ed, S.ex, S.rs⟩ := by
        unfold levelP
        rw [if_neg h8]
        rfl
      rw [e]
      exact this
    have HS : Hid (Keep W1 (W1.setCell ⟨rb, 2, none⟩ (.int .i64 ((S.lv : Int) + 1)))) := hst.2
    have s0' : (W1.setCell ⟨rb, 2, none⟩ (.int .i64 ((S.lv : Int) + 1))).cell? ⟨nb, 0, none⟩ = some (.pointer (some ⟨rb, 0, none⟩)) := by rw [cell_block t0]; rfl
    have hlv2 : (S.lv : Int) ≤ 8 ∧ 0 ≤ (S.lv : Int) := by omega
    clear hst t0 t2 h8 hb1 hb3 hlv
    generalize (S.lv : Int) = lv at *
    go_wp2_with fail
    refine HC.out.mono ?_
    intro e W2 hD
    obtain ⟨h3, S3, rfl, hrd3, hkp3, hS3⟩ := hD
    have HD : Hid (RD w W2 rb h3 S3 qs ∧ Keep W1 W2 ∧ ∀ S1, levelP ⟨xk, xt, xa⟩ a S = .ok S1 → S3 = S1) := ⟨hrd3, HS.out.trans hkp3, hS3⟩
    clear hrd3 hkp3 hS3 HC s0 s0' s2 f2
    have t3 := HD.out.2.1.loc _ _ _ HBX.out.2.2.2 (by decide) (by decide) (by decide) (by decide)
    obtain ⟨q3, q4, z3, z4⟩ := box46 t3
    have HL : Hid (Loc W2 (nb + 1 + 1 + 1) 85) := ⟨_, t3⟩
    obtain ⟨g, hg⟩ : ∃ g, g = fltOf (levelP ⟨xk, xt, xa⟩ a S) := ⟨_, rfl⟩
    have HG : Hid (fltOf (levelP ⟨xk, xt, xa⟩ a S) = g) := hg.symm
    rw [← hg]
    clear hg t3
    obtain ⟨g1, g2⟩ := g
    unfold fv
    simp only
    go_wp2_with fail
    refine bodyPost_ret (v := .agg #[.int .i64 g1, .int .i64 g2]) (by simp [results, Tryz.results100, go_sem, *]) rfl ?_
    exact did_fin HD.out.1 (HK1.out.trans HD.out.2.1) HL.out HNB.out HWW.out HG.out HD.out.2.2

set_option maxHeartbeats 8000000 in
theorem rdStart_calls (x : Wd) (w W : World) (rb : Nat) (h : RHd) (S : St) (qs : List (Ru × Option Addr × Nat)) (r : RD w W rb h S qs) :
    Calls Tryz.prog 101 #[.pointer (some ⟨rb, 0, none⟩), wv x] W fun e W' => Did w W rb qs (startP x S) e W' := by
  obtain ⟨xk, xt, xa⟩ := x
  have hB : Below W.heap.size W ((W.alloc (.cells #[.int .i64 xk, .string xt, .int .i64 xa] 109)).alloc (.cells #[.int .i64 0, .int .i64 0] 85)) := below_step (below_alloc _ _) (below_alloc _ _)
  have hb0 : ((W.alloc (.cells #[.int .i64 xk, .string xt, .int .i64 xa] 109)).alloc (.cells #[.int .i64 0, .int .i64 0] 85)).heap[W.heap.size]? = some (.cells #[.int .i64 xk, .string xt, .int .i64 xa] 109 (0, 0)) := block_below (below_alloc _ _) (heap_alloc_new _ _)
  have hb1 : ((W.alloc (.cells #[.int .i64 xk, .string xt, .int .i64 xa] 109)).alloc (.cells #[.int .i64 0, .int .i64 0] 85)).heap[W.heap.size + 1]? = some (.cells #[.int .i64 0, .int .i64 0] 85 (0, 0)) := by
    have := heap_alloc_new (W.alloc (.cells #[.int .i64 xk, .string xt, .int .i64 xa] 109)) (.cells #[.int .i64 0, .int .i64 0] 85)
    rwa [size_alloc1] at this
  have HR : Hid (RD w ((W.alloc (.cells #[.int .i64 xk, .string xt, .int .i64 xa] 109)).alloc (.cells #[.int .i64 0, .int .i64 0] 85)) rb h S qs) := r.step hB
  have HWW : Hid (w.heap.size ≤ W.heap.size) := r.bel.size
  clear r
  unfold wv
  simp only
  go_enter Tryz.func101, Tryz.ntmps101
  go_upto_region 1 with fail
  generalize (W.alloc (.cells #[.int .i64 xk, .string xt, .int .i64 xa] 109)).alloc (.cells #[.int .i64 0, .int .i64 0] 85) = W1 at hB hb0 hb1 HR ⊢
  obtain ⟨nb, hnb⟩ : ∃ nb, nb = W.heap.size := ⟨_, rfl⟩
  rw [← hnb] at hb0 hb1 ⊢
  have HNB : Hid (W.heap.size ≤ nb + 1) := Nat.le_succ_of_le (Nat.le_of_eq hnb.symm)
  have HK1 : Hid (Keep W W1) := keep_of_below hB
  have HBX : Hid (W1.heap[nb]? = some (.cells #[.int .i64 xk, .string xt, .int .i64 xa] 109 (0, 0)) ∧ W1.heap[nb + 1]? = some (.cells #[.int .i64 0, .int .i64 0] 85 (0, 0))) := ⟨hb0, hb1⟩
  have s3 : W1.cell? ⟨rb, 3, none⟩ = some (.string S.st) := by rw [cell_block HR.out.box]; rfl
  by_cases hst : S.st = ⟨#[]⟩
  · have hq : (S.st.toList == []) = true := (toList_nil _).2 hst
    have HT : Hid (Calls Tryz.prog 104 #[.pointer (some ⟨rb, 0, none⟩), .int .i64 1] W1 fun e W' => e = .returned (.tuple #[wv (takeW 1 S), fv (takeF 1 S)]) ∧ Went w W1 rb (takeS 1 S) qs W') := rdTake_calls 1 (by decide) w W1 rb h S qs HR.out
    have HSP : Hid (startP ⟨xk, xt, xa⟩ S = (match takeP 1 S with | .error e => .error e | .ok (w, S1) => .ok ⟨S1.ws, S1.ts, S1.ls, S1.lv, w.t, S1.ed, S1.ex, S1.rs⟩)) := by
      show _ = _
      unfold startP
      rw [if_neg (by simpa using hst)]
      rfl
    clear hb0 hb1 hnb hB hst
    obtain ⟨f, hf⟩ : ∃ f, f = takeF 1 S := ⟨_, rfl⟩
    obtain ⟨y, hy⟩ : ∃ y, y = takeW 1 S := ⟨_, rfl⟩
    have HFY : Hid (f = takeF 1 S ∧ y = takeW 1 S) := ⟨hf, hy⟩
    rw [← hf, ← hy] at HT
    clear hf hy
    obtain ⟨f1, f2⟩ := f
    obtain ⟨yk, yt, ya⟩ := y
    unfold wv fv at HT
    simp only at HT
    generalize S.st = st at *
    go_wp2_with fail
    refine HT.out.mono ?_
    rintro e W2 ⟨rfl, hwent⟩
    have HW2 : Hid (Went w W1 rb (takeS 1 S) qs W2 ∧ Keep W1 W2) := ⟨hwent, hwent.keep ⟨_, HR.out.box⟩⟩
    clear hwent HT s3
    obtain ⟨h2, hrd2⟩ := HW2.out.1.rd
    have hb3 : Below W2.heap.size W2 ((W2.alloc (.cells #[.int .i64 yk, .string yt, .int .i64 ya] 109)).alloc (.cells #[.int .i64 f1, .int .i64 f2] 85)) := below_step (below_alloc _ _) (below_alloc _ _)
    have hrd3 := hrd2.step hb3
    have s3 : ((W2.alloc (.cells #[.int .i64 yk, .string yt, .int .i64 ya] 109)).alloc (.cells #[.int .i64 f1, .int .i64 f2] 85)).cell? ⟨rb, 3, none⟩ = some (.string (takeS 1 S).st) := by rw [cell_block hrd3.box]; rfl
    have z5 : ((W2.alloc (.cells #[.int .i64 yk, .string yt, .int .i64 ya] 109)).alloc (.cells #[.int .i64 f1, .int .i64 f2] 85)).frozen? ⟨rb, 3, none⟩ = false := frozen_block hrd3.box 3
    have hst := hrd3.setBox 3 (.string yt) ⟨(takeS 1 S).ws, (takeS 1 S).ts, (takeS 1 S).ls, (takeS 1 S).lv, yt, (takeS 1 S).ed, (takeS 1 S).ex, (takeS 1 S).rs⟩ rfl rfl rfl rfl (by unfold rdC; simp) ⟨hrd3.ok.ends, hrd3.ok.nt, hrd3.ok.nl, hrd3.ok.lv, hrd3.ok.nr⟩
    have hkk : Keep W1 (((W2.alloc (.cells #[.int .i64 yk, .string yt, .int .i64 ya] 109)).alloc (.cells #[.int .i64 f1, .int .i64 f2] 85)).setCell ⟨rb, 3, none⟩ (.string yt)) := (HW2.out.2.trans (keep_of_below hb3)).trans hst.2
    have t2 := hkk.loc _ _ _ HBX.out.2 (by decide) (by decide) (by decide) (by decide)
    obtain ⟨q3, q4, z3, z4⟩ := box46 t2
    have t5 : ((W2.alloc (.cells #[.int .i64 yk, .string yt, .int .i64 ya] 109)).alloc (.cells #[.int .i64 f1, .int .i64 f2] 85)).heap[W2.heap.size + 1]? = some (.cells #[.int .i64 f1, .int .i64 f2] 85 (0, 0)) := by
      have := heap_alloc_new (W2.alloc (.cells #[.int .i64 yk, .string yt, .int .i64 ya] 109)) (.cells #[.int .i64 f1, .int .i64 f2] 85)
      rwa [size_alloc1] at this
    obtain ⟨q5, q6, -, -⟩ := box46 (hst.2.loc _ _ _ t5 (by decide) (by decide) (by decide) (by decide))
    have HS : Hid (RD w (((W2.alloc (.cells #[.int .i64 yk, .string yt, .int .i64 ya] 109)).alloc (.cells #[.int .i64 f1, .int .i64 f2] 85)).setCell ⟨rb, 3, none⟩ (.string yt)) rb h2 ⟨(takeS 1 S).ws, (takeS 1 S).ts, (takeS 1 S).ls, (takeS 1 S).lv, yt, (takeS 1 S).ed, (takeS 1 S).ex, (takeS 1 S).rs⟩ qs ∧ Keep W1 (((W2.alloc (.cells #[.int .i64 yk, .string yt, .int .i64 ya] 109)).alloc (.cells #[.int .i64 f1, .int .i64 f2] 85)).setCell ⟨rb, 3, none⟩ (.string yt)) ∧ Loc (((W2.alloc (.cells #[.int .i64 yk, .string yt, .int .i64 ya] 109)).alloc (.cells #[.int .i64 f1, .int .i64 f2] 85)).setCell ⟨rb, 3, none⟩ (.string yt)) (nb + 1) 85) := ⟨hst.1, hkk, ⟨_, t2⟩⟩
    clear hrd2 hrd3 hst hkk t2 t5 hb3
    generalize (takeS 1 S).st = st2 at s3
    go_wp2_with fail
    refine bodyPost_ret (v := .agg #[.int .i64 f1, .int .i64 f2]) (by simp [results, Tryz.results101, go_sem, *]) rfl ?_
    refine did_fin HS.out.1 (HK1.out.trans HS.out.2.1) HS.out.2.2 HNB.out HWW.out ?_ ?_
    · rw [HSP.out, HFY.out.1]
      rcases takeP_cases 1 S with ⟨-, hP, -, -, hF⟩ | ⟨-, hP, hF, -⟩
      · rw [hP, hF]; rfl
      · rw [hP, hF]; rfl
    · intro S1 hS1
      rw [HSP.out] at hS1
      rcases takeP_cases 1 S with ⟨-, hP, hW, hS, -⟩ | ⟨-, hP, -, -⟩
      · rw [hP] at hS1
        cases hS1
        have e : yt = S.hd.t := by
          have := HFY.out.2
          rw [hW] at this
          rw [← this]
        rw [hS, e]
      · rw [hP] at hS1
        cases hS1
  · have hq : (S.st.toList == []) = false := by
      cases hb : (S.st.toList == [])
      · rfl
      · exact absurd ((toList_nil _).1 hb) hst
    have HF : Hid (startP ⟨xk, xt, xa⟩ S = .error (againF ⟨xk, xt, xa⟩)) := by
      show _ = _
      unfold startP
      rw [if_pos hst]
    obtain ⟨p0, p1, p2⟩ := box35 hb0
    clear hb0 hb1 hnb hB hst
    generalize S.st = st at *
    go_wp2_with fail
    refine (again_calls ⟨xk, xt, xa⟩ _).mono ?_
    rintro e W2 ⟨rfl, hB⟩
    have HB2 : Hid (Below W1.heap.size W1 W2) := hB
    clear hB p0 p1 p2 s3
    obtain ⟨q3, q4, z3, z4⟩ := box46 (block_below HB2.out HBX.out.2)
    unfold fv againF
    simp only
    go_wp2_with fail
    refine bodyPost_ret (v := .agg #[.int .i64 7, .int .i64 xa]) (by simp [results, Tryz.results101, go_sem, *]) rfl ?_
    exact did_fin (HR.out.step HB2.out) (HK1.out.trans (keep_of_below HB2.out)) ⟨_, block_below HB2.out HBX.out.2⟩ HNB.out HWW.out (by rw [HF.out]; rfl) (fun S1 h => by rw [HF.out] at h; cases h)

end Go.Proofs.YtebehlmidoencaaGreatDoor

/-
  The walk of strconv.Atoi at one to four digits.
-/
namespace Go.Proofs.YtebehlmidoencaaGreatDoor
open Go.RowKit

set_option maxRecDepth 20000

theorem numP_take {l : List UInt8} {k : Nat} {c : UInt8} (h : l[k]? = some c) : numP (l.take (k + 1)) = numP (l.take k) * 10 + ((c.toNat : Int) - 48) := by
  unfold numP
  rw [take_succ h, List.foldl_append]
  rfl

theorem numP_range : ∀ (k : Nat) (l : List UInt8), (∀ j, j < l.length → isD (bt l j) = true) → k ≤ l.length → 0 ≤ numP (l.take k) ∧ numP (l.take k) < 10 ^ k
  | 0, l, _, _ => by simp [numP]
  | k + 1, l, hd, hk => by
    obtain ⟨h1, h2⟩ := numP_range k l hd (by omega)
    have hl : k < l.length := by omega
    have hc : l[k]? = some l[k] := List.getElem?_eq_getElem hl
    rw [numP_take hc]
    have h3 := hd k hl
    unfold isD bt at h3
    rw [hc] at h3
    simp at h3
    rw [Int.pow_succ]
    omega

theorem below_bytes (w : World) (s : ByteArray) : Below w.heap.size w (Lib.bytesWorld w 5 s) :=
  ⟨rfl, rfl, rfl, by rw [Lib.bytesWorld_size]; omega, fun k hk => Lib.bytesWorld_at_old w 5 s k hk⟩

set_option maxHeartbeats 8000000 in
theorem atoi107_calls (s : ByteArray) (w : World) (h1 : 1 ≤ s.size) (h4 : s.size ≤ 4) (hd : ∀ j, j < s.size → isD (bt (by8 s) j) = true) :
    Calls Tryz.prog 131 #[.string s] w fun e w' => e = .returned (.tuple #[.int .i64 (numP (by8 s)), .nilIface]) ∧ Below w.heap.size w w' := by
  have HD : Hid (∀ j, j < s.size → isD (bt (by8 s) j) = true) := hd
  have hi0 : ∀ W : World, (Instr.index 9 (.string s) (.int .i64 0)).run Tryz.prog W = .ok (.int .u8 (bt (by8 s) 0)) W := run_index_bt s 0 (by omega)
  have hb0 := hd 0 (by omega)
  clear hd
  unfold isD at hb0
  simp only [Bool.and_eq_true, decide_eq_true_eq] at hb0
  generalize bt (by8 s) 0 = b0 at hi0 hb0
  obtain ⟨hb1, hb2⟩ := hb0
  have e1 : (b0 == 45) = false := by simp; omega
  have e2 : (b0 == 43) = false := by simp; omega
  have hcv : (convert 9 42 (.string s)).run Tryz.prog w = .ok (.slice (some ⟨w.heap.size, 0, none⟩) s.size (grownCap w s.size 0 5)) (Lib.bytesWorld w 5 s) := Lib.run_convert_string_bytes w 9 42 5 s Tryz.underlying9 Tryz.underlying42 Tryz.underlying5
  have hcell := Lib.bytesWorld_cell w 5 s
  have HB : Hid (Below w.heap.size w (Lib.bytesWorld w 5 s)) := below_bytes w s
  have HC : Hid (∀ j, j < s.size → (Lib.bytesWorld w 5 s).cell? ⟨w.heap.size, j, none⟩ = some (.int .u8 (bt (by8 s) j))) := fun j hj => by
    rw [hcell j hj]
    rfl
  clear hcell
  have h1' : (0 : Int) < (s.size : Int) := by omega
  have h2' : (s.size : Int) < 19 := by omega
  have h3' : ¬ (s.size : Int) < 1 := by omega
  have h4' : (s.size : Int) < 10 := by omega
  have HN : Hid (s.size = (by8 s).length) := (by8_length s).symm
  have HCAP : Hid (s.size ≤ grownCap w s.size 0 5) := grownCap_ge _ _ _ _
  generalize grownCap w s.size 0 5 = cap at hcv HCAP
  go_enter Tryz.func131, Tryz.ntmps131
  go_upto_block 0 with fail
  generalize Lib.bytesWorld w 5 s = w1 at *
  obtain ⟨bb, hbb⟩ : ∃ bb, bb = w.heap.size := ⟨_, rfl⟩
  rw [← hbb] at HC ⊢
  clear hbb hcv
  have hcap : s.size ≤ cap := HCAP.out
  go_cut [6] (fun s6 wd => s6 = .int .i64 (numP (by8 s)) ∧ wd = w1)
  case first =>
    go_wp2_with fail
    go_loopg [6, 8, 49] s.size (fun kx s6 s8 s49 wr => ∃ k : Nat, s49 = .int .i64 k ∧ s6 = .int .i64 (numP ((by8 s).take k)) ∧ wr = w1 ∧ k ≤ s.size ∧ s.size - k ≤ kx)
    case atStart => exact ⟨0, rfl, rfl, rfl, Nat.zero_le _, by omega⟩
    case round =>
      obtain ⟨k, rfl, rfl, rfl, hk, hg⟩ := hrel
      by_cases hlt : k < s.size
      · have hlt' : (k : Int) < (s.size : Int) := by omega
        have hcl := HC.out k hlt
        have hdg := HD.out k hlt
        unfold isD at hdg
        simp only [Bool.and_eq_true, decide_eq_true_eq] at hdg
        have hlen : k < (by8 s).length := by rw [← HN.out]; exact hlt
        have hat : (by8 s)[k]? = some (by8 s)[k] := List.getElem?_eq_getElem hlen
        have hbt : bt (by8 s) k = ((((by8 s)[k]).toNat : Nat) : Int) := by unfold bt; rw [hat]; rfl
        have HNX : Hid (numP ((by8 s).take (k + 1)) = numP ((by8 s).take k) * 10 + (bt (by8 s) k - 48)) := by
          show _ = _
          rw [numP_take hat, hbt]
        have hrg := numP_range k (by8 s) (fun j hj => HD.out j (by rw [HN.out]; exact hj)) (by omega)
        have hpw : (10 : Int) ^ k ≤ 1000 := by
          have : k ≤ 3 := by omega
          match k, this with
          | 0, _ => decide
          | 1, _ => decide
          | 2, _ => decide
          | 3, _ => decide
        obtain ⟨d, hd⟩ : ∃ d : Nat, bt (by8 s) k = 48 + (d : Int) := ⟨(bt (by8 s) k - 48).toNat, by omega⟩
        rw [hd] at hcl hdg HNX
        have hd9 : d ≤ 9 := by omega
        have hm : 0 ≤ numP ((by8 s).take k) ∧ numP ((by8 s).take k) ≤ 999 := by omega
        generalize numP ((by8 s).take k) = m at *
        obtain ⟨hm1, hm2⟩ := hm
        clear hat hbt hrg hpw hd hlen hdg
        go_wp2_with fail
        go_roundg (s.size - (k + 1))
        case measure => omega
        case rel => exact ⟨k + 1, by simp, by rw [HNX.out], rfl, by omega, Nat.le_refl _⟩
      · have hlt' : ¬ (k : Int) < (s.size : Int) := by omega
        have HF : Hid ((by8 s).take k = by8 s) := List.take_of_length_le (by rw [← HN.out]; omega)
        go_wp2_with fail
        go_meet
        exact ⟨by rw [HF.out], rfl⟩
  case rest =>
    obtain ⟨rfl, hwc⟩ := hcut
    subst wc
    obtain ⟨m, hm⟩ : ∃ m, m = numP (by8 s) := ⟨_, rfl⟩
    have HM : Hid (numP (by8 s) = m) := hm.symm
    rw [← hm]
    clear hm
    go_wp2_with fail
    refine bodyPost_ret (v := .tuple #[.int .i64 m, .nilIface]) (by simp [results, Tryz.results131, go_sem]) rfl ?_
    exact ⟨by rw [HM.out], HB.out⟩

set_option maxHeartbeats 8000000 in
theorem atoi_calls (s : ByteArray) (w : World) (h1 : 1 ≤ s.size) (h4 : s.size ≤ 4) (hd : ∀ j, j < s.size → isD (bt (by8 s) j) = true) :
    Calls Tryz.prog 120 #[.string s] w fun e w' => e = .returned (.tuple #[.int .i64 (numP (by8 s)), .nilIface]) ∧ Below w.heap.size w w' := by
  have H : Hid (Calls Tryz.prog 131 #[.string s] w fun e w' => e = .returned (.tuple #[.int .i64 (numP (by8 s)), .nilIface]) ∧ Below w.heap.size w w') := atoi107_calls s w h1 h4 hd
  clear hd h1 h4
  generalize numP (by8 s) = m at *
  go_enter Tryz.func120, Tryz.ntmps120
  go_wp2_with fail
  refine H.out.mono ?_
  rintro e w1 ⟨rfl, hB⟩
  have HB : Hid (Below w.heap.size w w1) := hB
  clear hB
  go_wp2_with fail
  refine bodyPost_ret (v := .tuple #[.int .i64 m, .nilIface]) (by simp [results, Tryz.results120, go_sem]) rfl ?_
  exact ⟨rfl, HB.out⟩

end Go.Proofs.YtebehlmidoencaaGreatDoor

/-
  The walk of read's readExpect.
-/
namespace Go.Proofs.YtebehlmidoencaaGreatDoor
open Go.RowKit

set_option maxRecDepth 20000

set_option maxHeartbeats 8000000 in
theorem rdExpect_calls (x : Wd) (w W : World) (rb : Nat) (h : RHd) (S : St) (qs : List (Ru × Option Addr × Nat)) (r : RD w W rb h S qs) :
    Calls Tryz.prog 102 #[.pointer (some ⟨rb, 0, none⟩), wv x] W fun e W' => Did w W rb qs (expectP x S) e W' := by
  obtain ⟨xk, xt, xa⟩ := x
  have hB : Below W.heap.size W ((W.alloc (.cells #[.int .i64 xk, .string xt, .int .i64 xa] 109)).alloc (.cells #[.int .i64 0, .int .i64 0] 85)) := below_step (below_alloc _ _) (below_alloc _ _)
  have hb0 : ((W.alloc (.cells #[.int .i64 xk, .string xt, .int .i64 xa] 109)).alloc (.cells #[.int .i64 0, .int .i64 0] 85)).heap[W.heap.size]? = some (.cells #[.int .i64 xk, .string xt, .int .i64 xa] 109 (0, 0)) := block_below (below_alloc _ _) (heap_alloc_new _ _)
  have hb1 : ((W.alloc (.cells #[.int .i64 xk, .string xt, .int .i64 xa] 109)).alloc (.cells #[.int .i64 0, .int .i64 0] 85)).heap[W.heap.size + 1]? = some (.cells #[.int .i64 0, .int .i64 0] 85 (0, 0)) := by
    have := heap_alloc_new (W.alloc (.cells #[.int .i64 xk, .string xt, .int .i64 xa] 109)) (.cells #[.int .i64 0, .int .i64 0] 85)
    rwa [size_alloc1] at this
  have HR : Hid (RD w ((W.alloc (.cells #[.int .i64 xk, .string xt, .int .i64 xa] 109)).alloc (.cells #[.int .i64 0, .int .i64 0] 85)) rb h S qs) := r.step hB
  have HWW : Hid (w.heap.size ≤ W.heap.size) := r.bel.size
  clear r
  unfold wv
  simp only
  go_enter Tryz.func102, Tryz.ntmps102
  go_upto_region 1 with fail
  generalize (W.alloc (.cells #[.int .i64 xk, .string xt, .int .i64 xa] 109)).alloc (.cells #[.int .i64 0, .int .i64 0] 85) = W1 at hB hb0 hb1 HR ⊢
  obtain ⟨nb, hnb⟩ : ∃ nb, nb = W.heap.size := ⟨_, rfl⟩
  rw [← hnb] at hb0 hb1 ⊢
  have HNB : Hid (W.heap.size ≤ nb + 1) := Nat.le_succ_of_le (Nat.le_of_eq hnb.symm)
  have HK1 : Hid (Keep W W1) := keep_of_below hB
  have HBX : Hid (W1.heap[nb]? = some (.cells #[.int .i64 xk, .string xt, .int .i64 xa] 109 (0, 0)) ∧ W1.heap[nb + 1]? = some (.cells #[.int .i64 0, .int .i64 0] 85 (0, 0))) := ⟨hb0, hb1⟩
  have s4 : W1.cell? ⟨rb, 4, none⟩ = some (.bool S.ed) := by rw [cell_block HR.out.box]; rfl
  cases hed : S.ed
  · rw [hed] at s4
    have HT : Hid (Calls Tryz.prog 104 #[.pointer (some ⟨rb, 0, none⟩), .int .i64 2] W1 fun e W' => e = .returned (.tuple #[wv (takeW 2 S), fv (takeF 2 S)]) ∧ Went w W1 rb (takeS 2 S) qs W') := rdTake_calls 2 (by decide) w W1 rb h S qs HR.out
    have HSP : Hid (expectP ⟨xk, xt, xa⟩ S = (match takeP 2 S with | .error e => .error e | .ok (w, S1) => .ok ⟨S1.ws, S1.ts, S1.ls, S1.lv, S1.st, true, numP (by8 w.t), S1.rs⟩)) := by
      show _ = _
      unfold expectP
      rw [if_neg (by rw [hed]; decide)]
      rfl
    clear hb0 hb1 hnb hB hed
    rcases takeP_cases 2 S with ⟨hk, hP, hW, hS, hF⟩ | ⟨hk, hP, hF, hS⟩
    · rw [hW, hS, hF] at HT
      obtain ⟨hwok, -, -, -, -⟩ := takeP_ok HR.out.ok (by decide) hP
      generalize hy : S.hd = y at *
      obtain ⟨yk, yt, ya⟩ := y
      have HF : Hid (expectP ⟨xk, xt, xa⟩ S = .ok ⟨S.next.ws, S.next.ts, S.next.ls, S.next.lv, S.next.st, true, numP (by8 yt), S.next.rs⟩) := by
        show _ = _
        rw [HSP.out, hP]
      have HNUM : Hid (1 ≤ yt.size ∧ yt.size ≤ 4 ∧ ∀ j, j < yt.size → isD (bt (by8 yt) j) = true) := hwok.num hk
      unfold wv fv at HT
      simp only at HT
      clear hk hP hW hS hF hy hwok HSP
      go_wp2_with fail
      refine HT.out.mono ?_
      rintro e W2 ⟨rfl, hwent⟩
      have HW2 : Hid (Went w W1 rb S.next qs W2 ∧ Keep W1 W2) := ⟨hwent, hwent.keep ⟨_, HR.out.box⟩⟩
      clear hwent HT s4
      go_wp2_with fail
      refine (atoi_calls yt _ HNUM.out.1 HNUM.out.2.1 HNUM.out.2.2).mono ?_
      rintro e W3 ⟨rfl, hB⟩
      have HB3 : Hid (Below W2.heap.size W2 W3) := below_step (below_step (below_alloc _ _) (below_alloc _ _)) hB
      clear hB
      obtain ⟨h2, hrd2⟩ := HW2.out.1.rd
      have hrd3 := hrd2.step HB3.out
      have hs5 := hrd3.setBox 5 (.int .i64 (numP (by8 yt))) ⟨S.next.ws, S.next.ts, S.next.ls, S.next.lv, S.next.st, S.next.ed, numP (by8 yt), S.next.rs⟩ rfl rfl rfl rfl (by unfold rdC; simp) ⟨hrd3.ok.ends, hrd3.ok.nt, hrd3.ok.nl, hrd3.ok.lv, hrd3.ok.nr⟩
      have hs4 := hs5.1.setBox 4 (.bool true) ⟨S.next.ws, S.next.ts, S.next.ls, S.next.lv, S.next.st, true, numP (by8 yt), S.next.rs⟩ rfl rfl rfl rfl (by unfold rdC; simp) ⟨hrd3.ok.ends, hrd3.ok.nt, hrd3.ok.nl, hrd3.ok.lv, hrd3.ok.nr⟩
      have c5 : W3.cell? ⟨rb, 5, none⟩ = some (.int .i64 S.next.ex) := by rw [cell_block hrd3.box]; rfl
      have z5 : W3.frozen? ⟨rb, 5, none⟩ = false := frozen_block hrd3.box 5
      have c4 : W3.cell? ⟨rb, 4, none⟩ = some (.bool S.next.ed) := by rw [cell_block hrd3.box]; rfl
      have z4 : W3.frozen? ⟨rb, 4, none⟩ = false := frozen_block hrd3.box 4
      have hkk : Keep W1 ((W3.setCell ⟨rb, 5, none⟩ (.int .i64 (numP (by8 yt)))).setCell ⟨rb, 4, none⟩ (.bool true)) := ((HW2.out.2.trans (keep_of_below HB3.out)).trans hs5.2).trans hs4.2
      have t2 := hkk.loc _ _ _ HBX.out.2 (by decide) (by decide) (by decide) (by decide)
      obtain ⟨q3, q4, z3, z6⟩ := box46 t2
      have HS : Hid (RD w ((W3.setCell ⟨rb, 5, none⟩ (.int .i64 (numP (by8 yt)))).setCell ⟨rb, 4, none⟩ (.bool true)) rb h2 ⟨S.next.ws, S.next.ts, S.next.ls, S.next.lv, S.next.st, true, numP (by8 yt), S.next.rs⟩ qs ∧ Keep W1 ((W3.setCell ⟨rb, 5, none⟩ (.int .i64 (numP (by8 yt)))).setCell ⟨rb, 4, none⟩ (.bool true)) ∧ Loc ((W3.setCell ⟨rb, 5, none⟩ (.int .i64 (numP (by8 yt)))).setCell ⟨rb, 4, none⟩ (.bool true)) (nb + 1) 85) := ⟨hs4.1, hkk, ⟨_, t2⟩⟩
      clear hrd2 hrd3 hs4 hs5 hkk t2
      generalize S.next.ex = ex0 at c5
      generalize S.next.ed = ed0 at c4
      obtain ⟨m, hm⟩ : ∃ m, m = numP (by8 yt) := ⟨_, rfl⟩
      have HM : Hid (numP (by8 yt) = m) := hm.symm
      rw [← hm] at HS q3 q4 z3 z6 ⊢
      rw [HM.out] at HF
      clear hm
      go_wp2_with fail
      refine bodyPost_ret (v := .agg #[.int .i64 0, .int .i64 0]) (by simp [results, Tryz.results102, go_sem, *]) rfl ?_
      exact did_fin HS.out.1 (HK1.out.trans HS.out.2.1) HS.out.2.2 HNB.out HWW.out (by rw [HF.out]; rfl) (fun S1 h => by rw [HF.out] at h; cases h; rfl)
    · have HN : Hid (expectP ⟨xk, xt, xa⟩ S = .error (formF S.hd)) := by
        show _ = _
        rw [HSP.out, hP]
      rw [hF, hS] at HT
      unfold formF at HT HN
      generalize takeW 2 S = y at HT
      generalize S.hd.a = fa at *
      obtain ⟨yk, yt, ya⟩ := y
      unfold wv fv at HT
      simp only at HT
      clear hk hP hF hS HSP
      go_wp2_with fail
      refine HT.out.mono ?_
      rintro e W2 ⟨rfl, hwent⟩
      have HW2 : Hid (Went w W1 rb S qs W2 ∧ Keep W1 W2) := ⟨hwent, hwent.keep ⟨_, HR.out.box⟩⟩
      clear hwent HT s4
      have hb3 : Below W2.heap.size W2 ((W2.alloc (.cells #[.int .i64 yk, .string yt, .int .i64 ya] 109)).alloc (.cells #[.int .i64 1, .int .i64 fa] 85)) := below_step (below_alloc _ _) (below_alloc _ _)
      have t2 := block_below hb3 (HW2.out.2.loc _ _ _ HBX.out.2 (by decide) (by decide) (by decide) (by decide))
      obtain ⟨q3, q4, z3, z4⟩ := box46 t2
      have HL : Hid (Loc ((W2.alloc (.cells #[.int .i64 yk, .string yt, .int .i64 ya] 109)).alloc (.cells #[.int .i64 1, .int .i64 fa] 85)) (nb + 1) 85 ∧ Below W2.heap.size W2 ((W2.alloc (.cells #[.int .i64 yk, .string yt, .int .i64 ya] 109)).alloc (.cells #[.int .i64 1, .int .i64 fa] 85))) := ⟨⟨_, t2⟩, hb3⟩
      clear t2 hb3
      go_wp2_with fail
      refine bodyPost_ret (v := .agg #[.int .i64 1, .int .i64 fa]) (by simp [results, Tryz.results102, go_sem, *]) rfl ?_
      obtain ⟨h2, hrd2⟩ := HW2.out.1.rd
      exact did_fin (hrd2.step HL.out.2) ((HK1.out.trans HW2.out.2).trans (keep_of_below HL.out.2)) HL.out.1 HNB.out HWW.out (by rw [HN.out]; rfl) (fun S1 h => by rw [HN.out] at h; cases h)
  · rw [hed] at s4
    have HF : Hid (expectP ⟨xk, xt, xa⟩ S = .error (againF ⟨xk, xt, xa⟩)) := by
      show _ = _
      unfold expectP
      rw [if_pos hed]
    obtain ⟨p0, p1, p2⟩ := box35 hb0
    clear hb0 hb1 hnb hB hed
    go_wp2_with fail
    refine (again_calls ⟨xk, xt, xa⟩ _).mono ?_
    rintro e W2 ⟨rfl, hB⟩
    have HB2 : Hid (Below W1.heap.size W1 W2) := hB
    clear hB p0 p1 p2 s4
    obtain ⟨q3, q4, z3, z4⟩ := box46 (block_below HB2.out HBX.out.2)
    unfold fv againF
    simp only
    go_wp2_with fail
    refine bodyPost_ret (v := .agg #[.int .i64 7, .int .i64 xa]) (by simp [results, Tryz.results102, go_sem, *]) rfl ?_
    exact did_fin (HR.out.step HB2.out) (HK1.out.trans (keep_of_below HB2.out)) ⟨_, block_below HB2.out HBX.out.2⟩ HNB.out HWW.out (by rw [HF.out]; rfl) (fun S1 h => by rw [HF.out] at h; cases h)

end Go.Proofs.YtebehlmidoencaaGreatDoor
