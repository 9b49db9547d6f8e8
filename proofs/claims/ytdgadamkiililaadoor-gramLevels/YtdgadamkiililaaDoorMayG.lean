/-
  The walks of mayTokens and May.
-/
import Derived.Test.YtdgadamkiililaaDoorMay
namespace Go.Proofs.YtdgadamkiililaaDoor
open Go.RowKit

/-- All names up to here are names, none twice. -/
def NamesTo (ts : List Tk) (k : Nat) : Prop := ∀ (i : Nat) (t : Tk), i < k → ts[i]? = some t → NameP t.n ∧ ∀ (j : Nat) (u : Tk), j < i → ts[j]? = some u → u.n ≠ t.n

theorem NamesTo.zero (ts : List Tk) : NamesTo ts 0 := fun _ _ h => absurd h (Nat.not_lt_zero _)
theorem NamesTo.succ {ts : List Tk} {k : Nat} {t : Tk} (h : NamesTo ts k) (ht : ts[k]? = some t) (hn : NameP t.n) (hd : ¬ hasN (ts.take k) t.n) : NamesTo ts (k + 1) := fun i u hi hu => by
  rcases Nat.lt_or_ge i k with h1 | h1
  · exact h i u h1 hu
  · have : i = k := by omega
    subst this
    rw [ht] at hu
    cases hu
    refine ⟨hn, fun j v hj hv he => hd ⟨v, ?_, he⟩⟩
    exact List.mem_of_getElem? (i := j) (by rw [List.getElem?_take, if_pos hj]; exact hv)
theorem NamesTo.all {ts : List Tk} (h : NamesTo ts ts.length) : ∀ (i : Nat) (t : Tk), ts[i]? = some t → NameP t.n ∧ ∀ (j : Nat) (u : Tk), j < i → ts[j]? = some u → u.n ≠ t.n :=
  fun i t ht => h i t (List.getElem?_eq_some_iff.1 ht).1 ht

theorem no_dup {ts : List Tk} {k : Nat} {t : Tk} (ht : ts[k]? = some t) (hd : hasN (ts.take k) t.n) : ¬ TokP ts := fun h => by
  obtain ⟨u, hu, he⟩ := hd
  obtain ⟨j, hj⟩ := List.getElem?_of_mem hu
  rw [List.getElem?_take] at hj
  split at hj
  · exact (h.1 k t ht).2 j u (by assumption) hj he
  · cases hj

set_option maxHeartbeats 4000000 in
set_option maxRecDepth 20000 in
theorem mayTokens_calls (ts : List Tk) (ao : Option Addr) (n cap : Nat) (w : World) (hr : Row w 3 ao n cap (tokC ts)) (hn : n = ts.length) (hnn : n ≤ 1000) (hs : ∀ t ∈ ts, t.n.size ≤ 100) (r : Bool) (hp : r = true ↔ TokP ts) :
    Calls Tryd.prog 20 #[.slice ao n cap] w fun e w' => e = .returned (.bool r) ∧ Below w.heap.size w w' := by
  have HN : Hid (n = ts.length) := hn
  have HR : Hid (Row w 3 ao n cap (tokC ts)) := hr
  have HS : Hid (∀ t ∈ ts, t.n.size ≤ 100) := hs
  have HP : Hid (r = true ↔ TokP ts) := hp
  have hle := hr.le
  have hmx : cap ≤ 9223372036854775807 := by have := hr.max; unfold maxLen at this; omega
  clear hr hn hs hp
  go_enter Tryd.func20, Tryd.ntmps20
  go_wp2
  go_loopg [9] n (fun kx s9 wr => ∃ k : Nat, s9 = .int .i64 k ∧ k ≤ n ∧ n - k ≤ kx ∧ Hid (Below w.heap.size w wr ∧ NamesTo ts k))
  case atStart => exact ⟨0, rfl, Nat.zero_le _, by omega, (⟨Below.refl _ _, NamesTo.zero ts⟩ : Below w.heap.size w _ ∧ NamesTo ts 0)⟩
  case round =>
    obtain ⟨k, rfl, hk, hg, J⟩ := hrel
    by_cases hlt : k < n
    · obtain ⟨t, ht⟩ : ∃ t, ts[k]? = some t := ⟨ts[k]'(by rw [← HN.out]; exact hlt), List.getElem?_eq_getElem _⟩
      obtain ⟨b, o, rfl, c0, c1, c2⟩ := tok_at (HR.out.below J.out.1) ht
      have HT : Hid (ts[k]? = some t) := ht
      have hsz := HS.out t (List.mem_of_getElem? ht)
      obtain ⟨tn, tl, ta⟩ := t
      simp only at c0 c1 c2 hsz
      clear ht
      go_upto_region 4 with fail
      have HB : Hid (Below w.heap.size w (wr.alloc (.cells #[.string tn, .int .i64 tl, .int .i64 ta] 35))) := below_step J.out.1 (below_alloc _ _)
      have HK : Hid (NamesTo ts k) := J.out.2
      have d0 : (wr.alloc (.cells #[.string tn, .int .i64 tl, .int .i64 ta] 35)).cell? ⟨wr.heap.size, 0, none⟩ = some (.string tn) := by rw [World.cell?_alloc_mark]; rfl
      generalize wr.alloc (.cells #[.string tn, .int .i64 tl, .int .i64 ta] 35) = wq at HB d0 ⊢
      generalize wr.heap.size = tb at d0 ⊢
      clear c0 c1 c2 J
      have g0 := cell_onto d0
      have H1 : Hid (∀ W : World, Calls Tryd.prog 36 #[.string tn] W fun e w' => e = .returned (.bool (nameOk (by8 tn))) ∧ w' = W) := fun W => lname_calls tn W (by omega)
      obtain ⟨d, hd⟩ := bool_of (hasN (ts.take k) tn)
      have HD : Hid (d = true ↔ hasN (ts.take k) tn) := hd
      have H2 : Hid (∀ W : World, Below wq.heap.size wq W → Calls Tryd.prog 37 #[.slice (some ⟨b, o, none⟩) k cap, .string tn] W fun e w' => e = .returned (.bool d) ∧ Below W.heap.size W w') := fun W hW => hasName_calls (ts.take k) (some ⟨b, o, none⟩) k cap tn W d hd (tok_take (HR.out.below (below_step HB.out hW)) k hk) (by rw [List.length_take, ← HN.out]; omega) (by omega)
      clear hd
      cases hnx : nameOk (by8 tn)
      · rw [hnx] at H1
        have HF : Hid (r = false) := b_false HP.out (fun h => by have := (h.1 k _ HT.out).1; unfold NameP at this; simp only at this; rw [hnx] at this; cases this)
        clear hnx
        refine wp_region_onto (by kernel_rfl) ?_
        repeat (go_big_quiet_step (first | (go_at_call 36; exact calls_onto_same (H1.out _)) | (go_at_call 37; exact calls_onto (H2.out _ (onto_below _ _ _)))))
        refine wpQuiet_nil ?_
        intro _ hwq
        obtain ⟨⟨nq, osq⟩, hwe⟩ := hwq
        subst hwe
        have HB2 : Hid (Below w.heap.size w (onto wq nq osq)) := below_step HB.out (onto_below _ _ _)
        simp only
        generalize onto wq nq osq = wz at HB2 ⊢
        clear g0 d0 H1 H2
        go_wp2
        go_ret
        exact ⟨by rw [HF.out]; rfl, HB2.out⟩
      · rw [hnx] at H1
        cases hdd : d
        · rw [hdd] at H2
          have HF : Hid (NamesTo ts (k + 1)) := HK.out.succ HT.out hnx (fun h => by have := HD.out.2 h; rw [hdd] at this; cases this)
          clear hnx hdd
          refine wp_region_onto (by kernel_rfl) ?_
          repeat (go_big_quiet_step (first | (go_at_call 36; exact calls_onto_same (H1.out _)) | (go_at_call 37; exact calls_onto (H2.out _ (onto_below _ _ _)))))
          refine wpQuiet_nil ?_
          intro _ hwq
          obtain ⟨⟨nq, osq⟩, hwe⟩ := hwq
          subst hwe
          have HB2 : Hid (Below w.heap.size w (onto wq nq osq)) := below_step HB.out (onto_below _ _ _)
          simp only
          generalize onto wq nq osq = wz at HB2 ⊢
          clear g0 d0 H1 H2
          go_wp2
          go_roundg (n - (k + 1))
          case measure => omega
          case rel => exact ⟨k + 1, by simp, by omega, Nat.le_refl _, (⟨HB2.out, HF.out⟩ : Below w.heap.size w _ ∧ NamesTo ts (k + 1))⟩
        · rw [hdd] at H2
          have HF : Hid (r = false) := b_false HP.out (no_dup HT.out (HD.out.1 hdd))
          clear hnx hdd
          refine wp_region_onto (by kernel_rfl) ?_
          repeat (go_big_quiet_step (first | (go_at_call 36; exact calls_onto_same (H1.out _)) | (go_at_call 37; exact calls_onto (H2.out _ (onto_below _ _ _)))))
          refine wpQuiet_nil ?_
          intro _ hwq
          obtain ⟨⟨nq, osq⟩, hwe⟩ := hwq
          subst hwe
          have HB2 : Hid (Below w.heap.size w (onto wq nq osq)) := below_step HB.out (onto_below _ _ _)
          simp only
          generalize onto wq nq osq = wz at HB2 ⊢
          clear g0 d0 H1 H2
          go_wp2
          go_ret
          exact ⟨by rw [HF.out]; rfl, HB2.out⟩
    · obtain rfl : k = n := by omega
      have HK : Hid (∀ (i : Nat) (t : Tk), ts[i]? = some t → NameP t.n ∧ ∀ (j : Nat) (u : Tk), j < i → ts[j]? = some u → u.n ≠ t.n) := NamesTo.all (by rw [← HN.out]; exact J.out.2)
      have HC := levelsOf_calls ts ao k cap wr (HR.out.below J.out.1) HN.out hnn
      have HC2 : Hid (Calls Tryd.prog 38 #[.slice ao k cap] wr fun e w' => ∃ (l : List Int) (r : Int), e = .returned (.tuple #[.agg (ar9 l), .bool (decide (r = 1))]) ∧ LevOf ts l (decide (r = 1)) ∧ Below wr.heap.size wr w') := HC
      clear HC
      go_wp2_with fail
      refine HC2.out.mono ?_
      rintro e w2 ⟨l, ri, rfl, hl, hB⟩
      have HF : Hid (r = decide (ri = 1)) := by
        show _ = _
        rw [Bool.eq_iff_iff, HP.out]
        unfold TokP
        rw [hl.2.1]
        exact ⟨fun h => h.2, fun h => ⟨HK.out, h⟩⟩
      have HB : Hid (Below w.heap.size w w2) := below_step J.out.1 hB
      obtain ⟨xa, xb, xc, xd, xe, xf, xg, xi, xj, rfl⟩ := nine hl.1
      rw [show ar9 [xa, xb, xc, xd, xe, xf, xg, xi, xj] = #[.int .i64 xa, .int .i64 xb, .int .i64 xc, .int .i64 xd, .int .i64 xe, .int .i64 xf, .int .i64 xg, .int .i64 xi, .int .i64 xj] from rfl]
      generalize decide (ri = 1) = rb at HF
      clear hl hB J HC2
      go_wp2_with fail
      go_ret
      exact ⟨by rw [HF.out]; rfl, below_step HB.out (below_alloc _ _)⟩

/-- May of a grammar in memory. -/
def MayCalls (F : Nat) : Prop := ∀ (G : Gm) (h : Hd) (w : World) (r : Bool), IsG w h G → (r = true ↔ MayP G) → Calls Tryd.prog F #[gv h G] w fun e w' => e = .returned (.bool r) ∧ Below w.heap.size w w'

theorem rules_le {w : World} {ao : Option Addr} {n cap : Nat} {rs : List Ru} (h : RulesAt w ao n cap rs) : n ≤ cap ∧ cap ≤ 9223372036854775807 := by
  obtain ⟨qs, -, h2, -⟩ := h
  have := h2.le
  have h3 := h2.max
  unfold maxLen at h3
  omega

set_option maxHeartbeats 2000000 in
theorem may_calls : MayCalls 10 := by
  intro G h w r hG hp
  obtain ⟨ts, st, ex, rs⟩ := G
  obtain ⟨ta, tc, ra, rc⟩ := h
  have HP : Hid (r = true ↔ MayP ⟨ts, st, ex, rs⟩) := hp
  have hm1 : ts.length ≤ tc ∧ tc ≤ 9223372036854775807 := by have h1 := hG.tok.le; have h2 := hG.tok.max; simp only at h1 h2; unfold maxLen at h2; omega
  have hm2 := rules_le hG.rul
  simp only at hm2
  have hs1 : ts.length ≤ 100 := hG.small.nt
  have hs2 : rs.length ≤ 200 := hG.small.nr
  have HG : Hid (IsG w ⟨ta, tc, ra, rc⟩ ⟨ts, st, ex, rs⟩) := hG
  unfold gv
  simp only
  obtain ⟨b1, hb1⟩ := bool_of (TokP ts)
  have HB1 : Hid (b1 = true ↔ TokP ts) := hb1
  obtain ⟨b2, hb2⟩ := bool_of (NoneP st)
  have HB2 : Hid (b2 = true ↔ NoneP st) := hb2
  obtain ⟨b3, hb3⟩ := bool_of (∀ r ∈ rs, RuleP r)
  have HB3 : Hid (b3 = true ↔ ∀ r ∈ rs, RuleP r) := hb3
  have H1 : Hid (∀ W : World, Below w.heap.size w W → Calls Tryd.prog 20 #[.slice ta ts.length tc] W fun e w' => e = .returned (.bool b1) ∧ Below W.heap.size W w') := fun W hW => mayTokens_calls ts ta ts.length tc W (HG.out.tok.below hW) rfl (by omega) HG.out.small.tk b1 hb1
  have H2 : Hid (∀ W : World, Calls Tryd.prog 21 #[.string st] W fun e w' => e = .returned (.bool b2) ∧ w' = W) := fun W => nameOrNone_calls st W HG.out.small.st b2 hb2
  have H3 : Hid (∀ W : World, Below w.heap.size w W → Calls Tryd.prog 22 #[.slice ra rs.length rc] W fun e w' => e = .returned (.bool b3) ∧ Below W.heap.size W w') := fun W hW => mayRules_calls rs ra rs.length rc W (HG.out.rul.below hW) rfl (by omega) hm2.1 hm2.2 HG.out.small.rl b3 hb3
  have HE : Hid (MayP ⟨ts, st, ex, rs⟩ ↔ ts.length ≤ 40 ∧ rs.length ≤ 100 ∧ TokP ts ∧ NoneP st ∧ 0 ≤ ex ∧ ex ≤ 9999 ∧ ∀ r ∈ rs, RuleP r) := ⟨fun h => ⟨h.nt, h.nr, h.tk, h.st, h.e0, h.e1, h.rl⟩, fun ⟨h1, h2, h3, h4, h5, h6, h7⟩ => ⟨h1, h2, h5, h6, h4, h3, h7⟩⟩
  clear hG hp hb1 hb2 hb3
  by_cases h40 : ts.length ≤ 40
  · by_cases h100 : rs.length ≤ 100
    · have HF : Hid (r = (b1 && b2 && decide (0 ≤ ex) && decide (ex ≤ 9999) && b3)) := by
        show _ = _
        rw [Bool.eq_iff_iff, HP.out, HE.out]
        simp only [Bool.and_eq_true, decide_eq_true_eq, HB1.out, HB2.out, HB3.out]
        constructor
        · rintro ⟨-, -, h3, h4, h5, h6, h7⟩; exact ⟨⟨⟨⟨h3, h4⟩, h5⟩, h6⟩, h7⟩
        · rintro ⟨⟨⟨⟨h3, h4⟩, h5⟩, h6⟩, h7⟩; exact ⟨h40, h100, h3, h4, h5, h6, h7⟩
      generalize ts.length = tn at *
      generalize rs.length = rn at *
      clear HE HP HB1 HB2 HB3 HG
      go_enter Tryd.func10, Tryd.ntmps10
      go_upto_region 3 with fail
      have c0 : (w.alloc (.cells #[.slice ta tn tc, .string st, .int .i64 ex, .slice ra rn rc] 25)).cell? ⟨w.heap.size, 0, none⟩ = some (.slice ta tn tc) := by rw [World.cell?_alloc_mark]; rfl
      have c1 : (w.alloc (.cells #[.slice ta tn tc, .string st, .int .i64 ex, .slice ra rn rc] 25)).cell? ⟨w.heap.size, 1, none⟩ = some (.string st) := by rw [World.cell?_alloc_mark]; rfl
      have c2 : (w.alloc (.cells #[.slice ta tn tc, .string st, .int .i64 ex, .slice ra rn rc] 25)).cell? ⟨w.heap.size, 2, none⟩ = some (.int .i64 ex) := by rw [World.cell?_alloc_mark]; rfl
      have c3 : (w.alloc (.cells #[.slice ta tn tc, .string st, .int .i64 ex, .slice ra rn rc] 25)).cell? ⟨w.heap.size, 3, none⟩ = some (.slice ra rn rc) := by rw [World.cell?_alloc_mark]; rfl
      have HB : Hid (Below w.heap.size w (w.alloc (.cells #[.slice ta tn tc, .string st, .int .i64 ex, .slice ra rn rc] 25))) := below_alloc _ _
      generalize w.alloc (.cells #[.slice ta tn tc, .string st, .int .i64 ex, .slice ra rn rc] 25) = wq at c0 c1 c2 c3 HB ⊢
      generalize w.heap.size = gb at c0 c1 c2 c3 ⊢

      go_wp2_with fail
      refine (H1.out _ HB.out).mono ?_
      rintro e w1 ⟨rfl, hB1⟩
      have c1 := cell_below hB1 c1
      have c2 := cell_below hB1 c2
      have c3 := cell_below hB1 c3
      have HB' : Hid (Below w.heap.size w w1) := below_step HB.out hB1
      clear hB1 c0
      cases b1
      · have HF2 : Hid (r = false) := HF.out
        clear HF
        go_wp2_with fail
        go_ret
        exact ⟨by rw [HF2.out]; rfl, HB'.out⟩
      · cases b2
        · have HF2 : Hid (r = false) := HF.out
          clear HF
          go_wp2_with (go_at_call 21; refine (H2.out _).mono ?_; rintro e w2 ⟨rfl, rfl⟩)
          go_ret
          exact ⟨by rw [HF2.out]; rfl, HB'.out⟩
        · by_cases he0 : 0 ≤ ex
          · by_cases he1 : ex ≤ 9999
            · have HF2 : Hid (r = b3) := by have := HF.out; rwa [decide_eq_true he0, decide_eq_true he1] at this
              clear HF
              go_wp2_with (first | (go_at_call 21; refine (H2.out _).mono ?_; rintro e w2 ⟨rfl, rfl⟩) | (go_at_call 22; refine (H3.out _ HB'.out).mono ?_; rintro e w3 ⟨rfl, hB3⟩))
              go_ret
              exact ⟨by rw [HF2.out]; rfl, below_step HB'.out hB3⟩
            · have HF2 : Hid (r = false) := by have := HF.out; rwa [decide_eq_true he0, decide_eq_false he1] at this
              clear HF
              go_wp2_with (first | (go_at_call 21; refine (H2.out _).mono ?_; rintro e w2 ⟨rfl, rfl⟩))
              go_ret
              exact ⟨by rw [HF2.out]; rfl, HB'.out⟩
          · have HF2 : Hid (r = false) := by have := HF.out; rwa [decide_eq_false he0] at this
            clear HF
            go_wp2_with (first | (go_at_call 21; refine (H2.out _).mono ?_; rintro e w2 ⟨rfl, rfl⟩))
            go_ret
            exact ⟨by rw [HF2.out]; rfl, HB'.out⟩
    · have HF : Hid (r = false) := b_false HP.out (fun h => h100 h.nr)
      have h1 : (100 : Int) < (rs.length : Int) := by omega
      have h40' : ¬ (40 : Int) < (ts.length : Int) := by omega
      generalize ts.length = tn at *
      generalize rs.length = rn at *
      clear HE HP HB1 HB2 HB3 HG H1 H2 H3
      go_enter Tryd.func10, Tryd.ntmps10
      go_wp2_with fail
      go_ret
      exact ⟨by rw [HF.out]; rfl, below_alloc _ _⟩
  · have HF : Hid (r = false) := b_false HP.out (fun h => h40 h.nt)
    have h40' : (40 : Int) < (ts.length : Int) := by omega
    generalize ts.length = tn at *
    generalize rs.length = rn at *
    clear HE HP HB1 HB2 HB3 HG H1 H2 H3
    go_enter Tryd.func10, Tryd.ntmps10
    go_wp2_with fail
    go_ret
    exact ⟨by rw [HF.out]; rfl, below_alloc _ _⟩

end Go.Proofs.YtdgadamkiililaaDoor
