/-
  GramLevels: whatever the two lists, the call returns true and leaves all that was there as it was.
-/
import Derived.Test.YtdgadamkiililaaDoorRtext
import Derived.Test.YtdgadamkiililaaDoorBox
import Derived.Deep.RegionLaw
namespace Go.Proofs.YtdgadamkiililaaDoor.Levels
open Go.RowKit

/-- append as one step of a region that draws, its run told. -/
theorem step_append_run {ops : Array Oper} {o : Oper} {a : Act} {w w' : World} {K : Act → World → Prop} {Q : Exit → Act → World → Prop} {E : Prop} {u v r : Value} {t : TypeId}
    (hg : o.guard = none) (s x : Operand) (hop : o.op = Op.call { callee := Callee.builtin Builtin.append, args := #[s, x], argTypes := #[t, t] }) (ht : o.type = t)
    (hs : a.eval s = u) (hx : a.eval x = v) (hrun : (Builtin.append_ #[t, t] t #[u, v]).run Tryd.prog w = .ok r w')
    (hK : K (a.put o.dst r) w') :
    if Region.wanted o (yielded ops a.tmps) = true then Oper.wp Tryd.prog o a w K Q else E := by
  have hw : Region.wanted o (yielded ops a.tmps) = true := by simp [Region.wanted, hg]
  rw [if_pos hw]
  unfold Oper.wp
  simp [execOp, hop, resolve, invoke, builtin, hs, hx, ht, hrun, Result.andThen]
  exact hK

/-- A list of whole numbers that came in, as it is read. -/
def RdI (w : World) (ao : Option Addr) (n cap : Nat) (zs : List Int) : Prop :=
  n ≤ cap ∧ cap ≤ 9223372036854775807 ∧ ∀ i, i < n → ∃ b o, ao = some ⟨b, o, none⟩ ∧ w.cell? ⟨b, o + i, none⟩ = some (.int .i64 (zs.getD i 0))

theorem RdI.below {w w' : World} {ao : Option Addr} {n cap : Nat} {zs : List Int} (h : RdI w ao n cap zs) (hb : Below w.heap.size w w') : RdI w' ao n cap zs :=
  ⟨h.1, h.2.1, fun i hi => by
    obtain ⟨b, o, e, hc⟩ := h.2.2 i hi
    exact ⟨b, o, e, cell_below hb hc⟩⟩

def tn2 (i : Nat) : ByteArray := strOfNums [116, IntKind.u8.wrap (IntKind.i64.wrap (48 + (i : Int)))]
theorem tn2_size (i : Nat) : (tn2 i).size ≤ 100 := by
  have : (tn2 i).size = 2 := rfl
  omega

def GL (w1 wr : World) (gb i : Nat) : Prop := ∃ ts' : List Tk, ts'.length = i ∧ (∀ t ∈ ts', t.n.size ≤ 100) ∧ ∃ h qs, GB w1 wr gb h ⟨sumsG.ts ++ ts', e0, 0, sumsG.rs⟩ qs

theorem below_drew (w : World) : Below w.heap.size w w.drew := ⟨rfl, rfl, rfl, Nat.le_refl _, fun _ _ => rfl⟩

set_option maxHeartbeats 8000000 in
set_option maxRecDepth 20000 in
theorem walk (a0 : Option Addr) (len0 cap0 : Nat) (z0 : List Int) (a1 : Option Addr) (len1 cap1 : Nat) (z1 : List Int) (w : World) (hp : Pow w) (h0 : RdI w a0 len0 cap0 z0) (h1 : RdI w a1 len1 cap1 z1) :
    Calls Tryd.prog 5 #[.slice a0 len0 cap0, .slice a1 len1 cap1] w fun e w' => e = .returned (.bool true) ∧ Below w.heap.size w w' := by
  have HBe : Hid (Calls Tryd.prog 8 #[] w fun e w' => e = .returned (.bool true) ∧ Below w.heap.size w w') := begun5_calls w hp
  have HP : Hid (Pow w) := hp
  have R0 : Hid (RdI w a0 len0 cap0 z0) := h0
  have R1 : Hid (RdI w a1 len1 cap1 z1) := h1
  have hm0 : len0 ≤ cap0 ∧ cap0 ≤ 9223372036854775807 := ⟨h0.1, h0.2.1⟩
  have hm1 : len1 ≤ cap1 ∧ cap1 ≤ 9223372036854775807 := ⟨h1.1, h1.2.1⟩
  clear hp h0 h1
  go_enter Tryd.func5, Tryd.ntmps5
  go_wp2_with fail
  refine HBe.out.mono ?_
  rintro e w1 ⟨rfl, hB⟩
  have B1 : Hid (Below w.heap.size w w1 ∧ Pow w1) := ⟨hB, HP.out.below hB⟩
  clear hB HBe HP
  go_wp2_with fail
  refine (sums_calls w1).mono ?_
  rintro e w2 ⟨⟨ta, tc, ra, rc⟩, qs, rfl, hO, hB2⟩
  have egv : gv ⟨ta, tc, ra, rc⟩ sumsG = .agg #[.slice ta 3 tc, .string ⟨#[]⟩, .int .i64 0, .slice ra 3 rc] := rfl
  rw [egv]
  have HG0 : Hid (GL w1 (w2.alloc (.cells #[.slice ta 3 tc, .string ⟨#[]⟩, .int .i64 0, .slice ra 3 rc] 25)) w2.heap.size 0) :=
    (⟨[], rfl, fun t ht => (by cases ht), ⟨ta, tc, ra, rc⟩, qs, heap_alloc_new _ _, hO.below (below_alloc _ _), below_step hB2 (below_alloc _ _), hB2.size⟩ : GL w1 _ _ 0)
  clear egv hO hB2
  go_upto_block 0 with fail
  generalize w2.alloc (.cells #[.slice ta 3 tc, .string ⟨#[]⟩, .int .i64 0, .slice ra 3 rc] 25) = w3 at HG0 ⊢
  obtain ⟨gb, hgb⟩ : ∃ gb, gb = w2.heap.size := ⟨_, rfl⟩
  rw [← hgb] at HG0 ⊢
  clear hgb
  go_cut [7] (fun s7 wd => Hid (∃ i, i ≤ 8 ∧ GL w1 wd gb i))
  case first =>
    go_wp2_with fail
    go_loopg [7] 8 (fun kx s7 wr => ∃ i : Nat, s7 = .int .i64 i ∧ i ≤ 8 ∧ 8 - i ≤ kx ∧ Hid (GL w1 wr gb i))
    case atStart => exact ⟨0, rfl, Nat.zero_le _, by omega, HG0⟩
    case round =>
      obtain ⟨i, rfl, hi, hg, J⟩ := hrel
      clear HG0
      by_cases hl0 : i < len0
      · by_cases hl1 : i < len1
        · by_cases hl8 : i < 8
          · have hl8' : (i : Int) < 8 := by omega
            obtain ⟨ts', htl, hts, ⟨ta, tc, ra, rc⟩, qs, hG⟩ := J.out
            have hbw : Below w.heap.size w wr := below_step B1.out.1 hG.bel
            obtain ⟨b0, o0, ha0, q0⟩ := (R0.out.below hbw).2.2 i hl0
            obtain ⟨b1, o1, ha1, q1⟩ := (R1.out.below hbw).2.2 i hl1
            subst ha0 ha1
            obtain ⟨c0, -, -, -, -⟩ := hG.cells
            have eln : (sumsG.ts ++ ts').length = 3 + i := by rw [List.length_append, htl]; rfl
            simp only at c0
            rw [eln] at c0
            have q0' := cell_alloc q0
            have q1' := cell_alloc q1
            have c0' := cell_alloc c0
            have c0'' := fun o => cell_alloc (c0' o)
            generalize z0.getD i 0 = lv at q0 q0'
            generalize z1.getD i 0 = av at q1 q1'
            have hcv : (convert 33 9 (.slice (some ⟨wr.heap.size, 0, none⟩) 2 2)).run Tryd.prog (wr.alloc (.cells #[.int .u8 116, .int .u8 (IntKind.u8.wrap (IntKind.i64.wrap (48 + (i : Int))))] 5)).drew = .ok (.string (tn2 i)) (wr.alloc (.cells #[.int .u8 116, .int .u8 (IntKind.u8.wrap (IntKind.i64.wrap (48 + (i : Int))))] 5)).drew :=
              run_convert_bytes_arg _ 33 5 Tryd.underlying33 Tryd.underlying5 wr.heap.size 0 2 2 [116, IntKind.u8.wrap (IntKind.i64.wrap (48 + (i : Int)))] rfl (fun j hj => by
                show (wr.alloc (.cells #[.int .u8 116, .int .u8 (IntKind.u8.wrap (IntKind.i64.wrap (48 + (i : Int))))] 5)).cell? _ = _
                rw [World.cell?_alloc_mark]
                match j, hj with
                | 0, _ => rfl
                | 1, _ => rfl) 9 Tryd.underlying9
            have hG2 := hG.step (below_step (below_drew wr) (below_alloc wr.drew (.cells #[.int .u8 116, .int .u8 (IntKind.u8.wrap (IntKind.i64.wrap (48 + (i : Int))))] 5)))
            obtain ⟨ao, n, c, w5, hrun, hn, hbox, hG3⟩ := hG2.addTok (by simp only; rw [eln]; omega) ⟨tn2 i, lv, av⟩
            simp only [size_alloc1] at hrun
            rw [eln] at hrun
            have hrun2 : (Builtin.append_ #[22, 22] 22 #[.slice ta (3 + i) tc, .slice (some ⟨wr.heap.size + 1, 0, none⟩) 1 1]).run Tryd.prog (((wr.alloc (.cells #[.int .u8 116, .int .u8 (IntKind.u8.wrap (IntKind.i64.wrap (48 + (i : Int))))] 5)).alloc (.cells #[.string (tn2 i), .int .i64 lv, .int .i64 av] 35)).drew) = .ok (.slice ao n c) w5 := hrun
            have d0 : w5.cell? ⟨gb, 0, none⟩ = some (.slice ta (3 + i) tc) := by rw [cell_block hbox]; simp [boxC, eln]
            have f0 : w5.frozen? ⟨gb, 0, none⟩ = false := frozen_block hbox 0
            have HF : Hid (GL w1 (w5.setCell ⟨gb, 0, none⟩ (.slice ao n c)) gb (i + 1)) := by
              have h3 := hG3
              simp only [List.append_assoc] at h3
              exact ⟨ts' ++ [⟨tn2 i, lv, av⟩], by rw [List.length_append, htl]; rfl, fun t ht => by
                rcases List.mem_append.1 ht with h | h
                · exact hts t h
                · rw [List.mem_singleton] at h
                  subst h
                  exact tn2_size i, _, _, h3⟩
            clear hG hG2 hG3 hbox hn J hts htl hrun hbw
            generalize tn2 i = nm at hcv hrun2
            go_upto_block 1 with fail
            go_cut [45] from 12 to 46 (fun s45 wd => Hid (GL w1 wd gb (i + 1)))
            case first =>
              go_wp2_with fail
              go_region_law (refine step_append_run rfl (.tmp 29) (.tmp 44) rfl rfl (by simp [Act.eval]) (by simp [Act.eval]) hrun2 ?_)
              all_goals (go_wp2_with fail; go_meet; exact HF)
            case rest =>
              go_wp2_with fail
              go_roundg (8 - (i + 1))
              case measure => omega
              case rel => exact ⟨i + 1, by simp, by omega, Nat.le_refl _, hcut⟩
          · have hl8' : ¬ (i : Int) < 8 := by omega
            have HF : Hid (∃ i, i ≤ 8 ∧ GL w1 wr gb i) := ⟨i, hi, J.out⟩
            clear J
            go_wp2_with fail
            go_meet
            exact HF
        · have hl1' : ¬ (i : Int) < (len1 : Int) := by omega
          have HF : Hid (∃ i, i ≤ 8 ∧ GL w1 wr gb i) := ⟨i, hi, J.out⟩
          clear J
          go_wp2_with fail
          go_meet
          exact HF
      · have hl0' : ¬ (i : Int) < (len0 : Int) := by omega
        have HF : Hid (∃ i, i ≤ 8 ∧ GL w1 wr gb i) := ⟨i, hi, J.out⟩
        clear J
        go_wp2_with fail
        go_meet
        exact HF
  case rest =>
    obtain ⟨w9, hw9⟩ : ∃ w9, w9 = wc := ⟨_, rfl⟩
    subst wc
    obtain ⟨i, hi, ts', htl, hts, ⟨ta, tc, ra, rc⟩, qs, hG⟩ := hcut.out
    have eln : (sumsG.ts ++ ts').length = 3 + i := by rw [List.length_append, htl]; rfl
    have hsm : Small ⟨sumsG.ts ++ ts', e0, 0, sumsG.rs⟩ := ⟨by simp only; rw [eln]; omega, sums_small.nr, sums_small.st, fun t ht => by
      rcases List.mem_append.1 ht with h | h
      · exact sums_small.tk t h
      · exact hts t h, sums_small.rl⟩
    have hI := hG.own.isG hsm
    obtain ⟨c0, c1, c2, c3, -⟩ := hG.cells
    obtain ⟨good, hgood⟩ := bool_of (MayP ⟨sumsG.ts ++ ts', e0, 0, sumsG.rs⟩)
    obtain ⟨T, hT⟩ := textP_ex ⟨sumsG.ts ++ ts', e0, 0, sumsG.rs⟩
    have egv : gv ⟨ta, tc, ra, rc⟩ ⟨sumsG.ts ++ ts', e0, 0, sumsG.rs⟩ = .agg #[.slice ta (3 + i) tc, .string ⟨#[]⟩, .int .i64 0, .slice ra 3 rc] := by
      unfold gv; rw [eln]; rfl
    have HPW : Hid (Pow w9) := B1.out.2.below hG.bel
    have M1 : Hid (∀ W : World, Below w9.heap.size w9 W → Calls Tryd.prog 10 #[.agg #[.slice ta (3 + i) tc, .string ⟨#[]⟩, .int .i64 0, .slice ra 3 rc]] W fun e w' => e = .returned (.bool good) ∧ Below W.heap.size W w') := fun W hW => by
      have := may_calls _ ⟨ta, tc, ra, rc⟩ W good (hI.below hW) hgood
      rwa [egv] at this
    have M2 : Hid (∀ W : World, Below w9.heap.size w9 W → Calls Tryd.prog 11 #[.agg #[.slice ta (3 + i) tc, .string ⟨#[]⟩, .int .i64 0, .slice ra 3 rc]] W fun e w' => e = .returned (.bool good) ∧ Below W.heap.size W w') := fun W hW => by
      have := rmay_calls _ ⟨ta, tc, ra, rc⟩ W good (hI.below hW) hgood
      rwa [egv] at this
    have T1 : Hid (∀ W : World, Below w9.heap.size w9 W → Calls Tryd.prog 12 #[.agg #[.slice ta (3 + i) tc, .string ⟨#[]⟩, .int .i64 0, .slice ra 3 rc]] W fun e w' => e = .returned (.string T) ∧ Below W.heap.size W w') := fun W hW => by
      have := text_calls _ ⟨ta, tc, ra, rc⟩ W T (hI.below hW) (HPW.out.below hW) hT
      rwa [egv] at this
    have T2 : Hid (∀ W : World, Below w9.heap.size w9 W → Calls Tryd.prog 13 #[.agg #[.slice ta (3 + i) tc, .string ⟨#[]⟩, .int .i64 0, .slice ra 3 rc]] W fun e w' => e = .returned (.string T) ∧ Below W.heap.size W w') := fun W hW => by
      have := rtext_calls _ ⟨ta, tc, ra, rc⟩ W T (hI.below hW) (HPW.out.below hW) hT
      rwa [egv] at this
    simp only at c0 c1 c2 c3
    rw [eln] at c0
    have g0 := cell_onto c0
    have g1 : ∀ n os, (onto w9 n os).cell? ⟨gb, 1, none⟩ = some (.string ⟨#[]⟩) := cell_onto c1
    have g2 := cell_onto c2
    have g3 : ∀ n os, (onto w9 n os).cell? ⟨gb, 3, none⟩ = some (.slice ra 3 rc) := cell_onto c3
    have HB9 : Hid (∀ n os, Below w.heap.size w (onto w9 n os)) := fun n os => below_step (below_step B1.out.1 hG.bel) (onto_below w9 n os)
    have hTT : (T.toList == T.toList) = true := by simp
    clear hcut hG hI c0 c1 c2 c3 eln hsm hgood hT egv HPW HG0
    go_upto_region 9 with fail
    cases good
    · refine wp_region_onto (by kernel_rfl) ?_
      repeat (go_big_quiet_step (first | (go_at_call 10; exact calls_onto (M1.out _ (onto_below _ _ _))) | (go_at_call 11; exact calls_onto (M2.out _ (onto_below _ _ _))) | (go_at_call 12; exact calls_onto (T1.out _ (onto_below _ _ _))) | (go_at_call 13; exact calls_onto (T2.out _ (onto_below _ _ _)))))
      refine wpQuiet_nil ?_
      intro _ hwq
      obtain ⟨⟨nq, osq⟩, hwe⟩ := hwq
      subst hwe
      go_wp2_with fail
      go_ret
      exact ⟨rfl, HB9.out _ _⟩
    · refine wp_region_onto (by kernel_rfl) ?_
      repeat (go_big_quiet_step (first | (go_at_call 10; exact calls_onto (M1.out _ (onto_below _ _ _))) | (go_at_call 11; exact calls_onto (M2.out _ (onto_below _ _ _))) | (go_at_call 12; exact calls_onto (T1.out _ (onto_below _ _ _))) | (go_at_call 13; exact calls_onto (T2.out _ (onto_below _ _ _)))))
      refine wpQuiet_nil ?_
      intro _ hwq
      obtain ⟨⟨nq, osq⟩, hwe⟩ := hwq
      subst hwe
      go_wp2_with fail
      go_ret
      exact ⟨rfl, HB9.out _ _⟩

end Go.Proofs.YtdgadamkiililaaDoor.Levels
