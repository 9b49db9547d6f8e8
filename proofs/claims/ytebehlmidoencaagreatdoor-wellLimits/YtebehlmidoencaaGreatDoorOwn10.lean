/-
  Texts that the proof of the Well statements stands on, part Own10.
-/
import Derived.Test.YtebehlmidoencaaGreatDoorOwn09
import Derived.Test.YtebehlmidoencaaGreatDoorOwn05
import Derived.Test.YtebehlmidoencaaGreatDoorOwn06
import Derived.Test.YtebehlmidoencaaGreatDoorOwn02
/-
  The walk of the reference's Reached.
-/
namespace Go.Proofs.YtebehlmidoencaaGreatDoor
open Go.RowKit

set_option maxRecDepth 20000

/-- What holds between two rounds. -/
def RRs (w W : World) (h : SHd) (S : Sp) (b1 yb n : Nat) (fd : List Bool) : Prop := RY w W h S b1 yb n fd ∧ AllRch S fd ∧ isF fd S.st = true

set_option maxHeartbeats 8000000 in
theorem rreached_calls (w : World) (h : SHd) (S : Sp) (n : Nat) (hnn : n = S.tk + 1 + S.nt) (hwf : WF S) (hsp : IsSp w h S) :
    Calls Tryz.prog 35 #[sv h S] w fun e w' => BRes w w' n (Rch S) e := by
  have hn : n ≤ 1000 := by have := hwf.tk; have := hwf.nt; omega
  have hrn : S.rs.length ≤ 300 := hwf.nr
  have hr0 : 1 ≤ S.rs.length := by have := (List.getElem?_eq_some_iff.1 hwf.hd).1; omega
  have HWF : Hid (WF S ∧ IsSp w h S ∧ n = S.tk + 1 + S.nt) := ⟨hwf, hsp, hnn⟩
  have hB0 : Below w.heap.size w (w.alloc (.cells (sC h S) 32)) := below_alloc _ _
  have hs0 : (w.alloc (.cells (sC h S) 32)).heap[w.heap.size]? = some (.cells (sC h S) 32 (0, 0)) := heap_alloc_new _ _
  have htk : S.tk ≤ 100 := hwf.tk
  have hnt : S.nt ≤ 200 := hwf.nt
  obtain ⟨rb, ro, -, -, hra, -⟩ := hsp.rl.at hwf.hd
  have HRA : Hid (h.ra = some ⟨rb, ro, none⟩) := hra
  have hrc := srs_lens hsp.rl
  clear hwf hsp hnn
  unfold sv sC
  rw [hra]
  clear hra
  obtain ⟨rn, HRN⟩ : ∃ rn, Hid (S.rs.length = rn) := ⟨_, rfl⟩
  rw [HRN.out] at hrn hr0 hrc ⊢
  go_enter Tryz.func35, Tryz.ntmps35
  go_upto_region 1 with fail
  have e0 : w.alloc (.cells #[.int .i64 (S.tk : Int), .int .i64 (S.nt : Int), .int .i64 (S.st : Int), .int .i64 S.ex, .slice h.na S.nm.length h.nc, .slice h.la S.lv.length h.lc, .slice h.aa S.az.length h.ac, .slice (some ⟨rb, ro, none⟩) rn h.rc] 32) = w.alloc (.cells (sC h S) 32) := by unfold sC; rw [HRA.out, HRN.out]
  rw [e0]
  generalize w.alloc (.cells (sC h S) 32) = W0 at hB0 hs0 ⊢
  obtain ⟨b1, HB1⟩ : ∃ b1, Hid (b1 = w.heap.size) := ⟨_, rfl⟩
  rw [← HB1.out] at hs0 ⊢
  obtain ⟨c0, c1, -, -, -, -, -, -⟩ := sbox hs0
  have hst : S.st < n := by have := HWF.out.1.st; have := HWF.out.2.2; omega
  obtain ⟨W1, hr, ho, hB1⟩ := make_bools W0 w.heap.size n hn hB0.size
  have HY0 : Hid (RY w W1 h S b1 W0.heap.size n (List.replicate n false)) := ⟨below_step hB0 hB1, block_below hB1 hs0, ho, by simp⟩
  have en : (n : Int) = (S.tk : Int) + 1 + (S.nt : Int) := by have := HWF.out.2.2; omega
  rw [en] at hr
  clear e0 hB0 hs0 ho hB1 HB1 en
  go_upto_region 2 with fail
  clear hr c0 c1
  generalize W0.heap.size = yb at HY0 ⊢
  obtain ⟨-, -, c2, -, -, -, -, -⟩ := sbox HY0.out.bs
  obtain ⟨d0, f0⟩ := HY0.out.cell hst
  rw [not_new] at d0
  have hst' : (S.st : Int) < (n : Int) := by omega
  have H8 : Hid (∃ fd, RRs w (W1.setCell ⟨yb, S.st, none⟩ (.bool true)) h S b1 yb n fd) := by
    have hl : S.st < (List.replicate n false).length := by rw [HY0.out.len]; exact hst
    refine ⟨_, HY0.out.set S.st, fun x hx => ?_, by rw [isF_set hl, if_pos rfl]⟩
    rw [isF_set hl] at hx
    split at hx
    · rename_i e
      subst e
      exact Rch.start
    · rw [not_new] at hx
      cases hx
  clear HY0
  go_upto_region 3 with fail
  generalize W1.setCell ⟨yb, S.st, none⟩ (.bool true) = w8 at H8 ⊢
  clear c2 d0 f0
  go_wp2_with fail
  go_loopg [4] (n + 1) (fun kx s4 wr => ∃ b : Bool, s4 = .bool b ∧ Hid (∃ fd, RRs w wr h S b1 yb n fd ∧ (b = false → CloR S rn fd) ∧ (b = true → nF fd + 1 ≤ kx)))
  case atStart =>
    obtain ⟨fd, y⟩ := H8.out
    exact ⟨true, rfl, (⟨fd, y, (fun e => by cases e), fun _ => by have := nF_le fd; rw [y.1.len] at this; omega⟩ : ∃ fd, RRs w w8 h S b1 yb n fd ∧ (true = false → CloR S rn fd) ∧ (true = true → nF fd + 1 ≤ n + 1))⟩
  case round =>
    clear H8
    obtain ⟨b, rfl, J⟩ := hrel
    obtain ⟨fd0, y0, hb0, hb1⟩ := J.out
    cases b
    · have HF : Hid (BRes w wr n (Rch S) (.returned (.slice (some ⟨yb, 0, none⟩) n n))) := by
        refine ⟨yb, fd0, rfl, y0.1.len, y0.1.own, ?_, y0.1.bel⟩
        have hc := hb0 rfl
        rw [← HRN.out] at hc
        exact reached_end (fun i r x y h0 hr hl hx hy => hc i r x y h0 (List.getElem?_eq_some_iff.1 hr).1 hr hl hx hy) y0.2.1 y0.2.2
      clear y0 hb0 hb1 J
      go_wp2_with fail
      go_ret
      exact HF.out
    · obtain ⟨cc, HCC⟩ : ∃ cc, Hid (nF fd0 = cc) := ⟨_, rfl⟩
      have hcg : cc + 1 ≤ gk := by rw [← HCC.out]; exact hb1 rfl
      have HY0 : Hid (RRs w wr h S b1 yb n fd0) := y0
      clear y0 hb0 hb1 J
      obtain ⟨wo, hwo⟩ : ∃ wo, wo = wr := ⟨_, rfl⟩
      subst wr
      go_wp2_with fail
      go_loopg [4, 5] rn (fun kx s4 s5 wr => ∃ (b : Bool) (i : Nat), s4 = .bool b ∧ s5 = .int .i64 i ∧ 1 ≤ i ∧ i ≤ rn ∧ rn - i ≤ kx ∧ Hid (∃ fd, RRs w wr h S b1 yb n fd ∧ (b = false → CloR S i fd ∧ nF fd ≤ cc) ∧ (b = true → nF fd + 1 ≤ cc)))
      case atStart => exact ⟨false, 1, rfl, rfl, Nat.le_refl _, hr0, by omega, (⟨fd0, HY0.out, fun _ => ⟨fun j r x y h0 h1 => by omega, by rw [HCC.out]; exact Nat.le_refl _⟩, (fun e => by cases e)⟩ : ∃ fd, RRs w wo h S b1 yb n fd ∧ (false = false → CloR S 1 fd ∧ nF fd ≤ cc) ∧ (false = true → nF fd + 1 ≤ cc))⟩
      case round =>
        clear HY0
        obtain ⟨b, i, rfl, rfl, hi1, hi, hg2, J⟩ := hrel
        obtain ⟨fd, y, hbf, hbt⟩ := J.out
        obtain ⟨-, -, -, -, -, -, -, c7⟩ := sbox y.1.bs
        rw [HRA.out, HRN.out] at c7
        by_cases hlt : i < rn
        · have hlt' : (i : Int) < (rn : Int) := by omega
          obtain ⟨r, hr⟩ : ∃ r, S.rs[i]? = some r := ⟨S.rs[i]'(by rw [HRN.out]; exact hlt), List.getElem?_eq_getElem _⟩
          obtain ⟨rb2, ro2, xa, xc, hra, d0, d1, -, -, hxr⟩ := HWF.out.2.1.rl.at hr
          rw [HRA.out] at hra
          cases hra
          have hxc := row_lens hxr
          have hrl : r.r.length ≤ 100 := (HWF.out.1.rr r (List.mem_of_getElem? hr)).1
          obtain ⟨xl, hxl, hxt, hxn⟩ := HWF.out.1.rl i r (by omega) hr
          rw [← HWF.out.2.2] at hxn
          rw [hxl] at d0
          obtain ⟨rl, HRL⟩ : ∃ rl, Hid (r.r.length = rl) := ⟨_, rfl⟩
          rw [HRL.out] at d1 hrl hxc
          have HR : Hid (S.rs[i]? = some r ∧ Row w 1 xa r.r.length xc (natC r.r) ∧ r.l = (xl : Int) ∧ w.cell? ⟨rb, ro + i * 4, none⟩ = some (.int .i64 (xl : Int)) ∧ w.cell? ⟨rb, ro + i * 4 + 1, none⟩ = some (.slice xa rl xc)) := ⟨hr, hxr, hxl, d0, d1⟩
          have HY : Hid (∃ fd, RRs w wr h S b1 yb n fd ∧ (b = false → CloR S i fd ∧ nF fd ≤ cc) ∧ (b = true → nF fd + 1 ≤ cc) ∧ Upto r.r fd 0) := ⟨fd, y, hbf, hbt, upto_zero _ _⟩
          clear y hbf hbt J hr hxr hxl d0 d1
          obtain ⟨wi, hwi⟩ : ∃ wi, wi = wr := ⟨_, rfl⟩
          subst wr
          have hxn' : (xl : Int) < (n : Int) := by omega
          go_wp2_with fail
          clear c7
          go_loopg [4, 6] rl (fun kx s4 s6 wr => ∃ (b : Bool) (k : Nat), s4 = .bool b ∧ s6 = .int .i64 k ∧ k ≤ rl ∧ rl - k ≤ kx ∧ Hid (∃ fd, RRs w wr h S b1 yb n fd ∧ (b = false → CloR S i fd ∧ nF fd ≤ cc) ∧ (b = true → nF fd + 1 ≤ cc) ∧ Upto r.r fd k))
          case atStart => exact ⟨b, 0, rfl, rfl, Nat.zero_le _, by omega, HY⟩
          case round =>
            clear HY
            obtain ⟨b3, k, rfl, rfl, hk, hg3, K⟩ := hrel
            obtain ⟨fd, y, hbf, hbt, hup⟩ := K.out
            obtain ⟨-, -, -, -, -, -, -, c7⟩ := sbox y.1.bs
            rw [HRA.out, HRN.out] at c7
            have d0 := cell_below y.1.bel HR.out.2.2.2.1
            have d1 := cell_below y.1.bel HR.out.2.2.2.2
            obtain ⟨q2, -⟩ := y.1.cell hxn
            have HY : Hid (RRs w wr h S b1 yb n fd ∧ (b3 = false → CloR S i fd ∧ nF fd ≤ cc) ∧ (b3 = true → nF fd + 1 ≤ cc) ∧ Upto r.r fd k) := ⟨y, hbf, hbt, hup⟩
            clear y hbf hbt hup K
            obtain ⟨bx, HBX⟩ : ∃ bx, Hid (isF fd xl = bx) := ⟨_, rfl⟩
            rw [HBX.out] at q2
            cases bx
            · have HF : Hid (∃ fd, RRs w wr h S b1 yb n fd ∧ (b3 = false → CloR S (i + 1) fd ∧ nF fd ≤ cc) ∧ (b3 = true → nF fd + 1 ≤ cc)) := ⟨fd, HY.out.1, fun e => ⟨cloR_next (HY.out.2.1 e).1 HR.out.1 HR.out.2.2.1 (fun hx => by rw [HBX.out] at hx; cases hx), (HY.out.2.1 e).2⟩, HY.out.2.2.1⟩
              go_wp2_with fail
              go_roundg (rn - (i + 1))
              case measure => omega
              case rel => exact ⟨b3, i + 1, rfl, by simp, by omega, by omega, Nat.le_refl _, HF⟩
            · by_cases hklt : k < rl
              · have hklt' : (k : Int) < (rl : Int) := by omega
                obtain ⟨z, hz⟩ : ∃ z, r.r[k]? = some z := ⟨r.r[k]'(by rw [HRL.out]; exact hklt), List.getElem?_eq_getElem _⟩
                obtain ⟨b2, o2, hxa, q1⟩ := nat_at (HR.out.2.1.below HY.out.1.1.bel) hz
                subst hxa
                have hzn : z < n := by rw [HWF.out.2.2]; exact (HWF.out.1.rr r (List.mem_of_getElem? HR.out.1)).2 z (List.mem_of_getElem? hz)
                obtain ⟨q3, f3⟩ := HY.out.1.1.cell hzn
                have HZ : Hid (r.r[k]? = some z) := hz
                obtain ⟨bz, HBZ⟩ : ∃ bz, Hid (isF fd z = bz) := ⟨_, rfl⟩
                rw [HBZ.out] at q3
                have hzn' : (z : Int) < (n : Int) := by omega
                clear hz
                cases bz
                · have HF : Hid (∃ fd, RRs w (wr.setCell ⟨yb, z, none⟩ (.bool true)) h S b1 yb n fd ∧ nF fd + 1 ≤ cc ∧ Upto r.r fd (k + 1)) := by
                    have hl : z < fd.length := by rw [HY.out.1.1.len]; exact hzn
                    refine ⟨fd.set z true, ⟨HY.out.1.1.set z, fun x hx => ?_, isF_keep hl HY.out.1.2.2⟩, ?_, (upto_next HZ.out).2 ⟨fun j y hj hy => isF_keep hl (HY.out.2.2.2 j y hj hy), by rw [isF_set hl, if_pos rfl]⟩⟩
                    · rw [isF_set hl] at hx
                      split at hx
                      · rename_i e
                        subst e
                        exact Rch.rule i r xl x (by omega) HR.out.1 HR.out.2.2.1 (HY.out.1.2.1 xl HBX.out) (List.mem_of_getElem? HZ.out)
                      · exact HY.out.1.2.1 x hx
                    · have := nF_set hl HBZ.out
                      cases b3
                      · have := (HY.out.2.1 rfl).2; omega
                      · have := HY.out.2.2.1 rfl; omega
                  go_wp2_with fail
                  go_roundg (rl - (k + 1))
                  case measure => omega
                  case rel =>
                    obtain ⟨fd2, s1, s2, s3⟩ := HF.out
                    exact ⟨true, k + 1, rfl, by simp, by omega, Nat.le_refl _, (⟨fd2, s1, (fun e => by cases e), fun _ => s2, s3⟩ : ∃ fd, RRs w (wr.setCell ⟨yb, z, none⟩ (.bool true)) h S b1 yb n fd ∧ (true = false → CloR S i fd ∧ nF fd ≤ cc) ∧ (true = true → nF fd + 1 ≤ cc) ∧ Upto r.r fd (k + 1))⟩
                · have HF : Hid (∃ fd, RRs w wr h S b1 yb n fd ∧ (b3 = false → CloR S i fd ∧ nF fd ≤ cc) ∧ (b3 = true → nF fd + 1 ≤ cc) ∧ Upto r.r fd (k + 1)) := ⟨fd, HY.out.1, HY.out.2.1, HY.out.2.2.1, (upto_next HZ.out).2 ⟨HY.out.2.2.2, HBZ.out⟩⟩
                  go_wp2_with fail
                  go_roundg (rl - (k + 1))
                  case measure => omega
                  case rel => exact ⟨b3, k + 1, rfl, by simp, by omega, Nat.le_refl _, HF⟩
              · have hklt' : ¬ (k : Int) < (rl : Int) := by omega
                have HF : Hid (∃ fd, RRs w wr h S b1 yb n fd ∧ (b3 = false → CloR S (i + 1) fd ∧ nF fd ≤ cc) ∧ (b3 = true → nF fd + 1 ≤ cc)) := by
                  have h1 := HY.out.2.2.2
                  have : k = r.r.length := by rw [HRL.out]; omega
                  rw [this] at h1
                  exact ⟨fd, HY.out.1, fun e => ⟨cloR_next (HY.out.2.1 e).1 HR.out.1 HR.out.2.2.1 (fun _ => upto_all.1 h1), (HY.out.2.1 e).2⟩, HY.out.2.2.1⟩
                go_wp2_with fail
                go_roundg (rn - (i + 1))
                case measure => omega
                case rel => exact ⟨b3, i + 1, rfl, by simp, by omega, by omega, Nat.le_refl _, HF⟩
        · have hlt' : ¬ (i : Int) < (rn : Int) := by omega
          have HF : Hid (∃ fd, RRs w wr h S b1 yb n fd ∧ (b = false → CloR S rn fd) ∧ (b = true → nF fd + 1 ≤ cc)) := by
            have : i = rn := by omega
            subst this
            exact ⟨fd, y, fun e => (hbf e).1, hbt⟩
          clear y hbf hbt J
          go_wp2_with fail
          go_roundg cc
          case measure => omega
          case rel => exact ⟨b, rfl, HF⟩

end Go.Proofs.YtebehlmidoencaaGreatDoor

/-
  The walk of the reference's Yields.
-/
namespace Go.Proofs.YtebehlmidoencaaGreatDoor
open Go.RowKit

set_option maxRecDepth 20000

/-- What holds between two rounds. -/
def RYs (w W : World) (h : SHd) (S : Sp) (b1 yb n : Nat) (fd : List Bool) : Prop := RY w W h S b1 yb n fd ∧ Toks S fd ∧ AllDer S fd

set_option maxHeartbeats 8000000 in
theorem ryields_calls (w : World) (h : SHd) (S : Sp) (n : Nat) (hnn : n = S.tk + 1 + S.nt) (hwf : WF S) (hsp : IsSp w h S) :
    Calls Tryz.prog 34 #[sv h S] w fun e w' => BRes w w' n (Der S) e := by
  have hn : n ≤ 1000 := by have := hwf.tk; have := hwf.nt; omega
  have hrn : S.rs.length ≤ 300 := hwf.nr
  have hr0 : 1 ≤ S.rs.length := by have := (List.getElem?_eq_some_iff.1 hwf.hd).1; omega
  have HWF : Hid (WF S ∧ IsSp w h S ∧ n = S.tk + 1 + S.nt) := ⟨hwf, hsp, hnn⟩
  have hB0 : Below w.heap.size w (w.alloc (.cells (sC h S) 32)) := below_alloc _ _
  have hs0 : (w.alloc (.cells (sC h S) 32)).heap[w.heap.size]? = some (.cells (sC h S) 32 (0, 0)) := heap_alloc_new _ _
  have htk : S.tk ≤ 100 := hwf.tk
  have hnt : S.nt ≤ 200 := hwf.nt
  obtain ⟨rb, ro, -, -, hra, -⟩ := hsp.rl.at hwf.hd
  have HRA : Hid (h.ra = some ⟨rb, ro, none⟩) := hra
  have hrc := srs_lens hsp.rl
  clear hwf hsp hnn
  unfold sv sC
  rw [hra]
  clear hra
  obtain ⟨rn, HRN⟩ : ∃ rn, Hid (S.rs.length = rn) := ⟨_, rfl⟩
  rw [HRN.out] at hrn hr0 hrc ⊢
  go_enter Tryz.func34, Tryz.ntmps34
  go_upto_region 1 with fail
  have e0 : w.alloc (.cells #[.int .i64 (S.tk : Int), .int .i64 (S.nt : Int), .int .i64 (S.st : Int), .int .i64 S.ex, .slice h.na S.nm.length h.nc, .slice h.la S.lv.length h.lc, .slice h.aa S.az.length h.ac, .slice (some ⟨rb, ro, none⟩) rn h.rc] 32) = w.alloc (.cells (sC h S) 32) := by unfold sC; rw [HRA.out, HRN.out]
  rw [e0]
  generalize w.alloc (.cells (sC h S) 32) = W0 at hB0 hs0 ⊢
  obtain ⟨b1, HB1⟩ : ∃ b1, Hid (b1 = w.heap.size) := ⟨_, rfl⟩
  rw [← HB1.out] at hs0 ⊢
  obtain ⟨c0, c1, -, -, -, -, -, -⟩ := sbox hs0
  obtain ⟨W1, hr, ho, hB1⟩ := make_bools W0 w.heap.size n hn hB0.size
  have HY0 : Hid (RY w W1 h S b1 W0.heap.size n (List.replicate n false)) := ⟨below_step hB0 hB1, block_below hB1 hs0, ho, by simp⟩
  have en : (n : Int) = (S.tk : Int) + 1 + (S.nt : Int) := by have := HWF.out.2.2; omega
  rw [en] at hr
  clear e0 hB0 hs0 ho hB1 HB1 en
  go_upto_region 2 with fail
  clear hr c0 c1
  generalize W0.heap.size = yb at HY0 ⊢
  obtain ⟨c0, -, -, -, -, -, -, -⟩ := sbox HY0.out.bs
  go_upto_block 0 with fail
  clear c0
  go_cut [4] (fun s4 wd => Hid (∃ fd, RYs w wd h S b1 yb n fd))
  case first =>
    go_wp2_with fail
    go_loopg [4] S.tk (fun kx s4 wr => ∃ k : Nat, s4 = .int .i64 k ∧ k ≤ S.tk ∧ S.tk - k ≤ kx ∧ Hid (∃ fd, RY w wr h S b1 yb n fd ∧ (∀ x, x < k → isF fd x = true) ∧ ∀ x, isF fd x = true → x < S.tk))
    case atStart => exact ⟨0, rfl, Nat.zero_le _, by omega, (⟨_, HY0.out, fun x hx => absurd hx (Nat.not_lt_zero _), fun x hx => by rw [not_new] at hx; cases hx⟩ : ∃ fd, RY w W1 h S b1 yb n fd ∧ (∀ x, x < 0 → isF fd x = true) ∧ ∀ x, isF fd x = true → x < S.tk)⟩
    case round =>
      clear HY0
      obtain ⟨k, rfl, hk, hg, J⟩ := hrel
      obtain ⟨fd, y, h1, h2⟩ := J.out
      obtain ⟨c0, -, -, -, -, -, -, -⟩ := sbox y.bs
      by_cases hlt : k < S.tk
      · have hlt' : (k : Int) < (S.tk : Int) := by omega
        have hkn : k < n := by have := HWF.out.2.2; omega
        obtain ⟨d0, f0⟩ := y.cell hkn
        have hl : k < fd.length := by rw [y.len]; exact hkn
        have HF : Hid (∃ fd, RY w (wr.setCell ⟨yb, k, none⟩ (.bool true)) h S b1 yb n fd ∧ (∀ x, x < k + 1 → isF fd x = true) ∧ ∀ x, isF fd x = true → x < S.tk) := by
          refine ⟨_, y.set k, fun x hx => ?_, fun x hx => ?_⟩
          · rw [isF_set hl]
            split
            · rfl
            · exact h1 x (by omega)
          · rw [isF_set hl] at hx
            split at hx
            · omega
            · exact h2 x hx
        generalize isF fd k = bz at d0
        clear y h1 h2 J hl
        have hkn' : (k : Int) < (n : Int) := by omega
        go_wp2_with fail
        go_roundg (S.tk - (k + 1))
        case measure => omega
        case rel => exact ⟨k + 1, by simp, by omega, Nat.le_refl _, HF⟩
      · have hlt' : ¬ (k : Int) < (S.tk : Int) := by omega
        have HF : Hid (∃ fd, RYs w wr h S b1 yb n fd) := ⟨fd, y, fun x hx => h1 x (by omega), fun x hx => Der.tok x (h2 x hx)⟩
        clear y h1 h2 J
        go_wp2_with fail
        go_meet
        exact HF
  case rest =>
    obtain ⟨w8, hw8⟩ : ∃ w8, w8 = wc := ⟨_, rfl⟩
    subst wc
    clear HY0
    have H8 : Hid (∃ fd, RYs w w8 h S b1 yb n fd) := hcut
    clear hcut
    go_wp2_with fail
    go_loopg [5] (n + 1) (fun kx s5 wr => ∃ b : Bool, s5 = .bool b ∧ Hid (∃ fd, RYs w wr h S b1 yb n fd ∧ (b = false → CloY S rn fd) ∧ (b = true → nF fd + 1 ≤ kx)))
    case atStart =>
      obtain ⟨fd, y⟩ := H8.out
      exact ⟨true, rfl, (⟨fd, y, (fun e => by cases e), fun _ => by have := nF_le fd; rw [y.1.len] at this; omega⟩ : ∃ fd, RYs w w8 h S b1 yb n fd ∧ (true = false → CloY S rn fd) ∧ (true = true → nF fd + 1 ≤ n + 1))⟩
    case round =>
      clear H8
      obtain ⟨b, rfl, J⟩ := hrel
      obtain ⟨fd0, y0, hb0, hb1⟩ := J.out
      cases b
      · have HF : Hid (BRes w wr n (Der S) (.returned (.slice (some ⟨yb, 0, none⟩) n n))) := by
          refine ⟨yb, fd0, rfl, y0.1.len, y0.1.own, ?_, y0.1.bel⟩
          have hc := hb0 rfl
          rw [← HRN.out] at hc
          exact yields_told (fun i r x h0 hr hl ha => hc i r x h0 (List.getElem?_eq_some_iff.1 hr).1 hr hl ha) y0.2.2 y0.2.1
        clear y0 hb0 hb1 J
        go_wp2_with fail
        go_ret
        exact HF.out
      · obtain ⟨cc, HCC⟩ : ∃ cc, Hid (nF fd0 = cc) := ⟨_, rfl⟩
        have hcg : cc + 1 ≤ gk := by rw [← HCC.out]; exact hb1 rfl
        have HY0 : Hid (RYs w wr h S b1 yb n fd0) := y0
        clear y0 hb0 hb1 J
        obtain ⟨wo, hwo⟩ : ∃ wo, wo = wr := ⟨_, rfl⟩
        subst wr
        go_wp2_with fail
        go_loopg [5, 6] rn (fun kx s5 s6 wr => ∃ (b : Bool) (i : Nat), s5 = .bool b ∧ s6 = .int .i64 i ∧ 1 ≤ i ∧ i ≤ rn ∧ rn - i ≤ kx ∧ Hid (∃ fd, RYs w wr h S b1 yb n fd ∧ (b = false → CloY S i fd ∧ nF fd ≤ cc) ∧ (b = true → nF fd + 1 ≤ cc)))
        case atStart => exact ⟨false, 1, rfl, rfl, Nat.le_refl _, hr0, by omega, (⟨fd0, HY0.out, fun _ => ⟨fun j r x h0 h1 => by omega, by rw [HCC.out]; exact Nat.le_refl _⟩, (fun e => by cases e)⟩ : ∃ fd, RYs w wo h S b1 yb n fd ∧ (false = false → CloY S 1 fd ∧ nF fd ≤ cc) ∧ (false = true → nF fd + 1 ≤ cc))⟩
        case round =>
          clear HY0
          obtain ⟨b, i, rfl, rfl, hi1, hi, hg2, J⟩ := hrel
          obtain ⟨fd, y, hbf, hbt⟩ := J.out
          obtain ⟨-, -, -, -, -, -, -, c7⟩ := sbox y.1.bs
          rw [HRA.out, HRN.out] at c7
          by_cases hlt : i < rn
          · have hlt' : (i : Int) < (rn : Int) := by omega
            obtain ⟨r, hr⟩ : ∃ r, S.rs[i]? = some r := ⟨S.rs[i]'(by rw [HRN.out]; exact hlt), List.getElem?_eq_getElem _⟩
            obtain ⟨rb2, ro2, xa, xc, hra, d0, d1, -, -, hxr⟩ := HWF.out.2.1.rl.at hr
            rw [HRA.out] at hra
            cases hra
            have d0 := cell_below y.1.bel d0
            have d1 := cell_below y.1.bel d1
            have hxc := row_lens hxr
            have hrl : r.r.length ≤ 100 := (HWF.out.1.rr r (List.mem_of_getElem? hr)).1
            obtain ⟨xl, hxl, hxt, hxn⟩ := HWF.out.1.rl i r (by omega) hr
            rw [← HWF.out.2.2] at hxn
            rw [hxl] at d0
            have HR : Hid (S.rs[i]? = some r ∧ Row w 1 xa r.r.length xc (natC r.r) ∧ r.l = (xl : Int)) := ⟨hr, hxr, hxl⟩
            have HY : Hid (RYs w wr h S b1 yb n fd ∧ (b = false → CloY S i fd ∧ nF fd ≤ cc) ∧ (b = true → nF fd + 1 ≤ cc)) := ⟨y, hbf, hbt⟩
            clear y hbf hbt J hr hxr hxl
            obtain ⟨rl, HRL⟩ : ∃ rl, Hid (r.r.length = rl) := ⟨_, rfl⟩
            rw [HRL.out] at d1 hrl hxc
            obtain ⟨wi, hwi⟩ : ∃ wi, wi = wr := ⟨_, rfl⟩
            subst wr
            go_wp2_with fail
            go_loopg [7, 8] rl (fun kx s7 s8 wr => ∃ (a : Bool) (k : Nat), s7 = .bool a ∧ s8 = .int .i64 k ∧ k ≤ rl ∧ rl - k ≤ kx ∧ Hid (wr = wi ∧ (a = true ↔ Upto r.r fd k)))
            case atStart => exact ⟨true, 0, rfl, rfl, Nat.zero_le _, by omega, (⟨rfl, fun _ => upto_zero _ _, fun _ => rfl⟩ : wi = wi ∧ (true = true ↔ Upto r.r fd 0))⟩
            case round =>
              obtain ⟨a, k, rfl, rfl, hk, hg3, K⟩ := hrel
              obtain ⟨hwr, hup⟩ := K.out
              subst hwr
              have HU : Hid (a = true ↔ Upto r.r fd k) := hup
              clear K hup
              by_cases hklt : k < rl
              · have hklt' : (k : Int) < (rl : Int) := by omega
                obtain ⟨z, hz⟩ : ∃ z, r.r[k]? = some z := ⟨r.r[k]'(by rw [HRL.out]; exact hklt), List.getElem?_eq_getElem _⟩
                obtain ⟨b2, o2, hxa, q1⟩ := nat_at (HR.out.2.1.below HY.out.1.1.bel) hz
                subst hxa
                have hzn : z < n := by rw [HWF.out.2.2]; exact (HWF.out.1.rr r (List.mem_of_getElem? HR.out.1)).2 z (List.mem_of_getElem? hz)
                obtain ⟨q2, -⟩ := HY.out.1.1.cell hzn
                have HZ : Hid (Upto r.r fd (k + 1) ↔ (Upto r.r fd k ∧ isF fd z = true)) := upto_next hz
                obtain ⟨bz, HBZ⟩ : ∃ bz, Hid (isF fd z = bz) := ⟨_, rfl⟩
                rw [HBZ.out] at q2
                have hzn' : (z : Int) < (n : Int) := by omega
                clear hz
                cases a
                · have HF : Hid (¬ Upto r.r fd (k + 1)) := fun e => by have := HU.out.2 (HZ.out.1 e).1; cases this
                  go_wp2_with fail
                  go_roundg (rl - (k + 1))
                  case measure => omega
                  case rel => exact ⟨false, k + 1, rfl, by simp, by omega, Nat.le_refl _, (⟨rfl, (fun e => by cases e), fun e => absurd e HF.out⟩ : wr = wr ∧ (false = true ↔ Upto r.r fd (k + 1)))⟩
                · have HF : Hid (bz = true ↔ Upto r.r fd (k + 1)) := ⟨fun e => HZ.out.2 ⟨HU.out.1 rfl, by rw [HBZ.out]; exact e⟩, fun e => by rw [← HBZ.out]; exact (HZ.out.1 e).2⟩
                  go_wp2_with fail
                  go_roundg (rl - (k + 1))
                  case measure => omega
                  case rel => exact ⟨bz, k + 1, rfl, by simp, by omega, Nat.le_refl _, (⟨rfl, HF.out⟩ : wr = wr ∧ (bz = true ↔ Upto r.r fd (k + 1)))⟩
              · have hklt' : ¬ (k : Int) < (rl : Int) := by omega
                have HA : Hid (a = true ↔ ∀ y ∈ r.r, isF fd y = true) := by
                  have : k = r.r.length := by rw [HRL.out]; omega
                  have h1 := HU.out
                  rw [this] at h1
                  exact h1.trans upto_all
                obtain ⟨q2, f2⟩ := HY.out.1.1.cell hxn
                have hxn' : (xl : Int) < (n : Int) := by omega
                clear HU
                obtain ⟨bx, HBX⟩ : ∃ bx, Hid (isF fd xl = bx) := ⟨_, rfl⟩
                rw [HBX.out] at q2
                have stay : (a = true → bx = true) → Hid (∃ fd, RYs w wr h S b1 yb n fd ∧ (b = false → CloY S (i + 1) fd ∧ nF fd ≤ cc) ∧ (b = true → nF fd + 1 ≤ cc)) := fun hab => ⟨fd, HY.out.1, fun e => ⟨cloY_next (HY.out.2.1 e).1 HR.out.1 HR.out.2.2 (fun hall => by rw [HBX.out]; exact hab (HA.out.2 hall)), (HY.out.2.1 e).2⟩, HY.out.2.2⟩
                cases a
                · have HF := stay (fun e => by cases e)
                  clear stay
                  go_wp2_with fail
                  go_roundg (rn - (i + 1))
                  case measure => omega
                  case rel => exact ⟨b, i + 1, rfl, by simp, by omega, by omega, Nat.le_refl _, HF⟩
                · cases bx
                  · have HF : Hid (∃ fd, RYs w (wr.setCell ⟨yb, xl, none⟩ (.bool true)) h S b1 yb n fd ∧ nF fd + 1 ≤ cc) := by
                      have hl : xl < fd.length := by rw [HY.out.1.1.len]; exact hxn
                      refine ⟨fd.set xl true, ⟨HY.out.1.1.set xl, fun x hx => isF_keep hl (HY.out.1.2.1 x hx), fun x hx => ?_⟩, ?_⟩
                      · rw [isF_set hl] at hx
                        split at hx
                        · rename_i e
                          subst e
                          exact Der.rule i r x (by omega) HR.out.1 HR.out.2.2 (fun y hy => HY.out.1.2.2 y (HA.out.1 rfl y hy))
                        · exact HY.out.1.2.2 x hx
                      · have := nF_set hl HBX.out
                        cases b
                        · have := (HY.out.2.1 rfl).2; omega
                        · have := HY.out.2.2 rfl; omega
                    clear stay
                    go_wp2_with fail
                    go_roundg (rn - (i + 1))
                    case measure => omega
                    case rel =>
                      obtain ⟨fd2, s1, s2⟩ := HF.out
                      exact ⟨true, i + 1, rfl, by simp, by omega, by omega, Nat.le_refl _, (⟨fd2, s1, (fun e => by cases e), fun _ => s2⟩ : ∃ fd, RYs w (wr.setCell ⟨yb, xl, none⟩ (.bool true)) h S b1 yb n fd ∧ (true = false → CloY S (i + 1) fd ∧ nF fd ≤ cc) ∧ (true = true → nF fd + 1 ≤ cc))⟩
                  · have HF := stay (fun _ => rfl)
                    clear stay
                    go_wp2_with fail
                    go_roundg (rn - (i + 1))
                    case measure => omega
                    case rel => exact ⟨b, i + 1, rfl, by simp, by omega, by omega, Nat.le_refl _, HF⟩
          · have hlt' : ¬ (i : Int) < (rn : Int) := by omega
            have HF : Hid (∃ fd, RYs w wr h S b1 yb n fd ∧ (b = false → CloY S rn fd) ∧ (b = true → nF fd + 1 ≤ cc)) := by
              have : i = rn := by omega
              subst this
              exact ⟨fd, y, fun e => (hbf e).1, hbt⟩
            clear y hbf hbt J
            go_wp2_with fail
            go_roundg cc
            case measure => omega
            case rel => exact ⟨b, rfl, HF⟩

end Go.Proofs.YtebehlmidoencaaGreatDoor

/-
  The reference's Of: what its walk keeps.
-/
namespace Go.Proofs.YtebehlmidoencaaGreatDoor
open Go.RowKit

set_option maxRecDepth 20000

/-- A block that is none of those that an append turns. -/
theorem far_keptk {W W' : World} {sb b T E base k n c : Nat} {ao : Option Addr} {cs : List Value} {d : Array Value} (hk : Kept (fun k => k = sb ∨ blk ao = some k) W W') (ho : W.ownsRow base E k (.slice ao n c) n cs) (hb : W.heap[b]? = some (.cells d T (0, 0))) (hT : T ≠ E) (hn : b ≠ sb) : W'.heap[b]? = some (.cells d T (0, 0)) := by
  rw [hk.block b (Array.getElem?_eq_some_iff.1 hb).1 (fun e => ?_)]
  · exact hb
  · rcases e with e | e
    · exact hn e
    · exact loc_ne ⟨_, hb⟩ (own_blt ho e).2.2 hT rfl

/-- A name and then a list of names, laid behind the names. -/
theorem SB.addTwo {w W : World} {sb : Nat} {h : SHd} {S : Sp} {qs : List (SR × Option Addr × Nat)} (s : SB w W sb h S qs) (x : ByteArray) (l : List ByteArray) (b o m c n : Nat) (en : S.nm.length = n) (hl : l.length = m) (hrow : Row w 1 (some ⟨b, o, none⟩) m c (strC l)) (hm : 0 < m) (hn : n + m < 9000) :
    ∃ g c1 V1 ao c2 V2, (Builtin.append_ #[28, 28] 28 #[.slice h.na n h.nc, .slice (some ⟨W.heap.size, 0, none⟩) 1 1]).run Tryz.prog (W.alloc (.cells #[.string x] 9)) = .ok (.slice (some ⟨g, 0, none⟩) (n + 1) c1) V1 ∧
      (Builtin.append_ #[28, 28] 28 #[.slice (some ⟨g, 0, none⟩) (n + 1) c1, .slice (some ⟨b, o, none⟩) m c]).run Tryz.prog V1 = .ok (.slice ao (n + 1 + m) c2) V2 ∧
      V2.heap[sb]? = some (.cells (sC h S) 32 (0, 0)) ∧ SB w (V2.setCell ⟨sb, 4, none⟩ (.slice ao (n + 1 + m) c2)) sb ⟨ao, c2, h.la, h.lc, h.aa, h.ac, h.ra, h.rc⟩ ⟨S.tk, S.nt, S.st, S.ex, S.nm ++ x :: l, S.lv, S.az, S.rs⟩ qs ∧
      ∀ (b' T : Nat) (d : Array Value), W.heap[b']? = some (.cells d T (0, 0)) → T ≠ 9 → b' ≠ sb → (V2.setCell ⟨sb, 4, none⟩ (.slice ao (n + 1 + m) c2)).heap[b']? = some (.cells d T (0, 0)) := by
  subst en
  obtain ⟨g, c1, V1, hr, ho, hk, hg⟩ := ap_gen (us := [.string x]) u28 i9 rfl (by decide) (by decide) rfl (fun u hu => by rw [List.mem_singleton] at hu; subst hu; rfl) s.nm s.bel.size (by omega)
  have hk0 : Kept (fun k => blk h.na = some k) W V1 := ((Kept.refl _ W).alloc _).trans hk (fun k _ e => blk_own e)
  have hb1 : Below w.heap.size w V1 := s.bel.trans (hk0.below s.bel.size (fun k hk e => by have := (own_blt s.nm e).1; omega))
  have hrow1 := hrow.below hb1
  obtain ⟨i0, hi, hz0, hz1, hz2⟩ := info_parts i9
  have hnews : ∀ j u, (strC l)[j]? = some u → V1.cell? ((⟨b, o, none⟩ : Addr).add j) = some u := by
    intro j u hu
    obtain ⟨b', o', he, hc⟩ := hrow1.at (by omega)
    cases he
    rw [Addr.add_lit]
    exact hc j u hu
  have hone : ∀ u ∈ strC l, u.oneCell' = true := by
    intro u hu
    unfold strC at hu
    obtain ⟨y, -, rfl⟩ := List.mem_map.1 hu
    rfl
  have hlen : (strC l).length = m * 1 := by unfold strC; rw [List.length_map, hl, Nat.mul_one]
  have hbase : w.heap.size ≤ V1.heap.size := hb1.size
  obtain ⟨v', V2, hr2, h2, h3, -⟩ := run_append_own (P := Tryz.prog) V1 w.heap.size 28 28 9 i0 _ 1 16 u28 hi hz0 hz1 hz2 rfl (by decide) _ _ _ ho ⟨b, o, none⟩ m c (strC l) hlen hnews hone (by unfold maxLen; omega) (by omega) hbase
  obtain ⟨v1, w1, hr1, -, hk1, hl1⟩ := append_known (P := Tryz.prog) V1 28 28 9 i0 _ 1 16 u28 hi hz0 hz1 hz2 rfl (by decide) _ _ _ (own_mono ho (Nat.zero_le _)) ⟨b, o, none⟩ m c (strC l) hlen hnews hone (by unfold maxLen; omega) (by omega)
  rw [hr2] at hr1
  injection hr1 with e1 e2
  subst e1 e2
  obtain ⟨ao, c2, rfl, h4, h5, h6⟩ := own_slice h2
  have hkk : Kept (fun k => blk h.na = some k) W V2 := hk0.trans hk1 (fun i hi e => by
    have e : g = i := Option.some.inj e
    subst e
    rcases hg with h7 | h7
    · exact blk_own h7
    · omega)
  have stay : ∀ {E k n : Nat} {v : Value} {cs : List Value}, W.ownsRow w.heap.size E k v n cs → E ≠ 9 → V2.ownsRow w.heap.size E k v n cs := fun ho hE => own_kept ho hkk (fun i hi e => loc_ne (own_loc ho hi) (own_blt s.nm e).2.2 hE rfl)
  have hbox : V2.heap[sb]? = some (.cells (sC h S) 32 (0, 0)) := by
    rw [hkk.block sb (Array.getElem?_eq_some_iff.1 s.box).1 (fun e => loc_ne ⟨_, s.box⟩ (own_blt s.nm e).2.2 (by decide) rfl)]
    exact s.box
  have hks : Kept (fun k => k = sb ∨ blk h.na = some k) W (V2.setCell ⟨sb, 4, none⟩ (.slice ao (S.nm.length + 1 + m) c2)) := Kept.setCell (hkk.weaken (fun k e => .inr e)) _ _ (fun _ => .inl rfl)
  refine ⟨g, c1, V1, ao, c2, V2, hr, hr2, hbox, ⟨?_, ?_, own_box (stay s.lv (by decide)) hbox (by decide), own_box (stay s.az (by decide)) hbox (by decide), own_box (stay s.rl (by decide)) hbox (by decide), s.map, fun q hq => own_box (stay (s.row q hq) (by decide)) hbox (by decide), s.dis, ?_, s.new⟩, fun b' T d hb hT hne => far_keptk hks s.nm hb hT hne⟩
  · rw [box_set hbox]
    unfold sC
    simp
    omega
  · have e : strC (S.nm ++ x :: l) = strC S.nm ++ [.string x] ++ strC l := by unfold strC; rw [List.map_append]; simp
    have e2 : (S.nm ++ x :: l).length = S.nm.length + 1 + m := by rw [List.length_append, List.length_cons, hl]; omega
    simp only [e, e2]
    exact own_box h2 hbox (by decide)
  · refine (s.bel.trans (hkk.below s.bel.size (fun k hk e => ?_))).setCell (p := ⟨sb, 4, none⟩) s.new _
    have := (own_blt s.nm e).1
    omega

/-- What the reference's Of keeps. -/
structure SY (w W : World) (gb rb sb : Nat) (h : Hd) (G : Gm) (h' : SHd) (S : Sp) (qs : List (SR × Option Addr × Nat)) : Prop where
  sp : SB w W sb h' S qs
  gx : W.heap[gb]? = some (.cells #[.slice h.ta G.ts.length h.tc, .string G.s, .int .i64 G.e, .slice h.ra G.rs.length h.rc] 25 (0, 0))
  rx : W.heap[rb]? = some (.cells zC 32 (0, 0))
  ne : rb ≠ sb

theorem SY.step {w W W' : World} {gb rb sb : Nat} {h : Hd} {G : Gm} {h' : SHd} {S : Sp} {qs : List (SR × Option Addr × Nat)} (s : SY w W gb rb sb h G h' S qs) (hb : Below W.heap.size W W') : SY w W' gb rb sb h G h' S qs :=
  ⟨s.sp.step hb, block_below hb s.gx, block_below hb s.rx, s.ne⟩

theorem SX.two {w W : World} {gb rb sb : Nat} {h : Hd} {G : Gm} {h' : SHd} {S : Sp} (s : SX w W gb rb sb h G h' S) (x : ByteArray) (l : List ByteArray) (b o m c n : Nat) (en : S.nm.length = n) (hl : l.length = m) (hrow : Row w 1 (some ⟨b, o, none⟩) m c (strC l)) (hm : 0 < m) (hn : n + m < 9000) :
    ∃ g c1 V1 ao c2 V2, (Builtin.append_ #[28, 28] 28 #[.slice h'.na n h'.nc, .slice (some ⟨W.heap.size, 0, none⟩) 1 1]).run Tryz.prog (W.alloc (.cells #[.string x] 9)) = .ok (.slice (some ⟨g, 0, none⟩) (n + 1) c1) V1 ∧
      (Builtin.append_ #[28, 28] 28 #[.slice (some ⟨g, 0, none⟩) (n + 1) c1, .slice (some ⟨b, o, none⟩) m c]).run Tryz.prog V1 = .ok (.slice ao (n + 1 + m) c2) V2 ∧
      V2.cell? ⟨sb, 4, none⟩ = some (.slice h'.na n h'.nc) ∧ V2.frozen? ⟨sb, 4, none⟩ = false ∧ SY w (V2.setCell ⟨sb, 4, none⟩ (.slice ao (n + 1 + m) c2)) gb rb sb h G ⟨ao, c2, h'.la, h'.lc, h'.aa, h'.ac, h'.ra, h'.rc⟩ ⟨S.tk, S.nt, S.st, S.ex, S.nm ++ x :: l, S.lv, S.az, S.rs⟩ [] := by
  obtain ⟨g, c1, V1, ao, c2, V2, h1, h2, h3, h4, far⟩ := s.sp.addTwo x l b o m c n en hl hrow hm hn
  exact ⟨g, c1, V1, ao, c2, V2, h1, h2, by rw [cell_block h3]; unfold sC; rw [en]; rfl, frozen_block h3 4, h4, far gb 25 _ s.gx (by decide) (loc_ne ⟨_, s.gx⟩ ⟨_, s.sp.box⟩ (by decide)), far rb 32 _ s.rx (by decide) s.ne, s.ne⟩

theorem SY.putSt {w W : World} {gb rb sb : Nat} {h : Hd} {G : Gm} {h' : SHd} {S : Sp} {qs : List (SR × Option Addr × Nat)} (s : SY w W gb rb sb h G h' S qs) (x : Nat) : SY w (W.setCell ⟨sb, 2, none⟩ (.int .i64 (x : Int))) gb rb sb h G h' ⟨S.tk, S.nt, x, S.ex, S.nm, S.lv, S.az, S.rs⟩ qs :=
  ⟨s.sp.putSt x, box_far s.gx (loc_ne ⟨_, s.gx⟩ ⟨_, s.sp.box⟩ (by decide)), box_far s.rx s.ne, s.ne⟩

theorem SY.addRu {w W : World} {gb rb sb : Nat} {h : Hd} {G : Gm} {h' : SHd} {S : Sp} {qs : List (SR × Option Addr × Nat)} (s : SY w W gb rb sb h G h' S qs) (q : SR × Option Addr × Nat) (n : Nat) (en : S.rs.length = n) (hq : W.ownsRow w.heap.size 3 1 (.slice q.2.1 q.1.r.length q.2.2) q.1.r.length (natC q.1.r)) (hn : n < 10000) :
    ∃ g c W', (Builtin.append_ #[30, 30] 30 #[.slice h'.ra n h'.rc, .slice (some ⟨W.heap.size, 0, none⟩) 1 1]).run Tryz.prog (W.alloc (.cells #[.int .i64 q.1.l, .slice q.2.1 q.1.r.length q.2.2, .int .i64 q.1.lv, .int .i64 q.1.a] 62)) = .ok (.slice (some ⟨g, 0, none⟩) (n + 1) c) W' ∧
      W'.cell? ⟨sb, 7, none⟩ = some (.slice h'.ra n h'.rc) ∧ W'.frozen? ⟨sb, 7, none⟩ = false ∧ SY w (W'.setCell ⟨sb, 7, none⟩ (.slice (some ⟨g, 0, none⟩) (n + 1) c)) gb rb sb h G ⟨h'.na, h'.nc, h'.la, h'.lc, h'.aa, h'.ac, some ⟨g, 0, none⟩, c⟩ ⟨S.tk, S.nt, S.st, S.ex, S.nm, S.lv, S.az, S.rs ++ [q.1]⟩ (qs ++ [q]) := by
  subst en
  obtain ⟨g, c, W', hr, hbox, h2, hk⟩ := s.sp.addRu q hq hn
  exact ⟨g, c, W', hr, by rw [cell_block hbox]; rfl, frozen_block hbox 7, h2, far_keptk hk s.sp.rl s.gx (by decide) (loc_ne ⟨_, s.gx⟩ ⟨_, s.sp.box⟩ (by decide)), far_keptk hk s.sp.rl s.rx (by decide) s.ne, s.ne⟩

/-- The Spec ahead of token k; behind its start; ahead of rule k. -/
def ry0 (G : Gm) (k : Nat) : Sp := ⟨G.ts.length, (lfs G.rs).length, 0, G.e, (G.ts.take k).map (·.n), (G.ts.take k).map (·.l), (G.ts.take k).map (·.a), []⟩
def ry1 (G : Gm) : Sp := ⟨G.ts.length, (lfs G.rs).length, stG G, G.e, nmG G, G.ts.map (·.l), G.ts.map (·.a), []⟩
def ry2 (G : Gm) (k : Nat) : Sp := ⟨G.ts.length, (lfs G.rs).length, stG G, G.e, nmG G, G.ts.map (·.l), G.ts.map (·.a), ⟨-1, [stG G], 0, 0⟩ :: (G.rs.take k).map (ruG G)⟩

theorem ry2_end (G : Gm) : ry2 G G.rs.length = spG G := by
  unfold ry2 spG
  rw [List.take_of_length_le (Nat.le_refl _)]

/-- A call as one step of a region that draws; its answer and its world are told by what it finds. -/
theorem step_call_ex {ops : Array Oper} {o : Oper} {a : Act} {w : World} {K : Act → World → Prop} {Q : Exit → Act → World → Prop} {E : Prop} (hg : o.guard = none)
    (f : FuncId) (args : Array Value) (v : Option Addr → Nat → Value) (P : Option Addr → Nat → World → Prop) (hrun : (execOp a.eval o).run Tryz.prog w = .ok (.enter f args) w)
    (hc : Calls Tryz.prog f args w fun e w' => ∃ xa xc, e = .returned (v xa xc) ∧ P xa xc w') (hK : ∀ xa xc w', P xa xc w' → K (a.put o.dst (v xa xc)) w') :
    if Region.wanted o (yielded ops a.tmps) = true then Oper.wp Tryz.prog o a w K Q else E := by
  have hw : Region.wanted o (yielded ops a.tmps) = true := by simp [Region.wanted, hg]
  rw [if_pos hw]
  unfold Oper.wp
  rw [hrun, Oper.upon_enter]
  refine hc.mono fun e w'' hh => ?_
  obtain ⟨xa, xc, rfl, hp⟩ := hh
  exact hK xa xc w'' hp

end Go.Proofs.YtebehlmidoencaaGreatDoor

/-
  The reference's Of.
-/
namespace Go.Proofs.YtebehlmidoencaaGreatDoor
open Go.RowKit

set_option maxRecDepth 20000

theorem lfs_head {rs : List Ru} (hne : rs ≠ []) {x : ByteArray} (hx : (lfs rs)[0]? = some x) : ((rs[0]?).map (·.l)).getD e0 = x := by
  have pre : ∀ (rs : List Ru) (l : List ByteArray) (x : ByteArray), l[0]? = some x → (rs.foldl lfS l)[0]? = some x := by
    intro rs
    induction rs with
    | nil => intro l x h; exact h
    | cons r rs ih =>
      intro l x h
      rw [List.foldl_cons]
      refine ih _ x ?_
      unfold lfS
      split
      · exact h
      · rw [List.getElem?_append_left (List.getElem?_eq_some_iff.1 h).1]; exact h
  cases rs with
  | nil => exact absurd rfl hne
  | cons r rs =>
    have h1 : (lfs (r :: rs))[0]? = some r.l := pre rs (lfS [] r) r.l rfl
    rw [hx] at h1
    cases h1
    rfl

set_option maxHeartbeats 8000000 in
theorem rof_calls (G : Gm) (h : Hd) (w : World) (k : Int) (hG : IsG w h G) (hk : OfR G k) : Calls Tryz.prog 11 #[gv h G] w fun e w' => ((k ≠ 0 ∧ e = .returned (.tuple #[.agg zC, .int .i64 k])) ∨ (k = 0 ∧ ∃ h', e = .returned (.tuple #[sv h' (spG G), .int .i64 0]) ∧ IsSp w' h' (spG G))) ∧ Below w.heap.size w w' := by
  have hs1 : G.ts.length ≤ 100 := hG.small.nt
  have hs2 : G.rs.length ≤ 200 := hG.small.nr
  have hm2 := rules_le hG.rul
  have HG : Hid (IsG w h G) := hG
  have HK : Hid (OfR G k) := hk
  clear hG hk
  obtain ⟨bm, hbm⟩ := bool_of (MayP G)
  have HBM : Hid (bm = true ↔ MayP G) := hbm
  have HMC : Hid (∀ V, Below w.heap.size w V → Calls Tryz.prog 28 #[gv h G] V fun e w' => e = .returned (.bool bm) ∧ Below V.heap.size V w') := fun V hV => rmay_calls G h V bm (HG.out.below hV) HBM.out
  obtain ⟨bl, hbl⟩ := bool_of (LongP G)
  have HBL : Hid (bl = true ↔ LongP G) := hbl
  have HLC : Hid (∀ V, Below w.heap.size w V → Calls Tryz.prog 29 #[gv h G] V fun e w' => e = .returned (.bool bl) ∧ Below V.heap.size V w') := fun V hV => rlong_calls G h V (HG.out.below hV) bl HBL.out
  obtain ⟨bn, hbn⟩ := bool_of (NmP G)
  have HBN : Hid (bn = true ↔ NmP G) := hbn
  have HNC : Hid (∀ V, Below w.heap.size w V → Calls Tryz.prog 30 #[gv h G] V fun e w' => e = .returned (.bool bn) ∧ Below V.heap.size V w') := fun V hV => rnamed_calls G h V (HG.out.below hV) bn HBN.out
  obtain ⟨m, HM⟩ : ∃ m, Hid ((lfs G.rs).length = m) := ⟨_, rfl⟩
  have hm9 : m ≤ 200 := by have := lfs_le G.rs; have := HM.out; omega
  have HLF : Hid (∀ V, Below w.heap.size w V → Calls Tryz.prog 31 #[gv h G] V fun e w' => ∃ ao c, e = .returned (.slice ao m c) ∧ Row w' 1 ao m c (strC (lfs G.rs)) ∧ Below V.heap.size V w') := fun V hV => by
    have := rlefts_calls G h V (HG.out.below hV)
    rw [HM.out] at this
    exact this.mono (fun e w' ⟨ao, c, he, ho, hb⟩ => ⟨ao, c, he, Row.of_own ho, hb⟩)
  clear hbm hbl hbn
  obtain ⟨ta, tc, ra, rc⟩ := h
  unfold gv at HMC HLC HNC HLF ⊢
  simp only at hm2 HMC HLC HNC HLF ⊢
  have hm1 : G.ts.length ≤ tc ∧ tc ≤ 9223372036854775807 := by have h1 := HG.out.tok.le; have h2 := HG.out.tok.max; simp only at h1 h2; unfold maxLen at h2; omega
  have hB1 : Below w.heap.size w ((w.alloc (.cells #[.slice ta G.ts.length tc, .string G.s, .int .i64 G.e, .slice ra G.rs.length rc] 25)).alloc (.cells zC 32)) := below_step (below_alloc _ _) (below_alloc _ _)
  have hg1 : ((w.alloc (.cells #[.slice ta G.ts.length tc, .string G.s, .int .i64 G.e, .slice ra G.rs.length rc] 25)).alloc (.cells zC 32)).heap[w.heap.size]? = some (.cells #[.slice ta G.ts.length tc, .string G.s, .int .i64 G.e, .slice ra G.rs.length rc] 25 (0, 0)) := block_below (below_alloc _ _) (heap_alloc_new _ _)
  have hg2 : ((w.alloc (.cells #[.slice ta G.ts.length tc, .string G.s, .int .i64 G.e, .slice ra G.rs.length rc] 25)).alloc (.cells zC 32)).heap[w.heap.size + 1]? = some (.cells zC 32 (0, 0)) := by
    have := heap_alloc_new (w.alloc (.cells #[.slice ta G.ts.length tc, .string G.s, .int .i64 G.e, .slice ra G.rs.length rc] 25)) (.cells zC 32)
    rwa [size_alloc1] at this
  obtain ⟨tn, HTN⟩ : ∃ tn, Hid (G.ts.length = tn) := ⟨_, rfl⟩
  obtain ⟨rn, HRN⟩ : ∃ rn, Hid (G.rs.length = rn) := ⟨_, rfl⟩
  rw [HTN.out] at hs1 hm1 HMC HLC HNC HLF hB1 hg1 hg2 ⊢
  rw [HRN.out] at hs2 hm2 HMC HLC HNC HLF hB1 hg1 hg2 ⊢
  go_enter Tryz.func11, Tryz.ntmps11
  go_upto_region 1 with fail
  have ez : (w.alloc (.cells #[.slice ta tn tc, .string G.s, .int .i64 G.e, .slice ra rn rc] 25)).alloc (.cells #[.int .i64 0, .int .i64 0, .int .i64 0, .int .i64 0, .slice none 0 0, .slice none 0 0, .slice none 0 0, .slice none 0 0] 32) = (w.alloc (.cells #[.slice ta tn tc, .string G.s, .int .i64 G.e, .slice ra rn rc] 25)).alloc (.cells zC 32) := rfl
  rw [ez]
  generalize (w.alloc (.cells #[.slice ta tn tc, .string G.s, .int .i64 G.e, .slice ra rn rc] 25)).alloc (.cells zC 32) = W1 at hB1 hg1 hg2 ⊢
  obtain ⟨gb, HGB⟩ : ∃ gb, Hid (gb = w.heap.size) := ⟨_, rfl⟩
  rw [← HGB.out] at hg1 hg2 ⊢
  have HRB : Hid (w.heap.size ≤ gb + 1) := by rw [HGB.out]; exact Nat.le_succ _
  generalize gb + 1 = rb at hg2 HRB ⊢
  have HST : Hid (∀ U V : World, (U.heap[gb]? = some (.cells #[.slice ta tn tc, .string G.s, .int .i64 G.e, .slice ra rn rc] 25 (0, 0)) ∧ U.heap[rb]? = some (.cells zC 32 (0, 0)) ∧ Below w.heap.size w U) → Below U.heap.size U V → (V.heap[gb]? = some (.cells #[.slice ta tn tc, .string G.s, .int .i64 G.e, .slice ra rn rc] 25 (0, 0)) ∧ V.heap[rb]? = some (.cells zC 32 (0, 0)) ∧ Below w.heap.size w V)) := fun U V h1 h2 => ⟨block_below h2 h1.1, block_below h2 h1.2.1, below_step h1.2.2 h2⟩
  have H1 : Hid (W1.heap[gb]? = some (.cells #[.slice ta tn tc, .string G.s, .int .i64 G.e, .slice ra rn rc] 25 (0, 0)) ∧ W1.heap[rb]? = some (.cells zC 32 (0, 0)) ∧ Below w.heap.size w W1) := ⟨hg1, hg2, hB1⟩
  obtain ⟨p0, p1, p2, p3⟩ := box4 hg1
  clear ez hB1 hg1 hg2 HGB
  go_wp2_with fail
  refine (HMC.out _ H1.out.2.2).mono ?_
  rintro e W2 ⟨rfl, hB2⟩
  have H2 : Hid (W2.heap[gb]? = some (.cells #[.slice ta tn tc, .string G.s, .int .i64 G.e, .slice ra rn rc] 25 (0, 0)) ∧ W2.heap[rb]? = some (.cells zC 32 (0, 0)) ∧ Below w.heap.size w W2) := HST.out _ _ H1.out hB2
  clear H1 hB2 p0 p1 p2 p3 HMC
  rcases bm with _ | _
  · have HKV : Hid (k = 1) := by
      have hn : ¬ MayP G := fun e => by have := HBM.out.2 e; cases this
      rcases HK.out with e | e | e | e | e
      · exact e.1
      · exact absurd e.2.1 hn
      · exact absurd e.2.1 hn
      · exact absurd e.2.1 hn
      · exact absurd e.2.1 hn
    obtain ⟨z0, z1, z2, z3, z4, z5, z6, z7⟩ := box8 H2.out.2.1
    obtain ⟨f0, f1, f2, f3, f4, f5, f6, f7⟩ := froz8 H2.out.2.1
    have HF : Hid (∀ v0 v1 v2 v3 v4 v5 v6 v7, Below w.heap.size w (set8 W2 rb v0 v1 v2 v3 v4 v5 v6 v7)) := fun v0 v1 v2 v3 v4 v5 v6 v7 => below_set8 H2.out.2.2 HRB.out
    go_wp2_with fail
    refine bodyPost_ret (v := .tuple #[.agg zC, .int .i64 1]) (by unfold zC sC; simp [results, Tryz.results11, go_sem, *]) rfl ?_
    exact ⟨.inl ⟨by rw [HKV.out]; decide, by rw [HKV.out]⟩, HF.out _ _ _ _ _ _ _ _⟩
  have HMP : Hid (MayP G) := HBM.out.1 rfl
  clear HBM
  obtain ⟨p0, p1, p2, p3⟩ := box4 H2.out.1
  go_wp2_with fail
  refine (HLC.out _ H2.out.2.2).mono ?_
  rintro e W3 ⟨rfl, hB3⟩
  have H3 : Hid (W3.heap[gb]? = some (.cells #[.slice ta tn tc, .string G.s, .int .i64 G.e, .slice ra rn rc] 25 (0, 0)) ∧ W3.heap[rb]? = some (.cells zC 32 (0, 0)) ∧ Below w.heap.size w W3) := HST.out _ _ H2.out hB3
  clear H2 hB3 p0 p1 p2 p3 HLC
  rcases bl with _ | _
  rotate_left
  · have HKV : Hid (k = 6) := by
      have hn : LongP G := HBL.out.1 rfl
      have hm : MayP G := HMP.out
      rcases HK.out with e | e | e | e | e
      · exact absurd hm e.2
      · exact e.1
      · exact absurd hn e.2.2.1
      · exact absurd hn e.2.2.1
      · exact absurd hn e.2.2.1
    obtain ⟨z0, z1, z2, z3, z4, z5, z6, z7⟩ := box8 H3.out.2.1
    obtain ⟨f0, f1, f2, f3, f4, f5, f6, f7⟩ := froz8 H3.out.2.1
    have HF : Hid (∀ v0 v1 v2 v3 v4 v5 v6 v7, Below w.heap.size w (set8 W3 rb v0 v1 v2 v3 v4 v5 v6 v7)) := fun v0 v1 v2 v3 v4 v5 v6 v7 => below_set8 H3.out.2.2 HRB.out
    go_wp2_with fail
    refine bodyPost_ret (v := .tuple #[.agg zC, .int .i64 6]) (by unfold zC sC; simp [results, Tryz.results11, go_sem, *]) rfl ?_
    exact ⟨.inl ⟨by rw [HKV.out]; decide, by rw [HKV.out]⟩, HF.out _ _ _ _ _ _ _ _⟩
  have HLN : Hid (¬ LongP G) := fun e => by have := HBL.out.2 e; cases this
  clear HBL
  obtain ⟨p0, p1, p2, p3⟩ := box4 H3.out.1
  go_wp2_with fail
  refine (HNC.out _ H3.out.2.2).mono ?_
  rintro e W4 ⟨rfl, hB4⟩
  have H4 : Hid (W4.heap[gb]? = some (.cells #[.slice ta tn tc, .string G.s, .int .i64 G.e, .slice ra rn rc] 25 (0, 0)) ∧ W4.heap[rb]? = some (.cells zC 32 (0, 0)) ∧ Below w.heap.size w W4) := HST.out _ _ H3.out hB4
  clear H3 hB4 p0 p1 p2 p3 HNC
  rcases bn with _ | _
  · have HKV : Hid (k = 7) := by
      have hl : ¬ LongP G := HLN.out
      have hn : ¬ NmP G := fun e => by have := HBN.out.2 e; cases this
      have hm : MayP G := HMP.out
      rcases HK.out with e | e | e | e | e
      · exact absurd hm e.2
      · exact absurd e.2.2 hl
      · exact e.1
      · exact absurd e.2.2.2.1 hn
      · exact absurd e.2.2.2.1 hn
    obtain ⟨z0, z1, z2, z3, z4, z5, z6, z7⟩ := box8 H4.out.2.1
    obtain ⟨f0, f1, f2, f3, f4, f5, f6, f7⟩ := froz8 H4.out.2.1
    have HF : Hid (∀ v0 v1 v2 v3 v4 v5 v6 v7, Below w.heap.size w (set8 W4 rb v0 v1 v2 v3 v4 v5 v6 v7)) := fun v0 v1 v2 v3 v4 v5 v6 v7 => below_set8 H4.out.2.2 HRB.out
    go_wp2_with fail
    refine bodyPost_ret (v := .tuple #[.agg zC, .int .i64 7]) (by unfold zC sC; simp [results, Tryz.results11, go_sem, *]) rfl ?_
    exact ⟨.inl ⟨by rw [HKV.out]; decide, by rw [HKV.out]⟩, HF.out _ _ _ _ _ _ _ _⟩
  have HNP : Hid (NmP G) := HBN.out.1 rfl
  clear HBN
  obtain ⟨p0, p1, p2, p3⟩ := box4 H4.out.1
  go_wp2_with fail
  refine (HLF.out _ H4.out.2.2).mono ?_
  rintro e w5 ⟨lo, lc, rfl, hrow, hB5⟩
  have hml := row_lens hrow
  have H5 : Hid ((w5.heap[gb]? = some (.cells #[.slice ta tn tc, .string G.s, .int .i64 G.e, .slice ra rn rc] 25 (0, 0)) ∧ w5.heap[rb]? = some (.cells zC 32 (0, 0)) ∧ Below w.heap.size w w5) ∧ Row w5 1 lo m lc (strC (lfs G.rs))) := ⟨HST.out _ _ H4.out hB5, hrow⟩
  clear H4 hB5 p0 p1 p2 p3 HLF hrow
  obtain ⟨p0, p1, p2, p3⟩ := box4 H5.out.1.1
  have hv : Below w5.heap.size w5 (w5.alloc (.cells #[.int .i64 (tn : Int), .int .i64 (m : Int), .int .i64 0, .int .i64 G.e, .slice none 0 0, .slice none 0 0, .slice none 0 0, .slice none 0 0] 32)) := below_alloc _ _
  have H6 : Hid (∃ h', SX w5 (w5.alloc (.cells #[.int .i64 (tn : Int), .int .i64 (m : Int), .int .i64 0, .int .i64 G.e, .slice none 0 0, .slice none 0 0, .slice none 0 0, .slice none 0 0] 32)) gb rb w5.heap.size ⟨ta, tc, ra, rc⟩ G h' (ry0 G 0)) := by
    refine ⟨⟨none, 0, none, 0, none, 0, none, 0⟩, SB.first ?_ rfl rfl rfl rfl hv (Nat.le_refl _), ?_, block_below hv H5.out.1.2.1, ?_⟩
    · unfold ry0 sC
      rw [HTN.out, HM.out]
      exact heap_alloc_new _ _
    · rw [HTN.out, HRN.out]
      exact block_below hv H5.out.1.1
    · have := (Array.getElem?_eq_some_iff.1 H5.out.1.2.1).1
      omega
  clear hv
  go_upto_region 9 with fail
  generalize w5.alloc (.cells #[.int .i64 (tn : Int), .int .i64 (m : Int), .int .i64 0, .int .i64 G.e, .slice none 0 0, .slice none 0 0, .slice none 0 0, .slice none 0 0] 32) = W6 at H6 ⊢
  obtain ⟨sb, HSB⟩ : ∃ sb, Hid (sb = w5.heap.size) := ⟨_, rfl⟩
  rw [← HSB.out] at H6 ⊢
  clear p0 p1 p2 p3
  have p0 : W6.cell? ⟨gb, 0, none⟩ = some (.slice ta tn tc) := by
    obtain ⟨h', s⟩ := H6.out
    rw [cell_block s.gx, HTN.out]; rfl
  go_wp2_with fail
  clear p0
  go_loopg [6] tn (fun kx s6 wr => ∃ k : Nat, s6 = .int .i64 k ∧ k ≤ tn ∧ tn - k ≤ kx ∧ Hid (∃ h', SX w5 wr gb rb sb ⟨ta, tc, ra, rc⟩ G h' (ry0 G k)))
  case atStart => exact ⟨0, rfl, Nat.zero_le _, by omega, H6⟩
  case round =>
    clear H6
    obtain ⟨j, rfl, hj, hg, J⟩ := hrel
    by_cases hlt : j < tn
    · have hlt' : (j : Int) < (tn : Int) := by omega
      obtain ⟨t, ht⟩ : ∃ t, G.ts[j]? = some t := ⟨G.ts[j]'(by rw [HTN.out]; exact hlt), List.getElem?_eq_getElem _⟩
      have HT : Hid (G.ts[j]? = some t) := ht
      obtain ⟨h', s⟩ := J.out
      have e1 : (ry0 G j).nm.length = j := by unfold ry0; simp; have := HTN.out; omega
      have e2 : (ry0 G j).lv.length = j := by unfold ry0; simp; have := HTN.out; omega
      have e3 : (ry0 G j).az.length = j := by unfold ry0; simp; have := HTN.out; omega
      obtain ⟨b, o, hta, d0, d1, d2⟩ := tok_at (HG.out.tok.below (below_step H5.out.1.2.2 s.sp.bel)) ht
      simp only at hta
      subst hta
      have HTB : Hid (∀ V, Below w5.heap.size w5 V → V.cell? ⟨b, o + j * 3, none⟩ = some (.string t.n) ∧ V.cell? ⟨b, o + j * 3 + 1, none⟩ = some (.int .i64 t.l) ∧ V.cell? ⟨b, o + j * 3 + 2, none⟩ = some (.int .i64 t.a)) := fun V hV => by
        obtain ⟨b', o', he, d0, d1, d2⟩ := tok_at (HG.out.tok.below (below_step H5.out.1.2.2 hV)) HT.out
        cases he
        exact ⟨d0, d1, d2⟩
      clear d0 d1 d2 ht J
      -- the name
      obtain ⟨g1, c1, V1, hr1, x1, f1, s1, -⟩ := (s.step (below_drew' wr)).addNm t.n (by omega)
      obtain ⟨-, -, -, -, y1, -, -, -⟩ := sbox s.sp.box
      have q0 : wr.cell? ⟨gb, 0, none⟩ = some (.slice (some ⟨b, o, none⟩) tn tc) := by rw [cell_block s.gx, HTN.out]; rfl
      obtain ⟨d0, d1, d2⟩ := HTB.out _ s.sp.bel
      rw [e1] at hr1 x1 s1 y1
      have hr1' : (Builtin.append_ #[28, 28] 28 #[.slice h'.na j h'.nc, .slice (some ⟨wr.heap.size, 0, none⟩) 1 1]).run Tryz.prog (wr.alloc (.cells #[.string t.n] 9)).drew = .ok (.slice (some ⟨g1, 0, none⟩) (j + 1) c1) V1 := hr1
      have q0' := cell_alloc q0 (.cells #[.string t.n] 9)
      have y1' := cell_alloc y1 (.cells #[.string t.n] 9)
      have d0' := cell_alloc d0 (.cells #[.string t.n] 9)
      have HS1 : Hid (SX w5 (V1.setCell ⟨sb, 4, none⟩ (.slice (some ⟨g1, 0, none⟩) (j + 1) c1)) gb rb sb ⟨some ⟨b, o, none⟩, tc, ra, rc⟩ G ⟨some ⟨g1, 0, none⟩, c1, h'.la, h'.lc, h'.aa, h'.ac, h'.ra, h'.rc⟩ ⟨(ry0 G j).tk, (ry0 G j).nt, (ry0 G j).st, (ry0 G j).ex, (ry0 G j).nm ++ [t.n], (ry0 G j).lv, (ry0 G j).az, (ry0 G j).rs⟩) := s1
      clear s1 s hr1 d1 d2
      obtain ⟨hla, HLA⟩ : ∃ x, Hid (h'.la = x) := ⟨_, rfl⟩
      go_upto_region 12 with fail
      go_cut [6] from 36 to 75 (fun s6 wd => s6 = .int .i64 (j : Int) ∧ Hid (SX w5 wd gb rb sb ⟨some ⟨b, o, none⟩, tc, ra, rc⟩ G ⟨some ⟨g1, 0, none⟩, c1, h'.la, h'.lc, h'.aa, h'.ac, h'.ra, h'.rc⟩ ⟨(ry0 G j).tk, (ry0 G j).nt, (ry0 G j).st, (ry0 G j).ex, (ry0 G j).nm ++ [t.n], (ry0 G j).lv, (ry0 G j).az, (ry0 G j).rs⟩))
      case first =>
        go_region_law (refine step_append_told rfl (.tmp 44) (.tmp 51) rfl rfl (by simp [Act.eval]) (by simp [Act.eval]) hr1' ?_)
        all_goals (go_wp2_with fail; go_meet; exact ⟨rfl, HS1⟩)
      case rest =>
        obtain ⟨rfl, HS⟩ := hcut
        obtain ⟨Q1, hQ1⟩ : ∃ Q1, Q1 = wc := ⟨_, rfl⟩
        subst wc
        clear HS1 hr1' q0 q0' y1 y1' d0 d0' x1 f1
        -- the level
        obtain ⟨g2, c2, V2, hr2, x2, f2, s2, -⟩ := (HS.out.step (below_drew' Q1)).addLv t.l (by show (ry0 G j).lv.length < 10000; omega)
        obtain ⟨-, -, -, -, -, y1, -, -⟩ := sbox HS.out.sp.box
        have q0 : Q1.cell? ⟨gb, 0, none⟩ = some (.slice (some ⟨b, o, none⟩) tn tc) := by rw [cell_block HS.out.gx, HTN.out]; rfl
        obtain ⟨-, d0, -⟩ := HTB.out _ HS.out.sp.bel
        simp only at hr2 x2 s2 y1
        rw [e2] at hr2 x2 s2 y1
        have hr2' : (Builtin.append_ #[29, 29] 29 #[.slice h'.la j h'.lc, .slice (some ⟨Q1.heap.size, 0, none⟩) 1 1]).run Tryz.prog (Q1.alloc (.cells #[.int .i64 t.l] 3)).drew = .ok (.slice (some ⟨g2, 0, none⟩) (j + 1) c2) V2 := hr2
        have q0' := cell_alloc q0 (.cells #[.int .i64 t.l] 3)
        have y1' := cell_alloc y1 (.cells #[.int .i64 t.l] 3)
        have d0' := cell_alloc d0 (.cells #[.int .i64 t.l] 3)
        have HS2 : Hid (SX w5 (V2.setCell ⟨sb, 5, none⟩ (.slice (some ⟨g2, 0, none⟩) (j + 1) c2)) gb rb sb ⟨some ⟨b, o, none⟩, tc, ra, rc⟩ G ⟨some ⟨g1, 0, none⟩, c1, some ⟨g2, 0, none⟩, c2, h'.aa, h'.ac, h'.ra, h'.rc⟩ ⟨(ry0 G j).tk, (ry0 G j).nt, (ry0 G j).st, (ry0 G j).ex, (ry0 G j).nm ++ [t.n], (ry0 G j).lv ++ [t.l], (ry0 G j).az, (ry0 G j).rs⟩) := s2
        clear s2 hr2 HS
        go_upto_region 13 with fail
        go_cut [6] from 36 to 75 (fun s6 wd => s6 = .int .i64 (j : Int) ∧ Hid (SX w5 wd gb rb sb ⟨some ⟨b, o, none⟩, tc, ra, rc⟩ G ⟨some ⟨g1, 0, none⟩, c1, some ⟨g2, 0, none⟩, c2, h'.aa, h'.ac, h'.ra, h'.rc⟩ ⟨(ry0 G j).tk, (ry0 G j).nt, (ry0 G j).st, (ry0 G j).ex, (ry0 G j).nm ++ [t.n], (ry0 G j).lv ++ [t.l], (ry0 G j).az, (ry0 G j).rs⟩))
        case first =>
          go_region_law (refine step_append_told rfl (.tmp 55) (.tmp 62) rfl rfl (by simp [Act.eval]) (by simp [Act.eval]) hr2' ?_)
          all_goals (go_wp2_with fail; go_meet; exact ⟨rfl, HS2⟩)
        case rest =>
          obtain ⟨rfl, HS⟩ := hcut
          obtain ⟨Q2, hQ2⟩ : ∃ Q2, Q2 = wc := ⟨_, rfl⟩
          subst wc
          clear HS2 hr2' q0 q0' y1 y1' d0 d0' x2 f2
          -- the kind
          obtain ⟨g3, c3, V3, hr3, x3, f3, s3⟩ := (HS.out.step (below_drew' Q2)).addAz t.a (by show (ry0 G j).az.length < 10000; omega)
          obtain ⟨-, -, -, -, -, -, y1, -⟩ := sbox HS.out.sp.box
          have q0 : Q2.cell? ⟨gb, 0, none⟩ = some (.slice (some ⟨b, o, none⟩) tn tc) := by rw [cell_block HS.out.gx, HTN.out]; rfl
          obtain ⟨-, -, d0⟩ := HTB.out _ HS.out.sp.bel
          simp only at hr3 x3 s3 y1
          rw [e3] at hr3 x3 s3 y1
          have hr3' : (Builtin.append_ #[29, 29] 29 #[.slice h'.aa j h'.ac, .slice (some ⟨Q2.heap.size, 0, none⟩) 1 1]).run Tryz.prog (Q2.alloc (.cells #[.int .i64 t.a] 3)).drew = .ok (.slice (some ⟨g3, 0, none⟩) (j + 1) c3) V3 := hr3
          have q0' := cell_alloc q0 (.cells #[.int .i64 t.a] 3)
          have y1' := cell_alloc y1 (.cells #[.int .i64 t.a] 3)
          have d0' := cell_alloc d0 (.cells #[.int .i64 t.a] 3)
          have HS3 : Hid (∃ h', SX w5 (V3.setCell ⟨sb, 6, none⟩ (.slice (some ⟨g3, 0, none⟩) (j + 1) c3)) gb rb sb ⟨some ⟨b, o, none⟩, tc, ra, rc⟩ G h' (ry0 G (j + 1))) := by
            have e : ry0 G (j + 1) = ⟨(ry0 G j).tk, (ry0 G j).nt, (ry0 G j).st, (ry0 G j).ex, (ry0 G j).nm ++ [t.n], (ry0 G j).lv ++ [t.l], (ry0 G j).az ++ [t.a], (ry0 G j).rs⟩ := by
              unfold ry0
              rw [take_succ HT.out]
              simp
            rw [← e] at s3
            exact ⟨_, s3⟩
          clear s3 hr3 HS
          go_upto_region 14 with fail
          go_region_law (refine step_append_told rfl (.tmp 66) (.tmp 73) rfl rfl (by simp [Act.eval]) (by simp [Act.eval]) hr3' ?_)
          all_goals
            go_wp2_with fail
            go_roundg (tn - (j + 1))
            case measure => omega
            case rel => exact ⟨j + 1, by simp, by omega, Nat.le_refl _, HS3⟩
    · have hlt' : ¬ (j : Int) < (tn : Int) := by omega
      obtain ⟨W7, hW7⟩ : ∃ W7, W7 = wr := ⟨_, rfl⟩
      subst wr
      obtain ⟨⟨b, o, rfl⟩, hm0⟩ : (∃ b o, lo = some ⟨b, o, none⟩) ∧ 0 < m := by
        obtain ⟨x, hx⟩ : ∃ x, x ∈ lfs G.rs := ⟨_, HNP.out.st⟩
        obtain ⟨i, hi⟩ := List.getElem?_of_mem hx
        obtain ⟨b, o, he, -⟩ := str_at H5.out.2 hi
        have := (List.getElem?_eq_some_iff.1 hi).1
        rw [HM.out] at this
        exact ⟨⟨b, o, he⟩, by omega⟩
      obtain ⟨h', s⟩ := J.out
      have ej : j = tn := by omega
      subst ej
      have e1 : (ry0 G j).nm.length = j := by unfold ry0; simp; have := HTN.out; omega
      obtain ⟨g1, c1, V1, ao, c2, V2, hr1, hr2, x1, f1, s1⟩ := s.two ⟨#[]⟩ (lfs G.rs) b o m lc j e1 HM.out H5.out.2 hm0 (by omega)
      obtain ⟨-, -, -, -, y1, -, -, -⟩ := sbox s.sp.box
      rw [e1] at y1
      have q0 : W7.cell? ⟨gb, 0, none⟩ = some (.slice ta j tc) := by rw [cell_block s.gx, HTN.out]; rfl
      have HS1 : Hid (∃ h', SY w5 (V2.setCell ⟨sb, 4, none⟩ (.slice ao (j + 1 + m) c2)) gb rb sb ⟨ta, tc, ra, rc⟩ G h' (sy0 G) []) := by
        have e : sy0 G = ⟨(ry0 G j).tk, (ry0 G j).nt, (ry0 G j).st, (ry0 G j).ex, (ry0 G j).nm ++ ⟨#[]⟩ :: lfs G.rs, (ry0 G j).lv, (ry0 G j).az, (ry0 G j).rs⟩ := by
          unfold ry0 sy0 nmG tkG
          rw [show G.ts.take j = G.ts from List.take_of_length_le (by rw [HTN.out]; exact Nat.le_refl _)]
          rfl
        rw [← e] at s1
        exact ⟨_, s1⟩
      clear s1 s J hlt hg hj
      go_upto_region 16 with (first | (at_builtin; refine Lib.wpList_append_run _ rfl _ _ _ _ rfl _ _ rfl rfl _ _ hr1 ?_) | (at_builtin; refine Lib.wpList_append_run _ rfl _ _ _ _ rfl _ _ rfl rfl _ _ hr2 ?_))
      generalize V2.setCell ⟨sb, 4, none⟩ (.slice ao (j + 1 + m) c2) = Q at HS1 ⊢
      clear hr1 hr2 x1 f1 y1 q0
      have p1 : Q.cell? ⟨gb, 1, none⟩ = some (.string G.s) := by
        obtain ⟨h', s⟩ := HS1.out
        rw [cell_block s.gx]; rfl
      have HBQ : Hid (Below w5.heap.size w5 Q) := by
        obtain ⟨h', s⟩ := HS1.out
        exact s.sp.bel
      obtain ⟨bs, hbs⟩ : ∃ bs, (G.s.toList == []) = bs := ⟨_, rfl⟩
      have HBS : Hid ((G.s.toList == []) = bs) := hbs
      go_upto_if 86 with fail
      clear hbs p1
      go_cut [7] (fun s7 wd => s7 = .string (startB G) ∧ Hid (wd = Q))
      case first =>
        cases bs
        · have HE : Hid (startB G = G.s) := by
            show _ = _
            unfold startB
            rw [if_neg (fun e => by have := (toList_nil G.s).2 e; rw [HBS.out] at this; cases this)]
          go_wp2_with fail
          go_meet
          exact ⟨by rw [HE.out], (rfl : Q = Q)⟩
        · obtain ⟨x, hx⟩ : ∃ x, (lfs G.rs)[0]? = some x := ⟨(lfs G.rs)[0]'(by rw [HM.out]; exact hm0), List.getElem?_eq_getElem _⟩
          have HE : Hid (startB G = x) := by
            show _ = _
            unfold startB
            rw [if_pos (show G.s = e0 from (toList_nil G.s).1 HBS.out)]
            exact lfs_head HNP.out.ne hx
          obtain ⟨b', o', he, d0⟩ := str_at (H5.out.2.below HBQ.out) hx
          cases he
          have d0' : Q.cell? ⟨b, o, none⟩ = some (.string x) := d0
          clear hx d0
          go_wp2_with fail
          go_meet
          exact ⟨by rw [HE.out], (rfl : Q = Q)⟩
      case rest =>
        obtain ⟨rfl, hwc⟩ := hcut
        obtain rfl : wc = Q := hwc.out
        clear hwc HBS
        obtain ⟨xi, HXI⟩ : ∃ xi, Hid (ix (lfs G.rs) (startB G) = xi) := ⟨_, rfl⟩
        have hxi : xi < m := by have := ix_lt HNP.out.st; rw [HXI.out, HM.out] at this; exact this
        obtain ⟨st, HSTN⟩ : ∃ st, Hid (stG G = st) := ⟨_, rfl⟩
        have HSE : Hid (((st : Nat) : Int) = IntKind.i64.wrap (IntKind.i64.wrap ((j : Int) + 1) + (xi : Int))) := by
          show _ = _
          have e1 : st = j + 1 + xi := by
            rw [← HSTN.out]
            unfold stG
            rw [HXI.out, HTN.out]
          have e2 : IntKind.i64.wrap ((j : Int) + 1) = (j : Int) + 1 := by rw [IntKind.wrap_i64]; omega
          have e3 : IntKind.i64.wrap ((j : Int) + 1 + (xi : Int)) = (j : Int) + 1 + (xi : Int) := by rw [IntKind.wrap_i64]; omega
          rw [e2, e3, e1]
          simp
        have HPC : Hid (∀ V : World, Row V 1 (some ⟨b, o, none⟩) m lc (strC (lfs G.rs)) → Calls Tryz.prog 32 #[.slice (some ⟨b, o, none⟩) m lc, .string (startB G)] V fun e w' => e = .returned (.int .i64 (xi : Int)) ∧ w' = V) := fun V hV => by
          have := place_calls (lfs G.rs) (some ⟨b, o, none⟩) lc (startB G) V (by rw [HM.out]; exact hV) (by rw [HM.out]; omega)
          rw [HM.out, ix_find HNP.out.st, HXI.out] at this
          exact this
        obtain ⟨W9, hW9⟩ : ∃ W9, W9 = wc := ⟨_, rfl⟩
        subst wc
        go_upto_region 19 with fail
        go_cut [7] (fun s7 wd => Hid (∃ h', SY w5 wd gb rb sb ⟨ta, tc, ra, rc⟩ G h' (ry1 G) []))
        case first =>
          obtain ⟨h', s⟩ := HS1.out
          have z0 : W9.cell? ⟨sb, 0, none⟩ = some (.int .i64 (j : Int)) := by
            have := (sbox s.sp.box).1
            rw [this, ← HTN.out]
            rfl
          have z2 : W9.cell? ⟨sb, 2, none⟩ = some (.int .i64 0) := (sbox s.sp.box).2.2.1
          have g2 := (froz8 s.sp.box).2.2.1
          have HF : Hid (∃ h', SY w5 (W9.setCell ⟨sb, 2, none⟩ (.int .i64 (IntKind.i64.wrap (IntKind.i64.wrap ((j : Int) + 1) + (xi : Int))))).drew gb rb sb ⟨ta, tc, ra, rc⟩ G h' (ry1 G) []) := by
            rw [← HSE.out, ← HSTN.out]
            exact ⟨h', (s.putSt (stG G)).step (below_drew' _)⟩
          clear s HS1
          go_region_with (first | (go_at_call 32; refine (HPC.out _ (H5.out.2.below (below_step HBQ.out (below_drew' _)))).mono ?_; rintro e V7 ⟨rfl, rfl⟩))
          all_goals
            go_wp2_with fail
            go_meet
            exact HF
        case rest =>
          obtain ⟨W10, hW10⟩ : ∃ W10, W10 = wc := ⟨_, rfl⟩
          subst wc
          clear HS1 HPC HBQ
          obtain ⟨h', s⟩ := hcut.out
          have hv : Below W10.heap.size W10 (W10.alloc (.cells #[.int .i64 (st : Int)] 3)) := below_alloc _ _
          have own1 : (W10.alloc (.cells #[.int .i64 (st : Int)] 3)).ownsRow w5.heap.size 3 1 (.slice (some ⟨W10.heap.size, 0, none⟩) 1 1) 1 (natC [stG G]) := by
            have := own_new W10 w5.heap.size 3 1 1 [.int .i64 (st : Int)] s.sp.bel.size rfl (by omega)
            unfold natC
            rw [HSTN.out]
            exact this
          obtain ⟨g1, c1, V1, hr1, x7, f7, s1⟩ := (s.step hv).addRu (⟨-1, [stG G], 0, 0⟩, some ⟨W10.heap.size, 0, none⟩, 1) 0 rfl own1 (by omega)
          rw [size_alloc1] at hr1
          have z7 : W10.cell? ⟨sb, 7, none⟩ = some (.slice h'.ra 0 h'.rc) := (sbox s.sp.box).2.2.2.2.2.2.2
          have z2 : W10.cell? ⟨sb, 2, none⟩ = some (.int .i64 (st : Int)) := by
            rw [← HSTN.out]
            exact (sbox s.sp.box).2.2.1
          have HS : Hid (∃ h' qs, SY w5 (V1.setCell ⟨sb, 7, none⟩ (.slice (some ⟨g1, 0, none⟩) (0 + 1) c1)) gb rb sb ⟨ta, tc, ra, rc⟩ G h' (ry2 G 0) qs) := ⟨_, _, s1⟩
          clear s s1 own1 hv hcut
          go_upto_region 21 with (at_builtin; refine Lib.wpList_append_run _ rfl _ _ _ _ rfl _ _ rfl rfl _ _ hr1 ?_)
          generalize V1.setCell ⟨sb, 7, none⟩ (.slice (some ⟨g1, 0, none⟩) (0 + 1) c1) = W11 at HS ⊢
          clear hr1 x7 f7 z7 z2
          have p3 : W11.cell? ⟨gb, 3, none⟩ = some (.slice ra rn rc) := by
            obtain ⟨h', qs, s⟩ := HS.out
            rw [cell_block s.gx, HRN.out]; rfl
          go_wp2_with fail
          clear p3
          go_loopg [8] rn (fun kx s8 wr => ∃ i : Nat, s8 = .int .i64 i ∧ i ≤ rn ∧ rn - i ≤ kx ∧ Hid (∃ h' qs, SY w5 wr gb rb sb ⟨ta, tc, ra, rc⟩ G h' (ry2 G i) qs))
          case atStart => exact ⟨0, rfl, Nat.zero_le _, by omega, HS⟩
          case round =>
            clear HS
            obtain ⟨i, rfl, hi, hg, J⟩ := hrel
            obtain ⟨h', qs, s⟩ := J.out
            obtain ⟨na, nc, la, lc', aa, ac, ra', rc'⟩ := h'
            obtain ⟨nn, HNN⟩ : ∃ nn, Hid ((nmG G).length = nn) := ⟨_, rfl⟩
            have HSR : Hid (sC ⟨na, nc, la, lc', aa, ac, ra', rc'⟩ (ry2 G i) = #[.int .i64 (j : Int), .int .i64 (m : Int), .int .i64 (st : Int), .int .i64 G.e, .slice na nn nc, .slice la j lc', .slice aa j ac, .slice ra' (i + 1) rc']) := by
              show _ = _
              unfold sC ry2
              rw [HTN.out, HM.out, HSTN.out, HNN.out]
              simp only [List.length_map, List.length_cons, List.length_take, HTN.out, HRN.out]
              rw [Nat.min_eq_left hi]
            have p3 : wr.cell? ⟨gb, 3, none⟩ = some (.slice ra rn rc) := by rw [cell_block s.gx, HRN.out]; rfl
            by_cases hlt2 : i < rn
            · have hlt2' : (i : Int) < (rn : Int) := by omega
              obtain ⟨r, hr⟩ : ∃ r, G.rs[i]? = some r := ⟨G.rs[i]'(by rw [HRN.out]; exact hlt2), List.getElem?_eq_getElem _⟩
              obtain ⟨b7, o7, ya, yc, hra, v0, v1, v2, hrow⟩ := (HG.out.rul.below H5.out.1.2.2).at hr
              simp only at hra
              subst hra
              have hb7 : b7 ≠ sb := by have := World.block_lt_of_cell? _ _ v0; have := HSB.out; simp only at *; omega
              have HR : Hid (G.rs[i]? = some r) := hr
              have HTR : Hid (∀ V, Below w5.heap.size w5 V → V.cell? ⟨b7, o7 + i * 3, none⟩ = some (.string r.l) ∧ V.cell? ⟨b7, o7 + i * 3 + 1, none⟩ = some (.slice ya r.r.length yc) ∧ V.cell? ⟨b7, o7 + i * 3 + 2, none⟩ = some (.string r.p) ∧ Row V 1 ya r.r.length yc (strC r.r)) := fun V hV => ⟨cell_below hV v0, cell_below hV v1, cell_below hV v2, hrow.below hV⟩
              clear v0 v1 v2 hrow
              obtain ⟨d0, d1, d2, hrow⟩ := HTR.out wr s.sp.bel
              obtain ⟨p0, p1, p2, -⟩ := box4 s.gx
              simp only at p0
              rw [HTN.out] at p0
              have hsx := s.sp.box
              rw [HSR.out] at hsx
              obtain ⟨z0, z1, z2, z3, z4, z5, z6, z7⟩ := box8 hsx
              obtain ⟨rl, HRL⟩ : ∃ rl, Hid (r.r.length = rl) := ⟨_, rfl⟩
              rw [HRL.out] at d1 hrow HTR
              obtain ⟨ql, HQL⟩ : ∃ ql, Hid ((ruG G r).l = ql) := ⟨_, rfl⟩
              obtain ⟨qn, HQN⟩ : ∃ qn, Hid ((ruG G r).r.length = qn) := ⟨_, rfl⟩
              obtain ⟨qv, HQV⟩ : ∃ qv, Hid ((ruG G r).lv = qv) := ⟨_, rfl⟩
              obtain ⟨qa, HQA⟩ : ∃ qa, Hid ((ruG G r).a = qa) := ⟨_, rfl⟩
              have HRC : Hid (Calls Tryz.prog 33 #[.agg #[.slice ta j tc, .string G.s, .int .i64 G.e, .slice (some ⟨b7, o7, none⟩) rn rc], .agg #[.int .i64 (j : Int), .int .i64 (m : Int), .int .i64 (st : Int), .int .i64 G.e, .slice na nn nc, .slice la j lc', .slice aa j ac, .slice ra' (i + 1) rc'], .agg #[.string r.l, .slice ya rl yc, .string r.p]] wr.drew fun e w' => ∃ xa xc, e = .returned (.agg #[.int .i64 ql, .slice xa qn xc, .int .i64 qv, .int .i64 qa]) ∧ (w'.ownsRow w5.heap.size 3 1 (.slice xa (ruG G r).r.length xc) (ruG G r).r.length (natC (ruG G r).r) ∧ SY w5 w' gb rb sb ⟨ta, tc, some ⟨b7, o7, none⟩, rc⟩ G ⟨na, nc, la, lc', aa, ac, ra', rc'⟩ (ry2 G i) qs)) := by
                have s9 := s.step (below_drew' wr)
                have hnm := s9.sp.isSp.nm
                have := rrule_calls G ⟨ta, tc, some ⟨b7, o7, none⟩, rc⟩ (ry2 G i) ⟨na, nc, la, lc', aa, ac, ra', rc'⟩ wr.drew (HG.out.below (below_step H5.out.1.2.2 s9.sp.bel)) hnm rfl rfl HMP.out HNP.out r (List.mem_of_getElem? hr) ya yc (by rw [HRL.out]; exact hrow.below (below_drew' _))
                unfold gv at this
                simp only at this
                rw [HTN.out, HRN.out, HSR.out, HRL.out] at this
                refine this.mono ?_
                rintro e w' ⟨xa, xc, rfl, ho, hb⟩
                exact ⟨xa, xc, by rw [HQL.out, HQN.out, HQV.out, HQA.out], own_mono ho s9.sp.bel.size, s9.step hb⟩
              have HAD : Hid (∀ (xa : Option Addr) (xc : Nat) (V : World), (V.ownsRow w5.heap.size 3 1 (.slice xa (ruG G r).r.length xc) (ruG G r).r.length (natC (ruG G r).r) ∧ SY w5 V gb rb sb ⟨ta, tc, some ⟨b7, o7, none⟩, rc⟩ G ⟨na, nc, la, lc', aa, ac, ra', rc'⟩ (ry2 G i) qs) → ∃ g c V2, (Builtin.append_ #[30, 30] 30 #[.slice ra' (i + 1) rc', .slice (some ⟨V.heap.size, 0, none⟩) 1 1]).run Tryz.prog (V.alloc (.cells #[.int .i64 ql, .slice xa qn xc, .int .i64 qv, .int .i64 qa] 62)) = .ok (.slice (some ⟨g, 0, none⟩) (i + 1 + 1) c) V2 ∧ V.cell? ⟨sb, 7, none⟩ = some (.slice ra' (i + 1) rc') ∧ V2.cell? ⟨sb, 7, none⟩ = some (.slice ra' (i + 1) rc') ∧ V2.frozen? ⟨sb, 7, none⟩ = false ∧ Hid (∃ h' qs, SY w5 (V2.setCell ⟨sb, 7, none⟩ (.slice (some ⟨g, 0, none⟩) (i + 1 + 1) c)) gb rb sb ⟨ta, tc, some ⟨b7, o7, none⟩, rc⟩ G h' (ry2 G (i + 1)) qs)) := fun xa xc V hV => by
                obtain ⟨ho, sV⟩ := hV
                have en : (ry2 G i).rs.length = i + 1 := by
                  unfold ry2
                  simp only [List.length_map, List.length_cons, List.length_take, HRN.out]
                  rw [Nat.min_eq_left hi]
                obtain ⟨g, c, V2, hr1, x7, f7, s1⟩ := sV.addRu (ruG G r, xa, xc) (i + 1) en ho (by omega)
                simp only at hr1 x7
                rw [HQL.out, HQN.out, HQV.out, HQA.out] at hr1
                have hsx := sV.sp.box
                rw [HSR.out] at hsx
                have e : ry2 G (i + 1) = ⟨(ry2 G i).tk, (ry2 G i).nt, (ry2 G i).st, (ry2 G i).ex, (ry2 G i).nm, (ry2 G i).lv, (ry2 G i).az, (ry2 G i).rs ++ [ruG G r]⟩ := by
                  unfold ry2
                  rw [take_succ HR.out]
                  simp
                have hfin : ∃ h' qs, SY w5 (V2.setCell ⟨sb, 7, none⟩ (.slice (some ⟨g, 0, none⟩) (i + 1 + 1) c)) gb rb sb ⟨ta, tc, some ⟨b7, o7, none⟩, rc⟩ G h' (ry2 G (i + 1)) qs := by
                  rw [e]
                  exact ⟨_, _, s1⟩
                exact ⟨g, c, V2, hr1, (box8 hsx).2.2.2.2.2.2.2, x7, f7, hfin⟩
              have HSV : Hid (∀ (V : World) (h3 : SHd) (S3 : Sp) (q3 : List (SR × Option Addr × Nat)), SY w5 V gb rb sb ⟨ta, tc, some ⟨b7, o7, none⟩, rc⟩ G h3 S3 q3 → (V.cell? ⟨gb, 0, none⟩ = some (.slice ta j tc) ∧ V.cell? ⟨gb, 1, none⟩ = some (.string G.s) ∧ V.cell? ⟨gb, 2, none⟩ = some (.int .i64 G.e) ∧ V.cell? ⟨gb, 3, none⟩ = some (.slice (some ⟨b7, o7, none⟩) rn rc) ∧ V.cell? ⟨b7, o7 + i * 3, none⟩ = some (.string r.l) ∧ V.cell? ⟨b7, o7 + i * 3 + 1, none⟩ = some (.slice ya rl yc) ∧ V.cell? ⟨b7, o7 + i * 3 + 2, none⟩ = some (.string r.p))) := fun V h3 S3 q3 sV => by
                obtain ⟨u0, u1, u2, u3⟩ := box4 sV.gx
                simp only at u0 u3
                rw [HTN.out] at u0
                rw [HRN.out] at u3
                obtain ⟨v0, v1, v2, -⟩ := HTR.out V sV.sp.bel
                exact ⟨u0, u1, u2, u3, v0, v1, v2⟩
              have HSN : Hid (∀ (V : World) (v : Value) (h3 : SHd) (S3 : Sp) (q3 : List (SR × Option Addr × Nat)), SY w5 (V.setCell ⟨sb, 7, none⟩ v) gb rb sb ⟨ta, tc, some ⟨b7, o7, none⟩, rc⟩ G h3 S3 q3 → (V.cell? ⟨gb, 0, none⟩ = some (.slice ta j tc) ∧ V.cell? ⟨gb, 1, none⟩ = some (.string G.s) ∧ V.cell? ⟨gb, 2, none⟩ = some (.int .i64 G.e) ∧ V.cell? ⟨gb, 3, none⟩ = some (.slice (some ⟨b7, o7, none⟩) rn rc) ∧ V.cell? ⟨b7, o7 + i * 3, none⟩ = some (.string r.l) ∧ V.cell? ⟨b7, o7 + i * 3 + 1, none⟩ = some (.slice ya rl yc) ∧ V.cell? ⟨b7, o7 + i * 3 + 2, none⟩ = some (.string r.p)) ∧ ((V.setCell ⟨sb, 7, none⟩ v).cell? ⟨gb, 0, none⟩ = some (.slice ta j tc) ∧ (V.setCell ⟨sb, 7, none⟩ v).cell? ⟨gb, 1, none⟩ = some (.string G.s) ∧ (V.setCell ⟨sb, 7, none⟩ v).cell? ⟨gb, 2, none⟩ = some (.int .i64 G.e) ∧ (V.setCell ⟨sb, 7, none⟩ v).cell? ⟨gb, 3, none⟩ = some (.slice (some ⟨b7, o7, none⟩) rn rc) ∧ (V.setCell ⟨sb, 7, none⟩ v).cell? ⟨b7, o7 + i * 3, none⟩ = some (.string r.l) ∧ (V.setCell ⟨sb, 7, none⟩ v).cell? ⟨b7, o7 + i * 3 + 1, none⟩ = some (.slice ya rl yc) ∧ (V.setCell ⟨sb, 7, none⟩ v).cell? ⟨b7, o7 + i * 3 + 2, none⟩ = some (.string r.p))) := fun V v h3 S3 q3 sV => by
                have hs := HSV.out _ _ _ _ sV
                have hgs : sb ≠ gb := fun e => loc_ne ⟨_, sV.gx⟩ ⟨_, sV.sp.box⟩ (by decide) e.symm
                have hbs : sb ≠ b7 := fun e => hb7 e.symm
                refine ⟨?_, hs⟩
                obtain ⟨k0, k1, k2, k3, k4, k5, k6⟩ := hs
                rw [World.cell?_setCell_far _ _ _ _ hgs] at k0 k1 k2 k3
                rw [World.cell?_setCell_far _ _ _ _ hbs] at k4 k5 k6
                exact ⟨k0, k1, k2, k3, k4, k5, k6⟩
              clear s J hr hrow hsx HSR
              go_upto_region 24 with fail
-- HAND{
              refine wp_region_held_drew (S := (fun w' => w'.cell? ⟨gb, 0, none⟩ = some (.slice ta j tc) ∧ w'.cell? ⟨gb, 1, none⟩ = some (.string G.s) ∧ w'.cell? ⟨gb, 2, none⟩ = some (.int .i64 G.e) ∧ w'.cell? ⟨gb, 3, none⟩ = some (.slice (some ⟨b7, o7, none⟩) rn rc) ∧ w'.cell? ⟨b7, o7 + i * 3, none⟩ = some (.string r.l) ∧ w'.cell? ⟨b7, o7 + i * 3 + 1, none⟩ = some (.slice ya rl yc) ∧ w'.cell? ⟨b7, o7 + i * 3 + 2, none⟩ = some (.string r.p))) (by kernel_rfl) ⟨p0, p1, p2, p3, d0, d1, d2⟩ (fun hHeld => ?_)
              refine wpAnyH_take (i := 0) (v := (.pointer (some ⟨sb, 7, none⟩))) rfl (by kernel_rfl) (by kernel_rfl) (by kernel_rfl) (fun _ _ _ h => h) (Or.inl ⟨by rfl, fun w9 hSw => ?_⟩) hHeld ?_
              · obtain ⟨hs0, hs1, hs2, hs3, hs4, hs5, hs6⟩ := hSw
                go_simp
                try (with_reducible rfl)
              simp only [Act.put]
              refine wpAnyH_take (i := 2) (v := (.agg #[.slice ta j tc, .string G.s, .int .i64 G.e, .slice (some ⟨b7, o7, none⟩) rn rc])) rfl (by kernel_rfl) (by kernel_rfl) (by kernel_rfl) (fun _ _ _ h => h) (Or.inl ⟨by rfl, fun w9 hSw => ?_⟩) hHeld ?_
              · obtain ⟨hs0, hs1, hs2, hs3, hs4, hs5, hs6⟩ := hSw
                go_simp
                try (with_reducible rfl)
              simp only [Act.put]
              refine wpAnyH_take (i := 4) (v := (.pointer (some ⟨gb, 3, none⟩))) rfl (by kernel_rfl) (by kernel_rfl) (by kernel_rfl) (fun _ _ _ h => h) (Or.inl ⟨by rfl, fun w9 hSw => ?_⟩) hHeld ?_
              · obtain ⟨hs0, hs1, hs2, hs3, hs4, hs5, hs6⟩ := hSw
                go_simp
                try (with_reducible rfl)
              simp only [Act.put]
              refine wpAnyH_take (i := 5) (v := (.slice (some ⟨b7, o7, none⟩) rn rc)) rfl (by kernel_rfl) (by kernel_rfl) (by kernel_rfl) (fun _ _ _ h => h) (Or.inl ⟨by rfl, fun w9 hSw => ?_⟩) hHeld ?_
              · obtain ⟨hs0, hs1, hs2, hs3, hs4, hs5, hs6⟩ := hSw
                go_simp
                try (with_reducible rfl)
              simp only [Act.put]
              refine wpAnyH_take (i := 6) (v := (.int .i64 (i : Int))) rfl (by kernel_rfl) (by kernel_rfl) (by kernel_rfl) (fun _ _ _ h => h) (Or.inl ⟨by rfl, fun w9 hSw => ?_⟩) hHeld ?_
              · obtain ⟨hs0, hs1, hs2, hs3, hs4, hs5, hs6⟩ := hSw
                go_simp
                try (with_reducible rfl)
              simp only [Act.put]
              refine wpAnyH_take (i := 7) (v := (.pointer (some ⟨b7, o7 + i * 3, none⟩))) rfl (by kernel_rfl) (by kernel_rfl) (by kernel_rfl) (fun _ _ _ h => h) (Or.inl ⟨by rfl, fun w9 hSw => ?_⟩) hHeld ?_
              · obtain ⟨hs0, hs1, hs2, hs3, hs4, hs5, hs6⟩ := hSw
                go_simp
                try (with_reducible rfl)
              simp only [Act.put]
              refine wpAnyH_take (i := 8) (v := (.agg #[.string r.l, .slice ya rl yc, .string r.p])) rfl (by kernel_rfl) (by kernel_rfl) (by kernel_rfl) (fun _ _ _ h => h) (Or.inl ⟨by rfl, fun w9 hSw => ?_⟩) hHeld ?_
              · obtain ⟨hs0, hs1, hs2, hs3, hs4, hs5, hs6⟩ := hSw
                go_simp
                try (with_reducible rfl)
              simp only [Act.put]
              refine wpAnyH_ready (rs := [1, 3]) (by kernel_rfl) (by simp) ?_
              refine AllReadyH.cons rfl (fun K hK => ?_) (AllReadyH.cons rfl (fun K hK => ?_) AllReadyH.nil)
              · skip
                go_simp
                refine hK.out _ _ ⟨p0, p1, p2, p3, d0, d1, d2⟩ (fun hHeld => ?_)
                clear hK K
                refine wpAnyH_ready (rs := [3]) (by kernel_rfl) (by simp) ?_
                refine AllReadyH.cons rfl (fun K hK => ?_) AllReadyH.nil
                go_simp
                refine hK.out _ _ ⟨p0, p1, p2, p3, d0, d1, d2⟩ (fun hHeld => ?_)
                clear hK K
                refine wpAnyH_ready (rs := [9]) (by kernel_rfl) (by simp) ?_
                refine AllReadyH.cons rfl (fun K hK => ?_) AllReadyH.nil
                refine step_call_ex rfl 33 #[.agg #[.slice ta j tc, .string G.s, .int .i64 G.e, .slice (some ⟨b7, o7, none⟩) rn rc], .agg #[.int .i64 (j : Int), .int .i64 (m : Int), .int .i64 (st : Int), .int .i64 G.e, .slice na nn nc, .slice la j lc', .slice aa j ac, .slice ra' (i + 1) rc'], .agg #[.string r.l, .slice ya rl yc, .string r.p]] (fun xa xc => .agg #[.int .i64 ql, .slice xa qn xc, .int .i64 qv, .int .i64 qa]) _ (by simp [Act.eval, go_sem]) HRC.out (fun xa xc V hV => ?_)
                obtain ⟨g, c, V2, hr1, y7, x7, f7, HN⟩ := HAD.out xa xc V hV
                have hSV := HSV.out V _ _ _ hV.2
                obtain ⟨t0, t1, t2, t3, t4, t5, t6⟩ := hSV
                refine hK.out _ _ ⟨t0, t1, t2, t3, t4, t5, t6⟩ (fun hHeld => ?_)
                clear hK K hV
                simp only [Act.put]
                refine wpAnyH_ready (rs := [10]) (by kernel_rfl) (by simp) ?_
                refine AllReadyH.cons rfl (fun K hK => ?_) AllReadyH.nil
                have y7' := cell_alloc y7 (.cells #[.int .i64 ql, .slice xa qn xc, .int .i64 qv, .int .i64 qa] 62)
                go_simp
                refine hK.out _ _ ⟨cell_alloc t0 _, cell_alloc t1 _, cell_alloc t2 _, cell_alloc t3 _, cell_alloc t4 _, cell_alloc t5 _, cell_alloc t6 _⟩ (fun hHeld => ?_)
                clear hK K
                refine wpAnyH_ready (rs := [11]) (by kernel_rfl) (by simp) ?_
                refine AllReadyH.cons rfl (fun K hK => ?_) AllReadyH.nil
                obtain ⟨hq, qq, sN⟩ := HN.out
                have hSN := HSN.out _ _ _ _ _ sN
                clear sN
                refine step_append_told rfl (.tmp 115) (.tmp 124) rfl rfl (by simp [Act.eval]) (by simp [Act.eval]) hr1 (hK.out _ _ hSN.1 (fun hHeld => ?_))
                simp only [Act.put]
                clear hK K
                refine wpAnyH_take (i := 12) (v := (.pointer (some ⟨sb, 7, none⟩))) rfl (by kernel_rfl) (by kernel_rfl) (by kernel_rfl) (fun _ _ _ h => h) (Or.inl ⟨by rfl, fun w9 hSw => ?_⟩) hHeld ?_
                · obtain ⟨hs0, hs1, hs2, hs3, hs4, hs5, hs6⟩ := hSw
                  go_simp
                  try (with_reducible rfl)
                simp only [Act.put]
                refine wpAnyH_ready (rs := [13]) (by kernel_rfl) (by simp) ?_
                refine AllReadyH.cons rfl (fun K hK => ?_) AllReadyH.nil
                go_simp
                refine hK.out _ _ hSN.2 (fun hHeld => ?_)
                clear hK K hSN
                refine wpAnyH_done (by kernel_rfl) ?_ _
                go_wp2_with fail
                go_roundg (rn - (i + 1))
                case measure => omega
                case rel => exact ⟨i + 1, by simp, by omega, Nat.le_refl _, HN⟩
              · skip
                go_simp
                refine hK.out _ _ ⟨p0, p1, p2, p3, d0, d1, d2⟩ (fun hHeld => ?_)
                clear hK K
                refine wpAnyH_ready (rs := [1, 9]) (by kernel_rfl) (by simp) ?_
                refine AllReadyH.cons rfl (fun K hK => ?_) (AllReadyH.cons rfl (fun K hK => ?_) AllReadyH.nil)
                · skip
                  go_simp
                  refine hK.out _ _ ⟨p0, p1, p2, p3, d0, d1, d2⟩ (fun hHeld => ?_)
                  clear hK K
                  refine wpAnyH_ready (rs := [9]) (by kernel_rfl) (by simp) ?_
                  refine AllReadyH.cons rfl (fun K hK => ?_) AllReadyH.nil
                  refine step_call_ex rfl 33 #[.agg #[.slice ta j tc, .string G.s, .int .i64 G.e, .slice (some ⟨b7, o7, none⟩) rn rc], .agg #[.int .i64 (j : Int), .int .i64 (m : Int), .int .i64 (st : Int), .int .i64 G.e, .slice na nn nc, .slice la j lc', .slice aa j ac, .slice ra' (i + 1) rc'], .agg #[.string r.l, .slice ya rl yc, .string r.p]] (fun xa xc => .agg #[.int .i64 ql, .slice xa qn xc, .int .i64 qv, .int .i64 qa]) _ (by simp [Act.eval, go_sem]) HRC.out (fun xa xc V hV => ?_)
                  obtain ⟨g, c, V2, hr1, y7, x7, f7, HN⟩ := HAD.out xa xc V hV
                  have hSV := HSV.out V _ _ _ hV.2
                  obtain ⟨t0, t1, t2, t3, t4, t5, t6⟩ := hSV
                  refine hK.out _ _ ⟨t0, t1, t2, t3, t4, t5, t6⟩ (fun hHeld => ?_)
                  clear hK K hV
                  simp only [Act.put]
                  refine wpAnyH_ready (rs := [10]) (by kernel_rfl) (by simp) ?_
                  refine AllReadyH.cons rfl (fun K hK => ?_) AllReadyH.nil
                  have y7' := cell_alloc y7 (.cells #[.int .i64 ql, .slice xa qn xc, .int .i64 qv, .int .i64 qa] 62)
                  go_simp
                  refine hK.out _ _ ⟨cell_alloc t0 _, cell_alloc t1 _, cell_alloc t2 _, cell_alloc t3 _, cell_alloc t4 _, cell_alloc t5 _, cell_alloc t6 _⟩ (fun hHeld => ?_)
                  clear hK K
                  refine wpAnyH_ready (rs := [11]) (by kernel_rfl) (by simp) ?_
                  refine AllReadyH.cons rfl (fun K hK => ?_) AllReadyH.nil
                  obtain ⟨hq, qq, sN⟩ := HN.out
                  have hSN := HSN.out _ _ _ _ _ sN
                  clear sN
                  refine step_append_told rfl (.tmp 115) (.tmp 124) rfl rfl (by simp [Act.eval]) (by simp [Act.eval]) hr1 (hK.out _ _ hSN.1 (fun hHeld => ?_))
                  simp only [Act.put]
                  clear hK K
                  refine wpAnyH_take (i := 12) (v := (.pointer (some ⟨sb, 7, none⟩))) rfl (by kernel_rfl) (by kernel_rfl) (by kernel_rfl) (fun _ _ _ h => h) (Or.inl ⟨by rfl, fun w9 hSw => ?_⟩) hHeld ?_
                  · obtain ⟨hs0, hs1, hs2, hs3, hs4, hs5, hs6⟩ := hSw
                    go_simp
                    try (with_reducible rfl)
                  simp only [Act.put]
                  refine wpAnyH_ready (rs := [13]) (by kernel_rfl) (by simp) ?_
                  refine AllReadyH.cons rfl (fun K hK => ?_) AllReadyH.nil
                  go_simp
                  refine hK.out _ _ hSN.2 (fun hHeld => ?_)
                  clear hK K hSN
                  refine wpAnyH_done (by kernel_rfl) ?_ _
                  go_wp2_with fail
                  go_roundg (rn - (i + 1))
                  case measure => omega
                  case rel => exact ⟨i + 1, by simp, by omega, Nat.le_refl _, HN⟩
                · skip
                  refine step_call_ex rfl 33 #[.agg #[.slice ta j tc, .string G.s, .int .i64 G.e, .slice (some ⟨b7, o7, none⟩) rn rc], .agg #[.int .i64 (j : Int), .int .i64 (m : Int), .int .i64 (st : Int), .int .i64 G.e, .slice na nn nc, .slice la j lc', .slice aa j ac, .slice ra' (i + 1) rc'], .agg #[.string r.l, .slice ya rl yc, .string r.p]] (fun xa xc => .agg #[.int .i64 ql, .slice xa qn xc, .int .i64 qv, .int .i64 qa]) _ (by simp [Act.eval, go_sem]) HRC.out (fun xa xc V hV => ?_)
                  obtain ⟨g, c, V2, hr1, y7, x7, f7, HN⟩ := HAD.out xa xc V hV
                  have hSV := HSV.out V _ _ _ hV.2
                  obtain ⟨t0, t1, t2, t3, t4, t5, t6⟩ := hSV
                  refine hK.out _ _ ⟨t0, t1, t2, t3, t4, t5, t6⟩ (fun hHeld => ?_)
                  clear hK K hV
                  simp only [Act.put]
                  refine wpAnyH_ready (rs := [1, 10]) (by kernel_rfl) (by simp) ?_
                  refine AllReadyH.cons rfl (fun K hK => ?_) (AllReadyH.cons rfl (fun K hK => ?_) AllReadyH.nil)
                  · skip
                    go_simp
                    refine hK.out _ _ ⟨t0, t1, t2, t3, t4, t5, t6⟩ (fun hHeld => ?_)
                    clear hK K
                    refine wpAnyH_ready (rs := [10]) (by kernel_rfl) (by simp) ?_
                    refine AllReadyH.cons rfl (fun K hK => ?_) AllReadyH.nil
                    have y7' := cell_alloc y7 (.cells #[.int .i64 ql, .slice xa qn xc, .int .i64 qv, .int .i64 qa] 62)
                    go_simp
                    refine hK.out _ _ ⟨cell_alloc t0 _, cell_alloc t1 _, cell_alloc t2 _, cell_alloc t3 _, cell_alloc t4 _, cell_alloc t5 _, cell_alloc t6 _⟩ (fun hHeld => ?_)
                    clear hK K
                    refine wpAnyH_ready (rs := [11]) (by kernel_rfl) (by simp) ?_
                    refine AllReadyH.cons rfl (fun K hK => ?_) AllReadyH.nil
                    obtain ⟨hq, qq, sN⟩ := HN.out
                    have hSN := HSN.out _ _ _ _ _ sN
                    clear sN
                    refine step_append_told rfl (.tmp 115) (.tmp 124) rfl rfl (by simp [Act.eval]) (by simp [Act.eval]) hr1 (hK.out _ _ hSN.1 (fun hHeld => ?_))
                    simp only [Act.put]
                    clear hK K
                    refine wpAnyH_take (i := 12) (v := (.pointer (some ⟨sb, 7, none⟩))) rfl (by kernel_rfl) (by kernel_rfl) (by kernel_rfl) (fun _ _ _ h => h) (Or.inl ⟨by rfl, fun w9 hSw => ?_⟩) hHeld ?_
                    · obtain ⟨hs0, hs1, hs2, hs3, hs4, hs5, hs6⟩ := hSw
                      go_simp
                      try (with_reducible rfl)
                    simp only [Act.put]
                    refine wpAnyH_ready (rs := [13]) (by kernel_rfl) (by simp) ?_
                    refine AllReadyH.cons rfl (fun K hK => ?_) AllReadyH.nil
                    go_simp
                    refine hK.out _ _ hSN.2 (fun hHeld => ?_)
                    clear hK K hSN
                    refine wpAnyH_done (by kernel_rfl) ?_ _
                    go_wp2_with fail
                    go_roundg (rn - (i + 1))
                    case measure => omega
                    case rel => exact ⟨i + 1, by simp, by omega, Nat.le_refl _, HN⟩
                  · skip
                    have y7' := cell_alloc y7 (.cells #[.int .i64 ql, .slice xa qn xc, .int .i64 qv, .int .i64 qa] 62)
                    go_simp
                    refine hK.out _ _ ⟨cell_alloc t0 _, cell_alloc t1 _, cell_alloc t2 _, cell_alloc t3 _, cell_alloc t4 _, cell_alloc t5 _, cell_alloc t6 _⟩ (fun hHeld => ?_)
                    clear hK K
                    refine wpAnyH_ready (rs := [1]) (by kernel_rfl) (by simp) ?_
                    refine AllReadyH.cons rfl (fun K hK => ?_) AllReadyH.nil
                    go_simp
                    refine hK.out _ _ ⟨cell_alloc t0 _, cell_alloc t1 _, cell_alloc t2 _, cell_alloc t3 _, cell_alloc t4 _, cell_alloc t5 _, cell_alloc t6 _⟩ (fun hHeld => ?_)
                    clear hK K
                    refine wpAnyH_ready (rs := [11]) (by kernel_rfl) (by simp) ?_
                    refine AllReadyH.cons rfl (fun K hK => ?_) AllReadyH.nil
                    obtain ⟨hq, qq, sN⟩ := HN.out
                    have hSN := HSN.out _ _ _ _ _ sN
                    clear sN
                    refine step_append_told rfl (.tmp 115) (.tmp 124) rfl rfl (by simp [Act.eval]) (by simp [Act.eval]) hr1 (hK.out _ _ hSN.1 (fun hHeld => ?_))
                    simp only [Act.put]
                    clear hK K
                    refine wpAnyH_take (i := 12) (v := (.pointer (some ⟨sb, 7, none⟩))) rfl (by kernel_rfl) (by kernel_rfl) (by kernel_rfl) (fun _ _ _ h => h) (Or.inl ⟨by rfl, fun w9 hSw => ?_⟩) hHeld ?_
                    · obtain ⟨hs0, hs1, hs2, hs3, hs4, hs5, hs6⟩ := hSw
                      go_simp
                      try (with_reducible rfl)
                    simp only [Act.put]
                    refine wpAnyH_ready (rs := [13]) (by kernel_rfl) (by simp) ?_
                    refine AllReadyH.cons rfl (fun K hK => ?_) AllReadyH.nil
                    go_simp
                    refine hK.out _ _ hSN.2 (fun hHeld => ?_)
                    clear hK K hSN
                    refine wpAnyH_done (by kernel_rfl) ?_ _
                    go_wp2_with fail
                    go_roundg (rn - (i + 1))
                    case measure => omega
                    case rel => exact ⟨i + 1, by simp, by omega, Nat.le_refl _, HN⟩
-- HAND}
            · have hlt2' : ¬ (i : Int) < (rn : Int) := by omega
              have ei : i = rn := by omega
              subst ei
              obtain ⟨w8, hw8⟩ : ∃ w8, w8 = wr := ⟨_, rfl⟩
              subst wr
              have e9 : ry2 G i = spG G := by rw [← HRN.out]; exact ry2_end G
              rw [e9] at s HSR
              obtain ⟨n, hnn⟩ : ∃ n, n = j + 1 + m := ⟨_, rfl⟩
              have HN9 : Hid (n = (spG G).tk + 1 + (spG G).nt ∧ (spG G).tk = j) := by
                have e1 : (spG G).tk = j := HTN.out
                have e2 : (spG G).nt = m := HM.out
                refine ⟨?_, e1⟩
                rw [e1, e2]
                exact hnn
              have HNE : Hid (n = j + 1 + m) := hnn
              clear hnn
              have HYC : Hid (∀ V : World, SY w5 V gb rb sb ⟨ta, tc, ra, rc⟩ G ⟨na, nc, la, lc', aa, ac, ra', rc'⟩ (spG G) qs → Calls Tryz.prog 34 #[.agg #[.int .i64 (j : Int), .int .i64 (m : Int), .int .i64 (st : Int), .int .i64 G.e, .slice na nn nc, .slice la j lc', .slice aa j ac, .slice ra' (i + 1) rc']] V fun e w' => BRes V w' n (Der (spG G)) e) := fun V sV => by
                have := ryields_calls V _ (spG G) n HN9.out.1 (spG_wf HMP.out HLN.out HNP.out) sV.sp.isSp
                unfold sv at this
                rw [HSR.out] at this
                exact this
              have HRC : Hid (∀ V : World, SY w5 V gb rb sb ⟨ta, tc, ra, rc⟩ G ⟨na, nc, la, lc', aa, ac, ra', rc'⟩ (spG G) qs → Calls Tryz.prog 35 #[.agg #[.int .i64 (j : Int), .int .i64 (m : Int), .int .i64 (st : Int), .int .i64 G.e, .slice na nn nc, .slice la j lc', .slice aa j ac, .slice ra' (i + 1) rc']] V fun e w' => BRes V w' n (Rch (spG G)) e) := fun V sV => by
                have := rreached_calls V _ (spG G) n HN9.out.1 (spG_wf HMP.out HLN.out HNP.out) sV.sp.isSp
                unfold sv at this
                rw [HSR.out] at this
                exact this
              have HBX : Hid (∀ V : World, SY w5 V gb rb sb ⟨ta, tc, ra, rc⟩ G ⟨na, nc, la, lc', aa, ac, ra', rc'⟩ (spG G) qs → V.heap[sb]? = some (.cells #[.int .i64 (j : Int), .int .i64 (m : Int), .int .i64 (st : Int), .int .i64 G.e, .slice na nn nc, .slice la j lc', .slice aa j ac, .slice ra' (i + 1) rc'] 32 (0, 0))) := fun V sV => by
                have := sV.sp.box
                rw [HSR.out] at this
                exact this
              have HS0 : Hid (SY w5 w8.drew gb rb sb ⟨ta, tc, ra, rc⟩ G ⟨na, nc, la, lc', aa, ac, ra', rc'⟩ (spG G) qs) := s.step (below_drew' _)
              obtain ⟨c0, c1', c2', c3, c4, c5, c6, c7⟩ := box8 (HBX.out w8 s)
              have HSV9 : Hid (sC ⟨na, nc, la, lc', aa, ac, ra', rc'⟩ (spG G) = #[.int .i64 (j : Int), .int .i64 (m : Int), .int .i64 (st : Int), .int .i64 G.e, .slice na nn nc, .slice la j lc', .slice aa j ac, .slice ra' (i + 1) rc']) := HSR.out
              clear s J HSR
              go_upto_region 25 with fail
              go_cut [9, 10] (fun s9 s10 wd => ∃ f1 f2 : Nat, s9 = .slice (some ⟨f1, 0, none⟩) n n ∧ s10 = .slice (some ⟨f2, 0, none⟩) n n ∧ Hid (∃ d1 d2 : List Bool, d1.length = n ∧ d2.length = n ∧ Tells (Der (spG G)) d1 ∧ Tells (Rch (spG G)) d2 ∧ wd.ownsRow 0 4 1 (.slice (some ⟨f1, 0, none⟩) n n) n (booC d1) ∧ wd.ownsRow 0 4 1 (.slice (some ⟨f2, 0, none⟩) n n) n (booC d2) ∧ SY w5 wd gb rb sb ⟨ta, tc, ra, rc⟩ G ⟨na, nc, la, lc', aa, ac, ra', rc'⟩ (spG G) qs))
              case first =>
                go_region_with (first
                  | (go_at_call 34; refine (HYC.out _ (by first | exact HS0.out | exact HSR2.out)).mono ?_; rintro e VY ⟨fy, dy, rfl, ly, oy, ty, hBY⟩; have HSY2 : Hid (SY w5 VY gb rb sb ⟨ta, tc, ra, rc⟩ G ⟨na, nc, la, lc', aa, ac, ra', rc'⟩ (spG G) qs) := (by first | exact HS0.out.step hBY | exact HSR2.out.step hBY); obtain ⟨y0, y1, y2, y3, y4, y5, y6, y7⟩ := box8 (HBX.out VY HSY2.out))
                  | (go_at_call 35; refine (HRC.out _ (by first | exact HS0.out | exact HSY2.out)).mono ?_; rintro e VR ⟨fr, dr, rfl, lr, or_, tr, hBR⟩; have HSR2 : Hid (SY w5 VR gb rb sb ⟨ta, tc, ra, rc⟩ G ⟨na, nc, la, lc', aa, ac, ra', rc'⟩ (spG G) qs) := (by first | exact HS0.out.step hBR | exact HSY2.out.step hBR); obtain ⟨x0, x1, x2, x3, x4, x5, x6, x7⟩ := box8 (HBX.out VR HSR2.out)))
                all_goals first
                  | (have HF : Hid (∃ d1 d2 : List Bool, d1.length = n ∧ d2.length = n ∧ Tells (Der (spG G)) d1 ∧ Tells (Rch (spG G)) d2 ∧ VR.ownsRow 0 4 1 (.slice (some ⟨fy, 0, none⟩) n n) n (booC d1) ∧ VR.ownsRow 0 4 1 (.slice (some ⟨fr, 0, none⟩) n n) n (booC d2) ∧ SY w5 VR gb rb sb ⟨ta, tc, ra, rc⟩ G ⟨na, nc, la, lc', aa, ac, ra', rc'⟩ (spG G) qs) := ⟨dy, dr, ly, lr, ty, tr, own_step (own_mono oy (Nat.zero_le _)) hBR, own_mono or_ (Nat.zero_le _), HSR2.out⟩
                     clear y0 y1 y2 y3 y4 y5 y6 y7 x0 x1 x2 x3 x4 x5 x6 x7 oy or_ ly lr ty tr hBY hBR
                     go_wp2_with fail
                     go_meet
                     exact ⟨fy, fr, rfl, rfl, HF⟩)
                  | (have HF : Hid (∃ d1 d2 : List Bool, d1.length = n ∧ d2.length = n ∧ Tells (Der (spG G)) d1 ∧ Tells (Rch (spG G)) d2 ∧ VY.ownsRow 0 4 1 (.slice (some ⟨fy, 0, none⟩) n n) n (booC d1) ∧ VY.ownsRow 0 4 1 (.slice (some ⟨fr, 0, none⟩) n n) n (booC d2) ∧ SY w5 VY gb rb sb ⟨ta, tc, ra, rc⟩ G ⟨na, nc, la, lc', aa, ac, ra', rc'⟩ (spG G) qs) := ⟨dy, dr, ly, lr, ty, tr, own_mono oy (Nat.zero_le _), own_step (own_mono or_ (Nat.zero_le _)) hBY, HSY2.out⟩
                     clear y0 y1 y2 y3 y4 y5 y6 y7 x0 x1 x2 x3 x4 x5 x6 x7 oy or_ ly lr ty tr hBY hBR
                     go_wp2_with fail
                     go_meet
                     exact ⟨fy, fr, rfl, rfl, HF⟩)
              case rest =>
                obtain ⟨f1, f2, rfl, rfl, J0⟩ := hcut
                obtain ⟨w9, hw9⟩ : ∃ w9, w9 = wc := ⟨_, rfl⟩
                subst wc
                clear c0 c1' c2' c3 c4 c5 c6 c7 HYC HRC HS0
                obtain ⟨d1, d2, l1, l2, t1, t2, o1, o2, s9⟩ := J0.out
                have HJ : Hid (d1.length = n ∧ d2.length = n ∧ Tells (Der (spG G)) d1 ∧ Tells (Rch (spG G)) d2 ∧ w9.ownsRow 0 4 1 (.slice (some ⟨f1, 0, none⟩) n n) n (booC d1) ∧ w9.ownsRow 0 4 1 (.slice (some ⟨f2, 0, none⟩) n n) n (booC d2) ∧ SY w5 w9 gb rb sb ⟨ta, tc, ra, rc⟩ G ⟨na, nc, la, lc', aa, ac, ra', rc'⟩ (spG G) qs) := ⟨l1, l2, t1, t2, o1, o2, s9⟩
                obtain ⟨c0, c1', c2', c3, c4, c5, c6, c7⟩ := box8 (HBX.out w9 s9)
                obtain ⟨z0, z1, z2, z3, z4, z5, z6, z7⟩ := box8 s9.rx
                obtain ⟨g0, g1', g2, g3, g4, g5, g6, g7⟩ := froz8 s9.rx
                have HF : Hid (∀ v0 v1 v2 v3 v4 v5 v6 v7, IsSp (set8 w9 rb v0 v1 v2 v3 v4 v5 v6 v7) ⟨na, nc, la, lc', aa, ac, ra', rc'⟩ (spG G) ∧ Below w.heap.size w (set8 w9 rb v0 v1 v2 v3 v4 v5 v6 v7)) := fun v0 v1 v2 v3 v4 v5 v6 v7 => ⟨(s9.sp.own.set8 ⟨_, s9.rx⟩).isSp, below_set8 (below_step H5.out.1.2.2 s9.sp.bel) HRB.out⟩
                clear l1 l2 t1 t2 o1 o2 s9 J0 HBX
                go_wp2_with fail
                go_loopg [11] n (fun kx s11 wr => ∃ x : Nat, s11 = .int .i64 x ∧ j + 1 ≤ x ∧ x ≤ n ∧ n - x ≤ kx ∧ Hid (wr = w9 ∧ ∀ y, j < y → y < x → Der (spG G) y ∧ Rch (spG G) y))
                case atStart => exact ⟨j + 1, by simp, Nat.le_refl _, by have := HNE.out; omega, by omega, (⟨rfl, fun x h1 h2 => by omega⟩ : w9 = w9 ∧ ∀ y, j < y → y < j + 1 → Der (spG G) y ∧ Rch (spG G) y)⟩
                case round =>
                  obtain ⟨x, rfl, hx1, hx, hg2, J⟩ := hrel
                  obtain ⟨hwr, hJ⟩ := J.out
                  subst hwr
                  have HX : Hid (∀ y, j < y → y < x → Der (spG G) y ∧ Rch (spG G) y) := hJ
                  clear J hJ
                  by_cases hlt : x < n
                  · have hlt' : (x : Int) ≤ (j : Int) + (m : Int) := by have := HNE.out; omega
                    have hxn' : (x : Int) < (n : Int) := by omega
                    have q1 := boo_at HJ.out.2.2.2.2.1 HJ.out.1 hlt
                    have q2 := boo_at HJ.out.2.2.2.2.2.1 HJ.out.2.1 hlt
                    obtain ⟨x1, HX1⟩ : ∃ x1, Hid (isF d1 x = x1) := ⟨_, rfl⟩
                    obtain ⟨x2, HX2⟩ : ∃ x2, Hid (isF d2 x = x2) := ⟨_, rfl⟩
                    rw [HX1.out] at q1
                    rw [HX2.out] at q2
                    have T1 : Hid (x1 = true ↔ Der (spG G) x) := by rw [← HX1.out]; exact tells_is HJ.out.2.2.1 (by rw [HJ.out.1]; exact hlt)
                    have T2 : Hid (x2 = true ↔ Rch (spG G) x) := by rw [← HX2.out]; exact tells_is HJ.out.2.2.2.1 (by rw [HJ.out.2.1]; exact hlt)
                    have bad : (¬ Der (spG G) x ∨ ¬ Rch (spG G) x) → Hid (k = 8) := fun e => by
                      have hu : UselP (spG G) := ⟨x, by have := HN9.out.2; omega, by have := HN9.out.1; omega, e⟩
                      rcases HK.out with e | e | e | e | e
                      · exact absurd HMP.out e.2
                      · exact absurd e.2.2 HLN.out
                      · exact absurd HNP.out e.2.2.2
                      · exact e.1
                      · exact absurd hu e.2.2.2.2
                    cases x1
                    · have HKV := bad (.inl (fun e => by have := T1.out.2 e; cases this))
                      clear bad
                      go_wp2_with fail
                      refine bodyPost_ret (v := .tuple #[.agg zC, .int .i64 8]) (by unfold zC sC; simp [results, Tryz.results11, go_sem, *]) rfl ?_
                      exact ⟨.inl ⟨by rw [HKV.out]; decide, by rw [HKV.out]⟩, (HF.out _ _ _ _ _ _ _ _).2⟩
                    · cases x2
                      · have HKV := bad (.inr (fun e => by have := T2.out.2 e; cases this))
                        clear bad
                        go_wp2_with fail
                        refine bodyPost_ret (v := .tuple #[.agg zC, .int .i64 8]) (by unfold zC sC; simp [results, Tryz.results11, go_sem, *]) rfl ?_
                        exact ⟨.inl ⟨by rw [HKV.out]; decide, by rw [HKV.out]⟩, (HF.out _ _ _ _ _ _ _ _).2⟩
                      · have HFX : Hid (∀ y, j < y → y < x + 1 → Der (spG G) y ∧ Rch (spG G) y) := fun y h1 h2 => by
                          rcases Nat.lt_or_ge y x with h3 | h3
                          · exact HX.out y h1 h3
                          · have : y = x := by omega
                            subst this
                            exact ⟨T1.out.1 rfl, T2.out.1 rfl⟩
                        clear bad
                        go_wp2_with fail
                        go_roundg (n - (x + 1))
                        case measure => omega
                        case rel => exact ⟨x + 1, by simp, by omega, by omega, Nat.le_refl _, (⟨rfl, HFX.out⟩ : wr = wr ∧ ∀ y, j < y → y < x + 1 → Der (spG G) y ∧ Rch (spG G) y)⟩
                  · have hlt' : ¬ (x : Int) ≤ (j : Int) + (m : Int) := by have := HNE.out; omega
                    have HKV : Hid (k = 0) := by
                      have hu : ¬ UselP (spG G) := fun ⟨y, h1, h2, h3⟩ => by
                        have h4 := HX.out y (by have := HN9.out.2; omega) (by have := HN9.out.1; omega)
                        rcases h3 with h3 | h3
                        · exact absurd h4.1 h3
                        · exact absurd h4.2 h3
                      rcases HK.out with e | e | e | e | e
                      · exact absurd HMP.out e.2
                      · exact absurd e.2.2 HLN.out
                      · exact absurd HNP.out e.2.2.2
                      · exact absurd e.2.2.2.2 hu
                      · exact e.1
                    go_wp2_with fail
                    refine bodyPost_ret (v := .tuple #[.agg #[.int .i64 (j : Int), .int .i64 (m : Int), .int .i64 (st : Int), .int .i64 G.e, .slice na nn nc, .slice la j lc', .slice aa j ac, .slice ra' (i + 1) rc'], .int .i64 0]) (by simp [results, Tryz.results11, go_sem, *]) rfl ?_
                    exact ⟨.inr ⟨HKV.out, ⟨na, nc, la, lc', aa, ac, ra', rc'⟩, by unfold sv; rw [HSV9.out], (HF.out _ _ _ _ _ _ _ _).1⟩, (HF.out _ _ _ _ _ _ _ _).2⟩

end Go.Proofs.YtebehlmidoencaaGreatDoor

/-
  The reference's EqInts: a list is the same as itself.
-/
namespace Go.Proofs.YtebehlmidoencaaGreatDoor
open Go.RowKit

set_option maxRecDepth 20000

set_option maxHeartbeats 2000000 in
theorem reqi_calls (l : List Int) (a1 a2 : Option Addr) (n k1 k2 : Nat) (w : World) (h1 : Row w 1 a1 n k1 (intC l)) (h2 : Row w 1 a2 n k2 (intC l)) (e1 : n = l.length) (hn : n ≤ 1000) :
    Calls Tryz.prog 36 #[.slice a1 n k1, .slice a2 n k2] w fun e w' => e = .returned (.bool true) ∧ Below w.heap.size w w' := by
  have HE : Hid (n = l.length) := e1
  have HR : Hid (Row w 1 a1 n k1 (intC l) ∧ Row w 1 a2 n k2 (intC l)) := ⟨h1, h2⟩
  have q1 := row_lens h1
  have q2 := row_lens h2
  clear e1 h1 h2
  go_enter Tryz.func36, Tryz.ntmps36
  go_wp2_with fail
  go_loopg [5] n (fun kx s5 wr => ∃ k : Nat, s5 = .int .i64 k ∧ k ≤ n ∧ n - k ≤ kx ∧ Hid (Below w.heap.size w wr))
  case atStart => exact ⟨0, rfl, Nat.zero_le _, by omega, (Below.refl _ _ : Below w.heap.size w w)⟩
  case round =>
    obtain ⟨k, rfl, hk, hg, J⟩ := hrel
    by_cases hlt : k < n
    · have hlt' : (k : Int) < (n : Int) := by omega
      obtain ⟨x, hx⟩ : ∃ x, l[k]? = some x := ⟨l[k]'(by rw [← HE.out]; exact hlt), List.getElem?_eq_getElem _⟩
      obtain ⟨b1, o1, rfl, c1⟩ := int_at (HR.out.1.below J.out) hx
      obtain ⟨b2, o2, rfl, c2⟩ := int_at (HR.out.2.below J.out) hx
      clear hx
      have HO : Hid (∀ q, Below w.heap.size w (wr.drewN q)) := fun q => below_drewN J.out q
      clear J
      have mx := mixed
      go_upto_region 6 with fail
      go_quiet (fail)
      go_wp2_with fail
      go_roundg (n - (k + 1))
      case measure => omega
      case rel => exact ⟨k + 1, by simp, by omega, Nat.le_refl _, HO.out _⟩
    · have hlt' : ¬ (k : Int) < (n : Int) := by omega
      go_wp2_with fail
      go_ret
      exact ⟨rfl, J.out⟩

theorem natC_int (l : List Nat) : natC l = intC (l.map fun x : Nat => (x : Int)) := by
  unfold natC intC
  rw [List.map_map]
  rfl

theorem reqn_calls (l : List Nat) (a1 a2 : Option Addr) (n k1 k2 : Nat) (w : World) (h1 : Row w 1 a1 n k1 (natC l)) (h2 : Row w 1 a2 n k2 (natC l)) (e1 : n = l.length) (hn : n ≤ 1000) :
    Calls Tryz.prog 36 #[.slice a1 n k1, .slice a2 n k2] w fun e w' => e = .returned (.bool true) ∧ Below w.heap.size w w' := by
  rw [natC_int] at h1 h2
  exact reqi_calls _ a1 a2 n k1 k2 w h1 h2 (by rw [List.length_map]; exact e1) hn

end Go.Proofs.YtebehlmidoencaaGreatDoor

/-
  The reference's EqSpec: a Spec is the same as itself.
-/
namespace Go.Proofs.YtebehlmidoencaaGreatDoor
open Go.RowKit

set_option maxRecDepth 20000

/-- Two new blocks. -/
theorem two_new (w : World) (o1 o2 : Obj) : Below w.heap.size w ((w.alloc o1).alloc o2).drew ∧ ((w.alloc o1).alloc o2).drew.heap[w.heap.size]? = some o1 ∧ ((w.alloc o1).alloc o2).drew.heap[w.heap.size + 1]? = some o2 := by
  have h1 := heap_alloc_new w o1
  have h2 := heap_alloc_new (w.alloc o1) o2
  rw [size_alloc1] at h2
  exact ⟨below_step (below_step (below_alloc _ _) (below_alloc _ _)) (below_drew' _), block_below (w := w.alloc o1) (w' := (w.alloc o1).alloc o2) (below_alloc _ _) h1, h2⟩

set_option maxHeartbeats 8000000 in
theorem reqs_calls (S : Sp) (h1 h2 : SHd) (w : World) (s1 : IsSp w h1 S) (s2 : IsSp w h2 S) (hn1 : S.nm.length ≤ 1000) (hn2 : S.lv.length ≤ 1000) (hn3 : S.az.length ≤ 1000) (hn4 : S.rs.length ≤ 1000) (hn5 : ∀ r ∈ S.rs, r.r.length ≤ 1000) :
    Calls Tryz.prog 12 #[.agg (sC h1 S), .agg (sC h2 S)] w fun e w' => e = .returned (.bool true) ∧ Below w.heap.size w w' := by
  have HS : Hid (IsSp w h1 S ∧ IsSp w h2 S ∧ ∀ r ∈ S.rs, r.r.length ≤ 1000) := ⟨s1, s2, hn5⟩
  have HLV : Hid (∀ V : World, Below w.heap.size w V → Calls Tryz.prog 36 #[.slice h1.la S.lv.length h1.lc, .slice h2.la S.lv.length h2.lc] V fun e w' => e = .returned (.bool true) ∧ Below V.heap.size V w') := fun V hV => reqi_calls S.lv _ _ _ _ _ V (s1.lv.below hV) (s2.lv.below hV) rfl hn2
  have HAZ : Hid (∀ V : World, Below w.heap.size w V → Calls Tryz.prog 36 #[.slice h1.aa S.az.length h1.ac, .slice h2.aa S.az.length h2.ac] V fun e w' => e = .returned (.bool true) ∧ Below V.heap.size V w') := fun V hV => reqi_calls S.az _ _ _ _ _ V (s1.az.below hV) (s2.az.below hV) rfl hn3
  have q1 := row_lens s1.nm
  have q2 := row_lens s2.nm
  have q3 := srs_lens s1.rl
  have q4 := srs_lens s2.rl
  have q5 := row_lens s1.lv
  have q6 := row_lens s2.lv
  have q7 := row_lens s1.az
  have q8 := row_lens s2.az
  clear s1 s2 hn5
  have hB : Below w.heap.size w ((w.alloc (.cells (sC h1 S) 32)).alloc (.cells (sC h2 S) 32)) := below_step (below_alloc _ _) (below_alloc _ _)
  have hb0 : ((w.alloc (.cells (sC h1 S) 32)).alloc (.cells (sC h2 S) 32)).heap[w.heap.size]? = some (.cells (sC h1 S) 32 (0, 0)) := block_below (below_alloc _ _) (heap_alloc_new _ _)
  have hb1 : ((w.alloc (.cells (sC h1 S) 32)).alloc (.cells (sC h2 S) 32)).heap[w.heap.size + 1]? = some (.cells (sC h2 S) 32 (0, 0)) := by
    have := heap_alloc_new (w.alloc (.cells (sC h1 S) 32)) (.cells (sC h2 S) 32)
    rwa [size_alloc1] at this
  obtain ⟨nn, HNN⟩ : ∃ nn, Hid (S.nm.length = nn) := ⟨_, rfl⟩
  obtain ⟨ln, HLN⟩ : ∃ ln, Hid (S.lv.length = ln) := ⟨_, rfl⟩
  obtain ⟨an, HAN⟩ : ∃ an, Hid (S.az.length = an) := ⟨_, rfl⟩
  obtain ⟨rn, HRN⟩ : ∃ rn, Hid (S.rs.length = rn) := ⟨_, rfl⟩
  unfold sC at hB hb0 hb1 ⊢
  rw [HNN.out, HLN.out, HAN.out, HRN.out] at hB hb0 hb1 ⊢
  rw [HNN.out] at hn1 q1 q2
  rw [HLN.out] at hn2 q5 q6 HLV
  rw [HAN.out] at hn3 q7 q8 HAZ
  rw [HRN.out] at hn4 q3 q4
  obtain ⟨na1, nc1, la1, lc1, aa1, ac1, ra1, rc1⟩ := h1
  obtain ⟨na2, nc2, la2, lc2, aa2, ac2, ra2, rc2⟩ := h2
  simp only at *
  go_enter Tryz.func12, Tryz.ntmps12
  go_upto_region 1 with fail
  obtain ⟨b2, HB2⟩ : ∃ b2, Hid (b2 = w.heap.size) := ⟨_, rfl⟩
  rw [← HB2.out] at hb0 hb1 ⊢
  generalize (w.alloc (.cells #[.int .i64 (S.tk : Int), .int .i64 (S.nt : Int), .int .i64 (S.st : Int), .int .i64 S.ex, .slice na1 nn nc1, .slice la1 ln lc1, .slice aa1 an ac1, .slice ra1 rn rc1] 32)).alloc (.cells #[.int .i64 (S.tk : Int), .int .i64 (S.nt : Int), .int .i64 (S.st : Int), .int .i64 S.ex, .slice na2 nn nc2, .slice la2 ln lc2, .slice aa2 an ac2, .slice ra2 rn rc2] 32) = W1 at hB hb0 hb1 ⊢
  generalize b2 + 1 = b3 at *
  have HW : Hid (∀ V : World, Below W1.heap.size W1 V → Below w.heap.size w V ∧ V.heap[b2]? = some (.cells #[.int .i64 (S.tk : Int), .int .i64 (S.nt : Int), .int .i64 (S.st : Int), .int .i64 S.ex, .slice na1 nn nc1, .slice la1 ln lc1, .slice aa1 an ac1, .slice ra1 rn rc1] 32 (0, 0)) ∧ V.heap[b3]? = some (.cells #[.int .i64 (S.tk : Int), .int .i64 (S.nt : Int), .int .i64 (S.st : Int), .int .i64 S.ex, .slice na2 nn nc2, .slice la2 ln lc2, .slice aa2 an ac2, .slice ra2 rn rc2] 32 (0, 0))) := fun V hV => ⟨below_step hB hV, block_below hV hb0, block_below hV hb1⟩
  obtain ⟨c0, c1, c2, c3, c4, c5, c6, c7⟩ := box8 hb0
  obtain ⟨d0, d1, d2, d3, d4, d5, d6, d7⟩ := box8 hb1
  clear hB hb0 hb1 HB2
  go_wp2_with fail
  refine (HLV.out _ (HW.out _ (Below.refl _ _)).1).mono ?_
  rintro e V1 ⟨rfl, hB1⟩
  have HV1 : Hid (Below W1.heap.size W1 V1) := hB1
  clear c0 c1 c2 c3 c4 c5 c6 c7 d0 d1 d2 d3 d4 d5 d6 d7 hB1
  obtain ⟨c0, c1, c2, c3, c4, c5, c6, c7⟩ := box8 (HW.out V1 HV1.out).2.1
  obtain ⟨d0, d1, d2, d3, d4, d5, d6, d7⟩ := box8 (HW.out V1 HV1.out).2.2
  go_wp2_with fail
  refine (HAZ.out _ (HW.out _ HV1.out).1).mono ?_
  rintro e V2 ⟨rfl, hB2⟩
  have HV2 : Hid (Below W1.heap.size W1 V2) := below_step HV1.out hB2
  clear c0 c1 c2 c3 c4 c5 c6 c7 d0 d1 d2 d3 d4 d5 d6 d7 hB2 HV1 HLV HAZ
  obtain ⟨c0, c1, c2, c3, c4, c5, c6, c7⟩ := box8 (HW.out V2 HV2.out).2.1
  obtain ⟨d0, d1, d2, d3, d4, d5, d6, d7⟩ := box8 (HW.out V2 HV2.out).2.2
  go_wp2_with fail
  clear c0 c1 c2 c3 c4 c5 c6 c7 d0 d1 d2 d3 d4 d5 d6 d7
  go_loopg [5] nn (fun kx s5 wr => ∃ k : Nat, s5 = .int .i64 k ∧ k ≤ nn ∧ nn - k ≤ kx ∧ Hid (Below W1.heap.size W1 wr))
  case atStart => exact ⟨0, rfl, Nat.zero_le _, by omega, HV2⟩
  case round =>
    clear HV2
    obtain ⟨k, rfl, hk, hg, J⟩ := hrel
    obtain ⟨c0, c1, c2, c3, c4, c5, c6, c7⟩ := box8 (HW.out wr J.out).2.1
    obtain ⟨d0, d1, d2, d3, d4, d5, d6, d7⟩ := box8 (HW.out wr J.out).2.2
    by_cases hlt : k < nn
    · have hlt' : (k : Int) < (nn : Int) := by omega
      obtain ⟨x, hx⟩ : ∃ x, S.nm[k]? = some x := ⟨S.nm[k]'(by rw [HNN.out]; exact hlt), List.getElem?_eq_getElem _⟩
      obtain ⟨x1, o1, hn1a, y1⟩ := str_at (HS.out.1.nm.below (HW.out wr J.out).1) hx
      obtain ⟨x2, o2, hn2a, y2⟩ := str_at (HS.out.2.1.nm.below (HW.out wr J.out).1) hx
      simp only at hn1a hn2a
      subst hn1a
      subst hn2a
      clear hx
      have HO : Hid (∀ q, Below W1.heap.size W1 (wr.drewN q)) := fun q => below_drewN J.out q
      clear J
      have mx := mixed
      go_upto_region 6 with fail
      go_quiet (fail)
      go_wp2_with fail
      go_roundg (nn - (k + 1))
      case measure => omega
      case rel => exact ⟨k + 1, by simp, by omega, Nat.le_refl _, HO.out _⟩
    · have hlt' : ¬ (k : Int) < (nn : Int) := by omega
      obtain ⟨W3, hW3⟩ : ∃ W3, W3 = wr := ⟨_, rfl⟩
      subst wr
      go_wp2_with fail
      clear c0 c1 c2 c3 c4 c5 c6 c7 d0 d1 d2 d3 d4 d5 d6 d7
      go_loopg [6] rn (fun kx s6 wr => ∃ k : Nat, s6 = .int .i64 k ∧ k ≤ rn ∧ rn - k ≤ kx ∧ Hid (Below W1.heap.size W1 wr))
      case atStart => exact ⟨0, rfl, Nat.zero_le _, by omega, J⟩
      case round =>
        clear J hlt' hlt hg hk
        obtain ⟨k, rfl, hk, hg, J⟩ := hrel
        obtain ⟨c0, c1, c2, c3, c4, c5, c6, c7⟩ := box8 (HW.out wr J.out).2.1
        obtain ⟨d0, d1, d2, d3, d4, d5, d6, d7⟩ := box8 (HW.out wr J.out).2.2
        by_cases hlt : k < rn
        · have hlt' : (k : Int) < (rn : Int) := by omega
          obtain ⟨r, hr⟩ : ∃ r, S.rs[k]? = some r := ⟨S.rs[k]'(by rw [HRN.out]; exact hlt), List.getElem?_eq_getElem _⟩
          obtain ⟨b4, o4, xa, xc, hra1, e0, e1, e2, e3, row1⟩ := (HS.out.1.rl.below (HW.out wr J.out).1).at hr
          obtain ⟨b5, o5, ya, yc, hra2, f0, f1, f2, f3, row2⟩ := (HS.out.2.1.rl.below (HW.out wr J.out).1).at hr
          simp only at hra1 hra2
          subst hra1
          subst hra2
          have hrr : r.r.length ≤ 1000 := HS.out.2.2 r (List.mem_of_getElem? hr)
          have u1 := row_lens row1
          have u2 := row_lens row2
          have HEQ : Hid (∀ V : World, Below wr.heap.size wr V → Calls Tryz.prog 36 #[.slice xa r.r.length xc, .slice ya r.r.length yc] V fun e w' => e = .returned (.bool true) ∧ Below V.heap.size V w') := fun V hV => reqn_calls r.r _ _ _ _ _ V (row1.below hV) (row2.below hV) rfl hrr
          have HJ : Hid (Below W1.heap.size W1 wr) := J.out
          clear row1 row2 hr J
          obtain ⟨rl, HRL⟩ : ∃ rl, Hid (r.r.length = rl) := ⟨_, rfl⟩
          rw [HRL.out] at e1 f1 hrr u1 u2 HEQ
          go_upto_region 11 with fail
          go_cut [6, 7, 8] from 87 to 130 (fun s6 s7 s8 wd => s6 = .int .i64 (k : Int) ∧ ∃ p q : Nat, s7 = .pointer (some ⟨p, 0, none⟩) ∧ s8 = .pointer (some ⟨q, 0, none⟩) ∧ Hid (Below wr.heap.size wr wd ∧ wd.heap[p]? = some (.cells #[.int .i64 r.l, .slice xa rl xc, .int .i64 r.lv, .int .i64 r.a] 62 (0, 0)) ∧ wd.heap[q]? = some (.cells #[.int .i64 r.l, .slice ya rl yc, .int .i64 r.lv, .int .i64 r.a] 62 (0, 0))))
          case first =>
            go_region_held (fun w' => w'.cell? ⟨b2, 7, none⟩ = some (.slice (some ⟨b4, o4, none⟩) rn rc1) ∧ w'.cell? ⟨b3, 7, none⟩ = some (.slice (some ⟨b5, o5, none⟩) rn rc2) ∧ w'.cell? ⟨b4, o4 + k * 4, none⟩ = some (.int .i64 r.l) ∧ w'.cell? ⟨b4, o4 + k * 4 + 1, none⟩ = some (.slice xa rl xc) ∧ w'.cell? ⟨b4, o4 + k * 4 + 2, none⟩ = some (.int .i64 r.lv) ∧ w'.cell? ⟨b4, o4 + k * 4 + 3, none⟩ = some (.int .i64 r.a) ∧ w'.cell? ⟨b5, o5 + k * 4, none⟩ = some (.int .i64 r.l) ∧ w'.cell? ⟨b5, o5 + k * 4 + 1, none⟩ = some (.slice ya rl yc) ∧ w'.cell? ⟨b5, o5 + k * 4 + 2, none⟩ = some (.int .i64 r.lv) ∧ w'.cell? ⟨b5, o5 + k * 4 + 3, none⟩ = some (.int .i64 r.a)) (go_keep) (fail)
            all_goals
              go_wp2_with fail
              go_meet
              first
                | exact ⟨rfl, _, _, rfl, rfl, (two_new wr _ _).1, (two_new wr _ _).2.1, (two_new wr _ _).2.2⟩
                | exact ⟨rfl, _, _, rfl, rfl, (two_new wr _ _).1, (two_new wr _ _).2.2, (two_new wr _ _).2.1⟩
          case rest =>
            obtain ⟨rfl, p, q, rfl, rfl, R⟩ := hcut
            obtain ⟨W5, hW5⟩ : ∃ W5, W5 = wc := ⟨_, rfl⟩
            subst wc
            clear c0 c1 c2 c3 c4 c5 c6 c7 d0 d1 d2 d3 d4 d5 d6 d7 e0 e1 e2 e3 f0 f1 f2 f3
            obtain ⟨g0, g1, g2, g3⟩ := box4 R.out.2.1
            obtain ⟨i0, i1, i2, i3⟩ := box4 R.out.2.2
            go_wp2_with fail
            refine (HEQ.out _ R.out.1).mono ?_
            rintro e W6 ⟨rfl, hB6⟩
            have HF : Hid (Below W1.heap.size W1 W6) := below_step (below_step HJ.out R.out.1) hB6
            clear g0 g1 g2 g3 i0 i1 i2 i3
            obtain ⟨g0, g1, g2, g3⟩ := box4 (block_below hB6 R.out.2.1)
            obtain ⟨i0, i1, i2, i3⟩ := box4 (block_below hB6 R.out.2.2)
            clear hB6 R
            go_wp2_with fail
            go_roundg (rn - (k + 1))
            case measure => omega
            case rel => exact ⟨k + 1, by simp, by omega, Nat.le_refl _, HF⟩
        · have hlt' : ¬ (k : Int) < (rn : Int) := by omega
          go_wp2_with fail
          go_ret
          exact ⟨rfl, (HW.out wr J.out).1⟩

end Go.Proofs.YtebehlmidoencaaGreatDoor

/-
  What Sums means; what means nothing.
-/
namespace Go.Proofs.YtebehlmidoencaaGreatDoor
open Go.RowKit

set_option maxRecDepth 20000

def bX : ByteArray := ⟨#[120]⟩
/-- Sums and a rule that means nothing; no grammar at all. -/
def sumsX : Gm := ⟨sumsG.ts, sumsG.s, sumsG.e, sumsG.rs ++ [⟨bX, [bX], e0⟩]⟩
def noneG : Gm := ⟨[], e0, 0, []⟩

theorem sums_lfs : lfs sumsG.rs = [bE] := by kernel_rfl
theorem sumsX_lfs : lfs sumsX.rs = [bE, bX] := by kernel_rfl
theorem sums_sp : spG sumsG = ⟨3, 1, 4, 0, nmG sumsG, [0, 1, 2], [0, 1, 1], [⟨-1, [4], 0, 0⟩, ⟨4, [4, 1, 4], 1, 1⟩, ⟨4, [4, 2, 4], 2, 1⟩, ⟨4, [0], 0, 0⟩]⟩ := by kernel_rfl
theorem sumsX_sp : spG sumsX = ⟨3, 2, 4, 0, nmG sumsX, [0, 1, 2], [0, 1, 1], [⟨-1, [4], 0, 0⟩, ⟨4, [4, 1, 4], 1, 1⟩, ⟨4, [4, 2, 4], 2, 1⟩, ⟨4, [0], 0, 0⟩, ⟨5, [5], 0, 0⟩]⟩ := by kernel_rfl

theorem bytes_ne {a b : ByteArray} (h : (a.data.toList == b.data.toList) = false) : a ≠ b := by
  rintro rfl
  simp at h

theorem sums_nm : NmP sumsG := by
  have h1 : bN ≠ bE := bytes_ne (by kernel_rfl)
  have h2 : bP ≠ bE := bytes_ne (by kernel_rfl)
  have h3 : bM ≠ bE := bytes_ne (by kernel_rfl)
  refine ⟨by simp [sumsG], ?_, ?_, ?_, ?_⟩
  · intro t ht hl
    rw [sums_lfs] at hl
    simp only [sumsG, List.mem_cons, List.not_mem_nil, or_false] at ht hl
    rcases ht with rfl | rfl | rfl
    · exact h1 hl
    · exact h2 hl
    · exact h3 hl
  · intro r hr
    simp only [sumsG, List.mem_cons, List.not_mem_nil, or_false] at hr
    rcases hr with rfl | rfl | rfl <;> exact .inl rfl
  · intro r hr x hx
    rw [sums_lfs]
    simp only [sumsG, List.mem_cons, List.not_mem_nil, or_false] at hr
    rcases hr with rfl | rfl | rfl
    all_goals
      simp only [List.mem_cons, List.not_mem_nil, or_false] at hx
      simp only [sumsG, tkG, List.map_cons, List.map_nil, List.mem_cons, List.not_mem_nil, or_false]
    · rcases hx with rfl | rfl | rfl
      · exact .inr rfl
      · exact .inl (.inr (.inl rfl))
      · exact .inr rfl
    · rcases hx with rfl | rfl | rfl
      · exact .inr rfl
      · exact .inl (.inr (.inr rfl))
      · exact .inr rfl
    · exact .inl (.inl hx)
  · rw [sums_lfs]
    show bE ∈ [bE]
    simp

theorem sums_short : ¬ LongP sumsG := by
  rintro (h | h | h | ⟨r, hr, h⟩)
  · exact absurd h (by decide)
  · exact absurd h (by decide)
  · rw [sums_lfs] at h; exact absurd h (by decide)
  · simp only [sumsG, List.mem_cons, List.not_mem_nil, or_false] at hr
    rcases hr with rfl | rfl | rfl <;> exact absurd h (by decide)

theorem sums_der4 : Der (spG sumsG) 4 := by
  rw [sums_sp]
  refine Der.rule 3 ⟨4, [0], 0, 0⟩ 4 (by omega) rfl rfl (fun y hy => ?_)
  simp only [List.mem_cons, List.not_mem_nil, or_false] at hy
  subst hy
  exact Der.tok 0 (by show 0 < 3; omega)

theorem sums_der3 : ¬ Der (spG sumsG) 3 := by
  rw [sums_sp]
  intro h
  refine h (fun x => x ≠ 3) (fun x hx => ?_) (fun i r x h0 hr hl hy => ?_) rfl
  · have : x < 3 := hx
    omega
  · match i, h0, hr with
    | 1, _, hr => cases hr; simp at hl; omega
    | 2, _, hr => cases hr; simp at hl; omega
    | 3, _, hr => cases hr; simp at hl; omega
    | n + 4, _, hr => simp at hr

theorem sums_use : ¬ UselP (spG sumsG) := by
  rintro ⟨x, h1, h2, h3⟩
  have e1 : (spG sumsG).tk = 3 := by rw [sums_sp]
  have e2 : (spG sumsG).nt = 1 := by rw [sums_sp]
  have : x = 4 := by omega
  subst this
  rcases h3 with h3 | h3
  · exact h3 sums_der4
  · refine h3 ?_
    have e3 : (spG sumsG).st = 4 := by rw [sums_sp]
    have := Rch.start (S := spG sumsG)
    rwa [e3] at this

theorem sums_of : OfR sumsG 0 := .inr (.inr (.inr (.inr ⟨rfl, sums_may, sums_short, sums_nm, sums_use⟩)))

theorem sumsX_may : MayP sumsX := by
  have h := sums_may
  have hX : NameP bX := by unfold NameP; kernel_rfl
  refine ⟨by decide, by decide, h.e0, h.e1, h.st, h.tk, fun r hr => ?_⟩
  rcases List.mem_append.1 hr with hr | hr
  · exact h.rl r hr
  · rw [List.mem_singleton] at hr
    subst hr
    refine ⟨hX, by decide, .inl rfl, fun x hx => ?_⟩
    rw [List.mem_singleton] at hx
    subst hx
    exact hX

theorem sumsX_of : OfR sumsX 8 := by
  refine .inr (.inr (.inr (.inl ⟨rfl, sumsX_may, ?_, ?_, ?_⟩)))
  · rintro (h | h | h | ⟨r, hr, h⟩)
    · exact absurd h (by decide)
    · exact absurd h (by decide)
    · rw [sumsX_lfs] at h; exact absurd h (by decide)
    · rcases List.mem_append.1 hr with hr | hr
      · exact sums_short (.inr (.inr (.inr ⟨r, hr, h⟩)))
      · rw [List.mem_singleton] at hr
        subst hr
        exact absurd h (by decide)
  · have hl : ∀ x, x ∈ lfs sumsG.rs → x ∈ lfs sumsX.rs := fun x hx => by
      rw [sums_lfs] at hx
      rw [sumsX_lfs]
      exact List.mem_append_left [bX] hx
    have h1 : bN ≠ bX := bytes_ne (by kernel_rfl)
    have h2 : bP ≠ bX := bytes_ne (by kernel_rfl)
    have h3 : bM ≠ bX := bytes_ne (by kernel_rfl)
    refine ⟨by simp [sumsX, sumsG], ?_, ?_, ?_, ?_⟩
    · intro t ht hx
      have ht' : t ∈ sumsG.ts := ht
      rw [sumsX_lfs] at hx
      rcases List.mem_cons.1 hx with hx | hx
      · exact sums_nm.tk t ht' (by rw [sums_lfs, hx]; simp)
      · rw [List.mem_singleton] at hx
        simp only [sumsG, List.mem_cons, List.not_mem_nil, or_false] at ht'
        rcases ht' with rfl | rfl | rfl
        · exact h1 hx
        · exact h2 hx
        · exact h3 hx
    · intro r hr
      rcases List.mem_append.1 hr with hr | hr
      · exact sums_nm.pr r hr
      · rw [List.mem_singleton] at hr
        subst hr
        exact .inl rfl
    · intro r hr x hx
      rcases List.mem_append.1 hr with hr | hr
      · rcases sums_nm.rr r hr x hx with h | h
        · exact .inl h
        · exact .inr (hl x h)
      · rw [List.mem_singleton] at hr
        subst hr
        rw [List.mem_singleton] at hx
        subst hx
        right
        rw [sumsX_lfs]
        simp
    · rw [sumsX_lfs]
      show bE ∈ [bE, bX]
      simp
  · refine ⟨5, by rw [sumsX_sp]; show 3 < 5; omega, by rw [sumsX_sp]; show 5 < 3 + 1 + 2; omega, .inr ?_⟩
    rw [sumsX_sp]
    intro h
    refine h (fun x => x ≠ 5) (by show (4 : Nat) ≠ 5; omega) (fun i r x y h0 hr hl hx hy => ?_) rfl
    match i, h0, hr with
    | 1, _, hr => cases hr; simp only [List.mem_cons, List.not_mem_nil, or_false] at hy; rcases hy with rfl | rfl | rfl <;> omega
    | 2, _, hr => cases hr; simp only [List.mem_cons, List.not_mem_nil, or_false] at hy; rcases hy with rfl | rfl | rfl <;> omega
    | 3, _, hr => cases hr; simp only [List.mem_cons, List.not_mem_nil, or_false] at hy; subst hy; omega
    | 4, _, hr => cases hr; simp at hl; omega
    | n + 5, _, hr => simp at hr

theorem none_may : MayP noneG := by
  refine ⟨by decide, by decide, by decide, by decide, .inl rfl, ⟨fun i t h => (by cases h), zero9, rfl, ?_⟩, fun r h => (by cases h)⟩
  intro k h1 h2 h3
  match k, h2, h3 with
  | 0, _, _ => omega
  | 1, _, h3 => exact absurd rfl h3
  | 2, _, h3 => exact absurd rfl h3
  | 3, _, h3 => exact absurd rfl h3
  | 4, _, h3 => exact absurd rfl h3
  | 5, _, h3 => exact absurd rfl h3
  | 6, _, h3 => exact absurd rfl h3
  | 7, _, h3 => exact absurd rfl h3
  | 8, _, h3 => exact absurd rfl h3

theorem none_of : OfR noneG 7 := by
  refine .inr (.inr (.inl ⟨rfl, none_may, ?_, fun h => h.ne rfl⟩))
  rintro (h | h | h | ⟨r, hr, h⟩)
  · exact absurd h (by decide)
  · exact absurd h (by decide)
  · exact absurd h (by decide)
  · cases hr

end Go.Proofs.YtebehlmidoencaaGreatDoor

/-
  The words of a scan are such as the reader knows.
-/
namespace Go.Proofs.YtebehlmidoencaaGreatDoor
open Go.RowKit

set_option maxRecDepth 20000

def wdOf (s : ByteArray) (x : Nat × Nat × Nat) : Wd := ⟨(x.1 : Int), s.extract x.2.1 x.2.2, (x.2.1 : Int)⟩

theorem bt_drop (l : List UInt8) (i j : Nat) : bt (l.drop i) j = bt l (i + j) := by unfold bt; rw [List.getElem?_drop]
theorem bt_part {l : List UInt8} {i e j : Nat} (h : j < e - i) : bt (part l i e) j = bt l (i + j) := by
  unfold part
  rw [← bt_drop]
  unfold bt
  rw [List.getElem?_take, if_pos h]
theorem part_length {l : List UInt8} {i e : Nat} (h : e ≤ l.length) : (part l i e).length = e - i := by
  unfold part
  rw [List.length_take, List.length_drop]
  omega

theorem runLen_all (p : Int → Bool) : ∀ (l : List UInt8) (j : Nat), j < runLen p l → p (bt l j) = true
  | [], j, h => by simp [runLen] at h
  | b :: r, 0, h => by
    unfold runLen at h
    split at h
    · rename_i hp; exact hp
    · omega
  | b :: r, j + 1, h => by
    unfold runLen at h
    split at h
    · have := runLen_all p r j (by omega)
      exact this
    · omega

theorem runEnd_all' {p : Int → Bool} {l : List UInt8} {i j : Nat} (h1 : i ≤ j) (h2 : j < runEnd p l i) : p (bt l j) = true := by
  have := runLen_all p (l.drop i) (j - i) (by unfold runEnd at h2; omega)
  rw [bt_drop, show i + (j - i) = j by omega] at this
  exact this

theorem sz_part (s : ByteArray) (i e : Nat) (h : e ≤ (by8 s).length) : (s.extract i e).size = e - i := by
  rw [← by8_length, by8_extract, part_length h]

theorem word_ok (s : ByteArray) (i : Nat) (hi : i < (by8 s).length) (hK : (wordP (by8 s) i).1 ≠ 0) : WdOk (wdOf s ((wordP (by8 s) i).1, i, (wordP (by8 s) i).2)) := by
  obtain ⟨r1, r2, r3, r4⟩ := wordP_range hi
  have r3 := r3 hK
  have hsz := sz_part s i _ r2
  have hb0 : bt (by8 (s.extract i (wordP (by8 s) i).2)) 0 = bt (by8 s) i := by rw [by8_extract, bt_part (by omega)]; rfl
  have hkind : (1 : Int) ≤ ((wordP (by8 s) i).1 : Int) ∧ ((wordP (by8 s) i).1 : Int) ≤ 4 := by omega
  by_cases h1 : isL (bt (by8 s) i) = true
  · have e := wordP_name h1
    unfold nameP at e
    by_cases h12 : 12 < runEnd isN (by8 s) i - i
    · rw [if_pos h12] at e
      rw [e] at hK
      exact absurd rfl hK
    · rw [if_neg h12] at e
      refine ⟨hkind, fun _ => ⟨by unfold wdOf; simp only; rw [hb0]; exact h1, by unfold wdOf; simp only; rw [hsz]; omega⟩, fun h => ?_, fun h => ?_, fun h => ?_, by unfold wdOf; simp only; rw [hsz, e]; simp only; omega⟩
      all_goals (unfold wdOf at h; simp only at h; rw [e] at h; simp at h)
  · have h1 : isL (bt (by8 s) i) = false := by simpa using h1
    by_cases h2 : isD (bt (by8 s) i) = true
    · have e := wordP_num h1 h2
      unfold numberP at e
      by_cases hb : numBad (by8 s) i (runEnd isD (by8 s) i) = true
      · rw [if_pos hb] at e
        rw [e] at hK
        exact absurd rfl hK
      · rw [if_neg hb] at e
        have h4 : runEnd isD (by8 s) i - i ≤ 4 := by
          unfold numBad at hb
          simp only [Bool.or_eq_true, not_or, decide_eq_true_eq] at hb
          omega
        refine ⟨hkind, fun h => ?_, fun _ => ⟨by unfold wdOf; simp only; rw [hsz]; omega, by unfold wdOf; simp only; rw [hsz, e]; exact h4, fun j hj => ?_⟩, fun h => ?_, fun h => ?_, by unfold wdOf; simp only; rw [hsz, e]; simp only; omega⟩
        · unfold wdOf at h; simp only at h; rw [e] at h; simp at h
        · unfold wdOf at hj ⊢
          simp only at hj ⊢
          rw [hsz] at hj
          rw [by8_extract, bt_part hj]
          refine runEnd_all' (i := i) (by omega) ?_
          rw [e] at hj
          simp only at hj
          omega
        · unfold wdOf at h; simp only at h; rw [e] at h; simp at h
        · unfold wdOf at h; simp only at h; rw [e] at h; simp at h
    · have h2 : isD (bt (by8 s) i) = false := by simpa using h2
      by_cases h3 : (bt (by8 s) i == 37) = true
      · have e := wordP_key h1 h2 h3
        have hk4 : (wordP (by8 s) i).1 = 4 ∧ (wordP (by8 s) i).2 - i ≤ 100 := by
          rw [e]
          rw [e] at hK
          unfold keyP at hK ⊢
          split
          · exact ⟨rfl, by simp only; omega⟩
          · rename_i hp
            rw [if_neg hp] at hK
            split
            · rename_i hc
              refine ⟨rfl, ?_⟩
              have hl : (part (by8 s) (i + 1) (runEnd isN (by8 s) (i + 1))).length = runEnd isN (by8 s) (i + 1) - (i + 1) := part_length (runEnd_le (by omega))
              have hm : ∀ t, keyWords.contains t = true → t.length ≤ 8 := by
                intro t ht
                simp [keyWords] at ht
                rcases ht with rfl | rfl | rfl | rfl | rfl | rfl | rfl <;> decide
              have := hm _ hc
              simp only
              omega
            · rename_i hc
              rw [if_neg hc] at hK
              exact absurd rfl hK
        refine ⟨hkind, fun h => ?_, fun h => ?_, fun h => ?_, fun _ => ⟨by unfold wdOf; simp only; rw [hb0]; simpa using h3, by unfold wdOf; simp only; rw [hsz]; omega⟩, by unfold wdOf; simp only; rw [hsz]; exact hk4.2⟩
        all_goals (unfold wdOf at h; simp only at h; rw [hk4.1] at h; simp at h)
      · have h3 : (bt (by8 s) i == 37) = false := by simpa using h3
        by_cases h4 : isS (bt (by8 s) i) = true
        · have e := wordP_sign h1 h2 h3 h4
          have hpl : by8 (s.extract i (wordP (by8 s) i).2) = [(by8 s)[i]] := by
            rw [by8_extract, e]
            unfold part
            simp only
            rw [show i + 1 - i = 1 by omega, List.drop_eq_getElem_cons hi]
            rfl
          have hbt : bt (by8 s) i = (((by8 s)[i]).toNat : Int) := by unfold bt; rw [List.getElem?_eq_getElem hi]; rfl
          refine ⟨hkind, fun h => ?_, fun h => ?_, fun _ => ?_, fun h => ?_, by unfold wdOf; simp only; rw [hsz, e]; simp only; omega⟩
          · unfold wdOf at h; simp only at h; rw [e] at h; simp at h
          · unfold wdOf at h; simp only at h; rw [e] at h; simp at h
          · unfold wdOf
            simp only
            rw [hpl]
            unfold isS at h4
            rw [hbt] at h4
            simp only [Bool.or_eq_true, beq_iff_eq] at h4
            have key : ∀ c : UInt8, ((c.toNat : Int) = 58 ∨ (c.toNat : Int) = 124) ∨ (c.toNat : Int) = 59 → [c] = [58] ∨ [c] = [124] ∨ [c] = [(59 : UInt8)] := by
              intro c hc
              rcases hc with (hc | hc) | hc
              · left; rw [List.cons.injEq]; exact ⟨UInt8.toNat_inj.1 (by have h5 : c.toNat = 58 := (by omega); rw [h5]; rfl), rfl⟩
              · right; left; rw [List.cons.injEq]; exact ⟨UInt8.toNat_inj.1 (by have h5 : c.toNat = 124 := (by omega); rw [h5]; rfl), rfl⟩
              · right; right; rw [List.cons.injEq]; exact ⟨UInt8.toNat_inj.1 (by have h5 : c.toNat = 59 := (by omega); rw [h5]; rfl), rfl⟩
            exact key _ h4
          · unfold wdOf at h; simp only at h; rw [e] at h; simp at h
        · rw [wordP_none h1 h2 h3 (by simpa using h4)] at hK
          exact absurd rfl hK

theorem scanF_ends (s : ByteArray) : ∀ (f i : Nat) (a ws : List (Nat × Nat × Nat)), (∀ x ∈ a, WdOk (wdOf s x)) → scanF f (by8 s) i a = (ws, -1) → Ends (ws.map (wdOf s))
  | 0, i, a, ws, _, h => by simp [scanF] at h
  | f + 1, i, a, ws, ha, h => by
    by_cases hi : i < (by8 s).length
    · by_cases hK : (wordP (by8 s) i).1 = 0
      · rw [scan_bad hi hK] at h
        simp at h
      · rw [scan_next hi hK] at h
        refine scanF_ends s f _ _ ws (fun x hx => ?_) h
        rcases List.mem_append.1 hx with hx | hx
        · exact ha x hx
        · rw [List.mem_singleton] at hx
          subst hx
          exact word_ok s i hi hK
    · rw [scan_out (by omega)] at h
      simp only [Prod.mk.injEq] at h
      rw [← h.1, List.map_append]
      refine ⟨a.map (wdOf s), ((by8 s).length : Int), ?_, fun w hw => ?_⟩
      · congr 1
        show [wdOf s (5, (by8 s).length, (by8 s).length)] = [endW _]
        unfold wdOf endW
        simp only
        rw [by8_length, extract_end]
        rfl
      · obtain ⟨x, hx, rfl⟩ := List.mem_map.1 hw
        exact ha x hx

/-- The words of a text without a fault. -/
theorem scan_ends {s : ByteArray} (h : (scan (by8 s)).2 = -1) : Ends ((scan (by8 s)).1.map (wdOf s)) := by
  refine scanF_ends s _ _ [] _ (fun x hx => by cases hx) (?_ : scan (by8 s) = _)
  rw [← h]

end Go.Proofs.YtebehlmidoencaaGreatDoor
