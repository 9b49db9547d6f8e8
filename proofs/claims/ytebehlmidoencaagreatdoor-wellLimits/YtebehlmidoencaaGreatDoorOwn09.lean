/-
  Texts that the proof of the Well statements stands on, part Own09.
-/
import Derived.Test.YtebehlmidoencaaGreatDoorOwn07
import Derived.Test.YtebehlmidoencaaGreatDoorOwn08
/-
  Of: what its walk keeps.
-/
namespace Go.Proofs.YtebehlmidoencaaGreatDoor
open Go.RowKit

set_option maxRecDepth 20000

/-- What Of keeps. -/
structure OX (w W : World) (gb rb sb : Nat) (h : Hd) (G : Gm) (hh : SHd) (S : Sp) (qs : List (SR × Option Addr × Nat)) : Prop where
  gx : W.heap[gb]? = some (.cells #[.slice h.ta G.ts.length h.tc, .string G.s, .int .i64 G.e, .slice h.ra G.rs.length h.rc] 25 (0, 0))
  rx : W.heap[rb]? = some (.cells zC 32 (0, 0))
  sx : W.heap[sb]? = some (.cells (sC hh S) 32 (0, 0))
  own : OwnSp W w.heap.size hh S qs
  bel : Below w.heap.size w W
  ne : rb ≠ sb
  nw : w.heap.size ≤ sb

theorem OX.step {w W W' : World} {gb rb sb : Nat} {h : Hd} {G : Gm} {hh : SHd} {S : Sp} {qs : List (SR × Option Addr × Nat)} (s : OX w W gb rb sb h G hh S qs) (hb : Below W.heap.size W W') : OX w W' gb rb sb h G hh S qs :=
  ⟨block_below hb s.gx, block_below hb s.rx, block_below hb s.sx, s.own.step hb, below_step s.bel hb, s.ne, s.nw⟩

theorem box_far {W : World} {sb j b T : Nat} {u : Value} {c : Array Value} (hb : W.heap[b]? = some (.cells c T (0, 0))) (hn : b ≠ sb) : (W.setCell ⟨sb, j, none⟩ u).heap[b]? = some (.cells c T (0, 0)) := by
  rw [Below.heap_setCell _ _ _ _ hn]
  exact hb

theorem OX.putSt {w W : World} {gb rb sb : Nat} {h : Hd} {G : Gm} {hh : SHd} {S : Sp} {qs : List (SR × Option Addr × Nat)} (s : OX w W gb rb sb h G hh S qs) (x : Nat) : OX w (W.setCell ⟨sb, 2, none⟩ (.int .i64 (x : Int))) gb rb sb h G hh ⟨S.tk, S.nt, x, S.ex, S.nm, S.lv, S.az, S.rs⟩ qs := by
  have f := s.own.far (j := 2) (u := .int .i64 (x : Int)) ⟨_, s.sx⟩
  refine ⟨box_far s.gx (loc_ne ⟨_, s.gx⟩ ⟨_, s.sx⟩ (by decide)), box_far s.rx s.ne, ?_, ⟨f.nm, f.lv, f.az, f.rl, f.map, f.row⟩, s.bel.setCell (p := ⟨sb, 2, none⟩) s.nw _, s.ne, s.nw⟩
  rw [box_set s.sx]
  unfold sC
  simp

theorem OX.putRs {w W : World} {gb rb sb n : Nat} {h : Hd} {G : Gm} {hh : SHd} {S : Sp} {qs rs : List (SR × Option Addr × Nat)} (s : OX w W gb rb sb h G hh S qs) (ao : Option Addr) (c : Nat) (hn : rs.length = n) (ho : W.ownsRow w.heap.size 62 4 (.slice ao n c) n (srC rs)) (hr : ∀ q ∈ rs, W.ownsRow w.heap.size 3 1 (.slice q.2.1 q.1.r.length q.2.2) q.1.r.length (natC q.1.r)) : OX w (W.setCell ⟨sb, 7, none⟩ (.slice ao n c)) gb rb sb h G ⟨hh.na, hh.nc, hh.la, hh.lc, hh.aa, hh.ac, ao, c⟩ ⟨S.tk, S.nt, S.st, S.ex, S.nm, S.lv, S.az, rs.map (·.1)⟩ rs := by
  have f := s.own.far (j := 7) (u := .slice ao n c) ⟨_, s.sx⟩
  have e : (rs.map (·.1)).length = n := by rw [List.length_map]; exact hn
  refine ⟨box_far s.gx (loc_ne ⟨_, s.gx⟩ ⟨_, s.sx⟩ (by decide)), box_far s.rx s.ne, ?_, ⟨f.nm, f.lv, f.az, ?_, rfl, fun q hq => own_far (hr q hq) ⟨_, s.sx⟩ (by decide)⟩, s.bel.setCell (p := ⟨sb, 7, none⟩) s.nw _, s.ne, s.nw⟩
  · rw [box_set s.sx]
    unfold sC
    simp [hn]
  · simp only [e]
    exact own_far ho ⟨_, s.sx⟩ (by decide)

/-- A box of eight cells. -/
theorem box8 {W : World} {b : Nat} {c0 c1 c2 c3 c4 c5 c6 c7 : Value} (h : W.heap[b]? = some (.cells #[c0, c1, c2, c3, c4, c5, c6, c7] 32 (0, 0))) : W.cell? ⟨b, 0, none⟩ = some c0 ∧ W.cell? ⟨b, 1, none⟩ = some c1 ∧ W.cell? ⟨b, 2, none⟩ = some c2 ∧ W.cell? ⟨b, 3, none⟩ = some c3 ∧ W.cell? ⟨b, 4, none⟩ = some c4 ∧ W.cell? ⟨b, 5, none⟩ = some c5 ∧ W.cell? ⟨b, 6, none⟩ = some c6 ∧ W.cell? ⟨b, 7, none⟩ = some c7 := by
  refine ⟨?_, ?_, ?_, ?_, ?_, ?_, ?_, ?_⟩ <;> (rw [cell_block h]; rfl)

theorem froz8 {W : World} {b : Nat} {c : Array Value} (h : W.heap[b]? = some (.cells c 32 (0, 0))) : W.frozen? ⟨b, 0, none⟩ = false ∧ W.frozen? ⟨b, 1, none⟩ = false ∧ W.frozen? ⟨b, 2, none⟩ = false ∧ W.frozen? ⟨b, 3, none⟩ = false ∧ W.frozen? ⟨b, 4, none⟩ = false ∧ W.frozen? ⟨b, 5, none⟩ = false ∧ W.frozen? ⟨b, 6, none⟩ = false ∧ W.frozen? ⟨b, 7, none⟩ = false :=
  ⟨frozen_block h 0, frozen_block h 1, frozen_block h 2, frozen_block h 3, frozen_block h 4, frozen_block h 5, frozen_block h 6, frozen_block h 7⟩

/-- A box of four cells of a grammar. -/
theorem box4 {W : World} {b T : Nat} {c0 c1 c2 c3 : Value} (h : W.heap[b]? = some (.cells #[c0, c1, c2, c3] T (0, 0))) : W.cell? ⟨b, 0, none⟩ = some c0 ∧ W.cell? ⟨b, 1, none⟩ = some c1 ∧ W.cell? ⟨b, 2, none⟩ = some c2 ∧ W.cell? ⟨b, 3, none⟩ = some c3 := by
  refine ⟨?_, ?_, ?_, ?_⟩ <;> (rw [cell_block h]; rfl)

theorem OwnSp.mono {W : World} {base base' : Nat} {h : SHd} {S : Sp} {qs : List (SR × Option Addr × Nat)} (s : OwnSp W base h S qs) (hb : base' ≤ base) : OwnSp W base' h S qs :=
  ⟨own_mono s.nm hb, own_mono s.lv hb, own_mono s.az hb, own_mono s.rl hb, s.map, fun q hq => own_mono (s.row q hq) hb⟩

theorem set8_box {W : World} {b : Nat} {c0 c1 c2 c3 c4 c5 c6 c7 : Value} (v0 v1 v2 v3 v4 v5 v6 v7 : Value) (h : W.heap[b]? = some (.cells #[c0, c1, c2, c3, c4, c5, c6, c7] 32 (0, 0))) : (set8 W b v0 v1 v2 v3 v4 v5 v6 v7).heap[b]? = some (.cells #[v0, v1, v2, v3, v4, v5, v6, v7] 32 (0, 0)) := by
  unfold set8
  rw [box_set (box_set (box_set (box_set (box_set (box_set (box_set (box_set h)))))))]
  simp

theorem set8_far {W : World} {b i T : Nat} {c : Array Value} {v0 v1 v2 v3 v4 v5 v6 v7 : Value} (h : W.heap[i]? = some (.cells c T (0, 0))) (hn : i ≠ b) : (set8 W b v0 v1 v2 v3 v4 v5 v6 v7).heap[i]? = some (.cells c T (0, 0)) :=
  box_far (box_far (box_far (box_far (box_far (box_far (box_far (box_far h hn) hn) hn) hn) hn) hn) hn) hn

theorem OX.first {w W : World} {gb rb : Nat} {h : Hd} {G : Gm} {hh : SHd} {S : Sp} {qs : List (SR × Option Addr × Nat)} {c : Array Value} (hg : W.heap[gb]? = some (.cells #[.slice h.ta G.ts.length h.tc, .string G.s, .int .i64 G.e, .slice h.ra G.rs.length h.rc] 25 (0, 0))) (hr : W.heap[rb]? = some (.cells zC 32 (0, 0))) (hS : sC hh S = c) (ho : OwnSp W w.heap.size hh S qs) (hb : Below w.heap.size w W) : OX w (W.alloc (.cells c 32)) gb rb W.heap.size h G hh S qs := by
  have ha : Below W.heap.size W (W.alloc (.cells c 32)) := below_alloc _ _
  have h2 := (Array.getElem?_eq_some_iff.1 hr).1
  refine ⟨block_below ha hg, block_below ha hr, ?_, ho.step ha, below_step hb ha, by omega, hb.size⟩
  rw [hS]
  exact heap_alloc_new _ _

end Go.Proofs.YtebehlmidoencaaGreatDoor

/-
  The reference's lefts.
-/
namespace Go.Proofs.YtebehlmidoencaaGreatDoor
open Go.RowKit

set_option maxRecDepth 20000

/-- A text more at the end of an owned row of texts. -/
theorem ap_str {W : World} {B n nc : Nat} {na : Option Addr} {l : List ByteArray} (h : W.ownsRow B 9 1 (.slice na n nc) n (strC l)) (hB : B ≤ W.heap.size) (hn : n < 10000) (x : ByteArray) :
    ∃ g c W', (Builtin.append_ #[28, 28] 28 #[.slice na n nc, .slice (some ⟨W.heap.size, 0, none⟩) 1 1]).run Tryz.prog (W.alloc (.cells #[.string x] 9)) = .ok (.slice (some ⟨g, 0, none⟩) (n + 1) c) W' ∧ W'.ownsRow B 9 1 (.slice (some ⟨g, 0, none⟩) (n + 1) c) (n + 1) (strC (l ++ [x])) ∧ Kept (fun k => blk na = some k) W W' := by
  obtain ⟨g, c, W', hr, ho, hK, -⟩ := ap_gen (us := [.string x]) u28 i9 rfl (by decide) (by decide) rfl (fun u hu => by rw [List.mem_singleton] at hu; subst hu; rfl) h hB (by omega)
  have e : strC (l ++ [x]) = strC l ++ [.string x] := by unfold strC; rw [List.map_append]; rfl
  rw [← e] at ho
  exact ⟨g, c, W', hr, ho, ((Kept.refl _ W).alloc _).trans hK (fun k _ e => blk_own e)⟩

set_option maxHeartbeats 4000000 in
theorem rlefts_calls (G : Gm) (h : Hd) (w : World) (hG : IsG w h G) : Calls Tryz.prog 31 #[gv h G] w fun e w' => ∃ ao c, e = .returned (.slice ao (lfs G.rs).length c) ∧ w'.ownsRow w.heap.size 9 1 (.slice ao (lfs G.rs).length c) (lfs G.rs).length (strC (lfs G.rs)) ∧ Below w.heap.size w w' := by
  have hs2 : G.rs.length ≤ 200 := hG.small.nr
  have hm2 := rules_le hG.rul
  have HG : Hid (IsG w h G) := hG
  clear hG
  obtain ⟨ta, tc, ra, rc⟩ := h
  unfold gv
  simp only at hm2 ⊢
  have hv : Below w.heap.size w (w.alloc (.cells #[.slice ta G.ts.length tc, .string G.s, .int .i64 G.e, .slice ra G.rs.length rc] 25)) := below_alloc _ _
  have hx : (w.alloc (.cells #[.slice ta G.ts.length tc, .string G.s, .int .i64 G.e, .slice ra G.rs.length rc] 25)).heap[w.heap.size]? = some (.cells #[.slice ta G.ts.length tc, .string G.s, .int .i64 G.e, .slice ra G.rs.length rc] 25 (0, 0)) := heap_alloc_new _ _
  obtain ⟨tn, HTN⟩ : ∃ tn, Hid (G.ts.length = tn) := ⟨_, rfl⟩
  obtain ⟨rn, HRN⟩ : ∃ rn, Hid (G.rs.length = rn) := ⟨_, rfl⟩
  rw [HTN.out] at hv hx ⊢
  rw [HRN.out] at hs2 hm2 hv hx ⊢
  go_enter Tryz.func31, Tryz.ntmps31
  go_upto_region 1 with fail
  generalize w.alloc (.cells #[.slice ta tn tc, .string G.s, .int .i64 G.e, .slice ra rn rc] 25) = W1 at hv hx ⊢
  obtain ⟨gb, HGB⟩ : ∃ gb, Hid (gb = w.heap.size) := ⟨_, rfl⟩
  rw [← HGB.out] at hx ⊢
  have H1 : Hid (W1.heap[gb]? = some (.cells #[.slice ta tn tc, .string G.s, .int .i64 G.e, .slice ra rn rc] 25 (0, 0)) ∧ Below w.heap.size w W1) := ⟨hx, hv⟩
  clear hx hv HGB
  go_wp2_with fail
  go_loopg [3, 4] rn (fun kx s3 s4 wr => ∃ (k : Nat) (ao : Option Addr) (n c : Nat), s3 = .slice ao n c ∧ s4 = .int .i64 k ∧ k ≤ rn ∧ rn - k ≤ kx ∧ Hid ((lfs (G.rs.take k)).length = n ∧ wr.ownsRow w.heap.size 9 1 (.slice ao n c) n (strC (lfs (G.rs.take k))) ∧ Below w.heap.size w wr ∧ wr.heap[gb]? = some (.cells #[.slice ta tn tc, .string G.s, .int .i64 G.e, .slice ra rn rc] 25 (0, 0))))
  case atStart => exact ⟨0, none, 0, 0, rfl, rfl, Nat.zero_le _, by omega, rfl, World.ownsRow_nil _ _ _ _, H1.out.2, H1.out.1⟩
  case round =>
    clear H1
    obtain ⟨k, ao, n, c, rfl, rfl, hk, hg, J⟩ := hrel
    obtain ⟨p0, p1, p2, p3⟩ := box4 J.out.2.2.2
    by_cases hlt : k < rn
    · have hlt' : (k : Int) < (rn : Int) := by omega
      obtain ⟨r, hr⟩ : ∃ r, G.rs[k]? = some r := ⟨G.rs[k]'(by rw [HRN.out]; exact hlt), List.getElem?_eq_getElem _⟩
      have HT : Hid (G.rs[k]? = some r) := hr
      obtain ⟨b, o, xa, xc, hra, d0, d1, d2, -⟩ := (HG.out.rul.below J.out.2.2.1).at hr
      simp only at hra
      subst hra
      have hn2 : n ≤ 200 := by have := lfs_take_le G.rs k; have := J.out.1; omega
      have HPC : Hid (Calls Tryz.prog 32 #[.slice ao n c, .string r.l] wr fun e w' => e = .returned (.int .i64 (idxI (findS (lfs (G.rs.take k)) r.l))) ∧ w' = wr) := by
        have := place_calls (lfs (G.rs.take k)) ao c r.l wr (by rw [J.out.1]; exact Row.of_own J.out.2.1) (by rw [J.out.1]; omega)
        rw [J.out.1] at this
        exact this
      obtain ⟨g, c', W', hrun, ho, hk0⟩ := ap_str J.out.2.1 J.out.2.2.1.size (by omega) r.l
      have HA : Hid (W'.ownsRow w.heap.size 9 1 (.slice (some ⟨g, 0, none⟩) (n + 1) c') (n + 1) (strC (lfs (G.rs.take k) ++ [r.l])) ∧ Below w.heap.size w W' ∧ W'.heap[gb]? = some (.cells #[.slice ta tn tc, .string G.s, .int .i64 G.e, .slice (some ⟨b, o, none⟩) rn rc] 25 (0, 0))) := by
        refine ⟨ho, J.out.2.2.1.trans (hk0.below J.out.2.2.1.size (fun k hk e => ?_)), ?_⟩
        · have := (own_blt J.out.2.1 e).1
          omega
        · rw [hk0.block gb (Array.getElem?_eq_some_iff.1 J.out.2.2.2).1 (fun e => loc_ne ⟨_, J.out.2.2.2⟩ (own_blt J.out.2.1 e).2.2 (by decide) rfl)]
          exact J.out.2.2.2
      clear ho hk0 hr
      obtain ⟨z, HZ⟩ : ∃ z, Hid (idxI (findS (lfs (G.rs.take k)) r.l) = z) := ⟨_, rfl⟩
      rw [HZ.out] at HPC
      go_wp2_with fail
      refine HPC.out.mono ?_
      rintro e wq ⟨rfl, rfl⟩
      by_cases hz : z < 0
      · have HF : Hid (lfs (G.rs.take (k + 1)) = lfs (G.rs.take k) ++ [r.l]) := by
          rw [lfs_take HT.out]
          unfold lfS
          rw [if_neg (fun e => by have := (idxI_nonneg _).2 e; rw [HZ.out] at this; omega)]
          exact rfl
        go_wp2_with (at_builtin; refine Lib.wpList_append_run _ rfl _ _ _ _ rfl _ _ rfl rfl _ _ hrun ?_)
        go_roundg (rn - (k + 1))
        case measure => omega
        case rel =>
          refine ⟨k + 1, _, _, _, rfl, by simp, by omega, Nat.le_refl _, ?_⟩
          rw [HF.out]
          exact ⟨by simp [J.out.1], HA.out⟩
      · have HF : Hid (lfs (G.rs.take (k + 1)) = lfs (G.rs.take k)) := by
          rw [lfs_take HT.out]
          unfold lfS
          rw [if_pos ((idxI_nonneg _).1 (by rw [HZ.out]; omega))]
          exact rfl
        go_wp2_with fail
        go_roundg (rn - (k + 1))
        case measure => omega
        case rel =>
          refine ⟨k + 1, _, _, _, rfl, by simp, by omega, Nat.le_refl _, ?_⟩
          rw [HF.out]
          exact J.out
    · have hlt' : ¬ (k : Int) < (rn : Int) := by omega
      have hkk : k = rn := by omega
      have HE : Hid ((lfs G.rs).length = n ∧ wr.ownsRow w.heap.size 9 1 (.slice ao n c) n (strC (lfs G.rs)) ∧ Below w.heap.size w wr) := by
        have := J.out
        rw [List.take_of_length_le (by rw [HRN.out, hkk]; exact Nat.le_refl _)] at this
        exact ⟨this.1, this.2.1, this.2.2.1⟩
      clear J hkk
      go_wp2_with fail
      go_ret
      rw [HE.out.1]
      exact ⟨_, _, rfl, HE.out.2⟩

end Go.Proofs.YtebehlmidoencaaGreatDoor

/-
  The reference's token: the place of a name among the tokens.
-/
namespace Go.Proofs.YtebehlmidoencaaGreatDoor
open Go.RowKit

set_option maxRecDepth 20000

set_option maxHeartbeats 2000000 in
theorem rtok_calls (G : Gm) (h : Hd) (w : World) (hG : IsG w h G) (s : ByteArray) :
    Calls Tryz.prog 59 #[gv h G, .string s] w fun e w' => e = .returned (.int .i64 (idxI (findS (tkG G) s))) ∧ Below w.heap.size w w' := by
  obtain ⟨ts, st, ex, rs⟩ := G
  obtain ⟨ta, tc, ra, rc⟩ := h
  have hm1 : ts.length ≤ tc ∧ tc ≤ 9223372036854775807 := by have h1 := hG.tok.le; have h2 := hG.tok.max; simp only at h1 h2; unfold maxLen at h2; omega
  have hs1 : ts.length ≤ 100 := hG.small.nt
  have HR : Hid (Row w 3 ta ts.length tc (tokC ts)) := hG.tok
  unfold gv tkG
  simp only
  clear hG
  obtain ⟨n, HN⟩ : ∃ n, Hid (ts.length = n) := ⟨_, rfl⟩
  rw [HN.out] at HR hm1 hs1 ⊢
  generalize rs.length = rn
  obtain ⟨l, HL⟩ : ∃ l, Hid (ts.map (·.n) = l) := ⟨_, rfl⟩
  rw [HL.out]
  have HLL : Hid (l.length = n) := by rw [← HL.out, List.length_map]; exact HN.out
  have HLG : Hid (∀ (i : Nat) (u : Tk), ts[i]? = some u → l[i]? = some u.n) := fun i u hu => by rw [← HL.out, List.getElem?_map, hu]; rfl
  go_enter Tryz.func59, Tryz.ntmps59
  go_upto_region 1 with fail
  have c0 : (w.alloc (.cells #[.slice ta n tc, .string st, .int .i64 ex, .slice ra rn rc] 25)).cell? ⟨w.heap.size, 0, none⟩ = some (.slice ta n tc) := by rw [World.cell?_alloc_mark]; rfl
  have HB : Hid (Below w.heap.size w (w.alloc (.cells #[.slice ta n tc, .string st, .int .i64 ex, .slice ra rn rc] 25)) ∧ Row (w.alloc (.cells #[.slice ta n tc, .string st, .int .i64 ex, .slice ra rn rc] 25)) 3 ta n tc (tokC ts)) := ⟨below_alloc _ _, HR.out.below (below_alloc _ _)⟩
  generalize w.alloc (.cells #[.slice ta n tc, .string st, .int .i64 ex, .slice ra rn rc] 25) = wq at c0 HB ⊢
  generalize w.heap.size = gb at c0 ⊢
  clear HR
  go_wp2
  go_loop [5] (fun v => ∃ i : Nat, i ≤ n ∧ v = .int .i64 i ∧ Hid (∀ (j : Nat) (y : ByteArray), j < i → l[j]? = some y → y ≠ s)) (fun v => n - (intOf v).toNat)
  case atStart => exact ⟨0, Nat.zero_le _, rfl, (fun j u h => absurd h (Nat.not_lt_zero _) : ∀ (j : Nat) (y : ByteArray), j < 0 → l[j]? = some y → y ≠ s)⟩
  case round =>
    obtain ⟨i, hi, rfl, J⟩ := hrel
    by_cases hlt : i < n
    · have hlt' : (i : Int) < (n : Int) := by omega
      obtain ⟨u, hu⟩ : ∃ u, ts[i]? = some u := ⟨ts[i]'(by rw [HN.out]; exact hlt), List.getElem?_eq_getElem _⟩
      obtain ⟨b, o, rfl, p0, -, -⟩ := tok_at HB.out.2 hu
      have HU : Hid (l[i]? = some u.n) := HLG.out i u hu
      clear hu
      by_cases he : u.n = s
      · have hb := toList_beq_eq he
        have HF : Hid (idxI (findS l s) = (i : Int)) := by
          show _ = _
          rw [findS_at J.out HU.out he]
          rfl
        generalize u.n = un at p0 hb HU
        clear he
        go_wp2
        go_ret
        exact ⟨by rw [HF.out]; rfl, HB.out.1⟩
      · have hb := toList_beq_ne he
        have HF : Hid (∀ (j : Nat) (y : ByteArray), j < i + 1 → l[j]? = some y → y ≠ s) := fun j v hj hv => by
          rcases Nat.lt_or_ge j i with h | h
          · exact J.out j v h hv
          · have : j = i := by omega
            subst this
            rw [HU.out] at hv
            cases hv
            exact he
        generalize u.n = un at p0 hb HU
        clear he
        go_wp2
        go_round
        case rel => exact ⟨i + 1, by omega, by simp, HF⟩
        case measure => simp [intOf]; omega
    · have hlt' : ¬ (i : Int) < (n : Int) := by omega
      have HF : Hid (idxI (findS l s) = -1) := by
        show _ = _
        rw [findS_none (fun j y hy => J.out j y (by have := (List.getElem?_eq_some_iff.1 hy).1; rw [HLL.out] at this; omega) hy)]
        rfl
      go_wp2
      go_ret
      exact ⟨by rw [HF.out]; rfl, HB.out.1⟩

end Go.Proofs.YtebehlmidoencaaGreatDoor

/-
  The reference's long: a limit is passed.
-/
namespace Go.Proofs.YtebehlmidoencaaGreatDoor
open Go.RowKit

set_option maxRecDepth 20000

set_option maxHeartbeats 4000000 in
theorem rlong_calls (G : Gm) (h : Hd) (w : World) (hG : IsG w h G) (q : Bool) (hq : q = true ↔ LongP G) : Calls Tryz.prog 29 #[gv h G] w fun e w' => e = .returned (.bool q) ∧ Below w.heap.size w w' := by
  have hs1 : G.ts.length ≤ 100 := hG.small.nt
  have hs2 : G.rs.length ≤ 200 := hG.small.nr
  have hm2 := rules_le hG.rul
  have HG : Hid (IsG w h G) := hG
  have HQ : Hid (q = true ↔ LongP G) := hq
  clear hG hq
  have HLF : Hid (∀ V, Below w.heap.size w V → Calls Tryz.prog 31 #[gv h G] V fun e w' => ∃ ao c, e = .returned (.slice ao (lfs G.rs).length c) ∧ Below w.heap.size w w') := fun V hV => (rlefts_calls G h V (HG.out.below hV)).mono (fun e w' ⟨ao, c, he, _, hb⟩ => ⟨ao, c, he, below_step hV hb⟩)
  obtain ⟨ta, tc, ra, rc⟩ := h
  unfold gv at HLF ⊢
  simp only at hm2 HLF ⊢
  have hm1 : G.ts.length ≤ tc ∧ tc ≤ 9223372036854775807 := by have h1 := HG.out.tok.le; have h2 := HG.out.tok.max; simp only at h1 h2; unfold maxLen at h2; omega
  have hv : Below w.heap.size w (w.alloc (.cells #[.slice ta G.ts.length tc, .string G.s, .int .i64 G.e, .slice ra G.rs.length rc] 25)) := below_alloc _ _
  have hx : (w.alloc (.cells #[.slice ta G.ts.length tc, .string G.s, .int .i64 G.e, .slice ra G.rs.length rc] 25)).heap[w.heap.size]? = some (.cells #[.slice ta G.ts.length tc, .string G.s, .int .i64 G.e, .slice ra G.rs.length rc] 25 (0, 0)) := heap_alloc_new _ _
  obtain ⟨tn, HTN⟩ : ∃ tn, Hid (G.ts.length = tn) := ⟨_, rfl⟩
  obtain ⟨rn, HRN⟩ : ∃ rn, Hid (G.rs.length = rn) := ⟨_, rfl⟩
  obtain ⟨m, HM⟩ : ∃ m, Hid ((lfs G.rs).length = m) := ⟨_, rfl⟩
  rw [HTN.out] at hs1 hm1 hv hx HLF ⊢
  rw [HRN.out] at hs2 hm2 hv hx HLF ⊢
  rw [HM.out] at HLF
  go_enter Tryz.func29, Tryz.ntmps29
  go_upto_region 1 with fail
  generalize w.alloc (.cells #[.slice ta tn tc, .string G.s, .int .i64 G.e, .slice ra rn rc] 25) = W1 at hv hx ⊢
  obtain ⟨gb, HGB⟩ : ∃ gb, Hid (gb = w.heap.size) := ⟨_, rfl⟩
  rw [← HGB.out] at hx ⊢
  obtain ⟨p0, p1, p2, p3⟩ := box4 hx
  have H1 : Hid (Below w.heap.size w W1) := hv
  clear hx hv HGB
  go_wp2
  go_loop [3] (fun v => ∃ i : Nat, i ≤ rn ∧ v = .int .i64 i ∧ Hid (∀ (j : Nat) (r : Ru), j < i → G.rs[j]? = some r → r.r.length ≤ 6)) (fun v => rn - (intOf v).toNat)
  case atStart => exact ⟨0, Nat.zero_le _, rfl, (fun j u h => absurd h (Nat.not_lt_zero _) : ∀ (j : Nat) (r : Ru), j < 0 → G.rs[j]? = some r → r.r.length ≤ 6)⟩
  case round =>
    obtain ⟨i, hi, rfl, J⟩ := hrel
    by_cases hlt : i < rn
    · have hlt' : (i : Int) < (rn : Int) := by omega
      obtain ⟨r, hr⟩ : ∃ r, G.rs[i]? = some r := ⟨G.rs[i]'(by rw [HRN.out]; exact hlt), List.getElem?_eq_getElem _⟩
      obtain ⟨b, o, xa, xc, hra, d0, d1, d2, -⟩ := (HG.out.rul.below H1.out).at hr
      simp only at hra
      subst hra
      have HU : Hid (G.rs[i]? = some r) := hr
      clear hr
      obtain ⟨y, HY⟩ : ∃ y, Hid (r.r.length = y) := ⟨_, rfl⟩
      rw [HY.out] at d1
      by_cases he : 6 < y
      · have he' : (6 : Int) < (y : Int) := by omega
        have HF : Hid (q = true) := HQ.out.2 (.inr (.inr (.inr ⟨r, List.mem_of_getElem? HU.out, by rw [HY.out]; exact he⟩)))
        go_wp2
        go_ret
        exact ⟨by rw [HF.out]; rfl, H1.out⟩
      · have he' : ¬ (6 : Int) < (y : Int) := by omega
        have HF : Hid (∀ (j : Nat) (r : Ru), j < i + 1 → G.rs[j]? = some r → r.r.length ≤ 6) := fun j v hj hv => by
          rcases Nat.lt_or_ge j i with h | h
          · exact J.out j v h hv
          · have : j = i := by omega
            subst this
            rw [HU.out] at hv
            cases hv
            rw [HY.out]
            omega
        go_wp2
        go_round
        case rel => exact ⟨i + 1, by omega, by simp, HF⟩
        case measure => simp [intOf]; omega
    · have hlt' : ¬ (i : Int) < (rn : Int) := by omega
      have HF : Hid (q = true ↔ 12 < tn ∨ 30 < rn ∨ 10 < m) := by
        refine HQ.out.trans ?_
        unfold LongP
        rw [HTN.out, HRN.out, HM.out]
        constructor
        · rintro (h | h | h | ⟨r, hr, h⟩)
          · exact .inl h
          · exact .inr (.inl h)
          · exact .inr (.inr h)
          · obtain ⟨j, hj⟩ := List.getElem?_of_mem hr
            have h1 := (List.getElem?_eq_some_iff.1 hj).1
            rw [HRN.out] at h1
            have := J.out j r (by omega) hj
            omega
        · rintro (h | h | h)
          · exact .inl h
          · exact .inr (.inl h)
          · exact .inr (.inr (.inl h))
      clear J
      by_cases h1 : 12 < tn
      · have h1' : (12 : Int) < (tn : Int) := by omega
        have HE : Hid (q = true) := HF.out.2 (.inl h1)
        go_wp2_with fail
        go_ret
        exact ⟨by rw [HE.out]; rfl, H1.out⟩
      · have h1' : ¬ (12 : Int) < (tn : Int) := by omega
        by_cases h2 : 30 < rn
        · have h2' : (30 : Int) < (rn : Int) := by omega
          have HE : Hid (q = true) := HF.out.2 (.inr (.inl h2))
          go_wp2_with fail
          go_ret
          exact ⟨by rw [HE.out]; rfl, H1.out⟩
        · have h2' : ¬ (30 : Int) < (rn : Int) := by omega
          go_wp2_with fail
          refine (HLF.out _ H1.out).mono ?_
          rintro e W2 ⟨ao, c, rfl, hB⟩
          have HB : Hid (Below w.heap.size w W2) := hB
          have HE : Hid (q = decide ((10 : Int) < (m : Int))) := by
            by_cases h3 : 10 < m
            · rw [HF.out.2 (.inr (.inr h3))]
              exact (decide_eq_true (by omega)).symm
            · rw [decide_eq_false (by omega)]
              exact b_false HF.out (fun e => by omega)
          go_wp2_with fail
          go_ret
          exact ⟨by rw [HE.out]; rfl, HB.out⟩

end Go.Proofs.YtebehlmidoencaaGreatDoor

/-
  The reference's named.
-/
namespace Go.Proofs.YtebehlmidoencaaGreatDoor
open Go.RowKit

set_option maxRecDepth 20000

set_option maxHeartbeats 8000000 in
theorem rnamed_calls (G : Gm) (h : Hd) (w : World) (hG : IsG w h G) (q : Bool) (hq : q = true ↔ NmP G) : Calls Tryz.prog 30 #[gv h G] w fun e w' => e = .returned (.bool q) ∧ Below w.heap.size w w' := by
  have hs1 : G.ts.length ≤ 100 := hG.small.nt
  have hs2 : G.rs.length ≤ 200 := hG.small.nr
  have hm2 := rules_le hG.rul
  have HG : Hid (IsG w h G) := hG
  have HQ : Hid (q = true ↔ (G.rs ≠ [] ∧ (¬ ∃ x ∈ tkG G, x ∈ lfs G.rs) ∧ (∀ r ∈ G.rs, NmR G r) ∧ startB G ∈ lfs G.rs)) := hq.trans nmP_iff
  clear hG hq
  obtain ⟨m, HM⟩ : ∃ m, Hid ((lfs G.rs).length = m) := ⟨_, rfl⟩
  have hm9 : m ≤ 200 := by have := lfs_le G.rs; have := HM.out; omega
  have HLF : Hid (∀ V, Below w.heap.size w V → Calls Tryz.prog 31 #[gv h G] V fun e w' => ∃ ao c, e = .returned (.slice ao m c) ∧ Row w' 1 ao m c (strC (lfs G.rs)) ∧ Below V.heap.size V w') := fun V hV => by
    have := rlefts_calls G h V (HG.out.below hV)
    rw [HM.out] at this
    exact this.mono (fun e w' ⟨ao, c, he, ho, hb⟩ => ⟨ao, c, he, Row.of_own ho, hb⟩)
  have HPL : Hid (∀ (V : World) (ao : Option Addr) (c : Nat) (x : ByteArray), Row V 1 ao m c (strC (lfs G.rs)) → Calls Tryz.prog 32 #[.slice ao m c, .string x] V fun e w' => e = .returned (.int .i64 (idxI (findS (lfs G.rs) x))) ∧ w' = V) := fun V ao c x hr => by
    have := place_calls (lfs G.rs) ao c x V (by rw [HM.out]; exact hr) (by rw [HM.out]; omega)
    rw [HM.out] at this
    exact this
  have HTK : Hid (∀ (V : World) (x : ByteArray), Below w.heap.size w V → Calls Tryz.prog 59 #[gv h G, .string x] V fun e w' => e = .returned (.int .i64 (idxI (findS (tkG G) x))) ∧ Below V.heap.size V w') := fun V x hV => rtok_calls G h V (HG.out.below hV) x
  have HIN : Hid (∀ (l : List ByteArray) (x : ByteArray), 0 ≤ idxI (findS l x) ↔ x ∈ l) := fun l x => (idxI_nonneg _).trans findS_mem
  obtain ⟨ta, tc, ra, rc⟩ := h
  unfold gv at HLF HTK ⊢
  simp only at hm2 HLF HTK ⊢
  have hm1 : G.ts.length ≤ tc ∧ tc ≤ 9223372036854775807 := by have h1 := HG.out.tok.le; have h2 := HG.out.tok.max; simp only at h1 h2; unfold maxLen at h2; omega
  have hv : Below w.heap.size w (w.alloc (.cells #[.slice ta G.ts.length tc, .string G.s, .int .i64 G.e, .slice ra G.rs.length rc] 25)) := below_alloc _ _
  have hx : (w.alloc (.cells #[.slice ta G.ts.length tc, .string G.s, .int .i64 G.e, .slice ra G.rs.length rc] 25)).heap[w.heap.size]? = some (.cells #[.slice ta G.ts.length tc, .string G.s, .int .i64 G.e, .slice ra G.rs.length rc] 25 (0, 0)) := heap_alloc_new _ _
  obtain ⟨tn, HTN⟩ : ∃ tn, Hid (G.ts.length = tn) := ⟨_, rfl⟩
  obtain ⟨rn, HRN⟩ : ∃ rn, Hid (G.rs.length = rn) := ⟨_, rfl⟩
  rw [HTN.out] at hs1 hm1 hv hx HLF HTK ⊢
  rw [HRN.out] at hs2 hm2 hv hx HLF HTK ⊢
  go_enter Tryz.func30, Tryz.ntmps30
  go_upto_region 1 with fail
  generalize w.alloc (.cells #[.slice ta tn tc, .string G.s, .int .i64 G.e, .slice ra rn rc] 25) = W1 at hv hx ⊢
  obtain ⟨gb, HGB⟩ : ∃ gb, Hid (gb = w.heap.size) := ⟨_, rfl⟩
  rw [← HGB.out] at hx ⊢
  have HB1 : Hid (∀ V : World, Below W1.heap.size W1 V → Below w.heap.size w V ∧ V.cell? ⟨gb, 0, none⟩ = some (.slice ta tn tc) ∧ V.cell? ⟨gb, 1, none⟩ = some (.string G.s) ∧ V.cell? ⟨gb, 2, none⟩ = some (.int .i64 G.e) ∧ V.cell? ⟨gb, 3, none⟩ = some (.slice ra rn rc)) := fun V hV => ⟨below_step hv hV, box4 (block_below hV hx)⟩
  obtain ⟨p0, p1, p2, p3⟩ := box4 hx
  have H1 : Hid (Below w.heap.size w W1) := hv
  clear hx hv HGB
  go_wp2_with fail
  refine (HLF.out _ H1.out).mono ?_
  rintro e W2 ⟨ao, c, rfl, hrow, hB2⟩
  have H2 : Hid (Below W1.heap.size W1 W2 ∧ Row W2 1 ao m c (strC (lfs G.rs))) := ⟨hB2, hrow⟩
  have hml := row_lens hrow
  clear p0 p1 p2 p3 HLF H1 hB2 hrow
  obtain ⟨-, p0, p1, p2, p3⟩ := HB1.out W2 H2.out.1
  go_wp2_with fail
  go_loopg [4] tn (fun kx s4 wr => ∃ k : Nat, s4 = .int .i64 k ∧ k ≤ tn ∧ tn - k ≤ kx ∧ Hid (wr = W2 ∧ ∀ (i : Nat) (t : Tk), i < k → G.ts[i]? = some t → t.n ∉ lfs G.rs))
  case atStart => exact ⟨0, rfl, Nat.zero_le _, by omega, (⟨rfl, fun i r hi => absurd hi (Nat.not_lt_zero _)⟩ : W2 = W2 ∧ ∀ (i : Nat) (t : Tk), i < 0 → G.ts[i]? = some t → t.n ∉ lfs G.rs)⟩
  case round =>
    obtain ⟨k, rfl, hk, hg, J⟩ := hrel
    obtain ⟨hwr, hJ⟩ := J.out
    subst hwr
    have HJ : Hid (∀ (i : Nat) (t : Tk), i < k → G.ts[i]? = some t → t.n ∉ lfs G.rs) := hJ
    clear J hJ
    by_cases hlt : k < tn
    · have hlt' : (k : Int) < (tn : Int) := by omega
      obtain ⟨t, ht⟩ : ∃ t, G.ts[k]? = some t := ⟨G.ts[k]'(by rw [HTN.out]; exact hlt), List.getElem?_eq_getElem _⟩
      obtain ⟨b, o, hta, d0, -, -⟩ := tok_at (HG.out.tok.below (HB1.out wr H2.out.1).1) ht
      simp only at hta
      subst hta
      have HT : Hid (G.ts[k]? = some t) := ht
      clear ht
      have HPC := HPL.out wr ao c t.n H2.out.2
      have HZ := HIN.out (lfs G.rs) t.n
      generalize idxI (findS (lfs G.rs) t.n) = z at HPC HZ
      have HPC' : Hid (Calls Tryz.prog 32 #[.slice ao m c, .string t.n] wr fun e w' => e = .returned (.int .i64 z) ∧ w' = wr) := HPC
      have HZ' : Hid (0 ≤ z ↔ t.n ∈ lfs G.rs) := HZ
      clear HPC HZ
      go_wp2_with fail
      refine HPC'.out.mono ?_
      rintro e wq ⟨rfl, rfl⟩
      by_cases hz : 0 ≤ z
      · have HF : Hid (q = false) := b_false HQ.out (fun e => e.2.1 ⟨t.n, by unfold tkG; exact List.mem_map.2 ⟨t, List.mem_of_getElem? HT.out, rfl⟩, HZ'.out.1 hz⟩)
        go_wp2_with fail
        go_ret
        exact ⟨by rw [HF.out]; rfl, (HB1.out _ H2.out.1).1⟩
      · have HF : Hid (∀ (i : Nat) (t : Tk), i < k + 1 → G.ts[i]? = some t → t.n ∉ lfs G.rs) := fun i u hi hu => by
          rcases Nat.lt_or_ge i k with h1 | h1
          · exact HJ.out i u h1 hu
          · have : i = k := by omega
            subst this
            rw [HT.out] at hu
            cases hu
            exact fun e => hz (HZ'.out.2 e)
        go_wp2_with fail
        go_roundg (tn - (k + 1))
        case measure => omega
        case rel => exact ⟨k + 1, by simp, by omega, Nat.le_refl _, (⟨rfl, HF.out⟩ : wq = wq ∧ ∀ (i : Nat) (t : Tk), i < k + 1 → G.ts[i]? = some t → t.n ∉ lfs G.rs)⟩
    · have hlt' : ¬ (k : Int) < (tn : Int) := by omega
      have HT : Hid (¬ ∃ x ∈ tkG G, x ∈ lfs G.rs) := by
        rintro ⟨x, hx, hl⟩
        unfold tkG at hx
        obtain ⟨t, ht, rfl⟩ := List.mem_map.1 hx
        obtain ⟨i, hi⟩ := List.getElem?_of_mem ht
        exact HJ.out i t (by have := (List.getElem?_eq_some_iff.1 hi).1; rw [HTN.out] at this; omega) hi hl
      clear HJ hk hg hlt p0 p1 p2 p3
      obtain ⟨W3, hW3⟩ : ∃ W3, W3 = wr := ⟨_, rfl⟩
      subst wr
      obtain ⟨-, p0, p1, p2, p3⟩ := HB1.out W3 H2.out.1
      go_wp2_with fail
      clear p0 p1 p2 p3
      go_loopg [5] rn (fun kx s5 wr => ∃ k : Nat, s5 = .int .i64 k ∧ k ≤ rn ∧ rn - k ≤ kx ∧ Hid (Below W3.heap.size W3 wr ∧ ∀ (i : Nat) (r : Ru), i < k → G.rs[i]? = some r → NmR G r))
      case atStart => exact ⟨0, rfl, Nat.zero_le _, by omega, (⟨Below.refl _ _, fun i r hi => absurd hi (Nat.not_lt_zero _)⟩ : Below W3.heap.size W3 W3 ∧ ∀ (i : Nat) (r : Ru), i < 0 → G.rs[i]? = some r → NmR G r)⟩
      case round =>
        obtain ⟨k, rfl, hk, hg, J⟩ := hrel
        obtain ⟨-, p0, p1, p2, p3⟩ := HB1.out wr (below_step H2.out.1 J.out.1)
        by_cases hlt : k < rn
        · have hlt' : (k : Int) < (rn : Int) := by omega
          obtain ⟨r, hr⟩ : ∃ r, G.rs[k]? = some r := ⟨G.rs[k]'(by rw [HRN.out]; exact hlt), List.getElem?_eq_getElem _⟩
          obtain ⟨bb, o, ya, yc, hra, d0, d1, d2, hrow⟩ := (HG.out.rul.below (HB1.out wr (below_step H2.out.1 J.out.1)).1).at hr
          simp only at hra
          subst hra
          have hrl : r.r.length ≤ 100 := (HG.out.small.rl r (List.mem_of_getElem? hr)).2.2.1
          have hyl := row_lens hrow
          have hv : Below wr.heap.size wr (wr.alloc (.cells #[.string r.l, .slice ya r.r.length yc, .string r.p] 46)) := below_alloc _ _
          have HV : Hid (Below W3.heap.size W3 (wr.alloc (.cells #[.string r.l, .slice ya r.r.length yc, .string r.p] 46)) ∧ (wr.alloc (.cells #[.string r.l, .slice ya r.r.length yc, .string r.p] 46)).heap[wr.heap.size]? = some (.cells #[.string r.l, .slice ya r.r.length yc, .string r.p] 46 (0, 0)) ∧ Row (wr.alloc (.cells #[.string r.l, .slice ya r.r.length yc, .string r.p] 46)) 1 ya r.r.length yc (strC r.r) ∧ G.rs[k]? = some r ∧ ∀ (i : Nat) (r : Ru), i < k → G.rs[i]? = some r → NmR G r) := ⟨below_step J.out.1 hv, heap_alloc_new _ _, hrow.below hv, hr, J.out.2⟩
          clear J hr hv hrow
          obtain ⟨rl, HRL⟩ : ∃ rl, Hid (r.r.length = rl) := ⟨_, rfl⟩
          rw [HRL.out] at HV d1 hrl hyl
          go_upto_region 11 with fail
          obtain ⟨b6, HB6⟩ : ∃ b6, Hid (b6 = wr.heap.size) := ⟨_, rfl⟩
          rw [← HB6.out] at HV ⊢
          generalize wr.alloc (.cells #[.string r.l, .slice ya rl yc, .string r.p] 46) = V at HV ⊢
          clear HB6 d0 d1 d2 p0 p1 p2 p3
          have q1 : V.cell? ⟨b6, 1, none⟩ = some (.slice ya rl yc) := by rw [cell_block HV.out.2.1]; rfl
          clear q1
          go_wp2_with fail
          go_loopg [7] rl (fun kx s7 wr => ∃ k2 : Nat, s7 = .int .i64 k2 ∧ k2 ≤ rl ∧ rl - k2 ≤ kx ∧ Hid (Below V.heap.size V wr ∧ ∀ (i : Nat) (x : ByteArray), i < k2 → r.r[i]? = some x → x ∈ tkG G ∨ x ∈ lfs G.rs))
          case atStart => exact ⟨0, rfl, Nat.zero_le _, by omega, (⟨Below.refl _ _, fun i x hi => absurd hi (Nat.not_lt_zero _)⟩ : Below V.heap.size V V ∧ ∀ (i : Nat) (x : ByteArray), i < 0 → r.r[i]? = some x → x ∈ tkG G ∨ x ∈ lfs G.rs)⟩
          case round =>
            obtain ⟨k2, rfl, hk2, hg2, K⟩ := hrel
            obtain ⟨V3, hV3⟩ : ∃ V3, V3 = wr := ⟨_, rfl⟩
            subst wr
            have q1 : V3.cell? ⟨b6, 1, none⟩ = some (.slice ya rl yc) := by rw [cell_block (block_below K.out.1 HV.out.2.1)]; rfl
            have q2 : V3.cell? ⟨b6, 2, none⟩ = some (.string r.p) := by rw [cell_block (block_below K.out.1 HV.out.2.1)]; rfl
            have HW3 : Hid (Below W1.heap.size W1 V3 ∧ Row V3 1 ao m c (strC (lfs G.rs))) := ⟨below_step H2.out.1 (below_step HV.out.1 K.out.1), H2.out.2.below (below_step HV.out.1 K.out.1)⟩
            obtain ⟨-, p0, p1, p2, p3⟩ := HB1.out V3 HW3.out.1
            by_cases hlt2 : k2 < rl
            · have hlt2' : (k2 : Int) < (rl : Int) := by omega
              obtain ⟨x, hx⟩ : ∃ x, r.r[k2]? = some x := ⟨r.r[k2]'(by rw [HRL.out]; exact hlt2), List.getElem?_eq_getElem _⟩
              obtain ⟨b9, o9, hya, q0⟩ := str_at (HV.out.2.2.1.below K.out.1) hx
              subst hya
              have HX : Hid (r.r[k2]? = some x) := hx
              clear hx
              have HPC := HPL.out
              have HTC := HTK.out
              have HZ1 := HIN.out (lfs G.rs) x
              have HZ2 := HIN.out (tkG G) x
              obtain ⟨z1, hz1⟩ : ∃ z1, idxI (findS (lfs G.rs) x) = z1 := ⟨_, rfl⟩
              obtain ⟨z2, hz2⟩ : ∃ z2, idxI (findS (tkG G) x) = z2 := ⟨_, rfl⟩
              have HP1 : Hid (∀ V : World, Row V 1 ao m c (strC (lfs G.rs)) → Calls Tryz.prog 32 #[.slice ao m c, .string x] V fun e w' => e = .returned (.int .i64 z1) ∧ w' = V) := fun V hV => by
                have := HPC V ao c x hV
                rw [hz1] at this
                exact this
              have HT1 : Hid (∀ V : World, Below w.heap.size w V → Calls Tryz.prog 59 #[.agg #[.slice ta tn tc, .string G.s, .int .i64 G.e, .slice (some ⟨bb, o, none⟩) rn rc], .string x] V fun e w' => e = .returned (.int .i64 z2) ∧ Below V.heap.size V w') := fun V hV => by
                have := HTC V x hV
                rw [hz2] at this
                exact this
              rw [hz1] at HZ1
              rw [hz2] at HZ2
              have HZ : Hid ((0 ≤ z1 ↔ x ∈ lfs G.rs) ∧ (0 ≤ z2 ↔ x ∈ tkG G)) := ⟨HZ1, HZ2⟩
              clear HPC HTC HZ1 HZ2 hz1 hz2
              obtain ⟨bx, hbx⟩ := bool_of (¬ (x ∈ tkG G ∨ x ∈ lfs G.rs))
              have HBX : Hid (bx = true ↔ ¬ (x ∈ tkG G ∨ x ∈ lfs G.rs)) := hbx
              clear hbx
              go_upto_region 14 with fail
              go_cut [7, 62] from 38 to 62 (fun s7 s62 wd => s7 = .int .i64 (k2 : Int) ∧ s62 = .bool bx ∧ Hid (Below V3.heap.size V3 wd))
              case first =>
                by_cases hz : z1 < 0
                · by_cases hy : z2 < 0
                  · have HF : Hid (bx = true) := HBX.out.2 (fun e => by
                      rcases e with e | e
                      · have := HZ.out.2.2 e; omega
                      · have := HZ.out.1.2 e; omega)
                    go_region_with (first | (go_at_call 32; refine (HP1.out _ (HW3.out.2.below (below_drew' _))).mono ?_; rintro e V4 ⟨rfl, rfl⟩) | (go_at_call 59; refine (HT1.out _ (HB1.out _ (below_step HW3.out.1 (below_drew' _))).1).mono ?_; rintro e V5 ⟨rfl, hB5⟩))
                    all_goals
                      have HE : Hid (Below V3.heap.size V3 _) := below_step (below_drew' V3) hB5
                      clear hB5
                      go_wp2_with fail
                      go_meet
                      exact ⟨rfl, by rw [HF.out], HE⟩
                  · have HF : Hid (bx = false) := b_false HBX.out (fun e => e (.inl (HZ.out.2.1 (by omega))))
                    go_region_with (first | (go_at_call 32; refine (HP1.out _ (HW3.out.2.below (below_drew' _))).mono ?_; rintro e V4 ⟨rfl, rfl⟩) | (go_at_call 59; refine (HT1.out _ (HB1.out _ (below_step HW3.out.1 (below_drew' _))).1).mono ?_; rintro e V5 ⟨rfl, hB5⟩))
                    all_goals
                      have HE : Hid (Below V3.heap.size V3 _) := below_step (below_drew' V3) hB5
                      clear hB5
                      go_wp2_with fail
                      go_meet
                      exact ⟨rfl, by rw [HF.out, decide_eq_false (by omega)], HE⟩
                · have HF : Hid (bx = false) := b_false HBX.out (fun e => e (.inr (HZ.out.1.1 (by omega))))
                  have hd : decide (z1 < 0) = false := decide_eq_false hz
                  clear hz
                  have HD : Hid (∀ q, Below V3.heap.size V3 (V3.drewN q)) := fun q => below_drewN (Below.refl _ _) q
                  have mx := mixed
                  go_quiet (first | (go_at_call 32; exact Calls.quiet_of_same (HP1.out _ (HW3.out.2.below (HD.out _)))))
                  go_wp2_with fail
                  go_meet
                  exact ⟨rfl, by rw [HF.out], HD.out _⟩
              case rest =>
                obtain ⟨rfl, rfl, HE⟩ := hcut
                obtain ⟨V5, hV5⟩ : ∃ V5, V5 = wc := ⟨_, rfl⟩
                subst wc
                clear q0 q1 q2 p0 p1 p2 p3 HP1 HT1
                cases bx
                · have HF : Hid (Below V.heap.size V V5 ∧ ∀ (i : Nat) (x : ByteArray), i < k2 + 1 → r.r[i]? = some x → x ∈ tkG G ∨ x ∈ lfs G.rs) := ⟨below_step K.out.1 HE.out, fun i y hi hy => by
                    rcases Nat.lt_or_ge i k2 with h1 | h1
                    · exact K.out.2 i y h1 hy
                    · have : i = k2 := by omega
                      subst this
                      rw [HX.out] at hy
                      cases hy
                      rcases Classical.em (x ∈ tkG G ∨ x ∈ lfs G.rs) with h2 | h2
                      · exact h2
                      · have := HBX.out.2 h2; cases this⟩
                  go_wp2_with fail
                  go_roundg (rl - (k2 + 1))
                  case measure => omega
                  case rel => exact ⟨k2 + 1, by simp, by omega, Nat.le_refl _, HF⟩
                · have HF : Hid (q = false) := b_false HQ.out (fun e => (HBX.out.1 rfl) ((e.2.2.1 r (List.mem_of_getElem? HV.out.2.2.2.1)).2 x (List.mem_of_getElem? HX.out)))
                  go_wp2_with fail
                  go_ret
                  exact ⟨by rw [HF.out]; rfl, (HB1.out _ (below_step HW3.out.1 HE.out)).1⟩
            · have hlt2' : ¬ (k2 : Int) < (rl : Int) := by omega
              have HRR : Hid (∀ x ∈ r.r, x ∈ tkG G ∨ x ∈ lfs G.rs) := fun x hx => by
                obtain ⟨j, hj⟩ := List.getElem?_of_mem hx
                exact K.out.2 j x (by have := (List.getElem?_eq_some_iff.1 hj).1; rw [HRL.out] at this; omega) hj
              have HVV : Hid (Below W3.heap.size W3 V3) := below_step HV.out.1 K.out.1
              clear K
              have fin : (r.p = e0 ∨ r.p ∈ tkG G) → ∀ V4, Below V3.heap.size V3 V4 → (Below W3.heap.size W3 V4 ∧ ∀ (i : Nat) (r : Ru), i < k + 1 → G.rs[i]? = some r → NmR G r) := fun hp V4 hB => by
                refine ⟨below_step HVV.out hB, fun i u hi hu => ?_⟩
                rcases Nat.lt_or_ge i k with h1 | h1
                · exact HV.out.2.2.2.2 i u h1 hu
                · have : i = k := by omega
                  subst this
                  rw [HV.out.2.2.2.1] at hu
                  cases hu
                  exact ⟨hp, HRR.out⟩
              have HFI : Hid ((r.p = e0 ∨ r.p ∈ tkG G) → ∀ V4, Below V3.heap.size V3 V4 → (Below W3.heap.size W3 V4 ∧ ∀ (i : Nat) (r : Ru), i < k + 1 → G.rs[i]? = some r → NmR G r)) := fin
              clear fin
              by_cases hp : r.p = e0
              · have hb0 := (toList_nil r.p).2 hp
                have HF : Hid (Below W3.heap.size W3 V3 ∧ ∀ (i : Nat) (r : Ru), i < k + 1 → G.rs[i]? = some r → NmR G r) := HFI.out (.inl hp) V3 (Below.refl _ _)
                clear hp
                go_wp2_with fail
                go_roundg (rn - (k + 1))
                case measure => omega
                case rel => exact ⟨k + 1, by simp, by omega, Nat.le_refl _, HF⟩
              · have hb0 : (r.p.toList == []) = false := by
                  cases hq : (r.p.toList == [])
                  · rfl
                  · exact absurd ((toList_nil r.p).1 hq) hp
                have HTC := HTK.out V3 r.p (HB1.out _ HW3.out.1).1
                have HZ2 := HIN.out (tkG G) r.p
                generalize idxI (findS (tkG G) r.p) = z2 at HTC HZ2
                have HT1 : Hid (Calls Tryz.prog 59 #[.agg #[.slice ta tn tc, .string G.s, .int .i64 G.e, .slice (some ⟨bb, o, none⟩) rn rc], .string r.p] V3 fun e w' => e = .returned (.int .i64 z2) ∧ Below V3.heap.size V3 w') := HTC
                have HZ : Hid (0 ≤ z2 ↔ r.p ∈ tkG G) := HZ2
                have HNP : Hid (¬ r.p = e0) := hp
                clear HTC HZ2 hp
                go_wp2_with fail
                refine HT1.out.mono ?_
                rintro e V4 ⟨rfl, hB4⟩
                have HB4 : Hid (Below V3.heap.size V3 V4) := hB4
                clear hB4 q1 q2 p0 p1 p2 p3
                by_cases hz : 0 ≤ z2
                · have HF : Hid (Below W3.heap.size W3 V4 ∧ ∀ (i : Nat) (r : Ru), i < k + 1 → G.rs[i]? = some r → NmR G r) := HFI.out (.inr (HZ.out.1 hz)) V4 HB4.out
                  have hz' : ¬ z2 < 0 := by omega
                  go_wp2_with fail
                  go_roundg (rn - (k + 1))
                  case measure => omega
                  case rel => exact ⟨k + 1, by simp, by omega, Nat.le_refl _, HF⟩
                · have HF : Hid (q = false) := b_false HQ.out (fun e => by
                    rcases (e.2.2.1 r (List.mem_of_getElem? HV.out.2.2.2.1)).1 with h1 | h1
                    · exact HNP.out h1
                    · exact hz (HZ.out.2 h1))
                  have hz' : z2 < 0 := by omega
                  go_wp2_with fail
                  go_ret
                  exact ⟨by rw [HF.out]; rfl, (HB1.out _ (below_step HW3.out.1 HB4.out)).1⟩
        · have hlt' : ¬ (k : Int) < (rn : Int) := by omega
          have HALL : Hid (∀ r ∈ G.rs, NmR G r) := fun r hr => by
            obtain ⟨i, hi⟩ := List.getElem?_of_mem hr
            exact J.out.2 i r (by have := (List.getElem?_eq_some_iff.1 hi).1; rw [HRN.out] at this; omega) hi
          have HW3 : Hid (Below W1.heap.size W1 wr ∧ Row wr 1 ao m c (strC (lfs G.rs))) := ⟨below_step H2.out.1 J.out.1, H2.out.2.below J.out.1⟩
          clear J
          by_cases hr0 : rn = 0
          · have hr0' : ¬ (0 : Int) < (rn : Int) := by omega
            have HF : Hid (q = false) := b_false HQ.out (fun e => e.1 (List.eq_nil_of_length_eq_zero (by rw [HRN.out]; exact hr0)))
            clear hr0
            go_wp2_with fail
            go_ret
            exact ⟨by rw [HF.out]; rfl, (HB1.out _ HW3.out.1).1⟩
          · have hr0' : (0 : Int) < (rn : Int) := by omega
            have HNE : Hid (G.rs ≠ []) := fun e => hr0 (by rw [← HRN.out, e]; rfl)
            clear hr0
            by_cases hs : G.s = e0
            · have hb0 := (toList_nil G.s).2 hs
              have HF : Hid (q = true) := HQ.out.2 ⟨HNE.out, HT.out, HALL.out, by
                unfold startB
                rw [if_pos hs]
                obtain ⟨r, hr⟩ : ∃ r, G.rs[0]? = some r := ⟨G.rs[0]'(by rw [HRN.out]; omega), List.getElem?_eq_getElem _⟩
                rw [hr]
                exact lfs_mem.2 ⟨r, List.mem_of_getElem? hr, rfl⟩⟩
              clear hs
              go_wp2_with fail
              go_ret
              exact ⟨by rw [HF.out]; rfl, (HB1.out _ HW3.out.1).1⟩
            · have hb0 : (G.s.toList == []) = false := by
                cases hq : (G.s.toList == [])
                · rfl
                · exact absurd ((toList_nil G.s).1 hq) hs
              have HPC := HPL.out wr ao c G.s HW3.out.2
              have HZ1 := HIN.out (lfs G.rs) G.s
              generalize idxI (findS (lfs G.rs) G.s) = z1 at HPC HZ1
              have HP1 : Hid (Calls Tryz.prog 32 #[.slice ao m c, .string G.s] wr fun e w' => e = .returned (.int .i64 z1) ∧ w' = wr) := HPC
              have HE : Hid (q = true ↔ 0 ≤ z1) := by
                refine HQ.out.trans ?_
                have e : startB G = G.s := by unfold startB; rw [if_neg hs]
                rw [e]
                constructor
                · intro h; exact HZ1.2 h.2.2.2
                · intro h; exact ⟨HNE.out, HT.out, HALL.out, HZ1.1 h⟩
              clear HPC HZ1 hs
              go_wp2_with fail
              refine HP1.out.mono ?_
              rintro e V4 ⟨rfl, rfl⟩
              by_cases hz : 0 ≤ z1
              · have HF : Hid (q = true) := HE.out.2 hz
                go_wp2_with fail
                go_ret
                exact ⟨by rw [HF.out]; simp, (HB1.out _ HW3.out.1).1⟩
              · have HF : Hid (q = false) := b_false HE.out hz
                go_wp2_with fail
                go_ret
                exact ⟨by rw [HF.out]; simp [hz], (HB1.out _ HW3.out.1).1⟩

end Go.Proofs.YtebehlmidoencaaGreatDoor

/-
  The reference's rule.
-/
namespace Go.Proofs.YtebehlmidoencaaGreatDoor
open Go.RowKit

set_option maxRecDepth 20000

/-- A rule by numbers that is being built, its grammar beside it. -/
structure RP (w W : World) (b1 b2 b3 b4 b5 : Nat) (c1 c2 c3 : Array Value) (l : Int) (ys : List Nat) (xa : Option Addr) (xc : Nat) : Prop where
  x1 : W.heap[b1]? = some (.cells c1 25 (0, 0))
  o : RO w W b2 b3 b4 b5 c2 c3 l ys xa xc

theorem RP.step {w W W' : World} {b1 b2 b3 b4 b5 : Nat} {c1 c2 c3 : Array Value} {l : Int} {ys : List Nat} {xa : Option Addr} {xc : Nat} (s : RP w W b1 b2 b3 b4 b5 c1 c2 c3 l ys xa xc) (hb : Below W.heap.size W W') : RP w W' b1 b2 b3 b4 b5 c1 c2 c3 l ys xa xc :=
  ⟨block_below hb s.x1, s.o.step hb⟩

theorem RP.add {w W : World} {b1 b2 b3 b4 b5 : Nat} {c1 c2 c3 : Array Value} {l : Int} {ys : List Nat} {xa : Option Addr} {xc : Nat} (t : RP w W b1 b2 b3 b4 b5 c1 c2 c3 l ys xa xc) (y : Nat) (hn : ys.length < 1000) :
    ∃ g c W', (Builtin.append_ #[29, 29] 29 #[.slice xa ys.length xc, .slice (some ⟨W.heap.size, 0, none⟩) 1 1]).run Tryz.prog (W.alloc (.cells #[.int .i64 (y : Int)] 3)) = .ok (.slice (some ⟨g, 0, none⟩) (ys.length + 1) c) W' ∧
      W'.cell? ⟨b5, 1, none⟩ = some (.slice xa ys.length xc) ∧ W'.frozen? ⟨b5, 1, none⟩ = false ∧ RP w (W'.setCell ⟨b5, 1, none⟩ (.slice (some ⟨g, 0, none⟩) (ys.length + 1) c)) b1 b2 b3 b4 b5 c1 c2 c3 l (ys ++ [y]) (some ⟨g, 0, none⟩) c := by
  have s := t.o
  obtain ⟨g, c, W', hr, ho, hk, hg⟩ := ap_gen (us := [.int .i64 (y : Int)]) u29 i3 rfl (by decide) (by decide) rfl (fun u hu => by rw [List.mem_singleton] at hu; subst hu; rfl) s.own s.bel.size (by omega)
  have hk0 : Kept (fun k => blk xa = some k) W W' := ((Kept.refl _ W).alloc _).trans hk (fun k _ e => blk_own e)
  have bx : ∀ {b T : Nat} {d : Array Value}, W.heap[b]? = some (.cells d T (0, 0)) → T ≠ 3 → W'.heap[b]? = some (.cells d T (0, 0)) := fun hb hT => by
    rw [hk0.block _ (Array.getElem?_eq_some_iff.1 hb).1 (fun e => loc_ne ⟨_, hb⟩ (own_blt s.own e).2.2 hT rfl)]; exact hb
  have y1 := bx t.x1 (by decide)
  have y2 := bx s.x2 (by decide)
  have y3 := bx s.x3 (by decide)
  have y4 := bx s.x4 (by decide)
  have y5 := bx s.x5 (by decide)
  refine ⟨g, c, W', hr, by rw [cell_block y5]; rfl, frozen_block y5 1, ?_, ?_, ?_, ?_, ?_, ?_, ?_, s.ne, s.n5⟩
  · exact (Below.heap_setCell _ _ _ _ (show b1 ≠ b5 from loc_ne ⟨_, y1⟩ ⟨_, y5⟩ (by decide))).trans y1
  · exact (Below.heap_setCell _ _ _ _ (show b2 ≠ b5 from loc_ne ⟨_, y2⟩ ⟨_, y5⟩ (by decide))).trans y2
  · exact (Below.heap_setCell _ _ _ _ (show b3 ≠ b5 from loc_ne ⟨_, y3⟩ ⟨_, y5⟩ (by decide))).trans y3
  · exact (Below.heap_setCell _ _ _ _ s.ne).trans y4
  · rw [setCell_eq_setRow W' b5 1 _ 62 (0, 0) _ y5, setRow_heap _ _ _ _ 62 _ y5, List.length_append]
    rfl
  · rw [natC_snoc, List.length_append]
    exact ownsRow_of_block ho (fun i hi => by
      cases hi
      exact Below.heap_setCell _ _ _ _ (loc_ne (own_loc ho rfl) ⟨_, y5⟩ (by decide)))
  · refine (s.bel.trans (hk0.below s.bel.size (fun k hk e => ?_))).setCell (p := ⟨b5, 1, none⟩) s.n5 _
    have := (own_blt s.own e).1
    omega

/-- Four new blocks. -/
theorem four_new (w : World) (o1 o2 o3 o4 : Obj) : Below w.heap.size w ((((w.alloc o1).alloc o2).alloc o3).alloc o4) ∧ ((((w.alloc o1).alloc o2).alloc o3).alloc o4).heap[w.heap.size]? = some o1 ∧ ((((w.alloc o1).alloc o2).alloc o3).alloc o4).heap[w.heap.size + 1]? = some o2 ∧ ((((w.alloc o1).alloc o2).alloc o3).alloc o4).heap[w.heap.size + 1 + 1]? = some o3 ∧ ((((w.alloc o1).alloc o2).alloc o3).alloc o4).heap[w.heap.size + 1 + 1 + 1]? = some o4 ∧ ((((w.alloc o1).alloc o2).alloc o3).alloc o4).heap.size = w.heap.size + 1 + 1 + 1 + 1 := by
  obtain ⟨h1, h2, h3, h4, h5⟩ := three_new w o1 o2 o3
  have hb := below_alloc ((((w.alloc o1).alloc o2).alloc o3)) o4
  have h6 := heap_alloc_new (((w.alloc o1).alloc o2).alloc o3) o4
  rw [h5] at h6
  exact ⟨below_step h1 hb, block_below hb h2, block_below hb h3, block_below hb h4, h6, by rw [size_alloc1, h5]⟩

set_option maxHeartbeats 8000000 in
theorem rrule_calls (G : Gm) (hd : Hd) (S : Sp) (h : SHd) (w : World) (hG : IsG w hd G) (hnm : Row w 1 h.na S.nm.length h.nc (strC S.nm)) (htk : S.tk = G.ts.length) (hnl : S.nm = nmG G) (hm : MayP G) (hn : NmP G) (r : Ru) (hr : r ∈ G.rs) (ya : Option Addr) (yc : Nat) (hrow : Row w 1 ya r.r.length yc (strC r.r)) :
    Calls Tryz.prog 33 #[gv hd G, .agg (sC h S), .agg #[.string r.l, .slice ya r.r.length yc, .string r.p]] w fun e w' => ∃ xa xc, e = .returned (.agg #[.int .i64 (ruG G r).l, .slice xa (ruG G r).r.length xc, .int .i64 (ruG G r).lv, .int .i64 (ruG G r).a]) ∧ w'.ownsRow w.heap.size 3 1 (.slice xa (ruG G r).r.length xc) (ruG G r).r.length (natC (ruG G r).r) ∧ Below w.heap.size w w' := by
  have hs1 : G.ts.length ≤ 100 := hG.small.nt
  have hs2 : G.rs.length ≤ 200 := hG.small.nr
  have hrl : r.r.length ≤ 20 := (hm.rl r hr).2.1
  have hyl := row_lens hrow
  have hqs := row_lens hnm
  have hnl2 : (nmG G).length ≤ 400 := by rw [nmG_len]; have := lfs_le G.rs; omega
  have HG : Hid (IsG w hd G ∧ MayP G ∧ NmP G ∧ r ∈ G.rs ∧ Row w 1 ya r.r.length yc (strC r.r)) := ⟨hG, hm, hn, hr, hrow⟩
  have HIX : Hid (∀ (V : World) (s : ByteArray), Below w.heap.size w V → Calls Tryz.prog 32 #[.slice h.na S.nm.length h.nc, .string s] V fun e w' => e = .returned (.int .i64 (idxI (findS (nmG G) s))) ∧ w' = V) := fun V s hV => by
    have h1 := hnm.below hV
    rw [hnl] at h1 ⊢
    exact place_calls (nmG G) h.na h.nc s V h1 (by omega)
  have HTK : Hid (∀ (V : World), Below w.heap.size w V → Calls Tryz.prog 59 #[gv hd G, .string r.p] V fun e w' => e = .returned (.int .i64 (idxI (findS (tkG G) r.p))) ∧ Below V.heap.size V w') := fun V hV => rtok_calls G hd V (hG.below hV) r.p
  have hnl3 : S.nm.length ≤ 400 := by rw [hnl]; exact hnl2
  clear hG hm hn hr hrow hnm hnl hnl2
  obtain ⟨ta, tc, ra, rc⟩ := hd
  unfold gv at HTK ⊢
  simp only at HTK ⊢
  have hm1 : G.ts.length ≤ tc ∧ tc ≤ 9223372036854775807 := by have h1 := HG.out.1.tok.le; have h2 := HG.out.1.tok.max; simp only at h1 h2; unfold maxLen at h2; omega
  have HN4 := four_new w (.cells #[.slice ta G.ts.length tc, .string G.s, .int .i64 G.e, .slice ra G.rs.length rc] 25) (.cells (sC h S) 32) (.cells #[.string r.l, .slice ya r.r.length yc, .string r.p] 46) (.cells #[.int .i64 0, .slice none 0 0, .int .i64 0, .int .i64 0] 62)
  obtain ⟨tn, HTN⟩ : ∃ tn, Hid (G.ts.length = tn) := ⟨_, rfl⟩
  obtain ⟨rn, HRN⟩ : ∃ rn, Hid (G.rs.length = rn) := ⟨_, rfl⟩
  obtain ⟨nl, HNL⟩ : ∃ nl, Hid (S.nm.length = nl) := ⟨_, rfl⟩
  obtain ⟨rl, HRL⟩ : ∃ rl, Hid (r.r.length = rl) := ⟨_, rfl⟩
  unfold sC at HN4 ⊢
  rw [htk] at HN4 ⊢
  rw [HTN.out] at hs1 hm1 HTK HN4 ⊢
  rw [HRN.out] at hs2 HTK HN4 ⊢
  rw [HNL.out] at HIX hqs hnl3 HN4 ⊢
  rw [HRL.out] at hrl hyl HN4 ⊢
  generalize S.lv.length = lvn at *
  generalize S.az.length = azn at *
  generalize S.rs.length = sn at *
  clear htk
  go_enter Tryz.func33, Tryz.ntmps33
  go_upto_region 1 with fail
  obtain ⟨W1, hW1⟩ : ∃ W1, W1 = ((((w.alloc (.cells #[.slice ta tn tc, .string G.s, .int .i64 G.e, .slice ra rn rc] 25)).alloc (.cells #[.int .i64 (tn : Int), .int .i64 (S.nt : Int), .int .i64 (S.st : Int), .int .i64 S.ex, .slice h.na nl h.nc, .slice h.la lvn h.lc, .slice h.aa azn h.ac, .slice h.ra sn h.rc] 32)).alloc (.cells #[.string r.l, .slice ya rl yc, .string r.p] 46)).alloc (.cells #[.int .i64 0, .slice none 0 0, .int .i64 0, .int .i64 0] 62)) := ⟨_, rfl⟩
  rw [← hW1] at HN4 ⊢
  clear hW1
  obtain ⟨b1, HB1⟩ : ∃ b1, Hid (b1 = w.heap.size) := ⟨_, rfl⟩
  rw [← HB1.out] at HN4 ⊢
  obtain ⟨hB, hx1, hx3, hx2, hx4, hsz⟩ := HN4
  have HS4 : Hid (w.heap.size ≤ b1 + 1 + 1 + 1 ∧ W1.heap.size = b1 + 1 + 1 + 1 + 1) := ⟨by rw [HB1.out]; omega, hsz⟩
  clear hsz
  rw [HB1.out] at hB
  obtain ⟨b3, HB3⟩ : ∃ b3, Hid (b3 = b1 + 1) := ⟨_, rfl⟩
  rw [← HB3.out] at hx3 hx2 hx4 HS4 ⊢
  obtain ⟨b2, HB2⟩ : ∃ b2, Hid (b2 = b3 + 1) := ⟨_, rfl⟩
  rw [← HB2.out] at hx2 hx4 HS4 ⊢
  obtain ⟨b4, HB4⟩ : ∃ b4, Hid (b4 = b2 + 1) := ⟨_, rfl⟩
  rw [← HB4.out] at hx4 HS4 ⊢
  have HW1 : Hid (Below w.heap.size w W1 ∧ W1.heap[b1]? = some (.cells #[.slice ta tn tc, .string G.s, .int .i64 G.e, .slice ra rn rc] 25 (0, 0)) ∧ W1.heap[b2]? = some (.cells #[.string r.l, .slice ya rl yc, .string r.p] 46 (0, 0)) ∧ W1.heap[b3]? = some (.cells #[.int .i64 (tn : Int), .int .i64 (S.nt : Int), .int .i64 (S.st : Int), .int .i64 S.ex, .slice h.na nl h.nc, .slice h.la lvn h.lc, .slice h.aa azn h.ac, .slice h.ra sn h.rc] 32 (0, 0)) ∧ W1.heap[b4]? = some (.cells #[.int .i64 0, .slice none 0 0, .int .i64 0, .int .i64 0] 62 (0, 0))) := ⟨hB, hx1, hx2, hx3, hx4⟩
  clear hB hx1 hx2 hx3 hx4 HB1 HB2 HB3 HB4
  have c4 : W1.cell? ⟨b3, 4, none⟩ = some (.slice h.na nl h.nc) := by rw [cell_block HW1.out.2.2.2.1]; rfl
  have c0 : W1.cell? ⟨b2, 0, none⟩ = some (.string r.l) := by rw [cell_block HW1.out.2.2.1]; rfl
  have HLL : Hid (idxI (findS (nmG G) r.l) = (ruG G r).l) := by
    have hx := nmG_mem (G := G) (.inr (lfs_mem.2 ⟨r, HG.out.2.2.2.1, rfl⟩))
    show _ = _
    rw [ix_find hx]
    rfl
  go_wp2_with fail
  refine (HIX.out _ _ HW1.out.1).mono ?_
  rintro e V ⟨rfl, rfl⟩
  obtain ⟨l, HL⟩ : ∃ l, Hid (idxI (findS (nmG G) r.l) = l) := ⟨_, rfl⟩
  rw [HL.out] at HLL ⊢
  have hv : Below V.heap.size V (V.alloc (.cells #[.int .i64 l, .slice none 0 0, .int .i64 0, .int .i64 0] 62)) := below_alloc _ _
  have HO : Hid (RP w (V.alloc (.cells #[.int .i64 l, .slice none 0 0, .int .i64 0, .int .i64 0] 62)) b1 b2 b3 b4 V.heap.size #[.slice ta tn tc, .string G.s, .int .i64 G.e, .slice ra rn rc] #[.string r.l, .slice ya rl yc, .string r.p] #[.int .i64 (tn : Int), .int .i64 (S.nt : Int), .int .i64 (S.st : Int), .int .i64 S.ex, .slice h.na nl h.nc, .slice h.la lvn h.lc, .slice h.aa azn h.ac, .slice h.ra sn h.rc] l [] none 0) :=
    ⟨block_below hv HW1.out.2.1, block_below hv HW1.out.2.2.1, block_below hv HW1.out.2.2.2.1, block_below hv HW1.out.2.2.2.2, heap_alloc_new _ _, World.ownsRow_nil _ _ _ _, below_step HW1.out.1 hv, by rw [HS4.out.2]; omega, HW1.out.1.size⟩
  clear hv c4 c0
  go_upto_region 2 with fail
  generalize V.alloc (.cells #[.int .i64 l, .slice none 0 0, .int .i64 0, .int .i64 0] 62) = Q at HO ⊢
  obtain ⟨b5, HB5⟩ : ∃ b5, Hid (b5 = V.heap.size) := ⟨_, rfl⟩
  rw [← HB5.out] at HO ⊢
  have HB4S : Hid (w.heap.size ≤ b4) := HS4.out.1
  clear HB5 HW1 HL HS4
  have c1 : Q.cell? ⟨b2, 1, none⟩ = some (.slice ya rl yc) := by rw [cell_block HO.out.o.x2]; rfl
  go_wp2_with fail
  clear c1
  go_loopg [8, 9] rl (fun kx s8 s9 wr => ∃ k : Nat, s8 = .int .i64 (idxI (byL G (r.r.take k))) ∧ s9 = .int .i64 k ∧ k ≤ rl ∧ rl - k ≤ kx ∧ Hid (∃ xa xc, RP w wr b1 b2 b3 b4 b5 #[.slice ta tn tc, .string G.s, .int .i64 G.e, .slice ra rn rc] #[.string r.l, .slice ya rl yc, .string r.p] #[.int .i64 (tn : Int), .int .i64 (S.nt : Int), .int .i64 (S.st : Int), .int .i64 S.ex, .slice h.na nl h.nc, .slice h.la lvn h.lc, .slice h.aa azn h.ac, .slice h.ra sn h.rc] l ((r.r.take k).map (ix (nmG G))) xa xc))
  case atStart => exact ⟨0, rfl, rfl, Nat.zero_le _, by omega, (⟨_, _, HO.out⟩ : ∃ xa xc, RP w Q b1 b2 b3 b4 b5 #[.slice ta tn tc, .string G.s, .int .i64 G.e, .slice ra rn rc] #[.string r.l, .slice ya rl yc, .string r.p] #[.int .i64 (tn : Int), .int .i64 (S.nt : Int), .int .i64 (S.st : Int), .int .i64 S.ex, .slice h.na nl h.nc, .slice h.la lvn h.lc, .slice h.aa azn h.ac, .slice h.ra sn h.rc] l ((r.r.take 0).map (ix (nmG G))) xa xc)⟩
  case round =>
    clear HO
    obtain ⟨k, rfl, rfl, hk, hg, J⟩ := hrel
    by_cases hlt : k < rl
    · have hlt' : (k : Int) < (rl : Int) := by omega
      obtain ⟨xa, xc, s⟩ := J.out
      obtain ⟨x, hx⟩ : ∃ x, r.r[k]? = some x := ⟨r.r[k]'(by rw [HRL.out]; exact hlt), List.getElem?_eq_getElem _⟩
      obtain ⟨b, o, hya, q0⟩ := str_at (HG.out.2.2.2.2.below s.o.bel) hx
      subst hya
      have hxm : x ∈ nmG G := nmG_mem (HG.out.2.2.1.rr r HG.out.2.2.2.1 x (List.mem_of_getElem? hx))
      have HXX : Hid (r.r[k]? = some x) := hx
      have c4 : wr.cell? ⟨b3, 4, none⟩ = some (.slice h.na nl h.nc) := by rw [cell_block s.o.x3]; rfl
      have c1 : wr.cell? ⟨b2, 1, none⟩ = some (.slice (some ⟨b, o, none⟩) rl yc) := by rw [cell_block s.o.x2]; rfl
      have HIC : Hid (Calls Tryz.prog 32 #[.slice h.na nl h.nc, .string x] wr.drew fun e w' => e = .returned (.int .i64 ((ix (nmG G) x : Nat) : Int)) ∧ w' = wr.drew) := by
        have := HIX.out wr.drew x (below_step s.o.bel (below_drew' _))
        rw [ix_find hxm] at this
        exact this
      obtain ⟨y, HY⟩ : ∃ y, Hid (ix (nmG G) x = y) := ⟨_, rfl⟩
      rw [HY.out] at HIC
      have hy9 : y ≤ 1000 := by
        have := ix_lt hxm
        rw [HY.out, nmG_len] at this
        have := lfs_le G.rs
        have := HTN.out
        have := HRN.out
        omega
      have HS : Hid (RP w wr b1 b2 b3 b4 b5 #[.slice ta tn tc, .string G.s, .int .i64 G.e, .slice ra rn rc] #[.string r.l, .slice (some ⟨b, o, none⟩) rl yc, .string r.p] #[.int .i64 (tn : Int), .int .i64 (S.nt : Int), .int .i64 (S.st : Int), .int .i64 S.ex, .slice h.na nl h.nc, .slice h.la lvn h.lc, .slice h.aa azn h.ac, .slice h.ra sn h.rc] l ((r.r.take k).map (ix (nmG G))) xa xc) := s
      clear s J hx hxm
      obtain ⟨by0, HBY⟩ : ∃ by0, Hid (idxI (byL G (r.r.take k)) = by0) := ⟨_, rfl⟩
      rw [HBY.out]
      go_upto_region 6 with fail
      go_cut [8, 9, 10] from 17 to 42 (fun s8 s9 s10 wd => s8 = .int .i64 by0 ∧ s9 = .int .i64 (k : Int) ∧ s10 = .int .i64 (y : Int) ∧ Hid (Below wr.heap.size wr wd))
      case first =>
        have HE : Hid (Below wr.heap.size wr wr.drew) := below_drew' wr
        go_region_with (first | (go_at_call 32; refine HIC.out.mono ?_; rintro e V2 ⟨rfl, rfl⟩))
        all_goals
          go_wp2_with fail
          go_meet
          exact ⟨rfl, rfl, rfl, HE⟩
      case rest =>
        obtain ⟨rfl, rfl, rfl, HE⟩ := hcut
        obtain ⟨V3, hV3⟩ : ∃ V3, V3 = wc := ⟨_, rfl⟩
        subst wc
        have s := HS.out.step HE.out
        clear c4 c1 q0 HIC HS HE
        have elk : ((r.r.take k).map (ix (nmG G))).length = k := by rw [List.length_map, List.length_take, HRL.out]; omega
        obtain ⟨g, c, V1, hr1, x1, f1, s1⟩ := s.add y (by omega)
        have c1 : V3.cell? ⟨b5, 1, none⟩ = some (.slice xa k xc) := by rw [cell_block s.o.x5, elk]; rfl
        rw [elk] at hr1 x1 s1
        have HS1 : Hid (RP w (V1.setCell ⟨b5, 1, none⟩ (.slice (some ⟨g, 0, none⟩) (k + 1) c)) b1 b2 b3 b4 b5 #[.slice ta tn tc, .string G.s, .int .i64 G.e, .slice ra rn rc] #[.string r.l, .slice (some ⟨b, o, none⟩) rl yc, .string r.p] #[.int .i64 (tn : Int), .int .i64 (S.nt : Int), .int .i64 (S.st : Int), .int .i64 S.ex, .slice h.na nl h.nc, .slice h.la lvn h.lc, .slice h.aa azn h.ac, .slice h.ra sn h.rc] l ((r.r.take (k + 1)).map (ix (nmG G))) (some ⟨g, 0, none⟩) c) := by
          have e : (r.r.take (k + 1)).map (ix (nmG G)) = (r.r.take k).map (ix (nmG G)) ++ [y] := by rw [take_succ HXX.out, List.map_append, ← HY.out]; rfl
          rw [e]
          exact s1
        clear s s1 elk
        go_upto_region 8 with (at_builtin; refine Lib.wpList_append_run _ rfl _ _ _ _ rfl _ _ rfl rfl _ _ hr1 ?_)
        generalize V1.setCell ⟨b5, 1, none⟩ (.slice (some ⟨g, 0, none⟩) (k + 1) c) = Q1 at HS1 ⊢
        clear hr1 x1 f1 c1
        have z0 : Q1.cell? ⟨b3, 0, none⟩ = some (.int .i64 (tn : Int)) := by rw [cell_block HS1.out.o.x3]; rfl
        have HF : Hid (∃ xa xc, RP w Q1 b1 b2 b3 b4 b5 #[.slice ta tn tc, .string G.s, .int .i64 G.e, .slice ra rn rc] #[.string r.l, .slice (some ⟨b, o, none⟩) rl yc, .string r.p] #[.int .i64 (tn : Int), .int .i64 (S.nt : Int), .int .i64 (S.st : Int), .int .i64 S.ex, .slice h.na nl h.nc, .slice h.la lvn h.lc, .slice h.aa azn h.ac, .slice h.ra sn h.rc] l ((r.r.take (k + 1)).map (ix (nmG G))) xa xc) := ⟨_, _, HS1.out⟩
        clear HS1
        by_cases hyt : y < tn
        · have hyt' : (y : Int) < (tn : Int) := by omega
          have HE : Hid (byL G (r.r.take (k + 1)) = some y) := by
            show _ = _
            rw [take_succ HXX.out, byL_snoc]
            unfold byS
            rw [HY.out, if_pos (by rw [HTN.out]; exact hyt)]
          go_wp2_with fail
          go_roundg (rl - (k + 1))
          case measure => omega
          case rel => exact ⟨k + 1, by rw [HE.out]; rfl, by simp, by omega, Nat.le_refl _, HF⟩
        · have hyt' : ¬ (y : Int) < (tn : Int) := by omega
          have HE : Hid (idxI (byL G (r.r.take (k + 1))) = by0) := by
            show _ = _
            rw [take_succ HXX.out, byL_snoc]
            unfold byS
            rw [HY.out, if_neg (by rw [HTN.out]; exact hyt)]
            exact HBY.out
          go_wp2_with fail
          go_roundg (rl - (k + 1))
          case measure => omega
          case rel => exact ⟨k + 1, by rw [HE.out], by simp, by omega, Nat.le_refl _, HF⟩
    · have hlt' : ¬ (k : Int) < (rl : Int) := by omega
      obtain ⟨w5, hw5⟩ : ∃ w5, w5 = wr := ⟨_, rfl⟩
      subst wr
      have eT : r.r.take k = r.r := List.take_of_length_le (by rw [HRL.out]; omega)
      rw [eT] at J ⊢
      have R0 : Hid (∃ xa xc, RP w w5 b1 b2 b3 b4 b5 #[.slice ta tn tc, .string G.s, .int .i64 G.e, .slice ra rn rc] #[.string r.l, .slice ya rl yc, .string r.p] #[.int .i64 (tn : Int), .int .i64 (S.nt : Int), .int .i64 (S.st : Int), .int .i64 S.ex, .slice h.na nl h.nc, .slice h.la lvn h.lc, .slice h.aa azn h.ac, .slice h.ra sn h.rc] l (ruG G r).r xa xc) := J.out
      clear J eT
      have c1 : w5.cell? ⟨b2, 1, none⟩ = some (.slice ya rl yc) := by
        obtain ⟨xa, xc, s⟩ := R0.out
        rw [cell_block s.o.x2]; rfl
      have c2 : w5.cell? ⟨b2, 2, none⟩ = some (.string r.p) := by
        obtain ⟨xa, xc, s⟩ := R0.out
        rw [cell_block s.o.x2]; rfl
      obtain ⟨by0, HBY⟩ : ∃ by0, Hid (idxI (byL G r.r) = by0) := ⟨_, rfl⟩
      rw [HBY.out]
      obtain ⟨bp, hbp⟩ : ∃ bp, (r.p.toList == []) = bp := ⟨_, rfl⟩
      have HBP : Hid ((r.p.toList == []) = bp) := hbp
      go_upto_if 45 with fail
      clear hbp
      go_cut [8] (fun s8 wd => s8 = .int .i64 (idxI (byG G r)) ∧ Hid (∃ xa xc, RP w wd b1 b2 b3 b4 b5 #[.slice ta tn tc, .string G.s, .int .i64 G.e, .slice ra rn rc] #[.string r.l, .slice ya rl yc, .string r.p] #[.int .i64 (tn : Int), .int .i64 (S.nt : Int), .int .i64 (S.st : Int), .int .i64 S.ex, .slice h.na nl h.nc, .slice h.la lvn h.lc, .slice h.aa azn h.ac, .slice h.ra sn h.rc] l (ruG G r).r xa xc))
      case first =>
        cases bp
        rotate_left
        · have hp : r.p = e0 := (toList_nil r.p).1 HBP.out
          have HE : Hid (idxI (byG G r) = by0) := by
            show _ = _
            unfold byG
            rw [if_pos hp]
            exact HBY.out
          clear hp
          go_wp2_with fail
          go_meet
          exact ⟨by rw [HE.out], R0⟩
        · have hp : ¬ r.p = e0 := fun e => by have := (toList_nil r.p).2 e; rw [HBP.out] at this; cases this
          have HE : Hid (idxI (findS (tkG G) r.p) = idxI (byG G r)) := by
            show _ = _
            unfold byG
            rw [if_neg hp]
          clear hp
          obtain ⟨xa, xc, s⟩ := R0.out
          have HS : Hid (RP w w5 b1 b2 b3 b4 b5 #[.slice ta tn tc, .string G.s, .int .i64 G.e, .slice ra rn rc] #[.string r.l, .slice ya rl yc, .string r.p] #[.int .i64 (tn : Int), .int .i64 (S.nt : Int), .int .i64 (S.st : Int), .int .i64 S.ex, .slice h.na nl h.nc, .slice h.la lvn h.lc, .slice h.aa azn h.ac, .slice h.ra sn h.rc] l (ruG G r).r xa xc) := s
          obtain ⟨p0, p1, p2, p3⟩ := box4 s.x1
          clear s R0
          rw [HE.out] at HTK
          go_wp2_with fail
          refine (HTK.out _ HS.out.o.bel).mono ?_
          rintro e V4 ⟨rfl, hB⟩
          have HF : Hid (∃ xa xc, RP w V4 b1 b2 b3 b4 b5 #[.slice ta tn tc, .string G.s, .int .i64 G.e, .slice ra rn rc] #[.string r.l, .slice ya rl yc, .string r.p] #[.int .i64 (tn : Int), .int .i64 (S.nt : Int), .int .i64 (S.st : Int), .int .i64 S.ex, .slice h.na nl h.nc, .slice h.la lvn h.lc, .slice h.aa azn h.ac, .slice h.ra sn h.rc] l (ruG G r).r xa xc) := ⟨_, _, HS.out.step hB⟩
          clear hB HS p0 p1 p2 p3
          go_wp2_with fail
          go_meet
          exact ⟨rfl, HF⟩
      case rest =>
        obtain ⟨rfl, R1⟩ := hcut
        obtain ⟨w6, hw6⟩ : ∃ w6, w6 = wc := ⟨_, rfl⟩
        subst wc
        clear R0 HIX HTK c1 c2
        obtain ⟨xa, xc, s⟩ := R1.out
        have HS : Hid (RP w w6 b1 b2 b3 b4 b5 #[.slice ta tn tc, .string G.s, .int .i64 G.e, .slice ra rn rc] #[.string r.l, .slice ya rl yc, .string r.p] #[.int .i64 (tn : Int), .int .i64 (S.nt : Int), .int .i64 (S.st : Int), .int .i64 S.ex, .slice h.na nl h.nc, .slice h.la lvn h.lc, .slice h.aa azn h.ac, .slice h.ra sn h.rc] l (ruG G r).r xa xc) := s
        clear s R1
        obtain ⟨zz, HZZ⟩ : ∃ zz, Hid (idxI (byG G r) = zz) := ⟨_, rfl⟩
        rw [HZZ.out]
        go_upto_if 51 with fail
        go_cut [8] (fun s8 wd => Hid (RD7 w wd b4 b5 l (ruG G r).r (ruG G r).lv (ruG G r).a xa xc))
        case first =>
          have HLV : Hid ((ruG G r).lv = lvO G.ts (byG G r) ∧ (ruG G r).a = azO G.ts (byG G r)) := ⟨rfl, rfl⟩
          cases hby : byG G r with
          | none =>
            have HF : Hid (RD7 w w6 b4 b5 l (ruG G r).r (ruG G r).lv (ruG G r).a xa xc) := by
              have h1 := HLV.out
              rw [hby] at h1
              rw [h1.1, h1.2]
              exact HS.out.o.done
            have hz : ¬ (0 : Int) ≤ zz := by rw [← HZZ.out, hby]; decide
            clear hby
            go_wp2_with fail
            go_meet
            exact HF
          | some j =>
            have hj : j < G.ts.length := byG_lt hby
            obtain ⟨u, hu⟩ : ∃ u, G.ts[j]? = some u := ⟨G.ts[j], List.getElem?_eq_getElem hj⟩
            have q5 : w6.cell? ⟨b1, 0, none⟩ = some (.slice ta tn tc) := by rw [cell_block HS.out.x1]; rfl
            obtain ⟨b, o, hla, v4, v5, v6⟩ := tok_at (HG.out.1.tok.below HS.out.o.bel) hu
            have hbl : b < w.heap.size := by
              obtain ⟨b9, o9, h9, v9, -, -⟩ := tok_at HG.out.1.tok hu
              rw [hla] at h9
              cases h9
              exact World.block_lt_of_cell? w _ v9
            simp only at hla
            rw [hla] at q5
            rw [HTN.out] at hj
            have hjt' : (j : Int) < (tn : Int) := by omega
            have y2 : w6.cell? ⟨b5, 2, none⟩ = some (.int .i64 0) := by rw [cell_block HS.out.o.x5]; rfl
            have y3 : w6.cell? ⟨b5, 3, none⟩ = some (.int .i64 0) := by rw [cell_block HS.out.o.x5]; rfl
            have f2 : w6.frozen? ⟨b5, 2, none⟩ = false := frozen_block HS.out.o.x5 2
            have f3 : w6.frozen? ⟨b5, 3, none⟩ = false := frozen_block HS.out.o.x5 3
            have hdw := (HS.out.step (below_drew' w6)).o
            have hl1 : (ruG G r).lv = u.l ∧ (ruG G r).a = u.a := by
              have h1 := HLV.out
              rw [hby] at h1
              rw [h1.1, h1.2]
              unfold lvO azO
              simp only [hu]
              exact ⟨rfl, rfl⟩
            have HFA : Hid (RD7 w ((w6.drew.setCell ⟨b5, 2, none⟩ (.int .i64 u.l)).setCell ⟨b5, 3, none⟩ (.int .i64 u.a)) b4 b5 l (ruG G r).r (ruG G r).lv (ruG G r).a xa xc) := by
              rw [hl1.1, hl1.2]
              exact (hdw.done.put2 hdw.ne hdw.n5 u.l).put3 hdw.ne hdw.n5 u.a
            have HFB : Hid (RD7 w ((w6.drew.setCell ⟨b5, 3, none⟩ (.int .i64 u.a)).setCell ⟨b5, 2, none⟩ (.int .i64 u.l)) b4 b5 l (ruG G r).r (ruG G r).lv (ruG G r).a xa xc) := by
              rw [hl1.1, hl1.2]
              exact (hdw.done.put3 hdw.ne hdw.n5 u.a).put2 hdw.ne hdw.n5 u.l
            obtain rfl : zz = (j : Int) := by rw [← HZZ.out, hby]; rfl
            have n3 : b1 ≠ b5 := loc_ne ⟨_, HS.out.x1⟩ ⟨_, HS.out.o.x5⟩ (by decide)
            have n5' : b ≠ b5 := by have := HS.out.o.n5; omega
            clear hdw hl1 hu hby hla hj hbl v4
            go_upto_region 13 with fail
            go_region_held (fun w' => w'.cell? ⟨b1, 0, none⟩ = some (.slice (some ⟨b, o, none⟩) tn tc) ∧ w'.cell? ⟨b, o + j * 3 + 1, none⟩ = some (.int .i64 u.l) ∧ w'.cell? ⟨b, o + j * 3 + 2, none⟩ = some (.int .i64 u.a)) (first | exact ⟨q5, v5, v6⟩ | exact ⟨cell_set_ne q5 n3, cell_set_ne v5 n5', cell_set_ne v6 n5'⟩ | exact ⟨cell_set_ne (cell_set_ne q5 n3) n3, cell_set_ne (cell_set_ne v5 n5') n5', cell_set_ne (cell_set_ne v6 n5') n5'⟩) (fail)
            all_goals
              go_wp2_with fail
              go_meet
              first | exact HFA | exact HFB
        case rest =>
          obtain ⟨w7, hw7⟩ : ∃ w7, w7 = wc := ⟨_, rfl⟩
          subst wc
          have HD : Hid (RD7 w w7 b4 b5 l (ruG G r).r (ruG G r).lv (ruG G r).a xa xc ∧ w.heap.size ≤ b4) := ⟨hcut.out, HB4S.out⟩
          clear hcut HS
          have y0 : w7.cell? ⟨b5, 0, none⟩ = some (.int .i64 l) := by rw [cell_block HD.out.1.x5]; rfl
          have y1 : w7.cell? ⟨b5, 1, none⟩ = some (.slice xa (ruG G r).r.length xc) := by rw [cell_block HD.out.1.x5]; rfl
          have y2 : w7.cell? ⟨b5, 2, none⟩ = some (.int .i64 (ruG G r).lv) := by rw [cell_block HD.out.1.x5]; rfl
          have y3 : w7.cell? ⟨b5, 3, none⟩ = some (.int .i64 (ruG G r).a) := by rw [cell_block HD.out.1.x5]; rfl
          obtain ⟨z0, z1, z2, z3, f0, f1, f2, f3⟩ := box_cells7 HD.out.1.x4
          have HF : Hid (∀ v0 v1 v2 v3, ((((w7.setCell ⟨b4, 0, none⟩ v0).setCell ⟨b4, 1, none⟩ v1).setCell ⟨b4, 2, none⟩ v2).setCell ⟨b4, 3, none⟩ v3).ownsRow w.heap.size 3 1 (.slice xa (ruG G r).r.length xc) (ruG G r).r.length (natC (ruG G r).r) ∧ Below w.heap.size w ((((w7.setCell ⟨b4, 0, none⟩ v0).setCell ⟨b4, 1, none⟩ v1).setCell ⟨b4, 2, none⟩ v2).setCell ⟨b4, 3, none⟩ v3)) := fun v0 v1 v2 v3 => by
            have hl : Loc w7 b4 62 := ⟨_, HD.out.1.x4⟩
            have l1 := hl.set b4 0 v0
            have l2 := l1.set b4 1 v1
            have l3 := l2.set b4 2 v2
            exact ⟨own_far62 (own_far62 (own_far62 (own_far62 HD.out.1.own hl (by decide)) l1 (by decide)) l2 (by decide)) l3 (by decide), (((HD.out.1.bel.setCell (p := ⟨b4, 0, none⟩) HD.out.2 _).setCell (p := ⟨b4, 1, none⟩) HD.out.2 _).setCell (p := ⟨b4, 2, none⟩) HD.out.2 _).setCell (p := ⟨b4, 3, none⟩) HD.out.2 _⟩
          obtain ⟨yn, HYN⟩ : ∃ yn, Hid ((ruG G r).r.length = yn) := ⟨_, rfl⟩
          obtain ⟨ylv, HYL⟩ : ∃ ylv, Hid ((ruG G r).lv = ylv) := ⟨_, rfl⟩
          obtain ⟨yaa, HYA⟩ : ∃ yaa, Hid ((ruG G r).a = yaa) := ⟨_, rfl⟩
          rw [HYN.out] at y1
          rw [HYL.out] at y2
          rw [HYA.out] at y3
          go_wp2_with fail
          refine bodyPost_ret (v := .agg #[.int .i64 l, .slice xa yn xc, .int .i64 ylv, .int .i64 yaa]) (by simp [results, Tryz.results33, go_sem, *]) rfl ?_
          exact ⟨xa, xc, by rw [← HLL.out, HYN.out, HYL.out, HYA.out], HF.out _ _ _ _⟩

end Go.Proofs.YtebehlmidoencaaGreatDoor

/-
  Of.
-/
namespace Go.Proofs.YtebehlmidoencaaGreatDoor
open Go.RowKit

set_option maxRecDepth 20000

set_option maxHeartbeats 4000000 in
theorem of_calls (G : Gm) (h : Hd) (w : World) (k : Int) (hG : IsG w h G) (hk : OfR G k) : Calls Tryz.prog 10 #[gv h G] w fun e w' => ((k ≠ 0 ∧ e = .returned (.tuple #[.agg zC, .int .i64 k])) ∨ (k = 0 ∧ ∃ h', e = .returned (.tuple #[sv h' (spG G), .int .i64 0]) ∧ IsSp w' h' (spG G))) ∧ Below w.heap.size w w' := by
  have hs1 : G.ts.length ≤ 100 := hG.small.nt
  have hs2 : G.rs.length ≤ 200 := hG.small.nr
  have HG : Hid (IsG w h G) := hG
  have HK : Hid (OfR G k) := hk
  clear hG hk
  obtain ⟨bm, hbm⟩ := bool_of (MayP G)
  have HBM : Hid (bm = true ↔ MayP G) := hbm
  have HMC : Hid (∀ V, Below w.heap.size w V → Calls Tryz.prog 20 #[gv h G] V fun e w' => e = .returned (.bool bm) ∧ Below V.heap.size V w') := fun V hV => may_calls G h V bm (HG.out.below hV) HBM.out
  have HSC : Hid (∀ V, Below w.heap.size w V → Calls Tryz.prog 21 #[gv h G] V fun e w' => ∃ h', e = .returned (.agg (sC h' (sy0 G))) ∧ OwnSp w' V.heap.size h' (sy0 G) [] ∧ Below V.heap.size V w') := fun V hV => symbolsOf_calls G h V (HG.out.below hV)
  obtain ⟨bl, hbl⟩ := bool_of (LongP G)
  have HBL : Hid (bl = true ↔ LongP G) := hbl
  have HLC : Hid (∀ V, Below w.heap.size w V → Calls Tryz.prog 22 #[gv h G, .int .i64 ((lfs G.rs).length : Int)] V fun e w' => e = .returned (.bool bl) ∧ Below V.heap.size V w') := fun V hV => tooLong_calls G h V (HG.out.below hV) bl HBL.out _ rfl
  clear hbm hbl
  obtain ⟨ta, tc, ra, rc⟩ := h
  unfold gv at HMC HSC HLC ⊢
  simp only at HMC HSC HLC ⊢
  have hB1 : Below w.heap.size w ((w.alloc (.cells #[.slice ta G.ts.length tc, .string G.s, .int .i64 G.e, .slice ra G.rs.length rc] 25)).alloc (.cells zC 32)) := below_step (below_alloc _ _) (below_alloc _ _)
  have hg1 : ((w.alloc (.cells #[.slice ta G.ts.length tc, .string G.s, .int .i64 G.e, .slice ra G.rs.length rc] 25)).alloc (.cells zC 32)).heap[w.heap.size]? = some (.cells #[.slice ta G.ts.length tc, .string G.s, .int .i64 G.e, .slice ra G.rs.length rc] 25 (0, 0)) := block_below (below_alloc _ _) (heap_alloc_new _ _)
  have hg2 : ((w.alloc (.cells #[.slice ta G.ts.length tc, .string G.s, .int .i64 G.e, .slice ra G.rs.length rc] 25)).alloc (.cells zC 32)).heap[w.heap.size + 1]? = some (.cells zC 32 (0, 0)) := by
    have := heap_alloc_new (w.alloc (.cells #[.slice ta G.ts.length tc, .string G.s, .int .i64 G.e, .slice ra G.rs.length rc] 25)) (.cells zC 32)
    rwa [size_alloc1] at this
  obtain ⟨tn, HTN⟩ : ∃ tn, Hid (G.ts.length = tn) := ⟨_, rfl⟩
  obtain ⟨rn, HRN⟩ : ∃ rn, Hid (G.rs.length = rn) := ⟨_, rfl⟩
  rw [HTN.out] at hs1 HMC HSC HLC hB1 hg1 hg2 ⊢
  rw [HRN.out] at hs2 HMC HSC HLC hB1 hg1 hg2 ⊢
  obtain ⟨m, HM⟩ : ∃ m, Hid ((lfs G.rs).length = m) := ⟨_, rfl⟩
  rw [HM.out] at HLC
  go_enter Tryz.func10, Tryz.ntmps10
  go_upto_region 1 with fail
  have ez : (w.alloc (.cells #[.slice ta tn tc, .string G.s, .int .i64 G.e, .slice ra rn rc] 25)).alloc (.cells #[.int .i64 0, .int .i64 0, .int .i64 0, .int .i64 0, .slice none 0 0, .slice none 0 0, .slice none 0 0, .slice none 0 0] 32) = (w.alloc (.cells #[.slice ta tn tc, .string G.s, .int .i64 G.e, .slice ra rn rc] 25)).alloc (.cells zC 32) := rfl
  rw [ez]
  generalize (w.alloc (.cells #[.slice ta tn tc, .string G.s, .int .i64 G.e, .slice ra rn rc] 25)).alloc (.cells zC 32) = W1 at hB1 hg1 hg2 ⊢
  obtain ⟨gb, HGB⟩ : ∃ gb, Hid (gb = w.heap.size) := ⟨_, rfl⟩
  rw [← HGB.out] at hg1 hg2 ⊢
  have HRB : Hid (w.heap.size ≤ gb + 1) := by rw [HGB.out]; exact Nat.le_succ _
  generalize gb + 1 = rb at hg2 HRB ⊢
  have H1 : Hid (W1.heap[gb]? = some (.cells #[.slice ta tn tc, .string G.s, .int .i64 G.e, .slice ra rn rc] 25 (0, 0)) ∧ W1.heap[rb]? = some (.cells zC 32 (0, 0)) ∧ Below w.heap.size w W1) := ⟨hg1, hg2, hB1⟩
  obtain ⟨p0, p1, p2, p3⟩ := box4 hg1
  clear ez hB1 hg1 hg2 HGB
  go_wp2_with fail
  refine (HMC.out _ H1.out.2.2).mono ?_
  rintro e W2 ⟨rfl, hB2⟩
  have H2 : Hid (W2.heap[gb]? = some (.cells #[.slice ta tn tc, .string G.s, .int .i64 G.e, .slice ra rn rc] 25 (0, 0)) ∧ W2.heap[rb]? = some (.cells zC 32 (0, 0)) ∧ Below w.heap.size w W2) := ⟨block_below hB2 H1.out.1, block_below hB2 H1.out.2.1, below_step H1.out.2.2 hB2⟩
  clear H1 hB2 p0 p1 p2 p3 HMC
  rcases bm with _ | _
  · have HKV : Hid (k = 1) := by
      have hn : ¬ MayP G := fun e => by have := HBM.out.2 e; cases this
      rcases HK.out with e | e | e | e | e
      · exact e.1
      · exact absurd e.2.1 hn
      · exact absurd e.2.1 hn
      · exact absurd e.2.1 hn
      · exact absurd e.2.1 hn
    obtain ⟨z0, z1, z2, z3, z4, z5, z6, z7⟩ := box8 H2.out.2.1
    obtain ⟨f0, f1, f2, f3, f4, f5, f6, f7⟩ := froz8 H2.out.2.1
    have HF : Hid (∀ v0 v1 v2 v3 v4 v5 v6 v7, Below w.heap.size w (set8 W2 rb v0 v1 v2 v3 v4 v5 v6 v7)) := fun v0 v1 v2 v3 v4 v5 v6 v7 => below_set8 H2.out.2.2 HRB.out
    go_wp2_with fail
    refine bodyPost_ret (v := .tuple #[.agg zC, .int .i64 1]) (by unfold zC sC; simp [results, Tryz.results10, go_sem, *]) rfl ?_
    exact ⟨.inl ⟨by rw [HKV.out]; decide, by rw [HKV.out]⟩, HF.out _ _ _ _ _ _ _ _⟩
  · have HMP : Hid (MayP G) := HBM.out.1 rfl
    clear HBM
    obtain ⟨p0, p1, p2, p3⟩ := box4 H2.out.1
    go_upto_region 3 with fail
    go_wp2_with fail
    refine (HSC.out _ H2.out.2.2).mono ?_
    rintro e W3 ⟨hh, rfl, ho3, hB3⟩
    obtain ⟨na, nc, la, lc, aa, ac, ra', rc'⟩ := hh
    have HSR : Hid (sC ⟨na, nc, la, lc, aa, ac, ra', rc'⟩ (sy0 G) = #[.int .i64 (tn : Int), .int .i64 (m : Int), .int .i64 0, .int .i64 G.e, .slice na (nmG G).length nc, .slice la (G.ts.map (·.l)).length lc, .slice aa (G.ts.map (·.a)).length ac, .slice ra' 0 rc']) := by
      rw [← HTN.out, ← HM.out]; rfl
    obtain ⟨nn, HNN⟩ : ∃ nn, Hid ((nmG G).length = nn) := ⟨_, rfl⟩
    obtain ⟨l1, HC5⟩ : ∃ l1, Hid ((G.ts.map (·.l)).length = l1) := ⟨_, rfl⟩
    obtain ⟨a1, HC6⟩ : ∃ a1, Hid ((G.ts.map (·.a)).length = a1) := ⟨_, rfl⟩
    rw [HNN.out, HC5.out, HC6.out] at HSR
    rw [HSR.out]
    have HX : Hid (OX w (W3.alloc (.cells #[.int .i64 (tn : Int), .int .i64 (m : Int), .int .i64 0, .int .i64 G.e, .slice na nn nc, .slice la l1 lc, .slice aa a1 ac, .slice ra' 0 rc'] 32)) gb rb W3.heap.size ⟨ta, tc, ra, rc⟩ G ⟨na, nc, la, lc, aa, ac, ra', rc'⟩ (sy0 G) []) := by
      refine OX.first ?_ (block_below hB3 H2.out.2.1) HSR.out (ho3.mono H2.out.2.2.size) (below_step H2.out.2.2 hB3)
      rw [HTN.out, HRN.out]
      exact block_below hB3 H2.out.1
    clear ho3 hB3 H2 HSC p0 p1 p2 p3
    go_upto_region 4 with fail
    generalize W3.alloc (.cells #[.int .i64 (tn : Int), .int .i64 (m : Int), .int .i64 0, .int .i64 G.e, .slice na nn nc, .slice la l1 lc, .slice aa a1 ac, .slice ra' 0 rc'] 32) = V at HX ⊢
    generalize W3.heap.size = sb at HX ⊢
    have HXG : Hid (∀ U : World, OX w U gb rb sb ⟨ta, tc, ra, rc⟩ G ⟨na, nc, la, lc, aa, ac, ra', rc'⟩ (sy0 G) [] → U.heap[gb]? = some (.cells #[.slice ta tn tc, .string G.s, .int .i64 G.e, .slice ra rn rc] 25 (0, 0)) ∧ U.heap[sb]? = some (.cells #[.int .i64 (tn : Int), .int .i64 (m : Int), .int .i64 0, .int .i64 G.e, .slice na nn nc, .slice la l1 lc, .slice aa a1 ac, .slice ra' 0 rc'] 32 (0, 0))) := fun U s => by
      have h1 := s.gx
      have h2 := s.sx
      rw [HTN.out, HRN.out] at h1
      rw [HSR.out] at h2
      exact ⟨h1, h2⟩
    obtain ⟨p0, p1, p2, p3⟩ := box4 (HXG.out V HX.out).1
    obtain ⟨q0, q1, q2, q3, q4, q5, q6, q7⟩ := box8 (HXG.out V HX.out).2
    go_wp2_with fail
    refine (HLC.out _ HX.out.bel).mono ?_
    rintro e V4 ⟨rfl, hB4⟩
    have HX4 : Hid (OX w V4 gb rb sb ⟨ta, tc, ra, rc⟩ G ⟨na, nc, la, lc, aa, ac, ra', rc'⟩ (sy0 G) []) := HX.out.step hB4
    clear HX hB4 HLC p0 p1 p2 p3 q0 q1 q2 q3 q4 q5 q6 q7
    cases bl
    case true =>
      have HKV : Hid (k = 6) := by
        have hn : LongP G := HBL.out.1 rfl
        have hm : MayP G := HMP.out
        rcases HK.out with e | e | e | e | e
        · exact absurd hm e.2
        · exact e.1
        · exact absurd hn e.2.2.1
        · exact absurd hn e.2.2.1
        · exact absurd hn e.2.2.1
      obtain ⟨z0, z1, z2, z3, z4, z5, z6, z7⟩ := box8 HX4.out.rx
      obtain ⟨f0, f1, f2, f3, f4, f5, f6, f7⟩ := froz8 HX4.out.rx
      have HF : Hid (∀ v0 v1 v2 v3 v4 v5 v6 v7, Below w.heap.size w (set8 V4 rb v0 v1 v2 v3 v4 v5 v6 v7)) := fun v0 v1 v2 v3 v4 v5 v6 v7 => below_set8 HX4.out.bel HRB.out
      go_wp2_with fail
      refine bodyPost_ret (v := .tuple #[.agg zC, .int .i64 6]) (by unfold zC sC; simp [results, Tryz.results10, go_sem, *]) rfl ?_
      exact ⟨.inl ⟨by rw [HKV.out]; decide, by rw [HKV.out]⟩, HF.out _ _ _ _ _ _ _ _⟩
    case false =>
      have HLN : Hid (¬ LongP G) := fun e => by have := HBL.out.2 e; cases this
      clear HBL
      obtain ⟨bn, hbn⟩ := bool_of (NmP G)
      have HBN : Hid (bn = true ↔ NmP G) := hbn
      clear hbn
      have HNC : Hid (∀ U : World, OX w U gb rb sb ⟨ta, tc, ra, rc⟩ G ⟨na, nc, la, lc, aa, ac, ra', rc'⟩ (sy0 G) [] → Calls Tryz.prog 23 #[.agg #[.slice ta tn tc, .string G.s, .int .i64 G.e, .slice ra rn rc], .agg #[.int .i64 (tn : Int), .int .i64 (m : Int), .int .i64 0, .int .i64 G.e, .slice na nn nc, .slice la l1 lc, .slice aa a1 ac, .slice ra' 0 rc']] U fun e w' => e = .returned (.bool bn) ∧ Below U.heap.size U w') := fun U s => by
        have := named_calls G ⟨ta, tc, ra, rc⟩ (sy0 G) _ U (HG.out.below s.bel) s.own.isSp ⟨rfl, rfl, rfl, rfl⟩ HMP.out bn HBN.out
        unfold gv at this
        rw [HSR.out] at this
        simp only at this
        rw [HTN.out, HRN.out] at this
        exact this
      obtain ⟨p0, p1, p2, p3⟩ := box4 (HXG.out V4 HX4.out).1
      obtain ⟨q0, q1, q2, q3, q4, q5, q6, q7⟩ := box8 (HXG.out V4 HX4.out).2
      go_wp2_with fail
      refine (HNC.out _ HX4.out).mono ?_
      rintro e V5 ⟨rfl, hB5⟩
      have HX5 : Hid (OX w V5 gb rb sb ⟨ta, tc, ra, rc⟩ G ⟨na, nc, la, lc, aa, ac, ra', rc'⟩ (sy0 G) []) := HX4.out.step hB5
      clear HX4 hB5 HNC p0 p1 p2 p3 q0 q1 q2 q3 q4 q5 q6 q7
      rcases bn with _ | _
      · have HKV : Hid (k = 7) := by
          have hl : ¬ LongP G := HLN.out
          have hn : ¬ NmP G := fun e => by have := HBN.out.2 e; cases this
          have hm : MayP G := HMP.out
          rcases HK.out with e | e | e | e | e
          · exact absurd hm e.2
          · exact absurd e.2.2 hl
          · exact e.1
          · exact absurd e.2.2.2.1 hn
          · exact absurd e.2.2.2.1 hn
        obtain ⟨z0, z1, z2, z3, z4, z5, z6, z7⟩ := box8 HX5.out.rx
        obtain ⟨f0, f1, f2, f3, f4, f5, f6, f7⟩ := froz8 HX5.out.rx
        have HF : Hid (∀ v0 v1 v2 v3 v4 v5 v6 v7, Below w.heap.size w (set8 V5 rb v0 v1 v2 v3 v4 v5 v6 v7)) := fun v0 v1 v2 v3 v4 v5 v6 v7 => below_set8 HX5.out.bel HRB.out
        go_wp2_with fail
        refine bodyPost_ret (v := .tuple #[.agg zC, .int .i64 7]) (by unfold zC sC; simp [results, Tryz.results10, go_sem, *]) rfl ?_
        exact ⟨.inl ⟨by rw [HKV.out]; decide, by rw [HKV.out]⟩, HF.out _ _ _ _ _ _ _ _⟩
      · have HNP : Hid (NmP G) := HBN.out.1 rfl
        clear HBN
        obtain ⟨st, HSTN⟩ : ∃ st, Hid (stG G = st) := ⟨_, rfl⟩
        have HST : Hid (∀ U : World, Below w.heap.size w U → Calls Tryz.prog 25 #[.agg #[.slice ta tn tc, .string G.s, .int .i64 G.e, .slice ra rn rc]] U fun e w' => e = .returned (.string (startB G)) ∧ Below U.heap.size U w') := fun U hU => by
          have := startOf_calls G ⟨ta, tc, ra, rc⟩ U (HG.out.below hU) HNP.out.ne
          unfold gv at this
          simp only at this
          rw [HTN.out, HRN.out] at this
          exact this
        have HIX : Hid (∀ U : World, Row U 1 na nn nc (strC (nmG G)) → Calls Tryz.prog 24 #[.slice na nn nc, .string (startB G)] U fun e w' => e = .returned (.int .i64 (st : Int)) ∧ w' = U) := fun U hU => by
          have := index_calls (nmG G) na nc (startB G) U (by rw [HNN.out]; exact hU) (by have h1 := lfs_le G.rs; have h2 := HTN.out; have h3 := HRN.out; unfold nmG tkG; simp; omega)
          rw [find_left HMP.out HNP.out HNP.out.st, HNN.out] at this
          rw [← HSTN.out]
          exact this
        have HRW : Hid (∀ U : World, OX w U gb rb sb ⟨ta, tc, ra, rc⟩ G ⟨na, nc, la, lc, aa, ac, ra', rc'⟩ (sy0 G) [] → Row U 1 na nn nc (strC (nmG G))) := fun U s => by
          have := s.own.isSp.nm
          simp only [sy0] at this
          rw [HNN.out] at this
          exact this
        have HR8 : Hid (sC ⟨na, nc, la, lc, aa, ac, ra', rc'⟩ ⟨G.ts.length, (lfs G.rs).length, st, G.e, nmG G, G.ts.map (·.l), G.ts.map (·.a), []⟩ = #[.int .i64 (tn : Int), .int .i64 (m : Int), .int .i64 (st : Int), .int .i64 G.e, .slice na nn nc, .slice la l1 lc, .slice aa a1 ac, .slice ra' 0 rc']) := by
          rw [← HTN.out, ← HM.out, ← HNN.out, ← HC5.out, ← HC6.out]; rfl
        have HXH : Hid (∀ U : World, OX w U gb rb sb ⟨ta, tc, ra, rc⟩ G ⟨na, nc, la, lc, aa, ac, ra', rc'⟩ ⟨G.ts.length, (lfs G.rs).length, st, G.e, nmG G, G.ts.map (·.l), G.ts.map (·.a), []⟩ [] → U.heap[gb]? = some (.cells #[.slice ta tn tc, .string G.s, .int .i64 G.e, .slice ra rn rc] 25 (0, 0)) ∧ U.heap[sb]? = some (.cells #[.int .i64 (tn : Int), .int .i64 (m : Int), .int .i64 (st : Int), .int .i64 G.e, .slice na nn nc, .slice la l1 lc, .slice aa a1 ac, .slice ra' 0 rc'] 32 (0, 0))) := fun U s => by
          have h1 := s.gx
          have h2 := s.sx
          rw [HTN.out, HRN.out] at h1
          rw [HR8.out] at h2
          exact ⟨h1, h2⟩
        have HRC : Hid (∀ U : World, OX w U gb rb sb ⟨ta, tc, ra, rc⟩ G ⟨na, nc, la, lc, aa, ac, ra', rc'⟩ ⟨G.ts.length, (lfs G.rs).length, st, G.e, nmG G, G.ts.map (·.l), G.ts.map (·.a), []⟩ [] → Calls Tryz.prog 26 #[.agg #[.slice ta tn tc, .string G.s, .int .i64 G.e, .slice ra rn rc], .agg #[.int .i64 (tn : Int), .int .i64 (m : Int), .int .i64 (st : Int), .int .i64 G.e, .slice na nn nc, .slice la l1 lc, .slice aa a1 ac, .slice ra' 0 rc']] U fun e w' => ∃ ao c, e = .returned (.slice ao (rn + 1) c) ∧ (∃ qs, OX w (w'.setCell ⟨sb, 7, none⟩ (.slice ao (rn + 1) c)) gb rb sb ⟨ta, tc, ra, rc⟩ G ⟨na, nc, la, lc, aa, ac, ao, c⟩ (spG G) qs) ∧ w'.cell? ⟨sb, 7, none⟩ = some (.slice ra' 0 rc') ∧ w'.frozen? ⟨sb, 7, none⟩ = false) := fun U s => by
          have := rulesOf_calls G ⟨ta, tc, ra, rc⟩ ⟨G.ts.length, (lfs G.rs).length, st, G.e, nmG G, G.ts.map (·.l), G.ts.map (·.a), []⟩ ⟨na, nc, la, lc, aa, ac, ra', rc'⟩ U (HG.out.below s.bel) s.own.isSp ⟨rfl, rfl, rfl, rfl⟩ HMP.out HNP.out
          unfold gv at this
          rw [HR8.out] at this
          simp only at this
          rw [HTN.out, HRN.out] at this
          refine this.mono ?_
          rintro e w' ⟨ao, c, qs, rfl, ⟨h1, h2, h3⟩, hB⟩
          have s' := s.step hB
          have e9 := s'.putRs (rs := qs) (n := rn + 1) ao c (by have := congrArg List.length h2; simp at this; rw [HRN.out] at this; exact this) (own_mono h1 s.bel.size) (fun q hq => own_mono (h3 q hq) s.bel.size)
          refine ⟨ao, c, rfl, ⟨qs, ?_⟩, (box8 (HXH.out _ s').2).2.2.2.2.2.2.2, frozen_block s'.sx 7⟩
          rw [h2, ← HSTN.out] at e9
          exact e9
        obtain ⟨bu, hbu⟩ := bool_of (UselP (spG G))
        have HBU : Hid (bu = true ↔ UselP (spG G)) := hbu
        clear hbu
        have HR9 : Hid (∀ ao c, sC ⟨na, nc, la, lc, aa, ac, ao, c⟩ (spG G) = #[.int .i64 (tn : Int), .int .i64 (m : Int), .int .i64 (st : Int), .int .i64 G.e, .slice na nn nc, .slice la l1 lc, .slice aa a1 ac, .slice ao (rn + 1) c]) := fun ao c => by
          rw [← HTN.out, ← HM.out, ← HNN.out, ← HC5.out, ← HC6.out, ← HSTN.out, ← HRN.out]
          unfold sC spG
          simp
        have HUC : Hid (∀ (U : World) ao c, IsSp U ⟨na, nc, la, lc, aa, ac, ao, c⟩ (spG G) → Calls Tryz.prog 27 #[.agg #[.int .i64 (tn : Int), .int .i64 (m : Int), .int .i64 (st : Int), .int .i64 G.e, .slice na nn nc, .slice la l1 lc, .slice aa a1 ac, .slice ao (rn + 1) c]] U fun e w' => e = .returned (.bool bu) ∧ Below U.heap.size U w') := fun U ao c s => by
          have := useless_calls U _ (spG G) (spG_wf HMP.out HLN.out HNP.out) s bu HBU.out
          unfold sv at this
          rw [HR9.out] at this
          exact this
        obtain ⟨p0, p1, p2, p3⟩ := box4 (HXG.out V5 HX5.out).1
        obtain ⟨q0, q1, q2, q3, q4, q5, q6, q7⟩ := box8 (HXG.out V5 HX5.out).2
        go_upto_region 8 with fail
        go_region_with (first
          | (go_at_call 25; refine (HST.out _ (below_step HX5.out.bel (below_drew' _))).mono ?_; rintro e V6 ⟨rfl, hB6⟩; have HX6 : Hid (OX w V6 gb rb sb ⟨ta, tc, ra, rc⟩ G ⟨na, nc, la, lc, aa, ac, ra', rc'⟩ (sy0 G) []) := (HX5.out.step (below_drew' _)).step hB6; obtain ⟨y0, y1, y2, y3, y4, y5, y6, y7⟩ := box8 (HXG.out V6 HX6.out).2; obtain ⟨g0, g1, g2, g3, g4, g5, g6, g7⟩ := froz8 HX6.out.sx)
          | (go_at_call 24; refine (HIX.out _ (HRW.out _ HX6.out)).mono ?_; rintro e V7 ⟨rfl, rfl⟩))
        all_goals
          have HX8 : Hid (OX w (V7.setCell ⟨sb, 2, none⟩ (.int .i64 (st : Int))) gb rb sb ⟨ta, tc, ra, rc⟩ G ⟨na, nc, la, lc, aa, ac, ra', rc'⟩ ⟨G.ts.length, (lfs G.rs).length, st, G.e, nmG G, G.ts.map (·.l), G.ts.map (·.a), []⟩ []) := HX6.out.putSt st
          generalize V7.setCell ⟨sb, 2, none⟩ (.int .i64 (st : Int)) = V8 at HX8 ⊢
          clear HX6 hB6 HX5 y0 y1 y2 y3 y4 y5 y6 y7 g0 g1 g2 g3 g4 g5 g6 g7 p0 p1 p2 p3 q0 q1 q2 q3 q4 q5 q6 q7 HST HIX HRW HXG
          obtain ⟨p0, p1, p2, p3⟩ := box4 (HXH.out V8 HX8.out).1
          obtain ⟨q0, q1, q2, q3, q4, q5, q6, q7⟩ := box8 (HXH.out V8 HX8.out).2
          go_wp2_with fail
          refine (HRC.out _ HX8.out).mono ?_
          rintro e V9 ⟨ao, c, rfl, hq, y7, g7⟩
          have HQ : Hid (∃ qs, OX w (V9.setCell ⟨sb, 7, none⟩ (.slice ao (rn + 1) c)) gb rb sb ⟨ta, tc, ra, rc⟩ G ⟨na, nc, la, lc, aa, ac, ao, c⟩ (spG G) qs) := hq
          clear hq HX8 HRC p0 p1 p2 p3 q0 q1 q2 q3 q4 q5 q6 q7
          go_upto_region 10 with fail
          generalize V9.setCell ⟨sb, 7, none⟩ (.slice ao (rn + 1) c) = VA at HQ ⊢
          clear y7 g7
          obtain ⟨qs, hq⟩ := HQ.out
          have HA : Hid (OX w VA gb rb sb ⟨ta, tc, ra, rc⟩ G ⟨na, nc, la, lc, aa, ac, ao, c⟩ (spG G) qs) := hq
          have hsx := hq.sx
          rw [HR9.out] at hsx
          obtain ⟨q0, q1, q2, q3, q4, q5, q6, q7⟩ := box8 hsx
          clear hq HQ hsx
          go_wp2_with fail
          refine (HUC.out _ _ _ HA.out.own.isSp).mono ?_
          rintro e VB ⟨rfl, hBB⟩
          have HB : Hid (OX w VB gb rb sb ⟨ta, tc, ra, rc⟩ G ⟨na, nc, la, lc, aa, ac, ao, c⟩ (spG G) qs) := HA.out.step hBB
          clear HA hBB HUC q0 q1 q2 q3 q4 q5 q6 q7
          obtain ⟨z0, z1, z2, z3, z4, z5, z6, z7⟩ := box8 HB.out.rx
          obtain ⟨f0, f1, f2, f3, f4, f5, f6, f7⟩ := froz8 HB.out.rx
          have HF : Hid (∀ v0 v1 v2 v3 v4 v5 v6 v7, IsSp (set8 VB rb v0 v1 v2 v3 v4 v5 v6 v7) ⟨na, nc, la, lc, aa, ac, ao, c⟩ (spG G) ∧ Below w.heap.size w (set8 VB rb v0 v1 v2 v3 v4 v5 v6 v7)) := fun v0 v1 v2 v3 v4 v5 v6 v7 => ⟨(HB.out.own.set8 ⟨_, HB.out.rx⟩).isSp, below_set8 HB.out.bel HRB.out⟩
          have hsx := HB.out.sx
          rw [HR9.out] at hsx
          obtain ⟨q0, q1, q2, q3, q4, q5, q6, q7⟩ := box8 hsx
          clear hsx
          cases bu
          case true =>
            have HKV : Hid (k = 8) := by
              have hu : UselP (spG G) := HBU.out.1 rfl
              rcases HK.out with e | e | e | e | e
              · exact absurd HMP.out e.2
              · exact absurd e.2.2 HLN.out
              · exact absurd HNP.out e.2.2.2
              · exact e.1
              · exact absurd hu e.2.2.2.2
            go_wp2_with fail
            refine bodyPost_ret (v := .tuple #[.agg zC, .int .i64 8]) (by unfold zC sC; simp [results, Tryz.results10, go_sem, *]) rfl ?_
            exact ⟨.inl ⟨by rw [HKV.out]; decide, by rw [HKV.out]⟩, (HF.out _ _ _ _ _ _ _ _).2⟩
          case false =>
            have HKV : Hid (k = 0) := by
              have hu : ¬ UselP (spG G) := fun e => by have := HBU.out.2 e; cases this
              rcases HK.out with e | e | e | e | e
              · exact absurd HMP.out e.2
              · exact absurd e.2.2 HLN.out
              · exact absurd HNP.out e.2.2.2
              · exact absurd e.2.2.2.2 hu
              · exact e.1
            go_wp2_with fail
            refine bodyPost_ret (v := .tuple #[.agg #[.int .i64 (tn : Int), .int .i64 (m : Int), .int .i64 (st : Int), .int .i64 G.e, .slice na nn nc, .slice la l1 lc, .slice aa a1 ac, .slice ao (rn + 1) c], .int .i64 0]) (by simp [results, Tryz.results10, go_sem, *]) rfl ?_
            exact ⟨.inr ⟨HKV.out, ⟨na, nc, la, lc, aa, ac, ao, c⟩, by unfold sv; rw [HR9.out], (HF.out _ _ _ _ _ _ _ _).1⟩, (HF.out _ _ _ _ _ _ _ _).2⟩

end Go.Proofs.YtebehlmidoencaaGreatDoor

/-
  What the reference's Yields and Reached keep: flags, and how many are not set.
-/
namespace Go.Proofs.YtebehlmidoencaaGreatDoor
open Go.RowKit

set_option maxRecDepth 20000

structure RY (w W : World) (h : SHd) (S : Sp) (b1 yb n : Nat) (fd : List Bool) : Prop where
  bel : Below w.heap.size w W
  bs : W.heap[b1]? = some (.cells (sC h S) 32 (0, 0))
  own : W.ownsRow w.heap.size 4 1 (.slice (some ⟨yb, 0, none⟩) n n) n (booC fd)
  len : fd.length = n

theorem RY.cell {w W : World} {h : SHd} {S : Sp} {b1 yb n : Nat} {fd : List Bool} (y : RY w W h S b1 yb n fd) {x : Nat} (hx : x < n) : W.cell? ⟨yb, x, none⟩ = some (.bool (isF fd x)) ∧ W.frozen? ⟨yb, x, none⟩ = false := by
  refine ⟨?_, y.own.frozenAt x⟩
  rw [y.own.cellAt x (by omega)]
  unfold booC
  rw [List.getElem?_map, isF_at (by rw [y.len]; exact hx)]
  rfl

theorem RY.set {w W : World} {h : SHd} {S : Sp} {b1 yb n : Nat} {fd : List Bool} (y : RY w W h S b1 yb n fd) (x : Nat) : RY w (W.setCell ⟨yb, x, none⟩ (.bool true)) h S b1 yb n (fd.set x true) := by
  have hl := own_blt y.own (b := yb) rfl
  refine ⟨y.bel.setCell (p := ⟨yb, x, none⟩) hl.1 _, ?_, ?_, by rw [List.length_set]; exact y.len⟩
  · exact (Below.heap_setCell _ _ _ _ (show b1 ≠ yb from loc_ne ⟨_, y.bs⟩ hl.2.2 (by decide))).trans y.bs
  · rw [booC_set]
    exact (y.own.stored x (.bool true)).1

/-- So many are not set. -/
def nF (fd : List Bool) : Nat := fd.countP (fun b => !b)

theorem nF_set : ∀ {fd : List Bool} {x : Nat}, x < fd.length → isF fd x = false → nF (fd.set x true) + 1 = nF fd
  | [], _, h, _ => absurd h (Nat.not_lt_zero _)
  | b :: r, 0, _, hf => by
    have hb : b = false := hf
    subst hb
    simp [nF]
  | b :: r, x + 1, h, hf => by
    have ih := nF_set (fd := r) (x := x) (by simpa using h) hf
    unfold nF at ih ⊢
    rw [List.set_cons_succ, List.countP_cons, List.countP_cons]
    omega

theorem nF_le (fd : List Bool) : nF fd ≤ fd.length := List.countP_le_length

/-- The rules ahead of i are kept. -/
def CloY (S : Sp) (i : Nat) (fd : List Bool) : Prop := ∀ (j : Nat) (r : SR) (x : Nat), 0 < j → j < i → S.rs[j]? = some r → r.l = (x : Int) → (∀ y ∈ r.r, isF fd y = true) → isF fd x = true
def CloR (S : Sp) (i : Nat) (fd : List Bool) : Prop := ∀ (j : Nat) (r : SR) (x y : Nat), 0 < j → j < i → S.rs[j]? = some r → r.l = (x : Int) → isF fd x = true → y ∈ r.r → isF fd y = true

theorem cloY_next {S : Sp} {i : Nat} {fd : List Bool} {r : SR} {x : Nat} (h : CloY S i fd) (hr : S.rs[i]? = some r) (hl : r.l = (x : Int)) (hx : (∀ y ∈ r.r, isF fd y = true) → isF fd x = true) : CloY S (i + 1) fd := by
  intro j q z h0 h1 hq hz ha
  rcases Nat.lt_or_ge j i with h2 | h2
  · exact h j q z h0 h2 hq hz ha
  · have : j = i := by omega
    subst this
    rw [hr] at hq
    cases hq
    rw [hl] at hz
    have : x = z := by omega
    subst this
    exact hx ha

theorem cloR_next {S : Sp} {i : Nat} {fd : List Bool} {r : SR} {x : Nat} (h : CloR S i fd) (hr : S.rs[i]? = some r) (hl : r.l = (x : Int)) (hx : isF fd x = true → ∀ y ∈ r.r, isF fd y = true) : CloR S (i + 1) fd := by
  intro j q z y h0 h1 hq hz hf hy
  rcases Nat.lt_or_ge j i with h2 | h2
  · exact h j q z y h0 h2 hq hz hf hy
  · have : j = i := by omega
    subst this
    rw [hr] at hq
    cases hq
    rw [hl] at hz
    have : x = z := by omega
    subst this
    exact hx hf y hy

/-- The symbols ahead of k are set. -/
def Upto (l : List Nat) (fd : List Bool) (k : Nat) : Prop := ∀ (j y : Nat), j < k → l[j]? = some y → isF fd y = true

theorem upto_all {l : List Nat} {fd : List Bool} : Upto l fd l.length ↔ ∀ y ∈ l, isF fd y = true := by
  constructor
  · intro h y hy
    obtain ⟨j, hj⟩ := List.getElem?_of_mem hy
    exact h j y (List.getElem?_eq_some_iff.1 hj).1 hj
  · intro h j y _ hy
    exact h y (List.mem_of_getElem? hy)

theorem upto_next {l : List Nat} {fd : List Bool} {k z : Nat} (hz : l[k]? = some z) : Upto l fd (k + 1) ↔ (Upto l fd k ∧ isF fd z = true) := by
  constructor
  · intro h
    exact ⟨fun j y hj hy => h j y (by omega) hy, h k z (by omega) hz⟩
  · rintro ⟨h1, h2⟩ j y hj hy
    rcases Nat.lt_or_ge j k with h | h
    · exact h1 j y h hy
    · have : j = k := by omega
      subst this
      rw [hz] at hy
      cases hy
      exact h2

theorem upto_zero (l : List Nat) (fd : List Bool) : Upto l fd 0 := fun _ _ h => absurd h (Nat.not_lt_zero _)

theorem not_new (n x : Nat) : isF (List.replicate n false) x = false := by
  unfold isF
  cases hq : (List.replicate n false)[x]? with
  | none => rfl
  | some b =>
    have := List.mem_of_getElem? hq
    rw [List.mem_replicate] at this
    rw [this.2]
    rfl

theorem make_bools (V : World) (base n : Nat) (hn : n ≤ 1000) (hb : base ≤ V.heap.size) : ∃ V', (Instr.makeSlice 51 (.int .i64 (n : Int)) (.int .i64 (n : Int))).run Tryz.prog V = .ok (.slice (some ⟨V.heap.size, 0, none⟩) n n) V' ∧ V'.ownsRow base 4 1 (.slice (some ⟨V.heap.size, 0, none⟩) n n) n (booC (List.replicate n false)) ∧ Below V.heap.size V V' := by
  obtain ⟨i0, hi, hz0, hz1, hz2⟩ := info_parts i4
  obtain ⟨w1, hr, ho, hg⟩ := run_make_full (P := Tryz.prog) V base 51 4 i0 _ 1 u51 hi hz0 hz1 .i64 .i64 n (by rw [hz2]; omega) (by unfold maxLen; omega) hb
  rw [booC_new] at ho
  exact ⟨w1, hr, ho, (Below.refl V.heap.size V).grown hg (Nat.le_refl _) (fun k hk => by cases hk)⟩

end Go.Proofs.YtebehlmidoencaaGreatDoor
