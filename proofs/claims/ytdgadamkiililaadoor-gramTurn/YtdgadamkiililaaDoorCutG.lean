/-
  The walk of Cut: out of any grammar one that is not too great, in memory of its own.
-/
import Derived.Test.YtdgadamkiililaaDoorRaw
import Derived.Deep.RegionHeld
import Derived.Deep.RegionLaw
namespace Go.Proofs.YtdgadamkiililaaDoor
open Go.RowKit

def cutT (t : Tk) : Tk := ⟨cutS t.n 15, t.l, t.a⟩
def cutR (r : Ru) : Ru := ⟨cutS r.l 15, (r.r.take 22).map (fun x => cutS x 15), cutS r.p 15⟩
def cutG (G : Gm) : Gm := ⟨(G.ts.take 42).map cutT, cutS G.s 15, G.e, (G.rs.take 105).map cutR⟩

theorem cut_small (G : Gm) : Small (cutG G) := by
  have h := fun s : ByteArray => cutS_size s 15
  refine ⟨?_, ?_, by have := h G.s; simp only [cutG]; omega, ?_, ?_⟩
  · simp only [cutG, List.length_map, List.length_take]; omega
  · simp only [cutG, List.length_map, List.length_take]; omega
  · intro t ht
    simp only [cutG] at ht
    obtain ⟨u, -, rfl⟩ := List.mem_map.1 ht
    have := h u.n
    simp only [cutT]; omega
  · intro r hr
    simp only [cutG] at hr
    obtain ⟨u, -, rfl⟩ := List.mem_map.1 hr
    refine ⟨by have := h u.l; simp only [cutR]; omega, by have := h u.p; simp only [cutR]; omega, by simp only [cutR, List.length_map, List.length_take]; omega, ?_⟩
    intro x hx
    simp only [cutR] at hx
    obtain ⟨y, -, rfl⟩ := List.mem_map.1 hx
    have := h y
    omega

/-- The inner loop's memory: the rule's box, its symbols. -/
structure RC (w wr : World) (L P : ByteArray) (l : List ByteArray) (xa : Option Addr) (m xc : Nat) : Prop where
  box : wr.heap[w.heap.size]? = some (.cells #[.string L, .slice xa m xc, .string P] 39 (0, 0))
  own : OwnS wr (w.heap.size + 1) (.slice xa m xc) l
  len : m = l.length
  bel : Below w.heap.size w wr

theorem RC.new (w : World) (L P : ByteArray) : RC w (w.alloc (.cells #[.string L, .slice none 0 0, .string P] 39)) L P [] none 0 0 :=
  ⟨heap_alloc_new _ _, World.ownsRow_nil _ _ _ _, rfl, below_alloc _ _⟩

theorem RC.step {w wr wr' : World} {L P : ByteArray} {l : List ByteArray} {xa : Option Addr} {m xc : Nat} (h : RC w wr L P l xa m xc) (hb : Below wr.heap.size wr wr') : RC w wr' L P l xa m xc :=
  ⟨block_below hb h.box, h.own.below hb, h.len, below_step h.bel hb⟩

theorem RC.add {w wr : World} {L P : ByteArray} {l : List ByteArray} {xa : Option Addr} {m xc : Nat} (h : RC w wr L P l xa m xc) (hl : l.length ≤ 1000) (s : ByteArray) :
    ∃ ao n c w', (Builtin.append_ #[37, 37] 37 #[.slice xa m xc, .slice (some ⟨wr.heap.size, 0, none⟩) 1 1]).run Tryd.prog (wr.alloc (.cells #[.string s] 9)) = .ok (.slice ao n c) w' ∧ w'.heap[w.heap.size]? = some (.cells #[.string L, .slice xa m xc, .string P] 39 (0, 0)) ∧ RC w (w'.setCell ⟨w.heap.size, 1, none⟩ (.slice ao n c)) L P (l ++ [s]) ao n c := by
  have hlt : w.heap.size < wr.heap.size := (Array.getElem?_eq_some_iff.1 h.box).1
  obtain ⟨ao, n, c, w', hr, hn, ho, hb⟩ := (h.own.below (below_alloc wr (.cells #[.string s] 9))).addRow (new_row wr [s] (by simp)) (by simp; omega) (by simp; omega) rfl
  have hbox : w'.heap[w.heap.size]? = some (.cells #[.string L, .slice xa m xc, .string P] 39 (0, 0)) := by
    rw [hb.block _ (by omega), Below.heap_alloc _ _ _ hlt]
    exact h.box
  refine ⟨ao, n, c, w', hr, hbox, ?_, ?_, hn, ?_⟩
  · rw [setCell_eq_setRow w' w.heap.size 1 _ 39 (0, 0) _ hbox]
    exact setRow_heap _ _ _ _ 39 _ hbox
  · refine ownsRow_of_block ho (fun i hi => Below.heap_setCell _ _ _ _ (fun e => ?_))
    simp only at e
    have := (World.ownsRow.lt ho i hi).1
    omega
  · have h1 : Below w.heap.size w w' := (below_step h.bel (below_alloc wr _)).trans (hb.mono (by omega))
    exact h1.setCell (p := ⟨w.heap.size, 1, none⟩) (Nat.le_refl _) _

/-- append as one step of a region that draws, its run told. -/
theorem step_append_told {ops : Array Oper} {o : Oper} {a : Act} {w w' : World} {K : Act → World → Prop} {Q : Exit → Act → World → Prop} {E : Prop} {u v r : Value} {t : TypeId}
    (hg : o.guard = none) (s x : Operand) (hop : o.op = Op.call { callee := Callee.builtin Builtin.append, args := #[s, x], argTypes := #[t, t] }) (ht : o.type = t)
    (hs : a.eval s = u) (hx : a.eval x = v) (hrun : (Builtin.append_ #[t, t] t #[u, v]).run Tryd.prog w = .ok r w')
    (hK : K (a.put o.dst r) w') :
    if Region.wanted o (yielded ops a.tmps) = true then Oper.wp Tryd.prog o a w K Q else E := by
  have hw : Region.wanted o (yielded ops a.tmps) = true := by simp [Region.wanted, hg]
  rw [if_pos hw]
  unfold Oper.wp
  simp [execOp, hop, resolve, invoke, builtin, hs, hx, ht, hrun, Result.andThen]
  exact hK

/-- A call as one step of a region that draws, its answer told. -/
theorem step_call_told {ops : Array Oper} {o : Oper} {a : Act} {w : World} {K : Act → World → Prop} {Q : Exit → Act → World → Prop} {E : Prop} (hg : o.guard = none)
    (f : FuncId) (args : Array Value) (v : Value) (hrun : (execOp a.eval o).run Tryd.prog w = .ok (.enter f args) w)
    (hc : Calls Tryd.prog f args w fun e w' => e = .returned v ∧ w' = w) (hK : K (a.put o.dst v) w) :
    if Region.wanted o (yielded ops a.tmps) = true then Oper.wp Tryd.prog o a w K Q else E := by
  have hw : Region.wanted o (yielded ops a.tmps) = true := by simp [Region.wanted, hg]
  rw [if_pos hw]
  unfold Oper.wp
  rw [hrun, Oper.upon_enter]
  refine hc.mono fun e w'' hh => ?_
  obtain ⟨rfl, rfl⟩ := hh
  exact hK

theorem below_drew' (w : World) : Below w.heap.size w w.drew := ⟨rfl, rfl, rfl, Nat.le_refl _, fun _ _ => rfl⟩

set_option maxHeartbeats 8000000 in
set_option maxRecDepth 20000 in
theorem cutG_calls (G : Gm) (h : Hd) (w : World) (hG : RawG w h G) : Calls Tryd.prog 9 #[gv h G] w fun e w' => ∃ h' qs, e = .returned (gv h' (cutG G)) ∧ OwnG w' w.heap.size h' (cutG G) qs ∧ Below w.heap.size w w' := by
  obtain ⟨ts, st, ex, rs⟩ := G
  obtain ⟨ta, tc, ra, rc⟩ := h
  unfold gv
  simp only
  have HG : Hid (RawG w ⟨ta, tc, ra, rc⟩ ⟨ts, st, ex, rs⟩) := hG
  clear hG
  have HR : Hid (RawG ((w.alloc (.cells #[.slice ta ts.length tc, .string st, .int .i64 ex, .slice ra rs.length rc] 25)).alloc (.cells #[.slice none 0 0, .string ⟨#[]⟩, .int .i64 0, .slice none 0 0] 25)) ⟨ta, tc, ra, rc⟩ ⟨ts, st, ex, rs⟩) := HG.out.below (below_step (below_alloc _ _) (below_alloc _ _))
  have HB : Hid (Below w.heap.size w ((w.alloc (.cells #[.slice ta ts.length tc, .string st, .int .i64 ex, .slice ra rs.length rc] 25)).alloc (.cells #[.slice none 0 0, .string ⟨#[]⟩, .int .i64 0, .slice none 0 0] 25))) := below_step (below_alloc _ _) (below_alloc _ _)
  have hb0 : ((w.alloc (.cells #[.slice ta ts.length tc, .string st, .int .i64 ex, .slice ra rs.length rc] 25)).alloc (.cells #[.slice none 0 0, .string ⟨#[]⟩, .int .i64 0, .slice none 0 0] 25)).heap[w.heap.size]? = some (.cells #[.slice ta ts.length tc, .string st, .int .i64 ex, .slice ra rs.length rc] 25 (0, 0)) := block_below (below_alloc _ _) (heap_alloc_new _ _)
  have hb1 : ((w.alloc (.cells #[.slice ta ts.length tc, .string st, .int .i64 ex, .slice ra rs.length rc] 25)).alloc (.cells #[.slice none 0 0, .string ⟨#[]⟩, .int .i64 0, .slice none 0 0] 25)).heap[w.heap.size + 1]? = some (.cells #[.slice none 0 0, .string ⟨#[]⟩, .int .i64 0, .slice none 0 0] 25 (0, 0)) := by
    have := heap_alloc_new (w.alloc (.cells #[.slice ta ts.length tc, .string st, .int .i64 ex, .slice ra rs.length rc] 25)) (.cells #[.slice none 0 0, .string ⟨#[]⟩, .int .i64 0, .slice none 0 0] 25)
    rwa [size_alloc1] at this
  have hs2 : ((w.alloc (.cells #[.slice ta ts.length tc, .string st, .int .i64 ex, .slice ra rs.length rc] 25)).alloc (.cells #[.slice none 0 0, .string ⟨#[]⟩, .int .i64 0, .slice none 0 0] 25)).heap.size = w.heap.size + 1 + 1 := by rw [size_alloc1, size_alloc1]
  have HL : Hid (ts.length ≤ tc ∧ tc ≤ 9223372036854775807 ∧ rs.length ≤ rc ∧ rc ≤ 9223372036854775807) := ⟨HG.out.tl.1, HG.out.tl.2, HG.out.rl.1, HG.out.rl.2⟩
  clear HG
  generalize etn : ts.length = tn at *
  generalize ern : rs.length = rn at *
  have HT : Hid (ts.length = tn ∧ rs.length = rn) := ⟨etn, ern⟩
  clear etn ern
  go_enter Tryd.func9, Tryd.ntmps9
  go_upto_region 1 with fail
  generalize (w.alloc (.cells #[.slice ta tn tc, .string st, .int .i64 ex, .slice ra rn rc] 25)).alloc (.cells #[.slice none 0 0, .string ⟨#[]⟩, .int .i64 0, .slice none 0 0] 25) = W at HR HB hb0 hb1 hs2 ⊢
  obtain ⟨nb, hnb⟩ : ∃ nb, nb = w.heap.size := ⟨_, rfl⟩
  have HN : Hid (nb = w.heap.size ∧ W.heap.size = nb + 1 + 1) := ⟨hnb, by rw [hnb]; exact hs2⟩
  rw [← hnb] at hb0 hb1 ⊢
  clear hs2
  have HX : Hid (W.heap[nb]? = some (.cells #[.slice ta tn tc, .string st, .int .i64 ex, .slice ra rn rc] 25 (0, 0)) ∧ W.heap[nb + 1]? = some (.cells #[.slice none 0 0, .string ⟨#[]⟩, .int .i64 0, .slice none 0 0] 25 (0, 0))) := ⟨hb0, hb1⟩
  have x1 : W.cell? ⟨nb, 1, none⟩ = some (.string st) := by rw [cell_block hb0]; rfl
  have x2 : W.cell? ⟨nb, 2, none⟩ = some (.int .i64 ex) := by rw [cell_block hb0]; rfl
  clear hb0 hb1 hnb
  obtain ⟨gb, hgb⟩ : ∃ gb, gb = W.heap.size := ⟨_, rfl⟩
  have HGB : Hid (gb = W.heap.size) := hgb
  go_cut [3] (fun s wd => s = .pointer (some ⟨gb, 0, none⟩) ∧ Hid (GB W wd gb ⟨none, 0, none, 0⟩ ⟨[], cutS st 15, ex, []⟩ []))
  case first =>
    go_region_held (fun w' => w'.cell? ⟨nb, 1, none⟩ = some (.string st) ∧ w'.cell? ⟨nb, 2, none⟩ = some (.int .i64 ex)) (go_keep) (first | (go_at_call 19; refine (cut_calls st 15 _).mono ?_; rintro e w' ⟨rfl, rfl⟩))
    all_goals
      go_wp2_with fail
      go_meet
      refine ⟨by rw [hgb], ?_⟩
      rw [hgb]
      exact (gb_new W W (cutS st 15) ex (Below.refl _ _)).step (below_drew' _)
  case rest =>
    obtain ⟨rfl, J0⟩ := hcut
    obtain ⟨w3, hw3⟩ : ∃ w3, w3 = wc := ⟨_, rfl⟩
    subst wc
    clear hgb x1 x2
    have hl1 := HL.out.1
    have hl2 := HL.out.2.1
    have hl3 := HL.out.2.2.1
    have hl4 := HL.out.2.2.2
    go_upto_block 0 with fail
    go_cut [4] (fun s4 wd => Hid (∃ h, GB W wd gb h ⟨(ts.take 42).map cutT, cutS st 15, ex, []⟩ []))
    case first =>
      go_wp2_with fail
      go_loopg [4] tn (fun kx s4 wr => ∃ i : Nat, s4 = .int .i64 i ∧ i ≤ tn ∧ i ≤ 42 ∧ tn - i ≤ kx ∧ Hid (∃ h, GB W wr gb h ⟨(ts.take i).map cutT, cutS st 15, ex, []⟩ []))
      case atStart => exact ⟨0, rfl, Nat.zero_le _, Nat.zero_le _, by omega, (⟨_, J0.out⟩ : ∃ h, GB W w3 gb h ⟨(ts.take 0).map cutT, cutS st 15, ex, []⟩ [])⟩
      case round =>
        obtain ⟨i, rfl, hi, hi42, hg, J⟩ := hrel
        clear J0
        obtain ⟨⟨a1, k1, a2, k2⟩, hG⟩ := J.out
        have x0 : wr.cell? ⟨nb, 0, none⟩ = some (.slice ta tn tc) := cell_below hG.bel (by rw [cell_block HX.out.1]; rfl)
        have eli : ((ts.take i).map cutT).length = i := by rw [List.length_map, List.length_take, HT.out.1]; omega
        by_cases hlt : i < tn
        · by_cases h42 : i < 42
          · have hlt' : (i : Int) < (tn : Int) := by omega
            have h42' : (i : Int) < 42 := by omega
            obtain ⟨t, ht⟩ : ∃ t, ts[i]? = some t := ⟨ts[i]'(by rw [HT.out.1]; exact hlt), List.getElem?_eq_getElem _⟩
            obtain ⟨b, o, hta, c0, c1, c2⟩ := (HR.out.below hG.bel).tok i t ht
            simp only at hta
            subst hta
            obtain ⟨tn', tl, tA⟩ := t
            simp only at c0 c1 c2
            have hG1 := hG.step (below_alloc wr (.cells #[.string (cutS tn' 15), .int .i64 tl, .int .i64 tA] 35))
            obtain ⟨e0, -, -, -, -⟩ := hG.cells
            simp only [eli] at e0
            have e0' := cell_alloc e0 (.cells #[.string (cutS tn' 15), .int .i64 tl, .int .i64 tA] 35)
            obtain ⟨ao, n, c, w5, hrun, hn, hbox, hG2⟩ := hG1.addTok (by simp only; rw [eli]; omega) ⟨cutS tn' 15, tl, tA⟩
            simp only [eli, size_alloc1] at hrun
            have d0 : w5.cell? ⟨gb, 0, none⟩ = some (.slice a1 i k1) := by rw [cell_block hbox]; show some (Value.slice a1 ((ts.take i).map cutT).length k1) = _; rw [eli]
            have f0 : w5.frozen? ⟨gb, 0, none⟩ = false := frozen_block hbox 0
            have HF : Hid (∃ h, GB W (w5.setCell ⟨gb, 0, none⟩ (.slice ao n c)) gb h ⟨(ts.take (i + 1)).map cutT, cutS st 15, ex, []⟩ []) := by
              have e : (ts.take (i + 1)).map cutT = (ts.take i).map cutT ++ [cutT ⟨tn', tl, tA⟩] := by rw [take_succ ht, List.map_append]; rfl
              rw [e]
              exact ⟨_, hG2⟩
            clear hG hG1 hG2 hbox J hn eli ht
            go_wp2_with fail
            refine (cut_calls tn' 15 _).mono ?_
            rintro e w' ⟨rfl, rfl⟩
            generalize cutS tn' 15 = nm at *
            go_wp2_with (at_builtin; refine Lib.wpList_append_run _ rfl _ _ _ _ rfl _ _ rfl rfl _ _ hrun ?_)
            go_roundg (tn - (i + 1))
            case measure => omega
            case rel => exact ⟨i + 1, by simp, by omega, by omega, Nat.le_refl _, HF⟩
          · have hlt' : (i : Int) < (tn : Int) := by omega
            have h42' : ¬ (i : Int) < 42 := by omega
            have HF : Hid (∃ h, GB W wr gb h ⟨(ts.take 42).map cutT, cutS st 15, ex, []⟩ []) := by
              have : i = 42 := by omega
              subst this
              exact J.out
            clear hG J eli
            go_wp2_with fail
            go_meet
            exact HF
        · have hlt' : ¬ (i : Int) < (tn : Int) := by omega
          have HF : Hid (∃ h, GB W wr gb h ⟨(ts.take 42).map cutT, cutS st 15, ex, []⟩ []) := by
            have e : ts.take 42 = ts.take i := by rw [List.take_of_length_le (by rw [HT.out.1]; omega), List.take_of_length_le (by rw [HT.out.1]; omega)]
            rw [e]
            exact J.out
          clear hG J eli
          go_wp2_with fail
          go_meet
          exact HF
    case rest =>
      obtain ⟨w4, hw4⟩ : ∃ w4, w4 = wc := ⟨_, rfl⟩
      subst wc
      obtain ⟨h4, hG4⟩ := hcut.out
      have HG4 : Hid (∃ h qs, GB W w4 gb h ⟨(ts.take 42).map cutT, cutS st 15, ex, []⟩ qs) := ⟨h4, [], hG4⟩
      clear hcut hG4 J0
      go_upto_block 2 with fail
      go_cut [6] (fun s6 wd => Hid (∃ h qs, GB W wd gb h (cutG ⟨ts, st, ex, rs⟩) qs))
      case first =>
        go_wp2_with fail
        go_loopg [6] rn (fun kx s6 wr => ∃ i : Nat, s6 = .int .i64 i ∧ i ≤ rn ∧ i ≤ 105 ∧ rn - i ≤ kx ∧ Hid (∃ h qs, GB W wr gb h ⟨(ts.take 42).map cutT, cutS st 15, ex, (rs.take i).map cutR⟩ qs))
        case atStart => exact ⟨0, rfl, Nat.zero_le _, Nat.zero_le _, by omega, HG4⟩
        case round =>
          obtain ⟨i, rfl, hi, hi105, hg, J⟩ := hrel
          clear HG4
          obtain ⟨⟨a1, k1, a2, k2⟩, qs, hG⟩ := J.out
          have x3 : wr.cell? ⟨nb, 3, none⟩ = some (.slice ra rn rc) := cell_below hG.bel (by rw [cell_block HX.out.1]; rfl)
          by_cases hlt : i < rn
          · by_cases h105 : i < 105
            · have hlt' : (i : Int) < (rn : Int) := by omega
              have h105' : (i : Int) < 105 := by omega
              obtain ⟨r, hr⟩ : ∃ r, rs[i]? = some r := ⟨rs[i]'(by rw [HT.out.2]; exact hlt), List.getElem?_eq_getElem _⟩
              obtain ⟨b, o, xa, xc, hra, c0, c1, c2, hxs⟩ := (HR.out.below hG.bel).rul i r hr
              simp only at hra
              subst hra
              obtain ⟨rl, rr, rp⟩ := r
              simp only at c0 c1 c2 hxs
              obtain ⟨wo, hwo⟩ : ∃ wo, wo = wr := ⟨_, rfl⟩
              subst wr
              have HXS : Hid (RawS wo xa rr.length xc rr) := hxs
              have HRR : Hid (rs[i]? = some ⟨rl, rr, rp⟩) := hr
              have HGO : Hid (GB W wo gb ⟨a1, k1, a2, k2⟩ ⟨(ts.take 42).map cutT, cutS st 15, ex, (rs.take i).map cutR⟩ qs) := hG
              have HCC : Hid (wo.cell? ⟨nb, 3, none⟩ = some (.slice (some ⟨b, o, none⟩) rn rc) ∧ wo.cell? ⟨b, o + i * 3 + 1, none⟩ = some (.slice xa rr.length xc)) := ⟨x3, c1⟩
              have hxl := hxs.le
              clear hxs hr hG J c1
              generalize exn : rr.length = xn at *
              have HXN : Hid (rr.length = xn) := exn
              clear exn
              go_upto_region 11 with fail
              go_cut [7] from 41 to 102 (fun s wd => s = .pointer (some ⟨wo.heap.size, 0, none⟩) ∧ Hid (RC wo wd (cutS rl 15) (cutS rp 15) [] none 0 0))
              case first =>
                go_region_held (fun w' => w'.cell? ⟨nb, 3, none⟩ = some (.slice (some ⟨b, o, none⟩) rn rc) ∧ w'.cell? ⟨b, o + i * 3, none⟩ = some (.string rl) ∧ w'.cell? ⟨b, o + i * 3 + 2, none⟩ = some (.string rp)) (go_keep)
                  (first | (go_at_call_of 19 (Value.string rl); refine (cut_calls rl 15 _).mono ?_; rintro e w' ⟨rfl, rfl⟩) | (go_at_call_of 19 (Value.string rp); refine (cut_calls rp 15 _).mono ?_; rintro e w' ⟨rfl, rfl⟩))
                all_goals
                  go_wp2_with fail
                  go_meet
                  exact ⟨rfl, (RC.new wo (cutS rl 15) (cutS rp 15)).step (below_drew' _)⟩
              case rest =>
                obtain ⟨rfl, R0⟩ := hcut
                obtain ⟨w5, hw5⟩ : ∃ w5, w5 = wc := ⟨_, rfl⟩
                subst wc
                clear c0 c2 x3
                obtain ⟨rb, hrb⟩ : ∃ rb, rb = wo.heap.size := ⟨_, rfl⟩
                have HRB : Hid (rb = wo.heap.size) := hrb
                rw [← hrb]
                clear hrb
                go_upto_block 4 with fail
                go_cut [8] from 41 to 102 (fun s8 wd => Hid (∃ ya yc, RC wo wd (cutS rl 15) (cutS rp 15) ((rr.take 22).map (fun x => cutS x 15)) ya (min xn 22) yc))
                case first =>
                  go_wp2_with fail
                  go_loopg [8] xn (fun kx s8 wr => ∃ k : Nat, s8 = .int .i64 k ∧ k ≤ xn ∧ k ≤ 22 ∧ xn - k ≤ kx ∧ Hid (∃ ya yc, RC wo wr (cutS rl 15) (cutS rp 15) ((rr.take k).map (fun x => cutS x 15)) ya k yc))
                  case atStart => exact ⟨0, rfl, Nat.zero_le _, Nat.zero_le _, by omega, (⟨_, _, R0.out⟩ : ∃ ya yc, RC wo w5 (cutS rl 15) (cutS rp 15) ((rr.take 0).map (fun x => cutS x 15)) ya 0 yc)⟩
                  case round =>
                    obtain ⟨k, rfl, hk, hk22, hg2, K⟩ := hrel
                    clear R0
                    obtain ⟨ya, yc, hR⟩ := K.out
                    have q3 := cell_below hR.bel HCC.out.1
                    have q1 := cell_below hR.bel HCC.out.2
                    by_cases hklt : k < xn
                    · by_cases h22 : k < 22
                      · have hklt' : (k : Int) < (xn : Int) := by omega
                        have h22' : (k : Int) < 22 := by omega
                        obtain ⟨s, hs⟩ : ∃ s, rr[k]? = some s := ⟨rr[k]'(by rw [HXN.out]; exact hklt), List.getElem?_eq_getElem _⟩
                        obtain ⟨b2, o2, hxa, qs2⟩ := (HXS.out.below hR.bel).get k s hs
                        subst hxa
                        have p1 : wr.cell? ⟨rb, 1, none⟩ = some (.slice ya k yc) := by rw [HRB.out, cell_block hR.box]; rfl
                        have elk : ((rr.take k).map (fun x => cutS x 15)).length = k := by rw [List.length_map, List.length_take, HXN.out]; omega
                        obtain ⟨ao, n, c, w6, hrun, hbox, hR2⟩ := (hR.step (below_drew' wr)).add (by rw [elk]; omega) (cutS s 15)
                        have hrun2 : (Builtin.append_ #[37, 37] 37 #[.slice ya k yc, .slice (some ⟨wr.heap.size, 0, none⟩) 1 1]).run Tryd.prog (wr.alloc (.cells #[.string (cutS s 15)] 9)).drew = .ok (.slice ao n c) w6 := hrun
                        have d1 : w6.cell? ⟨rb, 1, none⟩ = some (.slice ya k yc) := by rw [HRB.out, cell_block hbox]; rfl
                        have f1 : w6.frozen? ⟨rb, 1, none⟩ = false := by rw [HRB.out]; exact frozen_block hbox 1
                        have HF : Hid (∃ ya yc, RC wo (w6.setCell ⟨rb, 1, none⟩ (.slice ao n c)) (cutS rl 15) (cutS rp 15) ((rr.take (k + 1)).map (fun x => cutS x 15)) ya (k + 1) yc) := by
                          have e : (rr.take (k + 1)).map (fun x => cutS x 15) = (rr.take k).map (fun x => cutS x 15) ++ [cutS s 15] := by rw [take_succ hs, List.map_append]; rfl
                          have hn : n = k + 1 := by have := hR2.len; rw [List.length_append, elk] at this; exact this
                          subst hn
                          rw [e, HRB.out]
                          exact ⟨ao, c, hR2⟩
                        clear hR hbox hR2 hrun K elk hs
                        go_upto_block 5 with fail
                        go_cut [95] from 67 to 96 (fun s95 wd => Hid (∃ ya yc, RC wo wd (cutS rl 15) (cutS rp 15) ((rr.take (k + 1)).map (fun x => cutS x 15)) ya (k + 1) yc))
                        case first =>
                          go_wp2_with fail
                          have CC : Hid (∀ W : World, Calls Tryd.prog 19 #[.string s, .int .i64 15] W fun e w' => e = .returned (.string (cutS s 15)) ∧ w' = W) := fun W => cut_calls s 15 W
                          generalize cutS s 15 = cs at hrun2 CC
                          have p1' := cell_alloc p1 (.cells #[.string cs] 9)
                          go_region_law (first | (refine step_append_told rfl (.tmp 83) (.tmp 94) rfl rfl (by simp [Act.eval]) (by simp [Act.eval]) hrun2 ?_) | (refine step_call_told rfl 19 #[.string s, .int .i64 15] (.string cs) (by simp [Act.eval, go_sem]) (CC.out _) ?_))
                          all_goals (go_wp2_with fail; go_meet; exact HF)
                        case rest =>
                          go_wp2_with fail
                          go_roundg (xn - (k + 1))
                          case measure => omega
                          case rel => exact ⟨k + 1, by simp, by omega, by omega, Nat.le_refl _, hcut⟩
                      · have hklt' : (k : Int) < (xn : Int) := by omega
                        have h22' : ¬ (k : Int) < 22 := by omega
                        have HF : Hid (∃ ya yc, RC wo wr (cutS rl 15) (cutS rp 15) ((rr.take 22).map (fun x => cutS x 15)) ya (min xn 22) yc) := by
                          have : k = 22 := by omega
                          subst this
                          have e : min xn 22 = 22 := by omega
                          rw [e]
                          exact K.out
                        clear hR K
                        go_wp2_with fail
                        go_meet
                        exact HF
                    · have hklt' : ¬ (k : Int) < (xn : Int) := by omega
                      have HF : Hid (∃ ya yc, RC wo wr (cutS rl 15) (cutS rp 15) ((rr.take 22).map (fun x => cutS x 15)) ya (min xn 22) yc) := by
                        have e1 : rr.take 22 = rr.take k := by rw [List.take_of_length_le (by rw [HXN.out]; omega), List.take_of_length_le (by rw [HXN.out]; omega)]
                        have e : min xn 22 = k := by omega
                        rw [e1, e]
                        exact K.out
                      clear hR K
                      go_wp2_with fail
                      go_meet
                      exact HF
                case rest =>
                  obtain ⟨w7, hw7⟩ : ∃ w7, w7 = wc := ⟨_, rfl⟩
                  subst wc
                  obtain ⟨ya, yc, hR⟩ := hcut.out
                  have hG7 := HGO.out.step hR.bel
                  have eli : ((rs.take i).map cutR).length = i := by rw [List.length_map, List.length_take, HT.out.2]; omega
                  obtain ⟨-, -, -, y3, -⟩ := hG7.cells
                  simp only [eli] at y3
                  generalize emn : min xn 22 = mn at *
                  have p0 : w7.cell? ⟨rb, 0, none⟩ = some (.string (cutS rl 15)) := by rw [HRB.out, cell_block hR.box]; rfl
                  have p1 : w7.cell? ⟨rb, 1, none⟩ = some (.slice ya mn yc) := by rw [HRB.out, cell_block hR.box]; rfl
                  have p2 : w7.cell? ⟨rb, 2, none⟩ = some (.string (cutS rp 15)) := by rw [HRB.out, cell_block hR.box]; rfl
                  have hown : OwnS w7 W.heap.size (.slice ya mn yc) (cutR ⟨rl, rr, rp⟩).r := own_mono hR.own (by have := HGO.out.bel.size; omega)
                  obtain ⟨ao, n, c, w8, hrun, hn, hbox, hG8⟩ := hG7.addRule (by simp only; rw [eli]; omega) (cutR ⟨rl, rr, rp⟩) ya yc mn hown hR.len
                  simp only [eli] at hrun
                  have hrun2 : (Builtin.append_ #[23, 23] 23 #[.slice a2 i k2, .slice (some ⟨w7.heap.size, 0, none⟩) 1 1]).run Tryd.prog (w7.alloc (.cells #[.string (cutS rl 15), .slice ya mn yc, .string (cutS rp 15)] 39)) = .ok (.slice ao n c) w8 := hrun
                  have d3 : w8.cell? ⟨gb, 3, none⟩ = some (.slice a2 i k2) := by rw [cell_block hbox]; show some (Value.slice a2 ((rs.take i).map cutR).length k2) = _; rw [eli]
                  have f3 : w8.frozen? ⟨gb, 3, none⟩ = false := frozen_block hbox 3
                  have HF : Hid (∃ h qs, GB W (w8.setCell ⟨gb, 3, none⟩ (.slice ao n c)) gb h ⟨(ts.take 42).map cutT, cutS st 15, ex, (rs.take (i + 1)).map cutR⟩ qs) := by
                    have e : (rs.take (i + 1)).map cutR = (rs.take i).map cutR ++ [cutR ⟨rl, rr, rp⟩] := by rw [take_succ HRR.out, List.map_append]; rfl
                    rw [e]
                    exact ⟨_, _, hG8⟩
                  clear hG7 hG8 hbox hn hR hcut R0 hown hrun eli emn
                  generalize cutS rl 15 = cl at *
                  generalize cutS rp 15 = cp at *
                  go_wp2_with (at_builtin; refine Lib.wpList_append_run _ rfl _ _ _ _ rfl _ _ rfl rfl _ _ hrun2 ?_)
                  go_roundg (rn - (i + 1))
                  case measure => omega
                  case rel => exact ⟨i + 1, by simp, by omega, by omega, Nat.le_refl _, HF⟩
            · have hlt' : (i : Int) < (rn : Int) := by omega
              have h105' : ¬ (i : Int) < 105 := by omega
              have HF : Hid (∃ h qs, GB W wr gb h (cutG ⟨ts, st, ex, rs⟩) qs) := by
                have : i = 105 := by omega
                subst this
                exact J.out
              clear hG J
              go_wp2_with fail
              go_meet
              exact HF
          · have hlt' : ¬ (i : Int) < (rn : Int) := by omega
            have HF : Hid (∃ h qs, GB W wr gb h (cutG ⟨ts, st, ex, rs⟩) qs) := by
              have e : rs.take 105 = rs.take i := by rw [List.take_of_length_le (by rw [HT.out.2]; omega), List.take_of_length_le (by rw [HT.out.2]; omega)]
              unfold cutG
              simp only
              rw [e]
              exact J.out
            clear hG J
            go_wp2_with fail
            go_meet
            exact HF
      case rest =>
        obtain ⟨w9, hw9⟩ : ∃ w9, w9 = wc := ⟨_, rfl⟩
        subst wc
        obtain ⟨⟨a1, k1, a2, k2⟩, qs, hG⟩ := hcut.out
        obtain ⟨y0, y1, y2, y3, -⟩ := hG.cells
        have hb1 : w9.heap[nb + 1]? = some (.cells #[.slice none 0 0, .string ⟨#[]⟩, .int .i64 0, .slice none 0 0] 25 (0, 0)) := block_below hG.bel HX.out.2
        have z0 : w9.cell? ⟨nb + 1, 0, none⟩ = some (.slice none 0 0) := by rw [cell_block hb1]; rfl
        have z1 : w9.cell? ⟨nb + 1, 1, none⟩ = some (.string ⟨#[]⟩) := by rw [cell_block hb1]; rfl
        have z2 : w9.cell? ⟨nb + 1, 2, none⟩ = some (.int .i64 0) := by rw [cell_block hb1]; rfl
        have z3 : w9.cell? ⟨nb + 1, 3, none⟩ = some (.slice none 0 0) := by rw [cell_block hb1]; rfl
        have fz : ∀ j, w9.frozen? ⟨nb + 1, j, none⟩ = false := frozen_block hb1
        have fz0 := fz 0
        have fz1 := fz 1
        have fz2 := fz 2
        have fz3 := fz 3
        clear fz
        have HF : Hid (OwnG ((((w9.setCell ⟨nb + 1, 0, none⟩ (.slice a1 (cutG ⟨ts, st, ex, rs⟩).ts.length k1)).setCell ⟨nb + 1, 1, none⟩ (.string (cutG ⟨ts, st, ex, rs⟩).s)).setCell ⟨nb + 1, 2, none⟩ (.int .i64 (cutG ⟨ts, st, ex, rs⟩).e)).setCell ⟨nb + 1, 3, none⟩ (.slice a2 (cutG ⟨ts, st, ex, rs⟩).rs.length k2)) w.heap.size ⟨a1, k1, a2, k2⟩ (cutG ⟨ts, st, ex, rs⟩) qs ∧ Below w.heap.size w ((((w9.setCell ⟨nb + 1, 0, none⟩ (.slice a1 (cutG ⟨ts, st, ex, rs⟩).ts.length k1)).setCell ⟨nb + 1, 1, none⟩ (.string (cutG ⟨ts, st, ex, rs⟩).s)).setCell ⟨nb + 1, 2, none⟩ (.int .i64 (cutG ⟨ts, st, ex, rs⟩).e)).setCell ⟨nb + 1, 3, none⟩ (.slice a2 (cutG ⟨ts, st, ex, rs⟩).rs.length k2))) := by
          have hlt : w.heap.size ≤ nb + 1 := by rw [HN.out.1]; omega
          have hW : nb + 1 < W.heap.size := by have := HN.out.2; omega
          have far : ∀ {W' : World} {u : Value} {j : Nat}, OwnG W' W.heap.size ⟨a1, k1, a2, k2⟩ (cutG ⟨ts, st, ex, rs⟩) qs → OwnG (W'.setCell ⟨nb + 1, j, none⟩ u) W.heap.size ⟨a1, k1, a2, k2⟩ (cutG ⟨ts, st, ex, rs⟩) qs := by
            intro W' u j o
            refine ⟨?_, ?_, o.map, fun q hq => ?_⟩
            · exact ownsRow_of_block o.tok (fun i hi => Below.heap_setCell _ _ _ _ (fun e => by simp only at e; have := (World.ownsRow.lt o.tok i hi).1; omega))
            · exact ownsRow_of_block o.rul (fun i hi => Below.heap_setCell _ _ _ _ (fun e => by simp only at e; have := (World.ownsRow.lt o.rul i hi).1; omega))
            · exact ownsRow_of_block (o.row q hq) (fun i hi => Below.heap_setCell _ _ _ _ (fun e => by simp only at e; have := (World.ownsRow.lt (o.row q hq) i hi).1; omega))
          have o9 := far (u := .slice a2 (cutG ⟨ts, st, ex, rs⟩).rs.length k2) (j := 3) (far (u := .int .i64 (cutG ⟨ts, st, ex, rs⟩).e) (j := 2) (far (u := .string (cutG ⟨ts, st, ex, rs⟩).s) (j := 1) (far (u := .slice a1 (cutG ⟨ts, st, ex, rs⟩).ts.length k1) (j := 0) hG.own)))
          have hbe : w.heap.size ≤ W.heap.size := HB.out.size
          refine ⟨⟨own_mono o9.tok hbe, own_mono o9.rul hbe, o9.map, fun q hq => own_mono (o9.row q hq) hbe⟩, ?_⟩
          exact ((((below_step HB.out hG.bel).setCell (p := ⟨nb + 1, 0, none⟩) hlt _).setCell (p := ⟨nb + 1, 1, none⟩) hlt _).setCell (p := ⟨nb + 1, 2, none⟩) hlt _).setCell (p := ⟨nb + 1, 3, none⟩) hlt _
        clear hG hcut hb1 HG4
        generalize ectn : (cutG ⟨ts, st, ex, rs⟩).ts.length = ctn at y0 HF
        generalize ecrn : (cutG ⟨ts, st, ex, rs⟩).rs.length = crn at y3 HF
        generalize ecs : (cutG ⟨ts, st, ex, rs⟩).s = cst at y1 HF
        generalize ece : (cutG ⟨ts, st, ex, rs⟩).e = cex at y2 HF
        have HE : Hid ((cutG ⟨ts, st, ex, rs⟩).ts.length = ctn ∧ (cutG ⟨ts, st, ex, rs⟩).rs.length = crn ∧ (cutG ⟨ts, st, ex, rs⟩).s = cst ∧ (cutG ⟨ts, st, ex, rs⟩).e = cex) := ⟨ectn, ecrn, ecs, ece⟩
        clear ectn ecrn ecs ece
        go_wp2_with fail
        refine bodyPost_ret (v := .agg #[.slice a1 ctn k1, .string cst, .int .i64 cex, .slice a2 crn k2]) (by simp [results, Tryd.results9, go_sem, *]) rfl ?_
        obtain ⟨e1, e2, e3, e4⟩ := HE.out
        refine ⟨⟨a1, k1, a2, k2⟩, ?_, ⟨qs, HF.out.1⟩, HF.out.2⟩
        simp only [e1, e2, e3, e4]

end Go.Proofs.YtdgadamkiililaaDoor
