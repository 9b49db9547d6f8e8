/-
  A grammar that grows in a box of the call's own.
-/
import Derived.Test.YtdgadamkiililaaDoorBegun5
namespace Go.Proofs.YtdgadamkiililaaDoor
open Go.RowKit

theorem Tryd.info35 : (Tryd.prog.info? 35).map (fun i => (i.zero, i.size, i.bytes)) = some (some (.agg #[.string ⟨#[]⟩, .int .i64 0, .int .i64 0]), 3, 32) := by kernel_rfl
theorem Tryd.info39 : (Tryd.prog.info? 39).map (fun i => (i.zero, i.size, i.bytes)) = some (some (.agg #[.string ⟨#[]⟩, .slice none 0 0, .string ⟨#[]⟩]), 3, 56) := by kernel_rfl

theorem own_ne_block {w : World} {base E k n : Nat} {v : Value} {cs : List Value} (h : w.ownsRow base E k v n cs) {b T : Nat} {cur : Array Value} {fr : Nat × Nat} (hb : w.heap[b]? = some (.cells cur T fr)) (hE : E ≠ T) : v.ownBlock ≠ some b := by
  intro hg
  rcases h.2 with ⟨rfl, -⟩ | ⟨g, c, cur', rfl, -, hh, -⟩
  · cases hg
  · simp only [Value.ownBlock, Option.some.injEq] at hg
    subst hg
    rw [hh] at hb
    simp only [Option.some.injEq, Obj.cells.injEq] at hb
    exact hE hb.2.1

theorem own_grown {w w' : World} {base base2 E E2 k k2 n n2 : Nat} {v v2 : Value} {cs cs2 : List Value} (h : w.ownsRow base E k v n cs) (h2 : w.ownsRow base2 E2 k2 v2 n2 cs2) (hE : E ≠ E2) (hg : w.grownBy w' v.ownBlock) : w'.ownsRow base2 E2 k2 v2 n2 cs2 :=
  ownsRow_of_block h2 (fun i hi => hg.block i (World.ownsRow.lt h2 i hi).2 (fun e => own_type h h2 hE (g := i) e.symm hi))

/-- The grammar's box. -/
def boxC (h : Hd) (G : Gm) : Array Value := #[.slice h.ta G.ts.length h.tc, .string G.s, .int .i64 G.e, .slice h.ra G.rs.length h.rc]

/-- A grammar that the call owns, in a box of its own. -/
structure GB (w wr : World) (gb : Nat) (h : Hd) (G : Gm) (qs : List (Ru × Option Addr × Nat)) : Prop where
  box : wr.heap[gb]? = some (.cells (boxC h G) 25 (0, 0))
  own : OwnG wr w.heap.size h G qs
  bel : Below w.heap.size w wr
  new : w.heap.size ≤ gb

theorem GB.step {w wr wr' : World} {gb : Nat} {h : Hd} {G : Gm} {qs : List (Ru × Option Addr × Nat)} (g : GB w wr gb h G qs) (hb : Below wr.heap.size wr wr') : GB w wr' gb h G qs :=
  ⟨block_below hb g.box, g.own.below hb, below_step g.bel hb, g.new⟩

theorem GB.cells {w wr : World} {gb : Nat} {h : Hd} {G : Gm} {qs : List (Ru × Option Addr × Nat)} (g : GB w wr gb h G qs) :
    wr.cell? ⟨gb, 0, none⟩ = some (.slice h.ta G.ts.length h.tc) ∧ wr.cell? ⟨gb, 1, none⟩ = some (.string G.s) ∧ wr.cell? ⟨gb, 2, none⟩ = some (.int .i64 G.e) ∧ wr.cell? ⟨gb, 3, none⟩ = some (.slice h.ra G.rs.length h.rc) ∧ ∀ j, wr.frozen? ⟨gb, j, none⟩ = false :=
  ⟨by rw [cell_block g.box]; rfl, by rw [cell_block g.box]; rfl, by rw [cell_block g.box]; rfl, by rw [cell_block g.box]; rfl, frozen_block g.box⟩

/-- A box that is stored into. -/
theorem OwnG.box {w : World} {base gb j : Nat} {h : Hd} {G : Gm} {qs : List (Ru × Option Addr × Nat)} {cur : Array Value} {T : Nat} {u : Value} (o : OwnG w base h G qs) (hb : w.heap[gb]? = some (.cells cur T (0, 0))) (h1 : T ≠ 35) (h2 : T ≠ 39) (h3 : T ≠ 9) : OwnG (w.setCell ⟨gb, j, none⟩ u) base h G qs := by
  refine ⟨?_, ?_, o.map, fun q hq => ?_⟩
  · exact ownsRow_of_block o.tok (fun i hi => Below.heap_setCell _ _ _ _ (fun e => by simp only at e; subst e; exact own_ne_block o.tok hb (Ne.symm h1) hi))
  · exact ownsRow_of_block o.rul (fun i hi => Below.heap_setCell _ _ _ _ (fun e => by simp only at e; subst e; exact own_ne_block o.rul hb (Ne.symm h2) hi))
  · exact ownsRow_of_block (o.row q hq) (fun i hi => Below.heap_setCell _ _ _ _ (fun e => by simp only at e; subst e; exact own_ne_block (o.row q hq) hb (Ne.symm h3) hi))

theorem tokC_append (a b : List Tk) : tokC (a ++ b) = tokC a ++ tokC b := by unfold tokC; rw [List.flatMap_append]
theorem rulC_append (a b : List (Ru × Option Addr × Nat)) : rulC (a ++ b) = rulC a ++ rulC b := by unfold rulC; rw [List.flatMap_append]

/-- One token more. -/
theorem GB.addTok {w W : World} {gb : Nat} {h : Hd} {G : Gm} {qs : List (Ru × Option Addr × Nat)} (g : GB w W gb h G qs) (hn : G.ts.length ≤ 1000) (t : Tk) :
    ∃ ao n c w', (Builtin.append_ #[22, 22] 22 #[.slice h.ta G.ts.length h.tc, .slice (some ⟨W.heap.size, 0, none⟩) 1 1]).run Tryd.prog (W.alloc (.cells #[.string t.n, .int .i64 t.l, .int .i64 t.a] 35)) = .ok (.slice ao n c) w' ∧ n = G.ts.length + 1 ∧ w'.heap[gb]? = some (.cells (boxC h G) 25 (0, 0)) ∧
      GB w (w'.setCell ⟨gb, 0, none⟩ (.slice ao n c)) gb ⟨ao, c, h.ra, h.rc⟩ ⟨G.ts ++ [t], G.s, G.e, G.rs⟩ qs := by
  obtain ⟨i0, hi, hz0, hz1, hz2⟩ := info_parts Tryd.info35
  have g1 := g.step (below_alloc W (.cells #[.string t.n, .int .i64 t.l, .int .i64 t.a] 35))
  have hnews : ∀ j u, (tokC [t])[j]? = some u → (W.alloc (.cells #[.string t.n, .int .i64 t.l, .int .i64 t.a] 35)).cell? ((⟨W.heap.size, 0, none⟩ : Addr).add j) = some u := by
    intro j u hu
    rw [Addr.add_lit, Nat.zero_add, World.cell?_alloc_mark, ← hu]
    exact List.getElem?_toArray (xs := tokC [t]) (i := j)
  obtain ⟨v', w', hr, h2, h3, -⟩ := run_append_own (P := Tryd.prog) (W.alloc (.cells #[.string t.n, .int .i64 t.l, .int .i64 t.a] 35)) w.heap.size 22 22 35 i0 _ 3 32 Tryd.underlying22 hi hz0 hz1 hz2 rfl (by decide) _ G.ts.length _ g1.own.tok ⟨W.heap.size, 0, none⟩ 1 1 (tokC [t]) rfl hnews
    (fun u hu => by simp [tokC] at hu; rcases hu with rfl | rfl | rfl <;> rfl) (by unfold maxLen; omega) (by omega) (by have := g1.bel.size; exact this)
  obtain ⟨ao, c, rfl, -⟩ := own_slice h2
  have hbox : w'.heap[gb]? = some (.cells (boxC h G) 25 (0, 0)) := by
    rw [h3.block gb (Array.getElem?_eq_some_iff.1 g1.box).1 (fun e => own_ne_block g1.own.tok g1.box (by decide) e.symm)]
    exact g1.box
  have ho : OwnG w' w.heap.size ⟨ao, c, h.ra, h.rc⟩ ⟨G.ts ++ [t], G.s, G.e, G.rs⟩ qs := by
    refine ⟨?_, own_grown g1.own.tok g1.own.rul (by decide) h3, g.own.map, fun q hq => own_grown g1.own.tok (g1.own.row q hq) (by decide) h3⟩
    simp only
    rw [tokC_append, List.length_append]
    exact h2
  refine ⟨ao, _, c, w', hr, rfl, hbox, ?_, ho.box hbox (by decide) (by decide) (by decide), ?_, g.new⟩
  · have : (boxC h G).setIfInBounds 0 (.slice ao (G.ts.length + 1) c) = boxC ⟨ao, c, h.ra, h.rc⟩ ⟨G.ts ++ [t], G.s, G.e, G.rs⟩ := by
      unfold boxC
      simp
    rw [setCell_eq_setRow w' gb 0 _ 25 (0, 0) _ hbox, this]
    exact setRow_heap _ _ _ _ 25 _ hbox
  · exact (g1.bel.grown h3 (g1.bel.size) (fun k hk => (World.ownsRow.lt g1.own.tok k hk).1)).setCell (p := ⟨gb, 0, none⟩) g.new _

/-- One rule more. -/
theorem GB.addRule {w W : World} {gb : Nat} {h : Hd} {G : Gm} {qs : List (Ru × Option Addr × Nat)} (g : GB w W gb h G qs) (hn : G.rs.length ≤ 1000) (r : Ru) (xa : Option Addr) (xc m : Nat) (hx : OwnS W w.heap.size (.slice xa m xc) r.r) (hm : m = r.r.length) :
    ∃ ao n c w', (Builtin.append_ #[23, 23] 23 #[.slice h.ra G.rs.length h.rc, .slice (some ⟨W.heap.size, 0, none⟩) 1 1]).run Tryd.prog (W.alloc (.cells #[.string r.l, .slice xa m xc, .string r.p] 39)) = .ok (.slice ao n c) w' ∧ n = G.rs.length + 1 ∧ w'.heap[gb]? = some (.cells (boxC h G) 25 (0, 0)) ∧
      GB w (w'.setCell ⟨gb, 3, none⟩ (.slice ao n c)) gb ⟨h.ta, h.tc, ao, c⟩ ⟨G.ts, G.s, G.e, G.rs ++ [r]⟩ (qs ++ [(r, xa, xc)]) := by
  subst hm
  obtain ⟨i0, hi, hz0, hz1, hz2⟩ := info_parts Tryd.info39
  have g1 := g.step (below_alloc W (.cells #[.string r.l, .slice xa r.r.length xc, .string r.p] 39))
  have hx1 := hx.below (below_alloc W (.cells #[.string r.l, .slice xa r.r.length xc, .string r.p] 39))
  have hnews : ∀ j u, (rulC [(r, xa, xc)])[j]? = some u → (W.alloc (.cells #[.string r.l, .slice xa r.r.length xc, .string r.p] 39)).cell? ((⟨W.heap.size, 0, none⟩ : Addr).add j) = some u := by
    intro j u hu
    rw [Addr.add_lit, Nat.zero_add, World.cell?_alloc_mark, ← hu]
    exact List.getElem?_toArray (xs := rulC [(r, xa, xc)]) (i := j)
  obtain ⟨v', w', hr, h2, h3, -⟩ := run_append_own (P := Tryd.prog) (W.alloc (.cells #[.string r.l, .slice xa r.r.length xc, .string r.p] 39)) w.heap.size 23 23 39 i0 _ 3 56 Tryd.underlying23 hi hz0 hz1 hz2 rfl (by decide) _ G.rs.length _ g1.own.rul ⟨W.heap.size, 0, none⟩ 1 1 (rulC [(r, xa, xc)]) rfl hnews
    (fun u hu => by simp [rulC] at hu; rcases hu with rfl | rfl | rfl <;> rfl) (by unfold maxLen; omega) (by omega) (by have := g1.bel.size; exact this)
  obtain ⟨ao, c, rfl, -⟩ := own_slice h2
  have hbox : w'.heap[gb]? = some (.cells (boxC h G) 25 (0, 0)) := by
    rw [h3.block gb (Array.getElem?_eq_some_iff.1 g1.box).1 (fun e => own_ne_block g1.own.rul g1.box (by decide) e.symm)]
    exact g1.box
  have ho : OwnG w' w.heap.size ⟨h.ta, h.tc, ao, c⟩ ⟨G.ts, G.s, G.e, G.rs ++ [r]⟩ (qs ++ [(r, xa, xc)]) := by
    refine ⟨own_grown g1.own.rul g1.own.tok (by decide) h3, ?_, ?_, fun q hq => ?_⟩
    · simp only
      rw [rulC_append, List.length_append]
      exact h2
    · simp only
      rw [List.map_append, g.own.map]
      rfl
    · rcases List.mem_append.1 hq with h4 | h4
      · exact own_grown g1.own.rul (g1.own.row q h4) (by decide) h3
      · rw [List.mem_singleton] at h4
        subst h4
        exact own_grown g1.own.rul hx1 (by decide) h3
  refine ⟨ao, _, c, w', hr, rfl, hbox, ?_, ho.box hbox (by decide) (by decide) (by decide), ?_, g.new⟩
  · have : (boxC h G).setIfInBounds 3 (.slice ao (G.rs.length + 1) c) = boxC ⟨h.ta, h.tc, ao, c⟩ ⟨G.ts, G.s, G.e, G.rs ++ [r]⟩ := by
      unfold boxC
      simp
    rw [setCell_eq_setRow w' gb 3 _ 25 (0, 0) _ hbox, this]
    exact setRow_heap _ _ _ _ 25 _ hbox
  · exact (g1.bel.grown h3 (g1.bel.size) (fun k hk => (World.ownsRow.lt g1.own.rul k hk).1)).setCell (p := ⟨gb, 3, none⟩) g.new _

/-- An empty grammar's box. -/
theorem gb_new (w W : World) (s : ByteArray) (e : Int) (hb : Below w.heap.size w W) : GB w (W.alloc (.cells #[.slice none 0 0, .string s, .int .i64 e, .slice none 0 0] 25)) W.heap.size ⟨none, 0, none, 0⟩ ⟨[], s, e, []⟩ [] :=
  ⟨heap_alloc_new _ _, ⟨World.ownsRow_nil _ _ _ _, World.ownsRow_nil _ _ _ _, rfl, fun q h => (by cases h)⟩, below_step hb (below_alloc _ _), hb.size⟩

end Go.Proofs.YtdgadamkiililaaDoor
