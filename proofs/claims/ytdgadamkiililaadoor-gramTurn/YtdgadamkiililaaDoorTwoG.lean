/-
  Two boxes with a grammar each that the call owns.
-/
import Derived.Test.YtdgadamkiililaaDoorCutG
import Derived.Test.YtdgadamkiililaaDoorReq
import Derived.Test.YtdgadamkiililaaDoorRtext
namespace Go.Proofs.YtdgadamkiililaaDoor
open Go.RowKit

theorem OwnG.far {w : World} {base b j : Nat} {h : Hd} {G : Gm} {qs : List (Ru × Option Addr × Nat)} {u : Value} (o : OwnG w base h G qs) (hb : b < base) : OwnG (w.setCell ⟨b, j, none⟩ u) base h G qs := by
  refine ⟨?_, ?_, o.map, fun q hq => ?_⟩
  · exact ownsRow_of_block o.tok (fun i hi => Below.heap_setCell _ _ _ _ (fun e => by simp only at e; have := (World.ownsRow.lt o.tok i hi).1; omega))
  · exact ownsRow_of_block o.rul (fun i hi => Below.heap_setCell _ _ _ _ (fun e => by simp only at e; have := (World.ownsRow.lt o.rul i hi).1; omega))
  · exact ownsRow_of_block (o.row q hq) (fun i hi => Below.heap_setCell _ _ _ _ (fun e => by simp only at e; have := (World.ownsRow.lt (o.row q hq) i hi).1; omega))

theorem OwnG.mono {w : World} {base base' : Nat} {h : Hd} {G : Gm} {qs : List (Ru × Option Addr × Nat)} (o : OwnG w base h G qs) (hb : base' ≤ base) : OwnG w base' h G qs :=
  ⟨own_mono o.tok hb, own_mono o.rul hb, o.map, fun q hq => own_mono (o.row q hq) hb⟩

/-- Four cells are stored. -/
def set4 (W : World) (b : Nat) (v0 v1 v2 v3 : Value) : World := (((W.setCell ⟨b, 0, none⟩ v0).setCell ⟨b, 1, none⟩ v1).setCell ⟨b, 2, none⟩ v2).setCell ⟨b, 3, none⟩ v3

theorem setCell_heap {W : World} {b j T : Nat} {cs : Array Value} (v : Value) (h : W.heap[b]? = some (.cells cs T (0, 0))) : (W.setCell ⟨b, j, none⟩ v).heap[b]? = some (.cells (cs.setIfInBounds j v) T (0, 0)) := by
  rw [setCell_eq_setRow W b j _ T (0, 0) _ h]
  exact setRow_heap _ _ _ _ T _ h

theorem set4_heap {W : World} {b T : Nat} {a0 a1 a2 a3 : Value} (v0 v1 v2 v3 : Value) (h : W.heap[b]? = some (.cells #[a0, a1, a2, a3] T (0, 0))) : (set4 W b v0 v1 v2 v3).heap[b]? = some (.cells #[v0, v1, v2, v3] T (0, 0)) :=
  setCell_heap (cs := #[v0, v1, v2, a3]) v3 (setCell_heap (cs := #[v0, v1, a2, a3]) v2 (setCell_heap (cs := #[v0, a1, a2, a3]) v1 (setCell_heap v0 h)))

theorem set4_other {W : World} {b k : Nat} (v0 v1 v2 v3 : Value) (h : k ≠ b) : (set4 W b v0 v1 v2 v3).heap[k]? = W.heap[k]? := by
  unfold set4
  rw [Below.heap_setCell _ _ _ _ h, Below.heap_setCell _ _ _ _ h, Below.heap_setCell _ _ _ _ h, Below.heap_setCell _ _ _ _ h]

theorem set4_below {w W : World} {b : Nat} (v0 v1 v2 v3 : Value) (h : Below w.heap.size w W) (hb : w.heap.size ≤ b) : Below w.heap.size w (set4 W b v0 v1 v2 v3) :=
  (((h.setCell (p := ⟨b, 0, none⟩) hb _).setCell (p := ⟨b, 1, none⟩) hb _).setCell (p := ⟨b, 2, none⟩) hb _).setCell (p := ⟨b, 3, none⟩) hb _

theorem OwnG.set4 {w : World} {base b : Nat} {h : Hd} {G : Gm} {qs : List (Ru × Option Addr × Nat)} (v0 v1 v2 v3 : Value) (o : OwnG w base h G qs) (hb : b < base) : OwnG (set4 w b v0 v1 v2 v3) base h G qs :=
  (((o.far hb).far hb).far hb).far hb

theorem box_cells {W : World} {b T : Nat} {a0 a1 a2 a3 : Value} (h : W.heap[b]? = some (.cells #[a0, a1, a2, a3] T (0, 0))) :
    W.cell? ⟨b, 0, none⟩ = some a0 ∧ W.cell? ⟨b, 1, none⟩ = some a1 ∧ W.cell? ⟨b, 2, none⟩ = some a2 ∧ W.cell? ⟨b, 3, none⟩ = some a3 ∧ W.frozen? ⟨b, 0, none⟩ = false ∧ W.frozen? ⟨b, 1, none⟩ = false ∧ W.frozen? ⟨b, 2, none⟩ = false ∧ W.frozen? ⟨b, 3, none⟩ = false :=
  ⟨by rw [cell_block h]; rfl, by rw [cell_block h]; rfl, by rw [cell_block h]; rfl, by rw [cell_block h]; rfl, frozen_block h 0, frozen_block h 1, frozen_block h 2, frozen_block h 3⟩

/-- Two grammars in boxes b and b + 1, all else as it was. -/
structure TwoG (w W : World) (b : Nat) (h : Hd) (G : Gm) (k : Hd) (K : Gm) : Prop where
  ba : W.heap[b]? = some (.cells (boxC h G) 25 (0, 0))
  bb : W.heap[b + 1]? = some (.cells (boxC k K) 25 (0, 0))
  oa : IsG W h G
  ob : IsG W k K
  be : Below w.heap.size w W

theorem gv_box (h : Hd) (G : Gm) : gv h G = .agg (boxC h G) := rfl

end Go.Proofs.YtdgadamkiililaaDoor
