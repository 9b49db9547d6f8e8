/-
  The walk of Sums; grammars in memory that the call itself owns.
-/
import Derived.Test.YtdgadamkiililaaDoorEq
import Derived.Test.YtdgadamkiililaaDoorText
namespace Go.Proofs.YtdgadamkiililaaDoor
open Go.RowKit

/-- A grammar in memory that the call owns. -/
structure OwnG (w : World) (base : Nat) (h : Hd) (G : Gm) (qs : List (Ru × Option Addr × Nat)) : Prop where
  tok : w.ownsRow base 35 3 (.slice h.ta G.ts.length h.tc) G.ts.length (tokC G.ts)
  rul : w.ownsRow base 39 3 (.slice h.ra G.rs.length h.rc) G.rs.length (rulC qs)
  map : qs.map (·.1) = G.rs
  row : ∀ q ∈ qs, OwnS w base (.slice q.2.1 q.1.r.length q.2.2) q.1.r

theorem OwnG.isG {w : World} {base : Nat} {h : Hd} {G : Gm} {qs : List (Ru × Option Addr × Nat)} (o : OwnG w base h G qs) (s : Small G) : IsG w h G := ⟨Row.of_own o.tok, ⟨qs, o.map, Row.of_own o.rul, fun q hq => (o.row q hq).row rfl⟩, s⟩

theorem OwnG.below {w w' : World} {base : Nat} {h : Hd} {G : Gm} {qs : List (Ru × Option Addr × Nat)} (o : OwnG w base h G qs) (hb : Below w.heap.size w w') : OwnG w' base h G qs :=
  ⟨ownsRow_of_block o.tok (fun i hi => hb.block i (World.ownsRow.lt o.tok i hi).2), ownsRow_of_block o.rul (fun i hi => hb.block i (World.ownsRow.lt o.rul i hi).2), o.map, fun q hq => (o.row q hq).below hb⟩

def bN : ByteArray := ⟨#[78]⟩
def bP : ByteArray := ⟨#[80]⟩
def bM : ByteArray := ⟨#[77]⟩
def bE : ByteArray := ⟨#[101]⟩
def e0 : ByteArray := ⟨#[]⟩
/-- The grammar of sums. -/
def sumsG : Gm := ⟨[⟨bN, 0, 0⟩, ⟨bP, 1, 1⟩, ⟨bM, 2, 1⟩], e0, 0, [⟨bE, [bE, bP, bE], e0⟩, ⟨bE, [bE, bM, bE], e0⟩, ⟨bE, [bN], e0⟩]⟩

theorem sums_small : Small sumsG := by
  have hN : bN.size ≤ 100 := by decide
  have hP : bP.size ≤ 100 := by decide
  have hM : bM.size ≤ 100 := by decide
  have hE : bE.size ≤ 100 := by decide
  have h0 : e0.size ≤ 100 := by decide
  refine ⟨by decide, by decide, h0, ?_, ?_⟩
  · intro t ht
    simp only [sumsG, List.mem_cons, List.not_mem_nil, or_false] at ht
    rcases ht with rfl | rfl | rfl
    · exact hN
    · exact hP
    · exact hM
  · intro r hr
    simp only [sumsG, List.mem_cons, List.not_mem_nil, or_false] at hr
    rcases hr with rfl | rfl | rfl
    all_goals
      refine ⟨hE, h0, by decide, ?_⟩
      intro x hx
      simp only [List.mem_cons, List.not_mem_nil, or_false] at hx
    · rcases hx with rfl | rfl | rfl
      · exact hE
      · exact hP
      · exact hE
    · rcases hx with rfl | rfl | rfl
      · exact hE
      · exact hM
      · exact hE
    · subst hx; exact hN

theorem own_new (w : World) (base E k n : Nat) (cs : List Value) (hb : base ≤ w.heap.size) (hl : cs.length = n * k) (hn : n ≤ 1000) : (w.alloc (.cells cs.toArray E)).ownsRow base E k (.slice (some ⟨w.heap.size, 0, none⟩) n n) n cs := by
  refine ⟨hl, .inr ⟨w.heap.size, n, cs.toArray, rfl, hb, heap_alloc_new _ _, Nat.le_refl _, by unfold maxLen; omega, by simp [hl], ?_⟩⟩
  rw [List.toList_toArray, List.take_of_length_le (by omega)]

/-- Where Sums lays its lists. -/
def sumsH (n : Nat) : Hd := ⟨some ⟨n + 1, 0, none⟩, 3, some ⟨n + 1 + 1 + 1 + 1 + 1, 0, none⟩, 3⟩
def sumsQ (n : Nat) : List (Ru × Option Addr × Nat) := [(⟨bE, [bE, bP, bE], e0⟩, some ⟨n + 1 + 1, 0, none⟩, 3), (⟨bE, [bE, bM, bE], e0⟩, some ⟨n + 1 + 1 + 1, 0, none⟩, 3), (⟨bE, [bN], e0⟩, some ⟨n + 1 + 1 + 1 + 1, 0, none⟩, 1)]
def sumsW (w : World) : World := (((((w.alloc (.cells #[.slice (some ⟨w.heap.size + 1, 0, none⟩) 3 3, .string e0, .int .i64 0, .slice (some ⟨w.heap.size + 1 + 1 + 1 + 1 + 1, 0, none⟩) 3 3] 25)).alloc (.cells (tokC sumsG.ts).toArray 35)).alloc (.cells (strC [bE, bP, bE]).toArray 9)).alloc (.cells (strC [bE, bM, bE]).toArray 9)).alloc (.cells (strC [bN]).toArray 9)).alloc (.cells (rulC (sumsQ w.heap.size)).toArray 39)

theorem sums_own (w : World) : OwnG (sumsW w) w.heap.size (sumsH w.heap.size) sumsG (sumsQ w.heap.size) ∧ Below w.heap.size w (sumsW w) := by
  unfold sumsW
  generalize hw0 : w.alloc (.cells #[.slice (some ⟨w.heap.size + 1, 0, none⟩) 3 3, .string e0, .int .i64 0, .slice (some ⟨w.heap.size + 1 + 1 + 1 + 1 + 1, 0, none⟩) 3 3] 25) = w0
  have s0 : w0.heap.size = w.heap.size + 1 := by rw [← hw0]; exact size_alloc1 _ _
  have b0 : Below w.heap.size w w0 := by rw [← hw0]; exact below_alloc _ _
  generalize hw1 : w0.alloc (.cells (tokC sumsG.ts).toArray 35) = w1
  have s1 : w1.heap.size = w.heap.size + 1 + 1 := by rw [← hw1, size_alloc1, s0]
  have b1 : Below w0.heap.size w0 w1 := by rw [← hw1]; exact below_alloc _ _
  have o1 : w1.ownsRow w.heap.size 35 3 (.slice (some ⟨w.heap.size + 1, 0, none⟩) 3 3) 3 (tokC sumsG.ts) := by
    rw [← hw1, ← s0]
    exact own_new w0 _ 35 3 3 _ (by omega) rfl (by omega)
  generalize hw2 : w1.alloc (.cells (strC [bE, bP, bE]).toArray 9) = w2
  have s2 : w2.heap.size = w.heap.size + 1 + 1 + 1 := by rw [← hw2, size_alloc1, s1]
  have b2 : Below w1.heap.size w1 w2 := by rw [← hw2]; exact below_alloc _ _
  have r2 : OwnS w2 w.heap.size (.slice (some ⟨w.heap.size + 1 + 1, 0, none⟩) 3 3) [bE, bP, bE] := by
    rw [← hw2, ← s1]
    exact own_new w1 _ 9 1 3 (strC [bE, bP, bE]) (by omega) rfl (by omega)
  generalize hw3 : w2.alloc (.cells (strC [bE, bM, bE]).toArray 9) = w3
  have s3 : w3.heap.size = w.heap.size + 1 + 1 + 1 + 1 := by rw [← hw3, size_alloc1, s2]
  have b3 : Below w2.heap.size w2 w3 := by rw [← hw3]; exact below_alloc _ _
  have r3 : OwnS w3 w.heap.size (.slice (some ⟨w.heap.size + 1 + 1 + 1, 0, none⟩) 3 3) [bE, bM, bE] := by
    rw [← hw3, ← s2]
    exact own_new w2 _ 9 1 3 (strC [bE, bM, bE]) (by omega) rfl (by omega)
  generalize hw4 : w3.alloc (.cells (strC [bN]).toArray 9) = w4
  have s4 : w4.heap.size = w.heap.size + 1 + 1 + 1 + 1 + 1 := by rw [← hw4, size_alloc1, s3]
  have b4 : Below w3.heap.size w3 w4 := by rw [← hw4]; exact below_alloc _ _
  have r4 : OwnS w4 w.heap.size (.slice (some ⟨w.heap.size + 1 + 1 + 1 + 1, 0, none⟩) 1 1) [bN] := by
    rw [← hw4, ← s3]
    exact own_new w3 _ 9 1 1 (strC [bN]) (by omega) rfl (by omega)
  have o5 : (w4.alloc (.cells (rulC (sumsQ w.heap.size)).toArray 39)).ownsRow w.heap.size 39 3 (.slice (some ⟨w.heap.size + 1 + 1 + 1 + 1 + 1, 0, none⟩) 3 3) 3 (rulC (sumsQ w.heap.size)) := by
    have := own_new w4 w.heap.size 39 3 3 (rulC (sumsQ w.heap.size)) (by omega) rfl (by omega)
    rwa [s4] at this
  have b5 : Below w4.heap.size w4 (w4.alloc (.cells (rulC (sumsQ w.heap.size)).toArray 39)) := below_alloc _ _
  generalize w4.alloc (.cells (rulC (sumsQ w.heap.size)).toArray 39) = w5 at o5 b5 ⊢
  have b14 : Below w1.heap.size w1 w5 := below_step (below_step (below_step b2 b3) b4) b5
  refine ⟨⟨ownsRow_of_block o1 (fun i hi => b14.block i (World.ownsRow.lt o1 i hi).2), o5, rfl, ?_⟩, below_step b0 (below_step b1 b14)⟩
  intro q hq
  simp only [sumsQ, List.mem_cons, List.not_mem_nil, or_false] at hq
  rcases hq with rfl | rfl | rfl
  · exact ((r2.below b3).below b4).below b5
  · exact (r3.below b4).below b5
  · exact r4.below b5

set_option maxHeartbeats 2000000 in
set_option maxRecDepth 20000 in
theorem sums_calls (w : World) : Calls Tryd.prog 16 #[] w fun e w' => ∃ h qs, e = .returned (gv h sumsG) ∧ OwnG w' w.heap.size h sumsG qs ∧ Below w.heap.size w w' := by
  have HS : Hid (OwnG (sumsW w) w.heap.size (sumsH w.heap.size) sumsG (sumsQ w.heap.size) ∧ Below w.heap.size w (sumsW w)) := sums_own w
  go_enter Tryd.func16, Tryd.ntmps16
  go_wp2
  refine bodyPost_ret (v := gv (sumsH w.heap.size) sumsG) (by simp [results, Tryd.results16, go_sem, gv, sumsH, sumsG, e0]) rfl ?_
  exact ⟨_, _, rfl, HS.out⟩

/-- A store into owned cells. -/
theorem own_set {w : World} {base E k g n cap j : Nat} {cs : List Value} {u : Value} (h : w.ownsRow base E k (.slice (some ⟨g, 0, none⟩) n cap) n cs) :
    (w.setCell ⟨g, j, none⟩ u).ownsRow base E k (.slice (some ⟨g, 0, none⟩) n cap) n (cs.set j u) := by
  refine ⟨by rw [List.length_set]; exact h.1, ?_⟩
  rcases h.2 with ⟨hv, -⟩ | ⟨g', cap', cur, hv, hb, hh, hn, hm, hs, ht⟩
  · cases hv
  · cases hv
    refine .inr ⟨g, cap, cur.setIfInBounds j u, rfl, hb, ?_, hn, hm, by simp [hs], ?_⟩
    · rw [setCell_eq_setRow w g j cur E (0, 0) _ hh]
      exact setRow_heap w g cur _ E _ hh
    · rw [Array.toList_setIfInBounds, List.take_set, ht]

theorem own_type {w : World} {base base' E E' k k' n n' : Nat} {v v' : Value} {cs cs' : List Value} (h : w.ownsRow base E k v n cs) (h' : w.ownsRow base' E' k' v' n' cs') (hE : E ≠ E') {g : Nat} (hg : v.ownBlock = some g) : v'.ownBlock ≠ some g := by
  intro hg'
  rcases h.2 with ⟨rfl, -⟩ | ⟨a, c, cur, rfl, -, hh, -⟩
  · cases hg
  · rcases h'.2 with ⟨rfl, -⟩ | ⟨a', c', cur', rfl, -, hh', -⟩
    · cases hg'
    · simp only [Value.ownBlock, Option.some.injEq] at hg hg'
      subst hg
      subst hg'
      rw [hh] at hh'
      simp only [Option.some.injEq, Obj.cells.injEq] at hh'
      exact hE hh'.2.1

theorem own_cell {w : World} {base E k g n cap j : Nat} {cs : List Value} {u : Value} (h : w.ownsRow base E k (.slice (some ⟨g, 0, none⟩) n cap) n cs) (hj : cs[j]? = some u) : w.cell? ⟨g, j, none⟩ = some u ∧ w.frozen? ⟨g, j, none⟩ = false := by
  have := World.ownsRow.cells h (g := g) rfl j u hj
  rw [Addr.add_lit, Nat.zero_add] at this
  refine ⟨this, ?_⟩
  rcases h.2 with ⟨hv, -⟩ | ⟨g', cap', cur, hv, hb, hh, -⟩
  · cases hv
  · cases hv
    exact frozen_block hh j

theorem three_set {α : Type} (f : α → List Value) (hf : ∀ x, (f x).length = 3) (y : α) (j : Nat) (u : Value) : ∀ (l : List α) (i : Nat) (x : α), l[i]? = some x → j < 3 → (f x).set j u = f y → (l.flatMap f).set (i * 3 + j) u = (l.set i y).flatMap f
  | [], i, x, h, _, _ => by cases h
  | z :: r, 0, x, h, hj, he => by
    cases h
    rw [List.set_cons_zero, List.flatMap_cons, List.flatMap_cons, Nat.zero_mul, Nat.zero_add, List.set_append_left _ _ (by rw [hf]; exact hj), he]
  | z :: r, i + 1, x, h, hj, he => by
    rw [List.set_cons_succ, List.flatMap_cons, List.flatMap_cons, List.set_append_right _ _ (by rw [hf]; omega), hf, show (i + 1) * 3 + j - 3 = i * 3 + j by omega]
    rw [three_set f hf y j u r i x h hj he]

/-- A rule of a grammar that the call owns is turned. -/
theorem OwnG.setRule {w : World} {base g : Nat} {h : Hd} {G : Gm} {qs : List (Ru × Option Addr × Nat)} (o : OwnG w base h G qs) (hra : h.ra = some ⟨g, 0, none⟩) {i j : Nat} {q : Ru × Option Addr × Nat} (hq : qs[i]? = some q) (hj : j < 3) (r' : Ru) (u : Value)
    (hr : r'.r = q.1.r) (hc : ([.string q.1.l, .slice q.2.1 q.1.r.length q.2.2, .string q.1.p] : List Value).set j u = [.string r'.l, .slice q.2.1 r'.r.length q.2.2, .string r'.p]) :
    OwnG (w.setCell ⟨g, i * 3 + j, none⟩ u) base h ⟨G.ts, G.s, G.e, G.rs.set i r'⟩ (qs.set i (r', q.2)) := by
  have hrul := o.rul
  rw [hra] at hrul
  refine ⟨?_, ?_, ?_, ?_⟩
  · refine ownsRow_of_block o.tok (fun b hb => Below.heap_setCell _ _ _ _ (fun e => ?_))
    simp only at e
    subst e
    exact own_type hrul o.tok (by decide) (g := b) rfl hb
  · have h1 := own_set (u := u) (j := i * 3 + j) hrul
    have h2 : (rulC qs).set (i * 3 + j) u = rulC (qs.set i (r', q.2)) := three_set _ (fun _ => rfl) (r', q.2) j u qs i q hq hj hc
    rw [h2] at h1
    simp only [List.length_set]
    rw [hra]
    exact h1
  · simp only
    rw [List.map_set, o.map]
  · intro q' hq'
    have hrow : OwnS w base (.slice q'.2.1 q'.1.r.length q'.2.2) q'.1.r := by
      rcases List.mem_or_eq_of_mem_set hq' with h1 | h1
      · exact o.row q' h1
      · subst h1
        simp only
        rw [hr]
        exact o.row q (List.mem_of_getElem? hq)
    refine ownsRow_of_block hrow (fun b hb => Below.heap_setCell _ _ _ _ (fun e => ?_))
    simp only at e
    subst e
    exact own_type hrul hrow (by decide) (g := b) rfl hb

/-- A token of a grammar that the call owns gets another name. -/
theorem OwnG.setTok {w : World} {base g : Nat} {h : Hd} {G : Gm} {qs : List (Ru × Option Addr × Nat)} (o : OwnG w base h G qs) (hta : h.ta = some ⟨g, 0, none⟩) {i : Nat} {t : Tk} (ht : G.ts[i]? = some t) (s : ByteArray) :
    OwnG (w.setCell ⟨g, i * 3, none⟩ (.string s)) base h ⟨G.ts.set i ⟨s, t.l, t.a⟩, G.s, G.e, G.rs⟩ qs := by
  have htok := o.tok
  rw [hta] at htok
  refine ⟨?_, ?_, o.map, ?_⟩
  · have h1 := own_set (u := .string s) (j := i * 3) htok
    have h2 : (tokC G.ts).set (i * 3 + 0) (.string s) = tokC (G.ts.set i ⟨s, t.l, t.a⟩) := three_set _ (fun _ => rfl) (⟨s, t.l, t.a⟩ : Tk) 0 (.string s) G.ts i t ht (by omega) rfl
    rw [Nat.add_zero] at h2
    rw [h2] at h1
    simp only [List.length_set]
    rw [hta]
    exact h1
  · refine ownsRow_of_block o.rul (fun b hb => Below.heap_setCell _ _ _ _ (fun e => ?_))
    simp only at e
    subst e
    exact own_type htok o.rul (by decide) (g := b) rfl hb
  · intro q' hq'
    refine ownsRow_of_block (o.row q' hq') (fun b hb => Below.heap_setCell _ _ _ _ (fun e => ?_))
    simp only at e
    subst e
    exact own_type htok (o.row q' hq') (by decide) (g := b) rfl hb

end Go.Proofs.YtdgadamkiililaaDoor
