/-
  Grammars in memory, as they are read; what stays as it was over a call that only lays new blocks; a region that draws its order and holds such calls.
-/
import Derived.Test.YtdgadamkiililaaDoorGm
import Derived.Shelf.SlSortCmp.QuietGrown
import Derived.Lib.SliceRun
import Derived.BigQuiet
namespace Go.Proofs.YtdgadamkiililaaDoor
open Go.RowKit Go.Sort

theorem mixed : Tryd.prog.follows .mixedOrders = true := by kernel_rfl

theorem cell_below {w w' : World} {a : Addr} {v : Value} (hb : Below w.heap.size w w') (h : w.cell? a = some v) : w'.cell? a = some v := by
  have hl := World.block_lt_of_cell? w a h
  rw [← h]
  unfold World.cell?
  rw [hb.block _ hl]

/-- The world w with so many draws in all and these blocks behind its own. -/
def onto (w : World) (n : Nat) (os : Array Obj) : World := grow { w with drawn := n } os

theorem onto_below (w : World) (n : Nat) (os : Array Obj) : Below w.heap.size w (onto w n os) := by
  refine ⟨rfl, rfl, rfl, by simp [onto, grow], fun k hk => ?_⟩
  unfold onto grow
  simp only [Array.getElem?_append]
  rw [if_pos hk]

theorem onto_size (w : World) (n : Nat) (os : Array Obj) : w.heap.size ≤ (onto w n os).heap.size := (onto_below w n os).size

theorem onto_of_below {w w' : World} (h : Below w.heap.size w w') : ∃ n os, w' = onto w n os := by
  refine ⟨w'.drawn, w'.heap.extract w.heap.size w'.heap.size, ?_⟩
  obtain ⟨hp, tp, dr, o, ou⟩ := w'
  obtain ⟨h1, h2, h3, h4, h5⟩ := h
  simp only at h1 h2 h3 h4 h5
  unfold onto grow
  simp only [h1, h2, h3]
  congr 1
  apply Array.ext_getElem?
  intro i
  rw [Array.getElem?_append]
  split
  · rename_i hi; exact h5 i hi
  · rename_i hi
    rw [Array.getElem?_extract]
    split
    · congr 1; omega
    · rename_i hk
      rw [Array.getElem?_eq_none (by omega)]

theorem cell_onto {w : World} {a : Addr} {v : Value} (h : w.cell? a = some v) (n : Nat) (os : Array Obj) : (onto w n os).cell? a = some v := cell_below (onto_below w n os) h

theorem wp_region_onto {id : Nat} {Q : Exit → Act → World → Prop} {a : Act} {w : World} {l : List Oper} (hB : Region.lexB .any l.toArray = true)
    (h : wpQuiet Tryd.prog l.toArray (fun w' => ∃ p : GrownBy, w' = onto w p.n p.os) (fun a' => ∀ w', (∃ p : GrownBy, w' = onto w p.n p.os) → Q .normal a' w') l a) : (Code.region id l.toArray true).wp Tryd.prog Q a w :=
  wp_region_quiet (C := fun w' => ∃ p : GrownBy, w' = onto w p.n p.os) mixed hB ⟨⟨w.drawn + 1, #[]⟩, by unfold onto; rw [grow_empty]⟩ (by simpa using h)

theorem calls_onto {f : FuncId} {args : Array Value} {w : World} {n : Nat} {os : Array Obj} {v : Value}
    (h : Calls Tryd.prog f args (onto w n os) fun e w' => e = .returned v ∧ Below (onto w n os).heap.size (onto w n os) w') : Calls Tryd.prog f args (onto w n os) fun e w'' => e = .returned v ∧ ∃ p : GrownBy, w'' = onto w p.n p.os :=
  h.mono fun _ _ ⟨he, hb⟩ => ⟨he, by
    obtain ⟨m, os', rfl⟩ := onto_of_below (below_step (onto_below w n os) hb)
    exact ⟨⟨m, os'⟩, rfl⟩⟩

theorem calls_onto_same {f : FuncId} {args : Array Value} {w : World} {n : Nat} {os : Array Obj} {v : Value}
    (h : Calls Tryd.prog f args (onto w n os) fun e w' => e = .returned v ∧ w' = onto w n os) : Calls Tryd.prog f args (onto w n os) fun e w'' => e = .returned v ∧ ∃ p : GrownBy, w'' = onto w p.n p.os :=
  h.mono fun _ _ ⟨he, hb⟩ => ⟨he, ⟨n, os⟩, hb⟩

/-- Cells that a slice shows (k cells an element). -/
structure Row (w : World) (k : Nat) (ao : Option Addr) (n cap : Nat) (cs : List Value) : Prop where
  len : cs.length = n * k
  le : n ≤ cap
  max : cap ≤ maxLen
  lies : (ao = none ∧ n = 0 ∧ cap = 0) ∨ ∃ b o, ao = some ⟨b, o, none⟩ ∧ ∀ (j : Nat) (u : Value), cs[j]? = some u → w.cell? ⟨b, o + j, none⟩ = some u

theorem Row.below {w w' : World} {k : Nat} {ao : Option Addr} {n cap : Nat} {cs : List Value} (h : Row w k ao n cap cs) (hb : Below w.heap.size w w') : Row w' k ao n cap cs :=
  ⟨h.len, h.le, h.max, h.lies.imp id fun ⟨b, o, he, hc⟩ => ⟨b, o, he, fun j u hu => cell_below hb (hc j u hu)⟩⟩

theorem Row.at {w : World} {k : Nat} {ao : Option Addr} {n cap : Nat} {cs : List Value} (h : Row w k ao n cap cs) (hn : 0 < n) : ∃ b o, ao = some ⟨b, o, none⟩ ∧ ∀ (j : Nat) (u : Value), cs[j]? = some u → w.cell? ⟨b, o + j, none⟩ = some u := by
  rcases h.lies with ⟨-, h0, -⟩ | h
  · omega
  · exact h

theorem Row.take {w : World} {k : Nat} {ao : Option Addr} {n cap : Nat} {cs : List Value} (h : Row w k ao n cap cs) (i : Nat) (hi : i ≤ n) : Row w k ao i cap (cs.take (i * k)) := by
  have hm : i * k ≤ n * k := Nat.mul_le_mul_right k hi
  refine ⟨by rw [List.length_take, h.len]; omega, by have := h.le; omega, h.max, ?_⟩
  rcases h.lies with ⟨h1, h2, h3⟩ | ⟨b, o, he, hc⟩
  · exact .inl ⟨h1, by omega, h3⟩
  · refine .inr ⟨b, o, he, fun j u hu => hc j u ?_⟩
    rw [List.getElem?_take] at hu
    split at hu
    · exact hu
    · cases hu

theorem Row.of_own {w : World} {base E k n : Nat} {ao : Option Addr} {cap : Nat} {cs : List Value} (h : w.ownsRow base E k (.slice ao n cap) n cs) : Row w k ao n cap cs := by
  obtain ⟨a1, c1, e, h1, h2, h3⟩ := own_slice h
  cases e
  refine ⟨h.1, h1, h2, ?_⟩
  rcases h3 with h3 | ⟨g, rfl⟩
  · exact .inl h3
  · refine .inr ⟨g, 0, rfl, fun j u hu => ?_⟩
    have := World.ownsRow.cells h (g := g) rfl j u hu
    rwa [Addr.add_lit] at this

/-- Texts, tokens, rules as cells. -/
def strC (l : List ByteArray) : List Value := l.map Value.string
def tokC (ts : List Tk) : List Value := ts.flatMap fun t => [.string t.n, .int .i64 t.l, .int .i64 t.a]
def rulC (qs : List (Ru × Option Addr × Nat)) : List Value := qs.flatMap fun q => [.string q.1.l, .slice q.2.1 q.1.r.length q.2.2, .string q.1.p]

theorem three_at {α : Type} (f : α → List Value) (hf : ∀ x, (f x).length = 3) : ∀ (l : List α) (i : Nat) (x : α) (j : Nat), l[i]? = some x → j < 3 → (l.flatMap f)[i * 3 + j]? = (f x)[j]?
  | [], i, x, j, h, _ => by cases h
  | y :: r, 0, x, j, h, hj => by
    cases h
    rw [List.flatMap_cons, List.getElem?_append_left (by rw [hf]; omega)]
    rw [Nat.zero_mul, Nat.zero_add]
  | y :: r, i + 1, x, j, h, hj => by
    rw [List.flatMap_cons, List.getElem?_append_right (by rw [hf]; omega), hf]
    rw [show (i + 1) * 3 + j - 3 = i * 3 + j by omega]
    exact three_at f hf r i x j h hj

theorem three_length {α : Type} (f : α → List Value) (hf : ∀ x, (f x).length = 3) : ∀ (l : List α), (l.flatMap f).length = l.length * 3
  | [] => rfl
  | y :: r => by rw [List.flatMap_cons, List.length_append, hf, three_length f hf r, List.length_cons]; omega

theorem three_take {α : Type} (f : α → List Value) (hf : ∀ x, (f x).length = 3) (l : List α) (i : Nat) : (l.flatMap f).take (i * 3) = (l.take i).flatMap f := by
  induction i generalizing l with
  | zero => simp
  | succ i ih =>
    cases l with
    | nil => simp
    | cons y r =>
      rw [List.take_succ_cons, List.flatMap_cons, List.flatMap_cons, List.take_append, hf, List.take_of_length_le (by rw [hf]; omega), show (i + 1) * 3 - 3 = i * 3 by omega, ih]

/-- A token that is read. -/
theorem tok_at {w : World} {ao : Option Addr} {n cap : Nat} {ts : List Tk} (h : Row w 3 ao n cap (tokC ts)) {i : Nat} {t : Tk} (ht : ts[i]? = some t) :
    ∃ b o, ao = some ⟨b, o, none⟩ ∧ w.cell? ⟨b, o + i * 3, none⟩ = some (.string t.n) ∧ w.cell? ⟨b, o + i * 3 + 1, none⟩ = some (.int .i64 t.l) ∧ w.cell? ⟨b, o + i * 3 + 2, none⟩ = some (.int .i64 t.a) := by
  have hl := h.len
  unfold tokC at hl
  rw [three_length _ (fun _ => rfl)] at hl
  have hi : i < ts.length := (List.getElem?_eq_some_iff.1 ht).1
  obtain ⟨b, o, he, hc⟩ := h.at (by omega)
  refine ⟨b, o, he, ?_, ?_, ?_⟩
  · exact hc (i * 3 + 0) _ (by unfold tokC; rw [three_at _ (fun _ => rfl) ts i t 0 ht (by omega)]; rfl)
  · exact hc (i * 3 + 1) _ (by unfold tokC; rw [three_at _ (fun _ => rfl) ts i t 1 ht (by omega)]; rfl)
  · exact hc (i * 3 + 2) _ (by unfold tokC; rw [three_at _ (fun _ => rfl) ts i t 2 ht (by omega)]; rfl)

theorem rul_at {w : World} {ao : Option Addr} {n cap : Nat} {qs : List (Ru × Option Addr × Nat)} (h : Row w 3 ao n cap (rulC qs)) {i : Nat} {q : Ru × Option Addr × Nat} (ht : qs[i]? = some q) :
    ∃ b o, ao = some ⟨b, o, none⟩ ∧ w.cell? ⟨b, o + i * 3, none⟩ = some (.string q.1.l) ∧ w.cell? ⟨b, o + i * 3 + 1, none⟩ = some (.slice q.2.1 q.1.r.length q.2.2) ∧ w.cell? ⟨b, o + i * 3 + 2, none⟩ = some (.string q.1.p) := by
  have hl := h.len
  unfold rulC at hl
  rw [three_length _ (fun _ => rfl)] at hl
  have hi : i < qs.length := (List.getElem?_eq_some_iff.1 ht).1
  obtain ⟨b, o, he, hc⟩ := h.at (by omega)
  refine ⟨b, o, he, ?_, ?_, ?_⟩
  · exact hc (i * 3 + 0) _ (by unfold rulC; rw [three_at _ (fun _ => rfl) qs i q 0 ht (by omega)]; rfl)
  · exact hc (i * 3 + 1) _ (by unfold rulC; rw [three_at _ (fun _ => rfl) qs i q 1 ht (by omega)]; rfl)
  · exact hc (i * 3 + 2) _ (by unfold rulC; rw [three_at _ (fun _ => rfl) qs i q 2 ht (by omega)]; rfl)

theorem str_at {w : World} {ao : Option Addr} {n cap : Nat} {l : List ByteArray} (h : Row w 1 ao n cap (strC l)) {i : Nat} {s : ByteArray} (ht : l[i]? = some s) :
    ∃ b o, ao = some ⟨b, o, none⟩ ∧ w.cell? ⟨b, o + i, none⟩ = some (.string s) := by
  have hl := h.len
  unfold strC at hl
  rw [List.length_map] at hl
  have hi : i < l.length := (List.getElem?_eq_some_iff.1 ht).1
  obtain ⟨b, o, he, hc⟩ := h.at (by omega)
  exact ⟨b, o, he, hc i _ (by unfold strC; rw [List.getElem?_map, ht]; rfl)⟩

theorem tok_take {w : World} {ao : Option Addr} {n cap : Nat} {ts : List Tk} (h : Row w 3 ao n cap (tokC ts)) (i : Nat) (hi : i ≤ n) : Row w 3 ao i cap (tokC (ts.take i)) := by
  have := h.take i hi
  unfold tokC at this ⊢
  rwa [three_take _ (fun _ => rfl)] at this

/-- Rules in memory: each with the slice of its symbols. -/
def RulesAt (w : World) (ao : Option Addr) (n cap : Nat) (rs : List Ru) : Prop :=
  ∃ qs : List (Ru × Option Addr × Nat), qs.map (·.1) = rs ∧ Row w 3 ao n cap (rulC qs) ∧ ∀ q ∈ qs, Row w 1 q.2.1 q.1.r.length q.2.2 (strC q.1.r)

theorem RulesAt.below {w w' : World} {ao : Option Addr} {n cap : Nat} {rs : List Ru} (h : RulesAt w ao n cap rs) (hb : Below w.heap.size w w') : RulesAt w' ao n cap rs := by
  obtain ⟨qs, h1, h2, h3⟩ := h
  exact ⟨qs, h1, h2.below hb, fun q hq => (h3 q hq).below hb⟩

theorem RulesAt.at {w : World} {ao : Option Addr} {n cap : Nat} {rs : List Ru} (h : RulesAt w ao n cap rs) {i : Nat} {r : Ru} (hr : rs[i]? = some r) :
    ∃ b o xa xc, ao = some ⟨b, o, none⟩ ∧ w.cell? ⟨b, o + i * 3, none⟩ = some (.string r.l) ∧ w.cell? ⟨b, o + i * 3 + 1, none⟩ = some (.slice xa r.r.length xc) ∧ w.cell? ⟨b, o + i * 3 + 2, none⟩ = some (.string r.p) ∧ Row w 1 xa r.r.length xc (strC r.r) := by
  obtain ⟨qs, rfl, h2, h3⟩ := h
  rw [List.getElem?_map] at hr
  obtain ⟨q, hq, rfl⟩ := Option.map_eq_some_iff.1 hr
  obtain ⟨b, o, he, c0, c1, c2⟩ := rul_at h2 hq
  exact ⟨b, o, q.2.1, q.2.2, he, c0, c1, c2, h3 q (List.mem_of_getElem? hq)⟩

/-- Where a grammar's lists lie. -/
structure Hd where
  ta : Option Addr
  tc : Nat
  ra : Option Addr
  rc : Nat

def gv (h : Hd) (G : Gm) : Value := .agg #[.slice h.ta G.ts.length h.tc, .string G.s, .int .i64 G.e, .slice h.ra G.rs.length h.rc]

structure IsG (w : World) (h : Hd) (G : Gm) : Prop where
  tok : Row w 3 h.ta G.ts.length h.tc (tokC G.ts)
  rul : RulesAt w h.ra G.rs.length h.rc G.rs
  small : Small G

theorem IsG.below {w w' : World} {h : Hd} {G : Gm} (g : IsG w h G) (hb : Below w.heap.size w w') : IsG w' h G := ⟨g.tok.below hb, g.rul.below hb, g.small⟩

end Go.Proofs.YtdgadamkiililaaDoor
