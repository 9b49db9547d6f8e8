/-
  What the walks of this seat lean on: what stays as it was over a call that writes into some blocks alone, a set in memory, slices that read as lists.
-/
import Derived.Test.YtdgdaldgchbbaaaRows
import Derived.Test.YtdgdaldgchbbaaaOrd
import Derived.WalkKit
import Derived.WalkSpells
import Derived.WalkLawsBesides
import Derived.Lib.SliceRun
import Derived.Laws.IdiomCopy
namespace Go.Proofs.Ytdgdaldgchbbaaa
open Go.RowKit

theorem Try.info3 : (Try.prog.info? 3).map (fun i => (i.zero, i.size, i.bytes)) = some (some (.int .i64 0), 1, 8) := by kernel_rfl

/-- But for the blocks of S all that was there is as it was. -/
structure Kept (S : Nat → Prop) (w w' : World) : Prop where
  os : w'.os = w.os
  tape : w'.tape = w.tape
  output : w'.output = w.output
  size : w.heap.size ≤ w'.heap.size
  block : ∀ k, k < w.heap.size → ¬ S k → w'.heap[k]? = w.heap[k]?

theorem Kept.refl (S : Nat → Prop) (w : World) : Kept S w w := ⟨rfl, rfl, rfl, Nat.le_refl _, fun _ _ _ => rfl⟩

theorem Kept.trans {S T : Nat → Prop} {a b c : World} (h : Kept S a b) (k : Kept T b c) (hT : ∀ i, i < a.heap.size → T i → S i) : Kept S a c :=
  ⟨k.os.trans h.os, k.tape.trans h.tape, k.output.trans h.output, Nat.le_trans h.size k.size,
    fun i hi hs => (k.block i (Nat.lt_of_lt_of_le hi h.size) (fun ht => hs (hT i hi ht))).trans (h.block i hi hs)⟩

theorem Kept.mono {S T : Nat → Prop} {a b : World} (h : Kept S a b) (hT : ∀ i, i < a.heap.size → S i → T i) : Kept T a b :=
  ⟨h.os, h.tape, h.output, h.size, fun i hi hs => h.block i hi (fun ht => hs (hT i hi ht))⟩

theorem kept_of_below {S : Nat → Prop} {w w' : World} (h : Below w.heap.size w w') : Kept S w w' := ⟨h.os, h.tape, h.output, h.size, fun k hk _ => h.block k hk⟩

theorem Kept.below {S : Nat → Prop} {w w' : World} (h : Kept S w w') {B : Nat} (hB : B ≤ w.heap.size) (hS : ∀ k, k < B → ¬ S k) : Below B w w' :=
  ⟨h.os, h.tape, h.output, h.size, fun k hk => h.block k (by omega) (hS k hk)⟩

theorem Kept.alloc {S : Nat → Prop} {a w : World} (h : Kept S a w) (o : Obj) : Kept S a (w.alloc o) :=
  h.trans (T := fun _ => False) ⟨rfl, rfl, rfl, by simp, fun k hk _ => Below.heap_alloc _ _ _ hk⟩ (fun _ _ f => f.elim)

theorem Kept.drewN {S : Nat → Prop} {a w : World} (h : Kept S a w) (n : Nat) : Kept S a (w.drewN n) := ⟨h.os, h.tape, h.output, h.size, h.block⟩
theorem Kept.drew {S : Nat → Prop} {a w : World} (h : Kept S a w) : Kept S a w.drew := ⟨h.os, h.tape, h.output, h.size, h.block⟩

theorem Kept.setCell {S : Nat → Prop} {a w : World} (h : Kept S a w) (p : Addr) (u : Value) (hp : p.block < a.heap.size → S p.block) : Kept S a (w.setCell p u) :=
  h.trans (T := fun k => k = p.block) ⟨rfl, rfl, rfl, by simp [World.setCell], fun k _ hne => Below.heap_setCell _ _ _ _ hne⟩ (fun i hi e => by subst e; exact hp hi)

theorem Kept.setCells {S : Nat → Prop} {a : World} (b : Nat) (hp : b < a.heap.size → S b) : ∀ (vs : List Value) (o : Nat) {w : World}, Kept S a w → Kept S a (w.setCells b o vs)
  | [], _, _, h => h
  | v :: r, o, _, h => Kept.setCells b hp r (o + 1) (h.setCell ⟨b, o, none⟩ v hp)

theorem Kept.grown {S : Nat → Prop} {a w w' : World} {row : Option Nat} (h : Kept S a w) (hg : w.grownBy w' row) (hr : ∀ k, row = some k → k < a.heap.size → S k) : Kept S a w' :=
  h.trans (T := fun k => some k = row) ⟨hg.os, hg.tape, hg.output, hg.size, fun k hk hne => hg.block k hk hne⟩ (fun i hi e => hr i e.symm hi)

/-- A block under writes of whole cells. -/
theorem heap_setCells (b : Nat) : ∀ (vs : List Value) (o : Nat) (w : World) (cur : Array Value) (t : TypeId) (z : Nat × Nat), w.heap[b]? = some (.cells cur t z) →
    ∃ cur', (w.setCells b o vs).heap[b]? = some (.cells cur' t z) ∧ cur'.size = cur.size
  | [], _, _, cur, _, _, h => ⟨cur, h, rfl⟩
  | v :: r, o, w, cur, t, z, h => by
    have h1 : (w.setCell ⟨b, o, none⟩ v).heap[b]? = some (.cells (cur.setIfInBounds o v) t z) := by
      rw [setCell_eq_setRow w b o cur t z _ h]
      exact setRow_heap w b _ _ t _ h
    obtain ⟨cur', h2, h3⟩ := heap_setCells b r (o + 1) _ _ _ _ h1
    exact ⟨cur', h2, by rw [h3]; simp⟩

/-- Owned cells, told by what is read. -/
theorem own_of_cells {w : World} {base g cap n k : Nat} {E : TypeId} {cs : List Value} (cur : Array Value) (hb : base ≤ g) (hh : w.heap[g]? = some (.cells cur E (0, 0))) (hn : n ≤ cap) (hm : cap ≤ maxLen) (hs : cur.size = cap * k)
    (hl : cs.length = n * k) (hc : ∀ j u, cs[j]? = some u → w.cell? ⟨g, j, none⟩ = some u) : w.ownsRow base E k (.slice (some ⟨g, 0, none⟩) n cap) n cs := by
  refine ⟨hl, .inr ⟨g, cap, cur, rfl, hb, hh, hn, hm, hs, ?_⟩⟩
  have hle : n * k ≤ cap * k := Nat.mul_le_mul_right _ hn
  apply List.ext_getElem
  · rw [List.length_take, Array.length_toList, hs, hl]; omega
  · intro i h1 h2
    have := hc i cs[i] (List.getElem?_eq_getElem h2)
    simp [World.cell?, hh] at this
    rw [List.getElem_take, Array.getElem_toList]
    exact (Array.getElem?_eq_some_iff.1 this).2

/-- A set: its order and its members' slice. -/
structure IsSet (w : World) (ST E : TypeId) (k p : Nat) (fv v : Value) (n : Nat) (cs : List Value) : Prop where
  head : w.heap[p]? = some (.cells #[fv, v] ST (0, 0))
  own : w.ownsRow 0 E k v n cs
  apart : v.ownBlock ≠ some p

/-- The blocks of a set. -/
def Foot (p : Nat) (v : Value) (i : Nat) : Prop := i = p ∨ v.ownBlock = some i

theorem ownsRow_of_block {w w' : World} {base : Nat} {E : TypeId} {k : Nat} {v : Value} {n : Nat} {cs : List Value} (h : w.ownsRow base E k v n cs) (hb : ∀ i, v.ownBlock = some i → w'.heap[i]? = w.heap[i]?) : w'.ownsRow base E k v n cs := by
  refine ⟨h.1, ?_⟩
  rcases h.2 with hn | ⟨g, cap, cur, rfl, hg, hh, r⟩
  · exact .inl hn
  · exact .inr ⟨g, cap, cur, rfl, hg, by rw [hb g rfl]; exact hh, r⟩

theorem ownsRow_base {w : World} {base base' : Nat} {E : TypeId} {k : Nat} {v : Value} {n : Nat} {cs : List Value} (h : w.ownsRow base E k v n cs) (hb : ∀ i, v.ownBlock = some i → base' ≤ i) : w.ownsRow base' E k v n cs := by
  refine ⟨h.1, ?_⟩
  rcases h.2 with hn | ⟨g, cap, cur, rfl, hg, hh, r⟩
  · exact .inl hn
  · exact .inr ⟨g, cap, cur, rfl, hb g rfl, hh, r⟩

theorem IsSet.lt {w : World} {ST E : TypeId} {k p : Nat} {fv v : Value} {n : Nat} {cs : List Value} (h : IsSet w ST E k p fv v n cs) : ∀ i, Foot p v i → i < w.heap.size := by
  rintro i (rfl | hi)
  · exact (Array.getElem?_eq_some_iff.1 h.head).1
  · exact (h.own.lt i hi).2

theorem IsSet.kept {w w' : World} {S : Nat → Prop} {ST E : TypeId} {k p : Nat} {fv v : Value} {n : Nat} {cs : List Value} (h : IsSet w ST E k p fv v n cs) (hk : Kept S w w') (hS : ∀ i, Foot p v i → ¬ S i) : IsSet w' ST E k p fv v n cs :=
  ⟨by rw [hk.block p (h.lt p (.inl rfl)) (hS p (.inl rfl))]; exact h.head,
   ownsRow_of_block h.own (fun i hi => hk.block i (h.lt i (.inr hi)) (hS i (.inr hi))), h.apart⟩

theorem IsSet.below {w w' : World} {ST E : TypeId} {k p : Nat} {fv v : Value} {n : Nat} {cs : List Value} (h : IsSet w ST E k p fv v n cs) (hk : Below w.heap.size w w') : IsSet w' ST E k p fv v n cs :=
  h.kept (S := fun _ => False) (kept_of_below hk) (fun _ _ f => f)

theorem IsSet.cell0 {w : World} {ST E : TypeId} {k p : Nat} {fv v : Value} {n : Nat} {cs : List Value} (h : IsSet w ST E k p fv v n cs) : w.cell? ⟨p, 0, none⟩ = some fv := by simp [World.cell?, h.head]
theorem IsSet.cell1 {w : World} {ST E : TypeId} {k p : Nat} {fv v : Value} {n : Nat} {cs : List Value} (h : IsSet w ST E k p fv v n cs) : w.cell? ⟨p, 1, none⟩ = some v := by simp [World.cell?, h.head]
theorem IsSet.frozen {w : World} {ST E : TypeId} {k p : Nat} {fv v : Value} {n : Nat} {cs : List Value} (h : IsSet w ST E k p fv v n cs) (j : Nat) : w.frozen? ⟨p, j, none⟩ = false := by simp [World.frozen?, h.head]

/-- Another slice is laid into the set. -/
theorem IsSet.store {w w1 : World} {ST E : TypeId} {k p : Nat} {fv v v' : Value} {n n' : Nat} {cs cs' : List Value} (h : IsSet w ST E k p fv v n cs) (hp : w1.heap[p]? = w.heap[p]?) (ho : w1.ownsRow 0 E k v' n' cs') (ha : v'.ownBlock ≠ some p) :
    IsSet (w1.setCell ⟨p, 1, none⟩ v') ST E k p fv v' n' cs' := by
  have h1 : w1.heap[p]? = some (.cells #[fv, v] ST (0, 0)) := by rw [hp]; exact h.head
  refine ⟨?_, ownsRow_of_block ho (fun i hi => Below.heap_setCell _ _ _ _ (fun e => by subst e; exact ha hi)), ha⟩
  rw [setCell_eq_setRow w1 p 1 _ ST (0, 0) _ h1]
  exact setRow_heap w1 p _ _ ST _ h1

/-- A slice that reads as a list (an element a cell). -/
structure Seg {α : Type} (enc : α → Value) (d : α) (w : World) (ao : Option Addr) (len cap : Nat) (xs : List α) : Prop where
  size : xs.length = len
  le : len ≤ cap
  max : cap ≤ maxLen
  nil : ao = none → len = 0 ∧ cap = 0
  cell : ∀ a, ao = some a → ∀ j, j < len → w.cell? (a.add j) = some (enc (xs[j]?.getD d))

theorem Seg.at {α : Type} {enc : α → Value} {d : α} {w : World} {ao : Option Addr} {len cap : Nat} {xs : List α} (h : Seg enc d w ao len cap xs) (hp : 0 < len) :
    ∃ b off, ao = some ⟨b, off, none⟩ ∧ b < w.heap.size ∧ ∀ j, j < len → w.cell? ⟨b, off + j, none⟩ = some (enc (xs[j]?.getD d)) := by
  cases ao with
  | none => have := (h.nil rfl).1; omega
  | some a =>
    obtain ⟨b, off, spot⟩ := a
    have hc := h.cell _ rfl 0 hp
    have hspot : spot = none := by simpa [Addr.add] using World.cell?_spot hc
    subst hspot
    refine ⟨b, off, rfl, ?_, fun j hj => by have := h.cell _ rfl j hj; rwa [Addr.add_lit] at this⟩
    have := World.block_lt_of_cell? w _ hc
    simpa [Addr.add] using this

theorem Seg.of_block {α : Type} {enc : α → Value} {d : α} {w w' : World} {ao : Option Addr} {len cap : Nat} {xs : List α} (h : Seg enc d w ao len cap xs) (hb : ∀ a, ao = some a → a.block < w.heap.size → w'.heap[a.block]? = w.heap[a.block]?) : Seg enc d w' ao len cap xs :=
  ⟨h.size, h.le, h.max, h.nil, fun a ha j hj => by
    have hc := h.cell a ha j hj
    have hl := World.block_lt_of_cell? w _ hc
    have he : (a.add j).block = a.block := by unfold Addr.add; split <;> rfl
    rw [he] at hl
    rw [← hc]
    exact World.cell?_of_block (by rw [he]; exact hb a ha hl)⟩

theorem Seg.below {α : Type} {enc : α → Value} {d : α} {w w' : World} {ao : Option Addr} {len cap : Nat} {xs : List α} (h : Seg enc d w ao len cap xs) (hb : Below w.heap.size w w') : Seg enc d w' ao len cap xs :=
  h.of_block (fun a _ hl => hb.block a.block hl)

theorem Seg.kept {α : Type} {enc : α → Value} {d : α} {S : Nat → Prop} {w w' : World} {ao : Option Addr} {len cap : Nat} {xs : List α} (h : Seg enc d w ao len cap xs) (hk : Kept S w w') (hS : ∀ a, ao = some a → ¬ S a.block) : Seg enc d w' ao len cap xs :=
  h.of_block (fun a ha hl => hk.block a.block hl (hS a ha))

theorem Seg.drewN {α : Type} {enc : α → Value} {d : α} {w : World} {ao : Option Addr} {len cap : Nat} {xs : List α} (h : Seg enc d w ao len cap xs) (n : Nat) : Seg enc d (w.drewN n) ao len cap xs := ⟨h.size, h.le, h.max, h.nil, h.cell⟩

theorem Seg.news {α : Type} {enc : α → Value} {d : α} {w : World} {ao : Option Addr} {len cap : Nat} {xs : List α} (h : Seg enc d w ao len cap xs) : ∀ ad, ao = some ad → ∀ j u, (xs.map enc)[j]? = some u → w.cell? (ad.add j) = some u := by
  intro ad ha j u hu
  have hj : j < xs.length := by
    rcases Nat.lt_or_ge j xs.length with h | h
    · exact h
    · rw [List.getElem?_eq_none (by simpa using h)] at hu; cases hu
  have hc := h.cell ad ha j (by rw [← h.size]; exact hj)
  rw [hc, ← hu]
  simp [List.getElem?_eq_getElem hj]

/-- What is owned reads as its list. -/
theorem Seg.owned {α : Type} {enc : α → Value} {d : α} {w : World} {base n : Nat} {E : TypeId} {v : Value} {xs : List α} (h : w.ownsRow base E 1 v n (xs.map enc)) :
    ∃ ao cap, v = .slice ao n cap ∧ Seg enc d w ao n cap xs ∧ ∀ a, ao = some a → v.ownBlock = some a.block := by
  have hl : xs.length = n := by have := h.1; simp at this; omega
  rcases h.2 with ⟨rfl, rfl⟩ | ⟨g, cap, cur, rfl, hg, hh, hn, hm, hs, ht⟩
  · exact ⟨none, 0, rfl, ⟨hl, Nat.le_refl _, Nat.zero_le _, fun _ => ⟨rfl, rfl⟩, fun a ha => (by cases ha)⟩, fun a ha => (by cases ha)⟩
  · refine ⟨some ⟨g, 0, none⟩, cap, rfl, ⟨hl, hn, hm, fun ha => (by cases ha), fun a ha j hj => ?_⟩, fun a ha => by cases ha; rfl⟩
    cases ha
    exact h.cells (g := g) rfl j (enc (xs[j]?.getD d)) (by
      have hj' : j < xs.length := by omega
      simp [List.getElem?_eq_getElem hj'])


/-- One call behind another: nothing that was there has turned. -/
theorem below_step {w w1 w2 : World} (h : Below w.heap.size w w1) (k : Below w1.heap.size w1 w2) : Below w.heap.size w w2 := h.trans (k.mono h.size)
theorem below_drewN {B : Nat} {a w : World} (h : Below B a w) (n : Nat) : Below B a (w.drewN n) := ⟨h.os, h.tape, h.output, h.size, h.block⟩

end Go.Proofs.Ytdgdaldgchbbaaa
