/-
  What the walks of this seat lean on: slices of bytes as lists of numbers, and small facts on them.
-/
import Derived.Test.YtfglfdpmhpnmmaaDoorRows
import Derived.Test.YtfglfdpmhpnmmaaDoorCrc
import Derived.WalkKit
import Derived.WalkSpells
import Derived.WalkLawsBesides
import Derived.Laws.BytesArg
import Derived.Lib.AppendStr
namespace Go.Proofs.YtfglfdpmhpnmmaaDoor
open Go.RowKit

theorem Tryd.info5 : (Tryd.prog.info? 5).map (fun i => (i.zero, i.size, i.bytes)) = some (some (.int .u8 0), 1, 1) := by kernel_rfl

/-- A slice of bytes that reads as bs in the world w. -/
structure Seg (w : World) (ao : Option Addr) (len cap : Nat) (bs : List Int) : Prop where
  size : bs.length = len
  le : len ≤ cap
  max : cap ≤ maxLen
  nil : ao = none → len = 0 ∧ cap = 0
  cell : ∀ a, ao = some a → ∀ j, j < len → w.cell? (a.add j) = some (.int .u8 (bs.getD j 0))
  byte : ∀ x ∈ bs, 0 ≤ x ∧ x ≤ 255

theorem Seg.at {w : World} {ao : Option Addr} {len cap : Nat} {bs : List Int} (h : Seg w ao len cap bs) (hp : 0 < len) :
    ∃ b off, ao = some ⟨b, off, none⟩ ∧ b < w.heap.size ∧ ∀ j, j < len → w.cell? ⟨b, off + j, none⟩ = some (.int .u8 (bs.getD j 0)) := by
  cases ao with
  | none => have := (h.nil rfl).1; omega
  | some a =>
    obtain ⟨b, off, spot⟩ := a
    have hc := h.cell _ rfl 0 hp
    have hspot : spot = none := by simpa [Addr.add] using World.cell?_spot hc
    subst hspot
    refine ⟨b, off, rfl, ?_, fun j hj => by have := h.cell _ rfl j hj; rwa [Addr.add_lit] at this⟩
    have := World.block_lt_of_cell? w _ hc
    simpa [Addr.add] using this

theorem Seg.below {w w' : World} {ao : Option Addr} {len cap : Nat} {bs : List Int} (h : Seg w ao len cap bs) (hb : Below w.heap.size w w') : Seg w' ao len cap bs :=
  ⟨h.size, h.le, h.max, h.nil, fun a ha j hj => by
    have hc := h.cell a ha j hj
    rw [hb.cell (World.block_lt_of_cell? w _ hc)]
    exact hc, h.byte⟩

theorem getD_byte {bs : List Int} (h : ∀ x ∈ bs, 0 ≤ x ∧ x ≤ 255) (j : Nat) : 0 ≤ bs[j]?.getD 0 ∧ bs[j]?.getD 0 ≤ 255 := by
  rcases Nat.lt_or_ge j bs.length with hj | hj
  · rw [List.getElem?_eq_getElem hj]; exact h _ (List.getElem_mem hj)
  · rw [List.getElem?_eq_none hj]; simp

theorem Seg.byteAt {w : World} {ao : Option Addr} {len cap : Nat} {bs : List Int} (h : Seg w ao len cap bs) (j : Nat) : 0 ≤ bs[j]?.getD 0 ∧ bs[j]?.getD 0 ≤ 255 := getD_byte h.byte j

/-- One call behind another: nothing that was there has turned. -/
theorem below_step {w w1 w2 : World} (h : Below w.heap.size w w1) (k : Below w1.heap.size w1 w2) : Below w.heap.size w w2 := h.trans (k.mono h.size)

/-- The cells of bytes. -/
def cellsOf (bs : List Int) : List Value := bs.map (Value.int .u8)

theorem cellsOf_append (a b : List Int) : cellsOf (a ++ b) = cellsOf a ++ cellsOf b := List.map_append
theorem cellsOf_length (a : List Int) : (cellsOf a).length = a.length := List.length_map _
theorem cellsOf_one (a : List Int) : ∀ u ∈ cellsOf a, u.oneCell' = true := by
  intro u hu
  obtain ⟨x, _, rfl⟩ := List.mem_map.1 hu
  rfl

theorem Seg.news {w : World} {ao : Option Addr} {len cap : Nat} {bs : List Int} (h : Seg w ao len cap bs) : ∀ ad, ao = some ad → ∀ j u, (cellsOf bs)[j]? = some u → w.cell? (ad.add j) = some u := by
  intro ad ha j u hu
  have hj : j < (cellsOf bs).length := by
    rcases Nat.lt_or_ge j (cellsOf bs).length with h | h
    · exact h
    · rw [List.getElem?_eq_none h] at hu; cases hu
  rw [cellsOf_length] at hj
  have hc := h.cell ad ha j (by rw [← h.size]; exact hj)
  rw [hc, ← hu]
  unfold cellsOf
  simp [List.getElem?_eq_getElem hj]

/-- What is owned reads as its bytes. -/
theorem Seg.owned {w : World} {base n : Nat} {v : Value} {bs : List Int} (h : w.ownsRow base 5 1 v n (cellsOf bs)) (hb : ∀ x ∈ bs, 0 ≤ x ∧ x ≤ 255) :
    ∃ ao cap, v = .slice ao n cap ∧ Seg w ao n cap bs := by
  have hl : bs.length = n := by have := h.1; rw [cellsOf_length] at this; omega
  rcases h.2 with ⟨rfl, rfl⟩ | ⟨g, cap, cur, rfl, hg, hh, hn, hm, hs, ht⟩
  · exact ⟨none, 0, rfl, hl, Nat.le_refl _, Nat.zero_le _, fun _ => ⟨rfl, rfl⟩, fun a ha => (by cases ha), hb⟩
  · refine ⟨some ⟨g, 0, none⟩, cap, rfl, hl, hn, hm, fun ha => (by cases ha), fun a ha j hj => ?_, hb⟩
    cases ha
    have hc := h.cells (g := g) rfl j (.int .u8 (bs.getD j 0)) (by
      unfold cellsOf
      have hj' : j < bs.length := by omega
      simp [List.getElem?_eq_getElem hj'])
    exact hc

end Go.Proofs.YtfglfdpmhpnmmaaDoor
