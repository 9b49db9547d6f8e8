/-
  A slice of bytes of the call's own, written in place; and the bytes of an exclusive or.
-/
import Derived.Test.YtfglfdpmhpnmmaaDoorLaid
import Derived.RegionTactic
import Derived.ChangeAlike
import Derived.Deep.QuietTactic
import Derived.BigQuiet
import Derived.Deep.DeepCutAuto
namespace Go.Proofs.YtfglfdpmhpnmmaaDoor
open Go.RowKit

/-- The slice that begins at block g owns the bytes bs. -/
def Own (w : World) (base g n cap : Nat) (bs : List Int) : Prop := w.ownsRow base 5 1 (.slice (some ⟨g, 0, none⟩) n cap) n (cellsOf bs)

theorem Own.block {w : World} {base g n cap : Nat} {bs : List Int} (h : Own w base g n cap bs) :
    ∃ cur, base ≤ g ∧ w.heap[g]? = some (.cells cur 5 (0, 0)) ∧ n ≤ cap ∧ cap ≤ maxLen ∧ cur.size = cap ∧ cur.toList.take n = cellsOf bs := by
  rcases h.2 with ⟨h, _⟩ | ⟨g', cap', cur, hv, hg, hh, hn, hm, hs, ht⟩
  · cases h
  · cases hv
    rw [Nat.mul_one] at hs ht
    exact ⟨cur, hg, hh, hn, hm, hs, ht⟩

theorem Own.len {w : World} {base g n cap : Nat} {bs : List Int} (h : Own w base g n cap bs) : bs.length = n := by have := h.1; rw [cellsOf_length] at this; omega

theorem Own.frozen {w : World} {base g n cap : Nat} {bs : List Int} (h : Own w base g n cap bs) (j : Nat) : w.frozen? ⟨g, j, none⟩ = false := by
  obtain ⟨cur, _, hh, _⟩ := h.block
  simp [World.frozen?, hh]

theorem Own.cell {w : World} {base g n cap : Nat} {bs : List Int} (h : Own w base g n cap bs) (j : Nat) (hj : j < n) : w.cell? ⟨g, j, none⟩ = some (.int .u8 (bs.getD j 0)) := by
  have hc := World.ownsRow.cells h (g := g) rfl j (.int .u8 (bs.getD j 0)) (by
    unfold cellsOf
    have hj' : j < bs.length := by rw [h.len]; exact hj
    simp [List.getElem?_eq_getElem hj'])
  rw [Addr.add_lit, Nat.zero_add] at hc
  exact hc

theorem Own.set {w : World} {base g n cap : Nat} {bs : List Int} (h : Own w base g n cap bs) (j : Nat) (x : Int) : Own (w.setCell ⟨g, j, none⟩ (.int .u8 x)) base g n cap (bs.set j x) := by
  obtain ⟨cur, hg, hh, hn, hm, hs, ht⟩ := h.block
  refine ⟨by rw [cellsOf_length, List.length_set, h.len, Nat.mul_one], .inr ⟨g, cap, cur.setIfInBounds j (.int .u8 x), rfl, hg, ?_, hn, hm, by simp [hs], ?_⟩⟩
  · rw [setCell_eq_setRow w g j cur 5 (0, 0) _ hh]
    exact setRow_heap w g _ _ 5 _ hh
  · rw [Nat.mul_one, Array.toList_setIfInBounds]
    unfold cellsOf
    rw [List.map_set]
    have ht' : cur.toList.take n = bs.map (Value.int .u8) := ht
    rw [← ht']
    exact List.take_set

theorem Own.seg {w : World} {base g n cap : Nat} {bs : List Int} (h : Own w base g n cap bs) (hb : ∀ x ∈ bs, 0 ≤ x ∧ x ≤ 255) : Seg w (some ⟨g, 0, none⟩) n cap bs := by
  obtain ⟨ao, cap', hv, hs⟩ := Seg.owned h hb
  cases hv
  exact hs

theorem Seg.drewN {w : World} {ao : Option Addr} {len cap : Nat} {bs : List Int} (h : Seg w ao len cap bs) (n : Nat) : Seg (w.drewN n) ao len cap bs := ⟨h.size, h.le, h.max, h.nil, h.cell, h.byte⟩
theorem below_drewN {B : Nat} {a w : World} (h : Below B a w) (n : Nat) : Below B a (w.drewN n) := ⟨h.os, h.tape, h.output, h.size, h.block⟩

/-- One place more is as it should be. -/
theorem take_set_next {bs xs : List Int} {k : Nat} (hk : k < bs.length) (hx : k < xs.length) (h : bs.take k = xs.take k) : (bs.set k (xs[k]?.getD 0)).take (k + 1) = xs.take (k + 1) := by
  rw [List.take_add_one, List.take_add_one, List.getElem?_set_self (by omega), List.take_set_of_le (by omega), h, List.getElem?_eq_getElem hx]
  rfl

/-- Natural numbers as the walk's bytes. -/
def ints (l : List Nat) : List Int := l.map Int.ofNat
theorem nats_ints (l : List Nat) : nats (ints l) = l := by
  unfold nats ints
  rw [List.map_map]
  exact List.map_id _
theorem ints_byte {l : List Nat} (h : ∀ x ∈ l, x < 256) : ∀ x ∈ ints l, 0 ≤ x ∧ x ≤ 255 := by
  intro x hx
  obtain ⟨y, hy, rfl⟩ := List.mem_map.1 hx
  have := h y hy
  show 0 ≤ (y : Int) ∧ (y : Int) ≤ 255
  omega

theorem nats_getD (bs : List Int) (k : Nat) : (nats bs)[k]?.getD 0 = (bs[k]?.getD 0).toNat := by
  unfold nats
  rw [List.getElem?_map]
  cases bs[k]? <;> rfl
theorem nats_length (bs : List Int) : (nats bs).length = bs.length := List.length_map _

end Go.Proofs.YtfglfdpmhpnmmaaDoor
