/-
  The look that each law opens with; a set of the call's own over several calls, and a slice beside it.
-/
import Derived.Test.YtdgdaldgchbbaaaUnion
namespace Go.Proofs.Ytdgdaldgchbbaaa
open Go.RowKit Go.Shelf

/-- A set of the call's own: nothing that was there when the call began has turned. -/
structure Mine (B : Nat) (w0 w : World) (p g : Nat) (v : Value) (xs : List Int) : Prop where
  set : SetI w p g v xs
  below : Below B w0 w
  room : B ≤ w.heap.size
  lo : B ≤ p
  own : ∀ k, v.ownBlock = some k → B ≤ k

theorem Mine.wrote {B : Nat} {w0 w w' : World} {p g : Nat} {v v' : Value} {xs ys : List Int} (h : Mine B w0 w p g v xs) (hs : SetI w' p g v' ys) (hw : Wrote w p v w' v') : Mine B w0 w' p g v' ys := by
  refine ⟨hs, h.below.trans (hw.kept.below h.room ?_), Nat.le_trans h.room hw.kept.size, h.lo, fun k hk => ?_⟩
  · rintro k hk (rfl | e)
    · have := h.lo; omega
    · have := h.own k e; omega
  · rcases hw.fresh k hk with h1 | h1
    · exact h.own k h1
    · have := h.room; omega

theorem Mine.step {B : Nat} {w0 w w' : World} {p g : Nat} {v : Value} {xs : List Int} (h : Mine B w0 w p g v xs) (hb : Below w.heap.size w w') : Mine B w0 w' p g v xs :=
  ⟨IsSet.below h.set hb, h.below.trans (hb.mono h.room), Nat.le_trans h.room hb.size, h.lo, h.own⟩

/-- A set by itself, and a slice that lies apart from it. -/
structure Off (w : World) (ao : Option Addr) (len cap : Nat) (xs : List Int) (p : Nat) (v : Value) : Prop where
  seg : Seg (Value.int .i64) 0 w ao len cap xs
  clear : ∀ a, ao = some a → ¬ Foot p v a.block
  lt : ∀ a, ao = some a → a.block < w.heap.size

theorem Off.wrote {w w' : World} {ao : Option Addr} {len cap : Nat} {xs : List Int} {p : Nat} {v v' : Value} (h : Off w ao len cap xs p v) (hw : Wrote w p v w' v') : Off w' ao len cap xs p v' := by
  refine ⟨h.seg.kept hw.kept h.clear, fun a ha => ?_, fun a ha => Nat.lt_of_lt_of_le (h.lt a ha) hw.kept.size⟩
  rintro (e | e)
  · exact h.clear a ha (.inl e)
  · rcases hw.fresh _ e with h1 | h1
    · exact h.clear a ha (.inr h1)
    · have := h.lt a ha; omega

theorem Off.step {w w' : World} {ao : Option Addr} {len cap : Nat} {xs : List Int} {p : Nat} {v : Value} (h : Off w ao len cap xs p v) (hb : Below w.heap.size w w') : Off w' ao len cap xs p v :=
  ⟨h.seg.below hb, h.clear, fun a ha => Nat.lt_of_lt_of_le (h.lt a ha) hb.size⟩

/-- What a call made new, beside a set that was there. -/
theorem Off.fresh {w w' : World} {vl : Value} {n : Nat} {xs : List Int} {p g : Nat} {v : Value} {zs : List Int} (hs : SetI w p g v zs) (ho : w'.ownsRow w.heap.size 3 1 vl n (xs.map (Value.int .i64))) :
    ∃ ao cap, vl = .slice ao n cap ∧ Off w' ao n cap xs p v := by
  obtain ⟨ao, cap, rfl, seg, hblk⟩ := Seg.owned (d := 0) ho
  refine ⟨ao, cap, rfl, seg, fun a ha hft => ?_, fun a ha => (ho.lt _ (hblk a ha)).2⟩
  have := IsSet.lt hs _ hft
  have := (ho.lt _ (hblk a ha)).1
  omega

/-- A slice that is written out. -/
theorem seg_lit (w : World) (xs : List Int) (hl : xs.length ≤ 1000) (cs : Array Value) (hc : cs.toList = xs.map (Value.int .i64)) : Seg (Value.int .i64) 0 (w.alloc (.cells cs 3)) (some ⟨w.heap.size, 0, none⟩) xs.length xs.length xs := by
  refine ⟨rfl, Nat.le_refl _, by unfold maxLen; omega, fun h => (by cases h), fun a ha j hj => ?_⟩
  cases ha
  rw [Addr.add_lit, World.cell?_alloc_at (w := w) cs _ w.heap.size _ rfl, Nat.zero_add, ← Array.getElem?_toList, hc]
  simp [List.getElem?_eq_getElem hj]

theorem below_alloc (w : World) (o : Obj) : Below w.heap.size w (w.alloc o) := (Below.refl _ _).alloc (Nat.le_refl _) _

set_option maxHeartbeats 4000000 in
theorem begun_spec (w : World) : Calls Try.prog 8 #[] w fun e w' => e = .returned (.bool true) ∧ Below w.heap.size w w' := by
  have H1 := of_spec cmp9 (seg_lit w [5, 1, 5, 3] (by decide) #[.int .i64 5, .int .i64 1, .int .i64 5, .int .i64 3] rfl) (by decide)
  rw [show join cmpI [] [5, 1, 5, 3] = [1, 3, 5] by decide] at H1
  unfold fnv at H1
  go_enter Try.func8, Try.ntmps8
  go_wp2_with fail
  refine H1.mono ?_
  rintro e w1 ⟨v1, rfl, S1, B1, O1⟩
  have M1 : Hid (Mine w.heap.size w w1 (w.heap.size + 1) 9 v1 [1, 3, 5]) := by
    have hb := (below_alloc w (.cells #[.int .i64 5, .int .i64 1, .int .i64 5, .int .i64 3] 3)).trans (B1.mono (by simp))
    refine ⟨by simpa using S1, hb, hb.size, by omega, fun k hk => ?_⟩
    have := O1 k hk
    simp at this
    omega
  clear H1 S1 B1 O1
  have H2 := new_nil w1

  go_wp2_with (go_at_call 11; refine H2.mono ?_; rintro e w2 ⟨rfl, rfl⟩)
  have H3 := list_spec M1.out.set (by decide)
  refine H3.mono ?_
  rintro e w3 ⟨vl, rfl, ol, B3⟩
  obtain ⟨ao, cl, rfl, off3⟩ := Off.fresh M1.out.set ol
  have M3 : Hid (Mine w.heap.size w w3 (w.heap.size + 1) 9 v1 [1, 3, 5]) := M1.out.step B3
  have F3 : Hid (Off w3 ao 3 cl [1, 3, 5] (w.heap.size + 1) v1) := off3
  clear H2 H3 M1 ol B3 off3
  have H4 := add_spec cmp9 M3.out.set (by unfold Sorted; decide) (by decide) 3
  rw [show isIn cmpI 3 [1, 3, 5] = true by decide, show ins cmpI 3 [1, 3, 5] = [1, 3, 5] by decide] at H4
  go_wp2_with fail
  refine H4.mono ?_
  rintro e w4 ⟨v4, rfl, S4, W4⟩
  have M4 : Hid (Mine w.heap.size w w4 (w.heap.size + 1) 9 v4 [1, 3, 5]) := M3.out.wrote S4 W4
  have F4 : Hid (Off w4 ao 3 cl [1, 3, 5] (w.heap.size + 1) v4) := F3.out.wrote W4
  clear H4 S4 W4 M3 F3
  have H5 := add_spec cmp9 M4.out.set (by unfold Sorted; decide) (by decide) 4
  rw [show isIn cmpI 4 [1, 3, 5] = false by decide, show ins cmpI 4 [1, 3, 5] = [1, 3, 4, 5] by decide] at H5
  go_wp2_with fail
  refine H5.mono ?_
  rintro e w5 ⟨v5, rfl, S5, W5⟩
  have M5 : Hid (Mine w.heap.size w w5 (w.heap.size + 1) 9 v5 [1, 3, 4, 5]) := M4.out.wrote S5 W5
  have F5 : Hid (Off w5 ao 3 cl [1, 3, 5] (w.heap.size + 1) v5) := F4.out.wrote W5
  clear H5 S5 W5 M4 F4
  have H6 := del_spec cmp9 M5.out.set (by unfold Sorted; decide) (by decide) 9
  rw [show isIn cmpI 9 [1, 3, 4, 5] = false by decide, show del cmpI 9 [1, 3, 4, 5] = [1, 3, 4, 5] by decide] at H6
  go_wp2_with fail
  refine H6.mono ?_
  rintro e w6 ⟨v6, rfl, S6, W6⟩
  have M6 : Hid (Mine w.heap.size w w6 (w.heap.size + 1) 9 v6 [1, 3, 4, 5]) := M5.out.wrote S6 W6
  have F6 : Hid (Off w6 ao 3 cl [1, 3, 5] (w.heap.size + 1) v6) := F5.out.wrote W6
  clear H6 S6 W6 M5 F5
  have H7 := at_in M6.out.set 2 (by decide) (by decide)
  rw [show ([1, 3, 4, 5] : List Int)[(2 : Int).toNat]?.getD 0 = 4 by decide] at H7
  go_wp2_with fail
  refine H7.mono ?_
  rintro e w7 ⟨rfl, rfl⟩
  obtain ⟨b, off, rfl, hb, hcell⟩ := F6.out.seg.at (by decide)
  have c0 := hcell 0 (by decide)
  have c2 := hcell 2 (by decide)
  rw [show ([1, 3, 5] : List Int)[0]?.getD 0 = 1 by decide, Nat.add_zero] at c0
  rw [show ([1, 3, 5] : List Int)[2]?.getD 0 = 5 by decide] at c2
  have hcl : cl ≤ 9223372036854775807 := by have := F6.out.seg.max; unfold maxLen at this; omega
  have hcl3 : 3 ≤ cl := F6.out.seg.le
  clear H7 hcell F6
  have H8 := len_spec M6.out.set
  rw [show ([1, 3, 4, 5] : List Int).length = 4 by decide] at H8
  go_wp2_with fail
  refine H8.mono ?_
  rintro e w8 ⟨rfl, rfl⟩
  have H9 := has_spec cmp9 M6.out.set (by unfold Sorted; decide) (by decide) 1
  rw [show isIn cmpI 1 [1, 3, 4, 5] = true by decide] at H9
  go_wp2_with fail
  refine H9.mono ?_
  rintro e w9 ⟨rfl, B9⟩
  have M9 : Hid (Mine w.heap.size w w9 (w.heap.size + 1) 9 v6 [1, 3, 4, 5]) := M6.out.step B9
  clear H8 H9 B9 M6 c0 c2
  have H10 := of_spec cmp9 (seg_lit w9 [7] (by decide) #[.int .i64 7] rfl) (by decide)
  rw [show join cmpI [] [7] = [7] by decide] at H10
  unfold fnv at H10
  go_wp2_with fail
  refine H10.mono ?_
  rintro e w10 ⟨v10, rfl, S10, B10, O10⟩
  have hb10 : Below w9.heap.size w9 w10 := (below_alloc w9 (.cells #[.int .i64 7] 3)).trans (B10.mono (by simp))
  have M10 : Hid (Mine w.heap.size w w10 (w.heap.size + 1) 9 v6 [1, 3, 4, 5]) := M9.out.step hb10
  have S10' : SetI w10 (w9.heap.size + 1) 9 v10 [7] := by simpa using S10
  have H11 := union_spec cmp9 M10.out.set S10' (by unfold Sorted; decide) (by decide)
  rw [show join cmpI [1, 3, 4, 5] [7] = [1, 3, 4, 5, 7] by decide, show decide (([1, 3, 4, 5] : List Int).length < ([1, 3, 4, 5, 7] : List Int).length) = true by decide] at H11
  clear H10 S10 B10 O10 hb10 S10' M9
  go_wp2_with fail
  refine H11.mono ?_
  rintro e w11 ⟨v11, rfl, S11, W11⟩
  have M11 : Hid (Mine w.heap.size w w11 (w.heap.size + 1) 9 v11 [1, 3, 4, 5, 7]) := M10.out.wrote S11 W11
  clear H11 S11 W11 M10
  have H12 := has_spec cmp9 M11.out.set (by unfold Sorted; decide) (by decide) 7
  rw [show isIn cmpI 7 [1, 3, 4, 5, 7] = true by decide] at H12
  go_wp2_with fail
  refine H12.mono ?_
  rintro e w12 ⟨rfl, B12⟩
  have FIN : Hid (Below w.heap.size w w12) := (M11.out.step B12).below
  clear H12 B12 M11
  go_wp2
  go_ret
  exact ⟨rfl, FIN.out⟩

end Go.Proofs.Ytdgdaldgchbbaaa
