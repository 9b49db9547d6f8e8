/-
  Has over numbers, told by the very blocks that it lays.
-/
import Derived.Test.YtdgdaldgchbbaaaAnd
import Derived.Shelf.SlSortCmp.QuietGrown
namespace Go.Proofs.Ytdgdaldgchbbaaa
open Go.RowKit Go.Shelf Go.Sort

theorem mixed : Try.prog.follows .mixedOrders = true := by kernel_rfl

theorem set_new_cell (w : World) (t : TypeId) (v u : Value) : (w.alloc (.cells #[v] t)).setCell ⟨w.heap.size, 0, none⟩ u = w.alloc (.cells #[u] t) := by
  unfold World.setCell World.alloc
  congr 1
  apply Array.ext_getElem?
  intro i
  rw [Array.getElem?_modify, Array.getElem?_push, Array.getElem?_push]
  by_cases hi : i = w.heap.size
  · subst hi
    simp
  · rw [if_neg hi, if_neg hi, if_neg (fun h => hi h.symm)]

theorem alloc_grow (w : World) (o : Obj) : w.alloc o = grow w #[o] := by
  unfold grow World.alloc
  simp

theorem find_world (w : World) (n : Nat) : ((((w.alloc (.cells #[.bool false] 4)).drewN n).setCell ⟨w.heap.size, 0, none⟩ (.bool true)).setCell ⟨w.heap.size, 0, none⟩ (.bool true)) = grow (w.drewN n) #[.cells #[.bool true] 4] := by
  have e : (w.alloc (.cells #[.bool false] 4)).drewN n = (w.drewN n).alloc (.cells #[.bool false] 4) := rfl
  have s := set_new_cell (w.drewN n) 4 (.bool false) (.bool true)
  have s2 := set_new_cell (w.drewN n) 4 (.bool true) (.bool true)
  have hz : (w.drewN n).heap.size = w.heap.size := rfl
  rw [hz] at s s2
  rw [e, s, s2, alloc_grow]

set_option maxHeartbeats 1000000 in
theorem find_grown {g : Nat} {cf : Int → Int → Int} (hf : CmpFn (Value.int .i64) g cf) {w : World} {p n : Nat} {v : Value} {xs : List Int} (h : IsSet w 59 3 1 p (fnv g) v n (xs.map (Value.int .i64))) (hs : Sorted cf xs) (hn : n ≤ 1048576) (x : Int) :
    Calls Try.prog 33 #[.pointer (some ⟨p, 0, none⟩), .int .i64 x] w fun e w' => e = .returned (.tuple #[.int .i64 (pos cf x xs), .bool (isIn cf x xs), .bool true]) ∧ ∃ q os, w' = grow (w.drewN q) os := by
  have hmf : ∀ (fn : Fn) (first cap : Array Value) (w : World), (Instr.makeFunc fn first cap).run Try.prog w = .ok (.func fn first cap) w := fun _ _ _ _ => rfl
  obtain ⟨ao, cap, rfl, seg, -⟩ := Seg.owned (d := 0) h.own
  have hq := eqfn g
  have c0 : w.cell? ⟨p, 0, none⟩ = some (.func (.func g) #[] #[]) := h.cell0
  have c1 := h.cell1
  have hlt := h.lt p (.inl rfl)
  have HC : Hid (∀ W, Below w.heap.size w W → Calls Try.prog 44 #[.slice ao n cap, .int .i64 x, .func (.func g) #[] #[]] W fun e w' => e = .returned (.tuple #[.int .i64 (pos cf x xs), .bool (isIn cf x xs)]) ∧ w' = W) :=
    fun W hW => search_spec hf (seg.below hW) hs hn x
  clear h seg hf
  generalize pos cf x xs = pp at HC ⊢
  generalize isIn cf x xs = qq at HC ⊢
  go_enter_defers Try.func33, Try.ntmps33
  go_wp2_with fail
  go_quiet (first | (go_at_call 44; exact Calls.quiet_of_same (HC.out _ (below_drewN ((Below.refl _ _).alloc (Nat.le_refl _) _) _))))
  go_wp2
  refine leaves_cons (f := 43) (args := #[.pointer (some ⟨w.heap.size, 0, none⟩)]) (by simp) (by simp [go_sem]) ?_
  refine (catch_idle w.heap.size (.bool true) _ ?_ ?_).mono ?_
  · simp [go_sem]
  · simp [go_sem]
  rintro e u' w'' ⟨rfl, rfl, rfl⟩
  simp [Leaves, settle, results, Try.results33, go_sem]
  exact ⟨nq, _, find_world w nq⟩

set_option maxHeartbeats 1000000 in
theorem has_grown {g : Nat} {cf : Int → Int → Int} (hf : CmpFn (Value.int .i64) g cf) {w : World} {p : Nat} {v : Value} {xs : List Int} (h : SetI w p g v xs) (hs : Sorted cf xs) (hn : xs.length ≤ 1048576) (x : Int) :
    Calls Try.prog 20 #[.pointer (some ⟨p, 0, none⟩), .int .i64 x] w fun e w' => e = .returned (.bool (isIn cf x xs)) ∧ ∃ q os, w' = grow (w.drewN q) os := by
  have hc := find_grown hf h hs hn x
  clear h hs hn hf
  generalize pos cf x xs = pp at hc
  generalize isIn cf x xs = qq at hc ⊢
  go_enter Try.func20, Try.ntmps20
  go_wp2_with (go_at_call 33; refine hc.mono ?_; rintro e w' ⟨rfl, q, os, rfl⟩)
  go_ret
  exact ⟨rfl, q, os, rfl⟩

theorem below_grow (w : World) (n : Nat) (os : Array Obj) : Below w.heap.size w (grow (w.drewN n) os) := by
  refine ⟨rfl, rfl, rfl, by simp [grow, World.drewN], fun k hk => ?_⟩
  show (w.heap ++ os)[k]? = _
  rw [Array.getElem?_append_left hk]

theorem same_grown {f : Nat} {args : Array Value} {w : World} {v : Value} (h : Calls Try.prog f args w fun e w' => e = .returned v ∧ w' = w) : Calls Try.prog f args w fun e w' => e = .returned v ∧ ∃ q os, w' = grow (w.drewN q) os :=
  h.mono fun _ _ ⟨he, hw⟩ => ⟨he, 0, #[], by rw [hw, grow_empty]; rfl⟩

/-- A store into a row of the call's own. -/
theorem own_set {w : World} {base g n cap : Nat} {ys : List Int} (h : w.ownsRow base 3 1 (.slice (some ⟨g, 0, none⟩) n cap) n (ys.map (Value.int .i64))) (j : Nat) (x : Int) :
    (w.setCell ⟨g, j, none⟩ (.int .i64 x)).ownsRow base 3 1 (.slice (some ⟨g, 0, none⟩) n cap) n ((ys.set j x).map (Value.int .i64)) := by
  have hl : ys.length = n := by have := h.1; simpa using this
  rcases h.2 with ⟨h, _⟩ | ⟨g', cap', cur, hv, hg, hh, hn, hm, hs, ht⟩
  · cases h
  · cases hv
    rw [Nat.mul_one] at hs ht
    refine ⟨by rw [List.length_map, List.length_set, hl, Nat.mul_one], .inr ⟨g, cap, cur.setIfInBounds j (.int .i64 x), rfl, hg, ?_, hn, hm, by simp [hs], ?_⟩⟩
    · rw [setCell_eq_setRow w g j cur 3 (0, 0) _ hh]
      exact setRow_heap w g _ _ 3 _ hh
    · rw [Nat.mul_one, Array.toList_setIfInBounds, List.map_set, ← ht]
      exact List.take_set

end Go.Proofs.Ytdgdaldgchbbaaa
