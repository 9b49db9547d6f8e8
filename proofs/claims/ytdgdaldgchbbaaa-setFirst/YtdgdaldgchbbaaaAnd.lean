/-
  One set of the call's own in either order, a list beside it and a pair of numbers in a box; what SetAll's round leans on.
-/
import Derived.Test.YtdgdaldgchbbaaaTwo
import Derived.Deep.SlicePairs
namespace Go.Proofs.Ytdgdaldgchbbaaa
open Go.RowKit Go.Shelf

theorem ins_mem_any {down : Bool} {x y : Int} {xs : List Int} (h : Sorted (ordI down) xs) : y ∈ ins (ordI down) x xs ↔ y = x ∨ y ∈ xs := by
  unfold ins
  cases hi : isIn (ordI down) x xs with
  | true =>
    obtain ⟨z, hz, hzx⟩ := (isIn_iff (ordI_ord down) h x).1 hi
    rw [ordI_zero] at hzx
    subst hzx
    simp only [cond_true]
    exact ⟨fun h => .inr h, fun h => h.elim (fun e => e ▸ hz) id⟩
  | false => simp only [cond_false]; exact put_mem

theorem isIn_mem {down : Bool} {x : Int} {xs : List Int} (h : Sorted (ordI down) xs) : isIn (ordI down) x xs = decide (x ∈ xs) := by
  rw [Bool.eq_iff_iff, isIn_iff (ordI_ord down) h x, decide_eq_true_iff]
  constructor
  · rintro ⟨y, hy, h0⟩
    rw [ordI_zero] at h0
    exact h0 ▸ hy
  · exact fun hx => ⟨x, hx, (ordI_zero down x x).2 rfl⟩

theorem join_mem_any {down : Bool} {y : Int} : ∀ (ys : List Int) {xs : List Int}, Sorted (ordI down) xs → (y ∈ join (ordI down) xs ys ↔ y ∈ xs ∨ y ∈ ys)
  | [], xs, _ => by simp [join]
  | z :: r, xs, h => by
    rw [join, join_mem_any r (ins_sorted (ordI_ord down) h), ins_mem_any h, List.mem_cons]
    constructor
    · rintro ((h | h) | h)
      · exact .inr (.inl h)
      · exact .inl h
      · exact .inr (.inr h)
    · rintro (h | h | h)
      · exact .inl (.inr h)
      · exact .inl (.inl h)
      · exact .inr h

theorem sorted_one_any {down : Bool} : ∀ (xs ys : List Int), Sorted (ordI down) xs → Sorted (ordI down) ys → (∀ y, y ∈ xs ↔ y ∈ ys) → xs = ys
  | [], [], _, _, _ => rfl
  | [], y :: r, _, _, h => by have := (h y).2 (by simp); simp at this
  | x :: r, [], _, _, h => by have := (h x).1 (by simp); simp at this
  | x :: r, y :: s, hx, hy, h => by
    have hx' := List.pairwise_cons.1 hx
    have hy' := List.pairwise_cons.1 hy
    have irr : ∀ a, ¬ ordI down a a < 0 := fun a => by rw [(ordI_zero down a a).2 rfl]; omega
    have e : x = y := by
      rcases List.mem_cons.1 ((h x).1 (by simp)) with h1 | h1
      · exact h1
      · rcases List.mem_cons.1 ((h y).2 (by simp)) with h2 | h2
        · exact h2.symm
        · exact absurd ((ordI_ord down).trans _ _ _ (hy'.1 x h1) (hx'.1 y h2)) (irr y)
    subst e
    congr 1
    refine sorted_one_any r s hx'.2 hy'.2 (fun z => ?_)
    have hz := h z
    simp only [List.mem_cons] at hz
    constructor
    · intro h1
      rcases hz.1 (.inr h1) with h2 | h2
      · exact absurd (h2 ▸ hx'.1 z h1) (irr x)
      · exact h2
    · intro h1
      rcases hz.2 (.inr h1) with h2 | h2
      · exact absurd (h2 ▸ hy'.1 z h1) (irr x)
      · exact h2

/-- A set of two laid to another. -/
theorem join_two {down : Bool} {xs : List Int} (h : Sorted (ordI down) xs) (a b : Int) : join (ordI down) xs (join (ordI down) [] [a, b]) = ins (ordI down) b (ins (ordI down) a xs) := by
  have o := ordI_ord down
  have hn : Sorted (ordI down) ([] : List Int) := List.Pairwise.nil
  refine sorted_one_any _ _ (join_sorted o _ h) (ins_sorted o (ins_sorted o h)) (fun y => ?_)
  rw [join_mem_any _ h, join_mem_any _ hn, ins_mem_any (ins_sorted o h), ins_mem_any h]
  simp only [List.not_mem_nil, false_or, List.mem_cons, or_false]
  constructor
  · rintro (h1 | h1 | h1)
    · exact .inr (.inr h1)
    · exact .inr (.inl h1)
    · exact .inl h1
  · rintro (h1 | h1 | h1)
    · exact .inr (.inr h1)
    · exact .inr (.inl h1)
    · exact .inl h1

theorem Free.one {w w' : World} {ao : Option Addr} {len cap : Nat} {xs : List Int} {p : Nat} {v v' : Value} (h : Free w ao len cap xs (Foot p v)) (hw : Wrote w p v w' v') : Free w' ao len cap xs (Foot p v') :=
  h.wrote hw (fun _ hk => hk) (fun _ hk => foot_wrote hw hk)

theorem Mine.lt {B : Nat} {w0 w : World} {p g : Nat} {v : Value} {xs : List Int} (h : Mine B w0 w p g v xs) : ∀ k, Foot p v k → k < w.heap.size := IsSet.lt h.set

theorem Mine.make (w0 w : World) (g : Nat) (h : Below w0.heap.size w0 w) : Mine w0.heap.size w0 (w.alloc (.cells #[fnv g, .slice none 0 0] 59)) w.heap.size g (.slice none 0 0) [] :=
  ⟨set_new w g, h.alloc h.size _, Nat.le_trans h.size (by simp), h.size, fun k hk => (by cases hk)⟩

/-- A pair of numbers in a block of its own. -/
structure Box (w : World) (box : Nat) (K N : Int) (F : Nat → Prop) : Prop where
  head : w.heap[box]? = some (.cells #[.int .i64 K, .int .i64 N] 29 (0, 0))
  clear : ¬ F box

theorem Box.lt {w : World} {box : Nat} {K N : Int} {F : Nat → Prop} (h : Box w box K N F) : box < w.heap.size := (Array.getElem?_eq_some_iff.1 h.head).1
theorem Box.c0 {w : World} {box : Nat} {K N : Int} {F : Nat → Prop} (h : Box w box K N F) : w.cell? ⟨box, 0, none⟩ = some (.int .i64 K) := by simp [World.cell?, h.head]
theorem Box.c1 {w : World} {box : Nat} {K N : Int} {F : Nat → Prop} (h : Box w box K N F) : w.cell? ⟨box, 1, none⟩ = some (.int .i64 N) := by simp [World.cell?, h.head]
theorem Box.step {w w' : World} {box : Nat} {K N : Int} {F : Nat → Prop} (h : Box w box K N F) (hb : Below w.heap.size w w') : Box w' box K N F := ⟨by rw [hb.block box h.lt]; exact h.head, h.clear⟩
theorem Box.one {w w' : World} {box : Nat} {K N : Int} {p : Nat} {v v' : Value} (h : Box w box K N (Foot p v)) (hw : Wrote w p v w' v') : Box w' box K N (Foot p v') :=
  ⟨by rw [hw.kept.block box h.lt h.clear]; exact h.head, fun hf => (foot_wrote hw hf).elim h.clear (fun h1 => by have := h.lt; omega)⟩
theorem Box.make (w : World) (K N : Int) {F : Nat → Prop} (hF : ∀ k, F k → k < w.heap.size) : Box (w.alloc (.cells #[.int .i64 K, .int .i64 N] 29)) w.heap.size K N F :=
  ⟨heap_alloc_new w _, fun hf => by have := hF _ hf; omega⟩

/-- A slice of pairs of numbers that came in. -/
def IsPairs (w : World) (a : Option Addr) (len cap : Nat) (V0 V1 : Nat → Int) : Prop :=
  (a = none ∧ len = 0 ∧ cap = 0) ∨
  ∃ x, a = some x ∧ len ≤ cap ∧ cap ≤ maxLen ∧ ∀ i, i < len → w.cell? (x.add (i * 2)) = some (.int .i64 (V0 i)) ∧ w.cell? (x.add (i * 2 + 1)) = some (.int .i64 (V1 i))

theorem IsPairs.at {w : World} {a : Option Addr} {len cap : Nat} {V0 V1 : Nat → Int} (h : IsPairs w a len cap V0 V1) {i : Nat} (hi : i < len) :
    ∃ b off, a = some ⟨b, off, none⟩ ∧ b < w.heap.size ∧ w.cell? ⟨b, off + i * 2, none⟩ = some (.int .i64 (V0 i)) ∧ w.cell? ⟨b, off + (i * 2 + 1), none⟩ = some (.int .i64 (V1 i)) := by
  rcases h with ⟨_, h, _⟩ | ⟨x, rfl, hl, hm, hc⟩
  · omega
  · obtain ⟨b, off, spot⟩ := x
    obtain ⟨h0, h1⟩ := hc i hi
    have hspot : spot = none := by simpa [Addr.add] using World.cell?_spot (hc 0 (by omega)).1
    subst hspot
    rw [Addr.add_lit] at h0 h1
    have := World.block_lt_of_cell? w _ h0
    exact ⟨b, off, rfl, this, h0, h1⟩

theorem IsPairs.bounds {w : World} {a : Option Addr} {len cap : Nat} {V0 V1 : Nat → Int} (h : IsPairs w a len cap V0 V1) : len ≤ cap ∧ cap ≤ 9223372036854775807 := by
  rcases h with ⟨_, rfl, rfl⟩ | ⟨x, rfl, hl, hm, hc⟩
  · omega
  · unfold maxLen at hm; omega

theorem IsPairs.below {w w' : World} {a : Option Addr} {len cap : Nat} {V0 V1 : Nat → Int} (h : IsPairs w a len cap V0 V1) (hb : Below w.heap.size w w') : IsPairs w' a len cap V0 V1 := by
  rcases h with h | ⟨x, rfl, hl, hm, hc⟩
  · exact .inl h
  · refine .inr ⟨x, rfl, hl, hm, fun i hi => ?_⟩
    obtain ⟨h0, h1⟩ := hc i hi
    rw [hb.cell (World.block_lt_of_cell? w _ h0), hb.cell (World.block_lt_of_cell? w _ h1)]
    exact ⟨h0, h1⟩

theorem cmpD (down : Bool) : CmpFn (Value.int .i64) (if down then 10 else 9) (ordI down) := by
  cases down
  · exact cmp9
  · exact cmp10

/-- A row of the call's own, made behind the blocks of F. -/
theorem free_own {w w' : World} {v : Value} {n : Nat} {xs : List Int} {F : Nat → Prop} (hF : ∀ k, F k → k < w.heap.size) (ho : w'.ownsRow w.heap.size 3 1 v n (xs.map (Value.int .i64))) :
    ∃ ao n' cap, v = .slice ao n' cap ∧ Free w' ao n' cap xs F := by
  obtain ⟨ao, cap, rfl, seg, hblk⟩ := Seg.owned (d := 0) ho
  refine ⟨ao, n, cap, rfl, seg, fun a ha => ?_, fun a ha => (ho.lt _ (hblk a ha)).2, fun a ha hf => ?_⟩
  · obtain ⟨ao2, cap2, e2, -, -, h2⟩ := own_slice ho
    cases e2
    rcases h2 with ⟨h3, -, -⟩ | ⟨g, h3⟩
    · rw [h3] at ha; cases ha
    · rw [h3] at ha; cases ha; rfl
  · have := hF _ hf
    have := (ho.lt _ (hblk a ha)).1
    omega

end Go.Proofs.Ytdgdaldgchbbaaa
