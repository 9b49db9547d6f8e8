/-
  Two sets of the call's own, slices that lie apart from both, and what is in two lists laid together.
-/
import Derived.Test.YtdgdaldgchbbaaaIn
namespace Go.Proofs.Ytdgdaldgchbbaaa
open Go.RowKit Go.Shelf

theorem ins_mem {x y : Int} {xs : List Int} (h : Sorted cmpI xs) : y ∈ ins cmpI x xs ↔ y = x ∨ y ∈ xs := by
  unfold ins
  cases hi : isIn cmpI x xs with
  | true =>
    obtain ⟨z, hz, hzx⟩ := (isIn_iff cmpI_ord h x).1 hi
    rw [cmpI_zero] at hzx
    subst hzx
    simp only [cond_true]
    exact ⟨fun h => .inr h, fun h => h.elim (fun e => e ▸ hz) id⟩
  | false => simp only [cond_false]; exact put_mem

theorem join_mem {y : Int} : ∀ (ys : List Int) {xs : List Int}, Sorted cmpI xs → (y ∈ join cmpI xs ys ↔ y ∈ xs ∨ y ∈ ys)
  | [], xs, _ => by simp [join]
  | z :: r, xs, h => by
    rw [join, join_mem r (ins_sorted cmpI_ord h), ins_mem h, List.mem_cons]
    constructor
    · rintro ((h | h) | h)
      · exact .inr (.inl h)
      · exact .inl h
      · exact .inr (.inr h)
    · rintro (h | h | h)
      · exact .inl (.inr h)
      · exact .inl (.inl h)
      · exact .inr h

/-- Two lists in order with the same members are one. -/
theorem sorted_one : ∀ (xs ys : List Int), Sorted cmpI xs → Sorted cmpI ys → (∀ y, y ∈ xs ↔ y ∈ ys) → xs = ys
  | [], [], _, _, _ => rfl
  | [], y :: r, _, _, h => by have := (h y).2 (by simp); simp at this
  | x :: r, [], _, _, h => by have := (h x).1 (by simp); simp at this
  | x :: r, y :: s, hx, hy, h => by
    have hx' := List.pairwise_cons.1 hx
    have hy' := List.pairwise_cons.1 hy
    have e : x = y := by
      rcases List.mem_cons.1 ((h x).1 (by simp)) with h1 | h1
      · exact h1
      · rcases List.mem_cons.1 ((h y).2 (by simp)) with h2 | h2
        · exact h2.symm
        · have a := hy'.1 x h1
          have b := hx'.1 y h2
          rw [cmpI_neg] at a b
          omega
    subst e
    congr 1
    refine sorted_one r s hx'.2 hy'.2 (fun z => ?_)
    have hz := h z
    simp only [List.mem_cons] at hz
    constructor
    · intro h1
      have := hx'.1 z h1
      rw [cmpI_neg] at this
      rcases hz.1 (.inr h1) with h2 | h2
      · omega
      · exact h2
    · intro h1
      have := hy'.1 z h1
      rw [cmpI_neg] at this
      rcases hz.2 (.inr h1) with h2 | h2
      · omega
      · exact h2

theorem join_nil_sorted (bs : List Int) : Sorted cmpI (join cmpI [] bs) := join_sorted cmpI_ord bs sorted_nil

theorem join_again {xs : List Int} (h : Sorted cmpI xs) (bs : List Int) : join cmpI xs (join cmpI [] bs) = join cmpI xs bs :=
  sorted_one _ _ (join_sorted cmpI_ord _ h) (join_sorted cmpI_ord _ h) (fun y => by rw [join_mem _ h, join_mem _ h, join_mem _ sorted_nil]; simp)

theorem join_back {xs : List Int} (h : Sorted cmpI xs) (bs : List Int) : join cmpI (join cmpI [] bs) (join cmpI xs bs) = join cmpI xs bs :=
  sorted_one _ _ (join_sorted cmpI_ord _ (join_nil_sorted bs)) (join_sorted cmpI_ord _ h) (fun y => by
    rw [join_mem _ (join_nil_sorted bs), join_mem _ sorted_nil, join_mem _ h]
    simp only [List.not_mem_nil, false_or]
    constructor
    · rintro (h1 | h1)
      · exact .inr h1
      · exact h1
    · exact fun h1 => .inr h1)

theorem join_self {xs : List Int} (h : Sorted cmpI xs) : join cmpI xs xs = xs :=
  sorted_one _ _ (join_sorted cmpI_ord _ h) h (fun y => by rw [join_mem _ h]; simp)

/-- Two sets of the call's own. -/
structure Two (w0 w : World) (ps : Nat) (vs : Value) (xs : List Int) (pt : Nat) (vt : Value) (ys : List Int) : Prop where
  below : Below w0.heap.size w0 w
  s : SetI w ps 9 vs xs
  t : SetI w pt 9 vt ys
  apart : ∀ k, Foot ps vs k → ¬ Foot pt vt k
  los : ∀ k, Foot ps vs k → w0.heap.size ≤ k
  lot : ∀ k, Foot pt vt k → w0.heap.size ≤ k

theorem foot_wrote {w w' : World} {p : Nat} {v v' : Value} (h : Wrote w p v w' v') {k : Nat} (hk : Foot p v' k) : Foot p v k ∨ w.heap.size ≤ k := by
  rcases hk with hk | hk
  · exact .inl (.inl hk)
  · rcases h.fresh k hk with h1 | h1
    · exact .inl (.inr h1)
    · exact .inr h1

theorem Two.turn {w0 w : World} {ps pt : Nat} {vs vt : Value} {xs ys : List Int} (h : Two w0 w ps vs xs pt vt ys) : Two w0 w pt vt ys ps vs xs :=
  ⟨h.below, h.t, h.s, fun k h1 h2 => h.apart k h2 h1, h.lot, h.los⟩

theorem Two.wrote {w0 w w' : World} {ps pt : Nat} {vs vs' vt : Value} {xs xs' ys : List Int} (h : Two w0 w ps vs xs pt vt ys) (hs : SetI w' ps 9 vs' xs') (hw : Wrote w ps vs w' vs') : Two w0 w' ps vs' xs' pt vt ys := by
  have hsz := h.below.size
  refine ⟨h.below.trans (hw.kept.below hsz (fun k hk hf => ?_)), hs, IsSet.kept h.t hw.kept (fun i hi hf => h.apart i hf hi), fun k h1 h2 => ?_, fun k h1 => ?_, h.lot⟩
  · have := h.los k hf; omega
  · rcases foot_wrote hw h1 with h3 | h3
    · exact h.apart k h3 h2
    · have := IsSet.lt h.t k h2; omega
  · rcases foot_wrote hw h1 with h3 | h3
    · exact h.los k h3
    · omega

theorem Two.step {w0 w w' : World} {ps pt : Nat} {vs vt : Value} {xs ys : List Int} (h : Two w0 w ps vs xs pt vt ys) (hb : Below w.heap.size w w') : Two w0 w' ps vs xs pt vt ys :=
  ⟨h.below.trans (hb.mono h.below.size), IsSet.below h.s hb, IsSet.below h.t hb, h.apart, h.los, h.lot⟩

theorem Two.make (w : World) : Two w ((w.alloc (.cells #[fnv 9, .slice none 0 0] 59)).alloc (.cells #[fnv 9, .slice none 0 0] 59)) w.heap.size (.slice none 0 0) [] (w.heap.size + 1) (.slice none 0 0) [] := by
  refine ⟨((Below.refl _ _).alloc (Nat.le_refl _) _).alloc (by simp) _, IsSet.below (set_new w 9) (below_alloc _ _), ?_, ?_, ?_, ?_⟩
  · have := set_new (w.alloc (.cells #[fnv 9, .slice none 0 0] 59)) 9
    simpa using this
  · rintro k (rfl | h) (h2 | h2)
    · omega
    · cases h2
    · cases h
    · cases h
  · rintro k (rfl | h)
    · exact Nat.le_refl _
    · cases h
  · rintro k (rfl | h)
    · omega
    · cases h

/-- A slice that lies apart from the blocks of F. -/
structure Free (w : World) (ao : Option Addr) (len cap : Nat) (xs : List Int) (F : Nat → Prop) : Prop where
  seg : Seg (Value.int .i64) 0 w ao len cap xs
  spot : ∀ a, ao = some a → a.spot = none
  lt : ∀ a, ao = some a → a.block < w.heap.size
  clear : ∀ a, ao = some a → ¬ F a.block

theorem Free.nil (w : World) (F : Nat → Prop) : Free w none 0 0 [] F :=
  ⟨⟨rfl, Nat.le_refl _, Nat.zero_le _, fun _ => ⟨rfl, rfl⟩, fun a h => (by cases h)⟩, fun a h => (by cases h), fun a h => (by cases h), fun a h => (by cases h)⟩

theorem Free.step {w w' : World} {ao : Option Addr} {len cap : Nat} {xs : List Int} {F : Nat → Prop} (h : Free w ao len cap xs F) (hb : Below w.heap.size w w') : Free w' ao len cap xs F :=
  ⟨h.seg.below hb, h.spot, fun a ha => Nat.lt_of_lt_of_le (h.lt a ha) hb.size, h.clear⟩

/-- Behind a call that writes into a set of F. -/
theorem Free.wrote {w w' : World} {ao : Option Addr} {len cap : Nat} {xs : List Int} {F F' : Nat → Prop} {p : Nat} {v v' : Value} (h : Free w ao len cap xs F) (hw : Wrote w p v w' v') (hF : ∀ k, Foot p v k → F k) (hF' : ∀ k, F' k → F k ∨ w.heap.size ≤ k) : Free w' ao len cap xs F' :=
  ⟨h.seg.kept hw.kept (fun a ha hf => h.clear a ha (hF _ hf)), h.spot, fun a ha => Nat.lt_of_lt_of_le (h.lt a ha) hw.kept.size, fun a ha hf => by
    rcases hF' _ hf with h1 | h1
    · exact h.clear a ha h1
    · have := h.lt a ha; omega⟩

/-- Behind the call of in. -/
theorem Free.more {w w' : World} {ao ao' : Option Addr} {len cap len' cap' : Nat} {xs ys : List Int} {F : Nat → Prop} (h : Free w ao len cap xs F) (hF : ∀ k, F k → k < w.heap.size)
    (hi : Seg (Value.int .i64) 0 w' ao' len' cap' ys ∧ (∀ a, ao' = some a → a.spot = none) ∧ Below w.heap.size w w' ∧ (∀ a, ao' = some a → ao = some a ∨ (w.heap.size ≤ a.block ∧ a.block < w'.heap.size))) : Free w' ao' len' cap' ys F := by
  obtain ⟨h1, h2, h3, h4⟩ := hi
  refine ⟨h1, h2, fun a ha => ?_, fun a ha hf => ?_⟩
  · rcases h4 a ha with h5 | h5
    · exact Nat.lt_of_lt_of_le (h.lt a h5) h3.size
    · exact h5.2
  · rcases h4 a ha with h5 | h5
    · exact h.clear a h5 hf
    · have := hF _ hf; omega

theorem Free.drew {w : World} {ao : Option Addr} {len cap : Nat} {xs : List Int} {F : Nat → Prop} (h : Free w ao len cap xs F) : Free w.drew ao len cap xs F := ⟨h.seg.drew, h.spot, h.lt, h.clear⟩

/-- The call of in, beside sets. -/
theorem in_free (down : Bool) {w : World} {ao : Option Addr} {n cap : Nat} {xs ys : List Int} {F : Nat → Prop} (h : Free w ao n cap xs F) (hF : ∀ k, F k → k < w.heap.size) (hn : xs.length ≤ 1000) (x : Int) (hy : ys = ins (ordI down) x xs) :
    Calls Try.prog 14 #[.slice ao n cap, .int .i64 x, .bool down] w fun e w' => ∃ ao' n' cap', e = .returned (.slice ao' n' cap') ∧ Hid (Free w' ao' n' cap' ys F ∧ Below w.heap.size w w') := by
  subst hy
  refine (in_spec down h.seg h.spot (by rw [← h.seg.size]; exact hn) x).mono ?_
  rintro e w' ⟨ao', cap', rfl, X⟩
  exact ⟨ao', _, cap', rfl, h.more hF X.out, X.out.2.2.1⟩

/-- The blocks of two sets. -/
def Feet (ps : Nat) (vs : Value) (pt : Nat) (vt : Value) (k : Nat) : Prop := Foot ps vs k ∨ Foot pt vt k

theorem Two.lt {w0 w : World} {ps pt : Nat} {vs vt : Value} {xs ys : List Int} (h : Two w0 w ps vs xs pt vt ys) : ∀ k, Feet ps vs pt vt k → k < w.heap.size := by
  rintro k (h1 | h1)
  · exact IsSet.lt h.s k h1
  · exact IsSet.lt h.t k h1

theorem Free.ws {w w' : World} {ao : Option Addr} {len cap : Nat} {xs : List Int} {ps pt : Nat} {vs vs' vt : Value} (h : Free w ao len cap xs (Feet ps vs pt vt)) (hw : Wrote w ps vs w' vs') : Free w' ao len cap xs (Feet ps vs' pt vt) :=
  h.wrote hw (fun _ hk => .inl hk) (fun _ hk => hk.elim (fun h1 => (foot_wrote hw h1).elim (fun h2 => .inl (.inl h2)) .inr) (fun h1 => .inl (.inr h1)))

theorem Free.wt {w w' : World} {ao : Option Addr} {len cap : Nat} {xs : List Int} {ps pt : Nat} {vs vt vt' : Value} (h : Free w ao len cap xs (Feet ps vs pt vt)) (hw : Wrote w pt vt w' vt') : Free w' ao len cap xs (Feet ps vs pt vt') :=
  h.wrote hw (fun _ hk => .inr hk) (fun _ hk => hk.elim (fun h1 => .inl (.inl h1)) (fun h1 => (foot_wrote hw h1).elim (fun h2 => .inl (.inr h2)) .inr))

theorem take_end {zs : List Int} {n K I : Nat} (hn : zs.length = n) (h1 : I ≤ n) (h2 : I ≤ K) (h3 : ¬ (I < n ∧ I < K)) : zs.take I = zs.take K := by
  rcases Nat.lt_or_ge I K with h4 | h4
  · rw [List.take_of_length_le (by omega), List.take_of_length_le (by omega)]
  · rw [show I = K by omega]

theorem join_take_le {cf : Int → Int → Int} (xs zs : List Int) (I : Nat) : (join cf xs (zs.take I)).length ≤ xs.length + I := by
  have := (join_length_le (cf := cf) (zs.take I) xs).2
  rw [List.length_take] at this
  omega

/-- A slice of numbers that came in. -/
def IsRow (k : IntKind) (w : World) (a : Option Addr) (len cap : Nat) (zs : List Int) : Prop :=
  (a = none ∧ len = 0 ∧ cap = 0 ∧ zs = []) ∨
  ∃ x, a = some x ∧ len ≤ cap ∧ cap ≤ maxLen ∧ zs.length = cap ∧ (∀ i, i < zs.length → w.cell? (x.add i) = some (.int k (zs.getD i 0))) ∧ ∀ n ∈ zs, (Lit.int k n).wf = true

theorem IsRow.seg {w : World} {a : Option Addr} {len cap : Nat} {zs : List Int} (h : IsRow .i64 w a len cap zs) : Seg (Value.int .i64) 0 w a len cap (zs.take len) := by
  rcases h with ⟨rfl, rfl, rfl, rfl⟩ | ⟨x, rfl, hl, hm, hz, hc, _⟩
  · exact ⟨rfl, Nat.le_refl _, Nat.zero_le _, fun _ => ⟨rfl, rfl⟩, fun a h => (by cases h)⟩
  · refine ⟨by rw [List.length_take]; omega, hl, hm, fun h => (by cases h), fun a ha j hj => ?_⟩
    cases ha
    rw [hc j (by omega), List.getElem?_take, if_pos hj, List.getD_eq_getElem?_getD]

end Go.Proofs.Ytdgdaldgchbbaaa
