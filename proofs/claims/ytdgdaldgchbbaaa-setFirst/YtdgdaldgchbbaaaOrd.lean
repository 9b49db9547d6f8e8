/-
  Plain mathematics of a set in order: where a member stands, lists with a member more or less, two lists laid together.
-/
namespace Go.Proofs.Ytdgdaldgchbbaaa

/-- An order told by numbers: below 0, 0, above 0. -/
structure Ord {α : Type} (cf : α → α → Int) : Prop where
  trans : ∀ a b c, cf a b < 0 → cf b c < 0 → cf a c < 0
  alike : ∀ a b c, cf a b < 0 → cf b c = 0 → cf a c < 0
  turn : ∀ a b, 0 < cf a b → cf b a < 0
  same : ∀ a, cf a a = 0

/-- How many stand ahead of x. -/
def pos {α : Type} (cf : α → α → Int) (x : α) (xs : List α) : Nat := (xs.takeWhile fun y => decide (cf y x < 0)).length
/-- Is one like x there? -/
def isIn {α : Type} (cf : α → α → Int) (x : α) (xs : List α) : Bool := match xs[pos cf x xs]? with | some y => decide (cf y x = 0) | none => false
def put {α : Type} (cf : α → α → Int) (x : α) (xs : List α) : List α := xs.take (pos cf x xs) ++ x :: xs.drop (pos cf x xs)
def cut {α : Type} (cf : α → α → Int) (x : α) (xs : List α) : List α := xs.take (pos cf x xs) ++ xs.drop (pos cf x xs + 1)
/-- With x. -/
def ins {α : Type} (cf : α → α → Int) (x : α) (xs : List α) : List α := bif isIn cf x xs then xs else put cf x xs
/-- Without x. -/
def del {α : Type} (cf : α → α → Int) (x : α) (xs : List α) : List α := bif isIn cf x xs then cut cf x xs else xs
/-- In order, no two alike. -/
def Sorted {α : Type} (cf : α → α → Int) (xs : List α) : Prop := xs.Pairwise fun a b => cf a b < 0
/-- With all of ys. -/
def join {α : Type} (cf : α → α → Int) : List α → List α → List α
  | xs, [] => xs
  | xs, y :: r => join cf (ins cf y xs) r

theorem pos_le {α : Type} (cf : α → α → Int) (x : α) (xs : List α) : pos cf x xs ≤ xs.length := (List.takeWhile_prefix _).length_le

theorem pos_cons {α : Type} (cf : α → α → Int) (x y : α) (xs : List α) : pos cf x (y :: xs) = if cf y x < 0 then pos cf x xs + 1 else 0 := by
  unfold pos
  by_cases h : cf y x < 0
  · simp [h]
  · simp [h]

/-- What is ahead of the place is below x; what stands at the place is not. -/
theorem pos_below {α : Type} (cf : α → α → Int) (x : α) : ∀ (xs : List α) (j : Nat) (y : α), j < pos cf x xs → xs[j]? = some y → cf y x < 0
  | [], j, y, h, e => by simp at e
  | z :: r, j, y, h, e => by
    rw [pos_cons] at h
    by_cases hz : cf z x < 0
    · rw [if_pos hz] at h
      cases j with
      | zero => simp at e; subst e; exact hz
      | succ j => exact pos_below cf x r j y (by omega) (by simpa using e)
    · rw [if_neg hz] at h; omega

theorem pos_at {α : Type} (cf : α → α → Int) (x : α) : ∀ (xs : List α) (y : α), xs[pos cf x xs]? = some y → ¬ cf y x < 0
  | [], y, e => by simp at e
  | z :: r, y, e => by
    rw [pos_cons] at e
    by_cases hz : cf z x < 0
    · rw [if_pos hz] at e
      exact pos_at cf x r y (by simpa using e)
    · rw [if_neg hz] at e
      simp at e; subst e; exact hz

/-- The place is known by its two sides. -/
theorem pos_unique {α : Type} (cf : α → α → Int) (x : α) : ∀ (xs : List α) (i : Nat), i ≤ xs.length → (∀ j y, j < i → xs[j]? = some y → cf y x < 0) → (∀ y, xs[i]? = some y → ¬ cf y x < 0) → pos cf x xs = i
  | [], i, hi, _, _ => by simp at hi; simp [pos, hi]
  | z :: r, 0, _, _, h2 => by
    rw [pos_cons, if_neg (h2 z (by simp))]
  | z :: r, i + 1, hi, h1, h2 => by
    rw [pos_cons, if_pos (h1 0 z (by omega) (by simp)), pos_unique cf x r i (by simpa using hi) (fun j y hj e => h1 (j + 1) y (by omega) (by simpa using e)) (fun y e => h2 y (by simpa using e))]

theorem Sorted.at {α : Type} {cf : α → α → Int} {xs : List α} (h : Sorted cf xs) {i j : Nat} {a b : α} (hij : i < j) (ha : xs[i]? = some a) (hb : xs[j]? = some b) : cf a b < 0 := by
  obtain ⟨hi, rfl⟩ := List.getElem?_eq_some_iff.1 ha
  obtain ⟨hj, rfl⟩ := List.getElem?_eq_some_iff.1 hb
  exact List.pairwise_iff_getElem.1 h i j hi hj hij

/-- What stands ahead of one that is below x is below x. -/
theorem Sorted.mono {α : Type} {cf : α → α → Int} (o : Ord cf) {xs : List α} (h : Sorted cf xs) (x : α) {i j : Nat} {a b : α} (hij : i ≤ j) (ha : xs[i]? = some a) (hb : xs[j]? = some b) (hx : cf b x < 0) : cf a x < 0 := by
  rcases Nat.lt_or_eq_of_le hij with h1 | rfl
  · exact o.trans _ _ _ (h.at h1 ha hb) hx
  · rw [ha] at hb; cases hb; exact hx

theorem isIn_iff {α : Type} {cf : α → α → Int} (o : Ord cf) {xs : List α} (h : Sorted cf xs) (x : α) : isIn cf x xs = true ↔ ∃ y, y ∈ xs ∧ cf y x = 0 := by
  constructor
  · intro hi
    unfold isIn at hi
    cases hy : xs[pos cf x xs]? with
    | none => rw [hy] at hi; cases hi
    | some y =>
      rw [hy] at hi
      exact ⟨y, List.mem_of_getElem? hy, by simpa using hi⟩
  · rintro ⟨y, hm, h0⟩
    obtain ⟨j, hj, rfl⟩ := List.getElem_of_mem hm
    have he : xs[j]? = some xs[j] := List.getElem?_eq_getElem hj
    have hp : pos cf x xs = j := pos_unique cf x xs j (by omega) (fun i z hi hz => o.alike _ _ _ (h.at hi hz he) h0) (fun z hz => by rw [he] at hz; cases hz; omega)
    unfold isIn
    rw [hp, he]
    simpa using h0

theorem take_mem_pos {α : Type} {cf : α → α → Int} {x : α} {xs : List α} {y : α} (hy : y ∈ xs.take (pos cf x xs)) : cf y x < 0 := by
  obtain ⟨j, hj, rfl⟩ := List.getElem_of_mem hy
  have hl : j < pos cf x xs := by rw [List.length_take] at hj; omega
  refine pos_below cf x xs j _ hl ?_
  rw [← List.getElem?_eq_getElem hj, List.getElem?_take, if_pos hl]

theorem drop_mem_pos {α : Type} {cf : α → α → Int} (o : Ord cf) {x : α} {xs : List α} (h : Sorted cf xs) (hn : isIn cf x xs = false) {y : α} (hy : y ∈ xs.drop (pos cf x xs)) : cf x y < 0 := by
  obtain ⟨j, hj, rfl⟩ := List.getElem_of_mem hy
  have he : xs[pos cf x xs + j]? = some (xs.drop (pos cf x xs))[j] := by rw [← List.getElem?_eq_getElem hj, List.getElem?_drop]
  have hlt : pos cf x xs + j < xs.length := (List.getElem?_eq_some_iff.1 he).1
  have h0 : xs[pos cf x xs]? = some xs[pos cf x xs] := List.getElem?_eq_getElem (by omega)
  have h1 := pos_at cf x xs _ h0
  have h2 : ¬ cf xs[pos cf x xs] x = 0 := by
    intro hz
    unfold isIn at hn
    rw [h0] at hn
    simp [hz] at hn
  have h3 : cf x xs[pos cf x xs] < 0 := o.turn _ _ (by omega)
  cases j with
  | zero =>
    rw [Nat.add_zero, h0] at he
    rw [← Option.some.inj he]
    exact h3
  | succ j => exact o.trans _ _ _ h3 (h.at (by omega) h0 he)

theorem put_sorted {α : Type} {cf : α → α → Int} (o : Ord cf) {x : α} {xs : List α} (h : Sorted cf xs) (hn : isIn cf x xs = false) : Sorted cf (put cf x xs) := by
  unfold Sorted put
  rw [List.pairwise_append]
  refine ⟨h.sublist (List.take_sublist _ _), List.pairwise_cons.2 ⟨fun y hy => drop_mem_pos o h hn hy, h.sublist (List.drop_sublist _ _)⟩, ?_⟩
  intro a ha b hb
  have hax := take_mem_pos ha
  rcases List.mem_cons.1 hb with rfl | hb
  · exact hax
  · exact o.trans _ _ _ hax (drop_mem_pos o h hn hb)

theorem ins_sorted {α : Type} {cf : α → α → Int} (o : Ord cf) {x : α} {xs : List α} (h : Sorted cf xs) : Sorted cf (ins cf x xs) := by
  unfold ins
  cases hi : isIn cf x xs with
  | true => exact h
  | false => exact put_sorted o h hi

theorem cut_sorted {α : Type} {cf : α → α → Int} {x : α} {xs : List α} (h : Sorted cf xs) : Sorted cf (cut cf x xs) := by
  have hs : (cut cf x xs).Sublist xs := by
    unfold cut
    conv => rhs; rw [← List.take_append_drop (pos cf x xs) xs]
    refine List.Sublist.append (List.Sublist.refl _) ?_
    rw [← List.drop_drop]
    exact List.drop_sublist _ _
  exact List.Pairwise.sublist hs h

theorem del_sorted {α : Type} {cf : α → α → Int} {x : α} {xs : List α} (h : Sorted cf xs) : Sorted cf (del cf x xs) := by
  unfold del
  cases isIn cf x xs with
  | true => exact cut_sorted h
  | false => exact h

theorem join_sorted {α : Type} {cf : α → α → Int} (o : Ord cf) : ∀ (ys : List α) {xs : List α}, Sorted cf xs → Sorted cf (join cf xs ys)
  | [], _, h => h
  | _ :: r, _, h => join_sorted o r (ins_sorted o h)

theorem put_length {α : Type} {cf : α → α → Int} {x : α} {xs : List α} : (put cf x xs).length = xs.length + 1 := by
  have := pos_le cf x xs
  unfold put
  simp only [List.length_append, List.length_cons, List.length_take, List.length_drop]
  omega

theorem ins_length_le {α : Type} {cf : α → α → Int} {x : α} {xs : List α} : (ins cf x xs).length ≤ xs.length + 1 ∧ xs.length ≤ (ins cf x xs).length := by
  unfold ins
  cases isIn cf x xs with
  | true => simp
  | false => simp only [cond_false]; rw [put_length]; omega

theorem ins_length {α : Type} {cf : α → α → Int} {x : α} {xs : List α} : (ins cf x xs).length = xs.length + (if isIn cf x xs then 0 else 1) := by
  unfold ins
  cases isIn cf x xs with
  | true => simp
  | false => simp only [cond_false]; rw [put_length]; simp

theorem isIn_pos {α : Type} {cf : α → α → Int} {x : α} {xs : List α} (h : isIn cf x xs = true) : pos cf x xs < xs.length := by
  unfold isIn at h
  rcases Nat.lt_or_ge (pos cf x xs) xs.length with hl | hl
  · exact hl
  · rw [List.getElem?_eq_none hl] at h; cases h

theorem cut_length {α : Type} {cf : α → α → Int} {x : α} {xs : List α} (h : isIn cf x xs = true) : (cut cf x xs).length + 1 = xs.length := by
  have := isIn_pos h
  unfold cut
  simp only [List.length_append, List.length_take, List.length_drop]
  omega

theorem del_length_le {α : Type} {cf : α → α → Int} {x : α} {xs : List α} : (del cf x xs).length ≤ xs.length := by
  unfold del
  cases h : isIn cf x xs with
  | true => have := cut_length h; simp only [cond_true]; omega
  | false => simp

theorem join_length_le {α : Type} {cf : α → α → Int} : ∀ (ys xs : List α), xs.length ≤ (join cf xs ys).length ∧ (join cf xs ys).length ≤ xs.length + ys.length
  | [], xs => by simp [join]
  | y :: r, xs => by
    have h := join_length_le (cf := cf) r (ins cf y xs)
    have k := ins_length_le (cf := cf) (x := y) (xs := xs)
    simp only [join, List.length_cons]
    omega

theorem join_append {α : Type} {cf : α → α → Int} : ∀ (ys zs xs : List α), join cf xs (ys ++ zs) = join cf (join cf xs ys) zs
  | [], _, _ => rfl
  | y :: r, zs, xs => by simp only [List.cons_append, join]; exact join_append r zs _

theorem join_snoc {α : Type} {cf : α → α → Int} (ys : List α) (y : α) (xs : List α) : join cf xs (ys ++ [y]) = ins cf y (join cf xs ys) := by
  rw [join_append]
  rfl

/-- Did any come? -/
theorem join_came {α : Type} {cf : α → α → Int} (ys : List α) (y : α) (xs : List α) : decide (xs.length < (join cf xs (ys ++ [y])).length) = (decide (xs.length < (join cf xs ys).length) || !isIn cf y (join cf xs ys)) := by
  rw [join_snoc, ins_length]
  have := (join_length_le (cf := cf) ys xs).1
  cases isIn cf y (join cf xs ys) with
  | true => simp
  | false =>
    simp only [Bool.not_false, Bool.or_true, decide_eq_true_eq]
    simp
    omega

theorem put_mem {α : Type} {cf : α → α → Int} {x y : α} {xs : List α} : y ∈ put cf x xs ↔ y = x ∨ y ∈ xs := by
  unfold put
  conv => rhs; rw [← List.take_append_drop (pos cf x xs) xs]
  simp only [List.mem_append, List.mem_cons]
  constructor
  · rintro (h | h | h)
    · exact .inr (.inl h)
    · exact .inl h
    · exact .inr (.inr h)
  · rintro (h | h | h)
    · exact .inr (.inl h)
    · exact .inl h
    · exact .inr (.inr h)

/-- Of two numbers. -/
def cmpI (a b : Int) : Int := if a < b then -1 else if b < a then 1 else 0
def bakI (a b : Int) : Int := cmpI b a

theorem cmpI_neg (a b : Int) : cmpI a b < 0 ↔ a < b := by
  unfold cmpI
  by_cases h1 : a < b
  · simp [h1]
  · by_cases h2 : b < a <;> simp [h1, h2]
theorem cmpI_zero (a b : Int) : cmpI a b = 0 ↔ a = b := by
  unfold cmpI
  by_cases h1 : a < b
  · simp [h1]; omega
  · by_cases h2 : b < a
    · simp [h1, h2]; omega
    · simp [h1, h2]; omega
theorem cmpI_pos (a b : Int) : 0 < cmpI a b ↔ b < a := by
  unfold cmpI
  by_cases h1 : a < b
  · simp [h1]; omega
  · by_cases h2 : b < a <;> simp [h1, h2]
theorem cmpI_ord : Ord cmpI where
  trans := fun a b c h k => by rw [cmpI_neg] at *; omega
  alike := fun a b c h k => by rw [cmpI_neg] at *; rw [cmpI_zero] at k; omega
  turn := fun a b h => by rw [cmpI_pos] at h; rw [cmpI_neg]; exact h
  same := fun a => by rw [cmpI_zero]
theorem bakI_ord : Ord bakI where
  trans := fun a b c h k => by unfold bakI at *; rw [cmpI_neg] at *; omega
  alike := fun a b c h k => by unfold bakI at *; rw [cmpI_neg] at *; rw [cmpI_zero] at k; omega
  turn := fun a b h => by unfold bakI at *; rw [cmpI_pos] at h; rw [cmpI_neg]; exact h
  same := fun a => by unfold bakI; rw [cmpI_zero]

end Go.Proofs.Ytdgdaldgchbbaaa
