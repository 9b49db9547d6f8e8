/-
  Grammars as plain data: which may be, in what words they are written.
-/
import Derived.Test.YtdgadamkiililaaDoorBegun
namespace Go.Proofs.YtdgadamkiililaaDoor
open Go.RowKit

/-- A token, a rule, a grammar. -/
structure Tk where
  n : ByteArray
  l : Int
  a : Int
structure Ru where
  l : ByteArray
  r : List ByteArray
  p : ByteArray
structure Gm where
  ts : List Tk
  s : ByteArray
  e : Int
  rs : List Ru

theorem by8_inj {a b : ByteArray} (h : by8 a = by8 b) : a = b := by
  apply ByteArray.ext
  exact Array.toList_inj.1 h

theorem toList_beq (a b : ByteArray) : (a.toList == b.toList) = true ↔ a = b := by
  rw [by8_toList, by8_toList]
  constructor
  · intro h; exact by8_inj (by simpa using h)
  · rintro rfl; simp

theorem toList_beq_ne {a b : ByteArray} (h : a ≠ b) : (a.toList == b.toList) = false := by
  cases hb : (a.toList == b.toList)
  · rfl
  · exact absurd ((toList_beq a b).1 hb) h

theorem toList_beq_eq {a b : ByteArray} (h : a = b) : (a.toList == b.toList) = true := (toList_beq a b).2 h

theorem toList_nil (a : ByteArray) : (a.toList == []) = true ↔ a = ⟨#[]⟩ := by
  have := toList_beq a ⟨#[]⟩
  have e : (⟨#[]⟩ : ByteArray).toList = [] := by rw [by8_toList]; rfl
  rwa [e] at this

/-- A name; a name or nothing. -/
def NameP (s : ByteArray) : Prop := nameOk (by8 s) = true
def NoneP (s : ByteArray) : Prop := s = ⟨#[]⟩ ∨ NameP s

/-- A token's level and kind by themselves. -/
def LevP (t : Tk) : Prop := (t.l = 0 ∧ t.a = 0) ∨ (1 ≤ t.l ∧ t.l ≤ 8 ∧ 1 ≤ t.a ∧ t.a ≤ 3)

def decLevP (t : Tk) : Decidable (LevP t) := inferInstanceAs (Decidable ((t.l = 0 ∧ t.a = 0) ∨ (1 ≤ t.l ∧ t.l ≤ 8 ∧ 1 ≤ t.a ∧ t.a ≤ 3)))
def levB (t : Tk) : Bool := haveI := decLevP t; decide (LevP t)
theorem levB_iff {t : Tk} : levB t = true ↔ LevP t := @decide_eq_true_iff (LevP t) (decLevP t)
theorem levB_not {t : Tk} (h : ¬ LevP t) : levB t = false := @decide_eq_false (LevP t) (decLevP t) h

/-- The kinds of all levels, told token by token: none where two do not go together. -/
def at9 (l : List Int) (i : Int) : Int := (l[i.toNat]?).getD 0
def levS (o : Option (List Int)) (t : Tk) : Option (List Int) :=
  match o with
  | none => none
  | some l => haveI := decLevP t; if LevP t ∧ (at9 l t.l = 0 ∨ at9 l t.l = t.a) then some (l.set t.l.toNat t.a) else none
def zero9 : List Int := [0, 0, 0, 0, 0, 0, 0, 0, 0]
def levF (ts : List Tk) : Option (List Int) := ts.foldl levS (some zero9)

theorem levS_none (ts : List Tk) : ts.foldl levS none = none := by
  induction ts with
  | nil => rfl
  | cons t r ih => exact ih

theorem levF_snoc (ts : List Tk) (t : Tk) : levF (ts ++ [t]) = levS (levF ts) t := by unfold levF; rw [List.foldl_append]; rfl

theorem take_succ {α : Type} {l : List α} {k : Nat} {x : α} (h : l[k]? = some x) : l.take (k + 1) = l.take k ++ [x] := by
  rw [List.take_add_one, h]; rfl

theorem levF_bad {ts : List Tk} {k : Nat} (h : levF (ts.take k) = none) : levF ts = none := by
  conv => lhs; rw [← List.take_append_drop k ts]
  unfold levF at h ⊢
  rw [List.foldl_append, h, levS_none]

theorem levS_length {l l' : List Int} {t : Tk} (h : levS (some l) t = some l') (hl : l.length = 9) : l'.length = 9 := by
  unfold levS at h
  simp only at h
  split at h
  · cases h; simpa using hl
  · cases h

theorem levS_fold : ∀ (ts : List Tk) (l l' : List Int), l.length = 9 → ts.foldl levS (some l) = some l' → l'.length = 9
  | [], l, l', hl, h => by cases h; exact hl
  | t :: r, l, l', hl, h => by
    have h : r.foldl levS (levS (some l) t) = some l' := h
    cases hm : levS (some l) t with
    | none => rw [hm, levS_none] at h; cases h
    | some m => rw [hm] at h; exact levS_fold r m l' (levS_length hm hl) h

theorem levF_length {ts : List Tk} {l : List Int} (h : levF ts = some l) : l.length = 9 := levS_fold ts zero9 l rfl h

/-- No level is there without the one below it. -/
def NoGap (l : List Int) : Prop := ∀ k : Nat, 2 ≤ k → k < 9 → (l[k]?).getD 0 ≠ 0 → (l[k - 1]?).getD 0 ≠ 0

def TokP (ts : List Tk) : Prop :=
  (∀ (i : Nat) (t : Tk), ts[i]? = some t → NameP t.n ∧ ∀ (j : Nat) (u : Tk), j < i → ts[j]? = some u → u.n ≠ t.n) ∧ ∃ l, levF ts = some l ∧ NoGap l
def RuleP (r : Ru) : Prop := NameP r.l ∧ r.r.length ≤ 20 ∧ NoneP r.p ∧ ∀ x ∈ r.r, NameP x

/-- What may be. -/
structure MayP (G : Gm) : Prop where
  nt : G.ts.length ≤ 40
  nr : G.rs.length ≤ 100
  e0 : 0 ≤ G.e
  e1 : G.e ≤ 9999
  st : NoneP G.s
  tk : TokP G.ts
  rl : ∀ r ∈ G.rs, RuleP r

/-- What is not too great to be walked. -/
structure Small (G : Gm) : Prop where
  nt : G.ts.length ≤ 100
  nr : G.rs.length ≤ 200
  st : G.s.size ≤ 100
  tk : ∀ t ∈ G.ts, t.n.size ≤ 100
  rl : ∀ r ∈ G.rs, r.l.size ≤ 100 ∧ r.p.size ≤ 100 ∧ r.r.length ≤ 100 ∧ ∀ x ∈ r.r, x.size ≤ 100

end Go.Proofs.YtdgadamkiililaaDoor
