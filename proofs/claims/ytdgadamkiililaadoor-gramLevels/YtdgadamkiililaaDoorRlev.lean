/-
  Levels, told by the tokens that have them; the text of one level as the reference lays it.
-/
import Derived.Test.YtdgadamkiililaaDoorText
namespace Go.Proofs.YtdgadamkiililaaDoor
open Go.RowKit

/-- The kinds l are those of the tokens ts. -/
structure LevI (ts : List Tk) (l : List Int) : Prop where
  len : l.length = 9
  of : ∀ t ∈ ts, LevP t ∧ at9 l t.l = t.a
  has : ∀ k : Nat, (l[k]?).getD 0 ≠ 0 → ∃ t ∈ ts, t.l = (k : Int)

theorem LevP.range {t : Tk} (h : LevP t) : 0 ≤ t.l ∧ t.l ≤ 8 := by unfold LevP at h; omega

theorem at9_set (l : List Int) (i j a : Int) (hl : l.length = 9) (hi : 0 ≤ i ∧ i ≤ 8) (hj : 0 ≤ j) : at9 (l.set i.toNat a) j = if i = j then a else at9 l j := by
  unfold at9
  rw [List.getElem?_set]
  by_cases h : i = j
  · subst h
    rw [if_pos rfl, if_pos rfl, if_pos (by omega)]
    rfl
  · rw [if_neg (by omega), if_neg h]

theorem LevI.step {ts : List Tk} {l l' : List Int} {t : Tk} (h : LevI ts l) (hs : levS (some l) t = some l') : LevI (ts ++ [t]) l' := by
  unfold levS at hs
  simp only at hs
  split at hs
  · rename_i hc
    cases hs
    obtain ⟨hL, hA⟩ := hc
    have hr := hL.range
    refine ⟨by simpa using h.len, fun u hu => ?_, fun k hk => ?_⟩
    · rw [List.mem_append] at hu
      rcases hu with hu | hu
      · obtain ⟨h1, h2⟩ := h.of u hu
        refine ⟨h1, ?_⟩
        rw [at9_set l t.l u.l t.a h.len hr h1.range.1]
        split
        · rename_i he
          rw [he] at hA
          rw [h2] at hA
          rcases hA with hA | hA
          · unfold LevP at h1 hL
            omega
          · exact hA.symm
        · exact h2
      · obtain rfl : u = t := by simpa using hu
        refine ⟨hL, ?_⟩
        rw [at9_set l u.l u.l u.a h.len hr hr.1, if_pos rfl]
    · rw [List.getElem?_set] at hk
      split at hk
      · rename_i he
        exact ⟨t, by simp, by omega⟩
      · obtain ⟨u, hu, he⟩ := h.has k hk
        exact ⟨u, by simp [hu], he⟩
  · cases hs

theorem levI_fold : ∀ (ts done : List Tk) (l l' : List Int), LevI done l → ts.foldl levS (some l) = some l' → LevI (done ++ ts) l'
  | [], done, l, l', h, hf => by cases hf; rw [List.append_nil]; exact h
  | t :: r, done, l, l', h, hf => by
    have hf : r.foldl levS (levS (some l) t) = some l' := hf
    cases hm : levS (some l) t with
    | none => rw [hm, levS_none] at hf; cases hf
    | some m =>
      rw [hm] at hf
      have := levI_fold r (done ++ [t]) m l' (h.step hm) hf
      rwa [List.append_assoc] at this

theorem zero9_at (k : Nat) : (zero9[k]?).getD 0 = 0 := by
  match k with
  | 0 => rfl
  | 1 => rfl
  | 2 => rfl
  | 3 => rfl
  | 4 => rfl
  | 5 => rfl
  | 6 => rfl
  | 7 => rfl
  | 8 => rfl
  | n + 9 => rfl

theorem levI_zero : LevI [] zero9 := ⟨rfl, fun _ h => (by cases h), fun k hk => absurd (zero9_at k) hk⟩

theorem levI {ts : List Tk} {l : List Int} (h : levF ts = some l) : LevI ts l := levI_fold ts [] zero9 l levI_zero h

/-- What the tokens of one level are called, with their kind ahead. -/
def lineK (ts : List Tk) (k a : Int) : List UInt8 := if namesAt ts k = [] then [] else by8 (keyA a) ++ sp ((namesAt ts k).map by8)

theorem namesAt_nil {ts : List Tk} {k : Int} : namesAt ts k = [] ↔ ∀ t ∈ ts, t.l ≠ k := by
  unfold namesAt
  rw [List.map_eq_nil_iff, List.filter_eq_nil_iff]
  constructor
  · intro h t ht he; exact h t ht (by simpa using he)
  · intro h t ht he; exact h t ht (by simpa using he)

/-- A level's line, as the text has it. -/
theorem lineK_ln {ts : List Tk} {l : List Int} (h : LevI ts l) (k : Nat) (hk : 1 ≤ k) : tx (levLn ts l k) = if namesAt ts k = [] then [] else lineK ts k ((l[k]?).getD 0) ++ [10] := by
  unfold levLn lineK
  by_cases h0 : (l[k]?).getD 0 = 0
  · rw [if_pos h0]
    have hn : namesAt ts k = [] := namesAt_nil.2 (fun t ht he => by
      obtain ⟨h1, h2⟩ := h.of t ht
      unfold at9 at h2
      rw [he, Int.toNat_natCast, h0] at h2
      unfold LevP at h1
      omega)
    rw [if_pos hn]
    rfl
  · rw [if_neg h0]
    have hn : namesAt ts k ≠ [] := fun hc => by
      obtain ⟨t, ht, he⟩ := h.has k h0
      exact namesAt_nil.1 hc t ht he
    rw [if_neg hn, if_neg hn, tx_one]
    rfl

theorem lineK_snoc (ts : List Tk) (t : Tk) (k a : Int) (h : t.l = k) : lineK (ts ++ [t]) k a = (if namesAt ts k = [] then by8 (keyA a) else []) ++ lineK ts k a ++ (32 :: by8 t.n) := by
  have e : namesAt (ts ++ [t]) k = namesAt ts k ++ [t.n] := by rw [namesAt_snoc, if_pos (by simpa using h)]
  unfold lineK
  rw [e, if_neg (by simp), List.map_append, sp_append]
  show _ ++ (_ ++ sp [by8 t.n]) = _
  rw [sp_one]
  by_cases hn : namesAt ts k = []
  · rw [if_pos hn, if_pos hn, hn]
    simp [sp]
  · rw [if_neg hn, if_neg hn]
    simp

theorem lineK_skip (ts : List Tk) (t : Tk) (k a : Int) (h : t.l ≠ k) : lineK (ts ++ [t]) k a = lineK ts k a := by
  have e : namesAt (ts ++ [t]) k = namesAt ts k := by rw [namesAt_snoc, if_neg (by simpa using h), List.append_nil]
  unfold lineK
  rw [e]

theorem lineK_nil {ts : List Tk} {k a : Int} (h : namesAt ts k = []) : lineK ts k a = [] := by unfold lineK; rw [if_pos h]
theorem lineK_pos {ts : List Tk} {k a : Int} (h : namesAt ts k ≠ []) : 1 ≤ (lineK ts k a).length := by
  unfold lineK
  rw [if_neg h, List.length_append]
  have : 1 ≤ (by8 (keyA a)).length := by unfold keyA; split <;> (try split) <;> decide
  omega

theorem namesAt_mem {ts : List Tk} {k : Int} {x : ByteArray} (h : x ∈ namesAt ts k) : ∃ t ∈ ts, t.n = x := by
  unfold namesAt at h
  obtain ⟨t, ht, rfl⟩ := List.mem_map.1 h
  exact ⟨t, (List.mem_filter.1 ht).1, rfl⟩

theorem lineK_length {ts : List Tk} {k a : Int} (hs : ∀ t ∈ ts, t.n.size ≤ 100) : (lineK ts k a).length ≤ 100 + 101 * ts.length := by
  unfold lineK
  split
  · simp
  · rw [List.length_append]
    have h1 : (by8 (keyA a)).length ≤ 100 := keyA_size a
    have h2 := sp_length ((namesAt ts k).map by8) (fun x hx => by
      obtain ⟨y, hy, rfl⟩ := List.mem_map.1 hx
      obtain ⟨t, ht, rfl⟩ := namesAt_mem hy
      exact hs t ht)
    rw [List.length_map] at h2
    have h3 := namesAt_length ts k
    omega

end Go.Proofs.YtdgadamkiililaaDoor
