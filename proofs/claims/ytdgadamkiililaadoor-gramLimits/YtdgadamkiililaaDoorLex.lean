/-
  Plain mathematics of words in a list of bytes: runs, what stands between words, words, a whole scan. No program is named here.
-/
namespace Go.Proofs.YtdgadamkiililaaDoor

/-- The byte at a place. -/
def bt (l : List UInt8) (i : Nat) : Int := ((l[i]?.getD 0).toNat : Int)

theorem bt_range (l : List UInt8) (i : Nat) : 0 ≤ bt l i ∧ bt l i ≤ 255 := by
  unfold bt
  have := (l[i]?.getD 0).toNat_lt
  omega

def isL (c : Int) : Bool := (decide (97 ≤ c) && decide (c ≤ 122)) || (decide (65 ≤ c) && decide (c ≤ 90)) || (c == 95)
def isD (c : Int) : Bool := decide (48 ≤ c) && decide (c ≤ 57)
def isN (c : Int) : Bool := isL c || isD c
def isB (c : Int) : Bool := c == 32 || c == 9 || c == 10
def isS (c : Int) : Bool := c == 58 || c == 124 || c == 59
def noNl (c : Int) : Bool := c != 10

def runLen (p : Int → Bool) : List UInt8 → Nat
  | [] => 0
  | b :: r => if p (b.toNat : Int) = true then runLen p r + 1 else 0

/-- Where bytes of that kind end. -/
def runEnd (p : Int → Bool) (l : List UInt8) (i : Nat) : Nat := i + runLen p (l.drop i)

theorem drop_at {l : List UInt8} {i : Nat} (h : i < l.length) : ∃ b, l.drop i = b :: l.drop (i + 1) ∧ bt l i = (b.toNat : Int) :=
  ⟨l[i], List.drop_eq_getElem_cons h, by unfold bt; rw [List.getElem?_eq_getElem h]; rfl⟩

theorem runEnd_step {p : Int → Bool} {l : List UInt8} {i : Nat} (h : i < l.length) (hp : p (bt l i) = true) : runEnd p l i = runEnd p l (i + 1) := by
  obtain ⟨b, hd, hb⟩ := drop_at h
  unfold runEnd
  rw [hd]
  rw [hb] at hp
  simp only [runLen, hp, if_true]
  omega

theorem runEnd_stop {p : Int → Bool} {l : List UInt8} {i : Nat} (h : i < l.length) (hp : p (bt l i) = false) : runEnd p l i = i := by
  obtain ⟨b, hd, hb⟩ := drop_at h
  unfold runEnd
  rw [hd]
  rw [hb] at hp
  simp [runLen, hp]

theorem runEnd_out {p : Int → Bool} {l : List UInt8} {i : Nat} (h : l.length ≤ i) : runEnd p l i = i := by
  unfold runEnd
  rw [List.drop_eq_nil_of_le h]
  rfl

theorem le_runEnd (p : Int → Bool) (l : List UInt8) (i : Nat) : i ≤ runEnd p l i := Nat.le_add_right _ _

theorem runLen_le (p : Int → Bool) : ∀ l : List UInt8, runLen p l ≤ l.length
  | [] => Nat.le_refl _
  | b :: r => by
    unfold runLen
    split
    · have := runLen_le p r; simp; omega
    · simp

theorem runEnd_le {p : Int → Bool} {l : List UInt8} {i : Nat} (h : i ≤ l.length) : runEnd p l i ≤ l.length := by
  unfold runEnd
  have := runLen_le p (l.drop i)
  rw [List.length_drop] at this
  omega

/-- Two bytes, one behind the other. -/
def pre2 (x y : Int) (l : List UInt8) (i : Nat) : Bool := decide (i + 1 < l.length) && (bt l i == x) && (bt l (i + 1) == y)

def skipF : Nat → List UInt8 → Nat → Nat
  | 0, _, i => i
  | f + 1, l, i => if i < l.length then (if isB (bt l i) = true then skipF f l (i + 1) else if pre2 47 47 l i = true then skipF f l (runEnd noNl l i) else i) else i

/-- Where the next word begins, or all ends. -/
def skip (l : List UInt8) (i : Nat) : Nat := skipF (l.length + 1) l i

theorem skip_out {f : Nat} {l : List UInt8} {i : Nat} (h : l.length ≤ i) : skipF f l i = i := by
  cases f with
  | zero => rfl
  | succ f => unfold skipF; rw [if_neg (by omega)]

theorem skip_blank {f : Nat} {l : List UInt8} {i : Nat} (h : i < l.length) (hb : isB (bt l i) = true) : skipF (f + 1) l i = skipF f l (i + 1) := by
  rw [skipF, if_pos h, if_pos hb]

theorem skip_line {f : Nat} {l : List UInt8} {i : Nat} (h : i < l.length) (hb : isB (bt l i) = false) (hp : pre2 47 47 l i = true) : skipF (f + 1) l i = skipF f l (runEnd noNl l i) := by
  rw [skipF, if_pos h, if_neg (by simp [hb]), if_pos hp]

theorem skip_word {f : Nat} {l : List UInt8} {i : Nat} (hb : isB (bt l i) = false) (hp : pre2 47 47 l i = false) : skipF f l i = i := by
  cases f with
  | zero => rfl
  | succ f =>
    rw [skipF, if_neg (c := isB (bt l i) = true) (by simp [hb]), if_neg (c := pre2 47 47 l i = true) (by simp [hp])]
    split <;> rfl

theorem line_more {l : List UInt8} {i : Nat} (hp : pre2 47 47 l i = true) : i < l.length ∧ i + 1 ≤ runEnd noNl l i := by
  simp only [pre2, Bool.and_eq_true, decide_eq_true_eq, beq_iff_eq] at hp
  have hi : i < l.length := by omega
  rw [runEnd_step hi (by rw [hp.1.2]; rfl)]
  exact ⟨hi, le_runEnd _ _ _⟩

theorem skipF_le {l : List UInt8} : ∀ (f i : Nat), i ≤ l.length → i ≤ skipF f l i ∧ skipF f l i ≤ l.length
  | 0, i, h => ⟨Nat.le_refl _, h⟩
  | f + 1, i, h => by
    rw [skipF]
    split
    · split
      · have := skipF_le (l := l) f (i + 1) (by omega); omega
      · split
        · rename_i hp
          have h1 := line_more hp
          have := skipF_le f (runEnd noNl l i) (runEnd_le h)
          omega
        · omega
    · omega

theorem skip_le {l : List UInt8} {i : Nat} (h : i ≤ l.length) : i ≤ skip l i ∧ skip l i ≤ l.length := skipF_le _ _ h

def nameP (l : List UInt8) (i : Nat) : Nat × Nat := if 12 < runEnd isN l i - i then (0, i) else (1, runEnd isN l i)

/-- Is what stands from i to e no number? -/
def numBad (l : List UInt8) (i e : Nat) : Bool := decide (4 < e - i) || (decide (1 < e - i) && (bt l i == 48)) || (decide (e < l.length) && isL (bt l e))

def numberP (l : List UInt8) (i : Nat) : Nat × Nat := if numBad l i (runEnd isD l i) = true then (0, i) else (2, runEnd isD l i)

def keyWords : List (List UInt8) := [[116, 111, 107, 101, 110], [108, 101, 102, 116], [114, 105, 103, 104, 116], [110, 111, 110, 97, 115, 115, 111, 99], [115, 116, 97, 114, 116], [101, 120, 112, 101, 99, 116], [112, 114, 101, 99]]

/-- What stands from i to e. -/
def part (l : List UInt8) (i e : Nat) : List UInt8 := (l.drop i).take (e - i)

def keyP (l : List UInt8) (i : Nat) : Nat × Nat :=
  if pre2 37 37 l i = true then (4, i + 2) else if keyWords.contains (part l (i + 1) (runEnd isN l (i + 1))) = true then (4, runEnd isN l (i + 1)) else (0, i)

/-- The word that begins at i: its kind (0: a fault), its end. -/
def wordP (l : List UInt8) (i : Nat) : Nat × Nat :=
  if isL (bt l i) = true then nameP l i else if isD (bt l i) = true then numberP l i else if (bt l i == 37) = true then keyP l i else if isS (bt l i) = true then (3, i + 1) else (0, i)

theorem wordP_name {l : List UInt8} {i : Nat} (h : isL (bt l i) = true) : wordP l i = nameP l i := by unfold wordP; rw [if_pos h]
theorem wordP_num {l : List UInt8} {i : Nat} (h : isL (bt l i) = false) (h2 : isD (bt l i) = true) : wordP l i = numberP l i := by
  unfold wordP; rw [if_neg (by simp [h]), if_pos h2]
theorem wordP_key {l : List UInt8} {i : Nat} (h : isL (bt l i) = false) (h2 : isD (bt l i) = false) (h3 : (bt l i == 37) = true) : wordP l i = keyP l i := by
  unfold wordP; rw [if_neg (by simp [h]), if_neg (by simp [h2]), if_pos h3]
theorem wordP_sign {l : List UInt8} {i : Nat} (h : isL (bt l i) = false) (h2 : isD (bt l i) = false) (h3 : (bt l i == 37) = false) (h4 : isS (bt l i) = true) : wordP l i = (3, i + 1) := by
  unfold wordP; rw [if_neg (by simp [h]), if_neg (by simp [h2]), if_neg (by simp [h3]), if_pos h4]
theorem wordP_none {l : List UInt8} {i : Nat} (h : isL (bt l i) = false) (h2 : isD (bt l i) = false) (h3 : (bt l i == 37) = false) (h4 : isS (bt l i) = false) : wordP l i = (0, i) := by
  unfold wordP; rw [if_neg (by simp [h]), if_neg (by simp [h2]), if_neg (by simp [h3]), if_neg (by simp [h4])]

/-- Each word's end lies behind its beginning, and within the text. -/
theorem wordP_range {l : List UInt8} {i : Nat} (h : i < l.length) : i ≤ (wordP l i).2 ∧ (wordP l i).2 ≤ l.length ∧ ((wordP l i).1 ≠ 0 → i < (wordP l i).2) ∧ (wordP l i).1 ≤ 4 := by
  have hN : runEnd isN l (i + 1) ≤ l.length := runEnd_le (by omega)
  have hD : runEnd isD l (i + 1) ≤ l.length := runEnd_le (by omega)
  have hN' := le_runEnd isN l (i + 1)
  have hD' := le_runEnd isD l (i + 1)
  by_cases h1 : isL (bt l i) = true
  · rw [wordP_name h1]
    have e := runEnd_step (p := isN) h (by unfold isN; rw [h1]; rfl)
    unfold nameP
    split <;> simp <;> omega
  · have h1 : isL (bt l i) = false := by simpa using h1
    by_cases h2 : isD (bt l i) = true
    · rw [wordP_num h1 h2]
      have e := runEnd_step (p := isD) h h2
      unfold numberP
      split <;> simp <;> omega
    · have h2 : isD (bt l i) = false := by simpa using h2
      by_cases h3 : (bt l i == 37) = true
      · rw [wordP_key h1 h2 h3]
        unfold keyP
        split
        · rename_i hp
          simp only [pre2, Bool.and_eq_true, decide_eq_true_eq] at hp
          simp; omega
        · split <;> simp <;> omega
      · have h3 : (bt l i == 37) = false := by simpa using h3
        by_cases h4 : isS (bt l i) = true
        · rw [wordP_sign h1 h2 h3 h4]; simp; omega
        · rw [wordP_none h1 h2 h3 (by simpa using h4)]; simp; omega

def scanF : Nat → List UInt8 → Nat → List (Nat × Nat × Nat) → List (Nat × Nat × Nat) × Int
  | 0, _, _, a => (a, -2)
  | f + 1, l, i, a => if i < l.length then (if (wordP l i).1 = 0 then ([], (i : Int)) else scanF f l (skip l (wordP l i).2) (a ++ [((wordP l i).1, i, (wordP l i).2)])) else (a ++ [(5, l.length, l.length)], -1)

/-- All words (kind, beginning, end), the last one the end's, and -1; or none and the first fault. -/
def scan (l : List UInt8) : List (Nat × Nat × Nat) × Int := scanF (l.length + 1) l (skip l 0) []

theorem scan_out {f : Nat} {l : List UInt8} {i : Nat} {a : List (Nat × Nat × Nat)} (h : l.length ≤ i) : scanF (f + 1) l i a = (a ++ [(5, l.length, l.length)], -1) := by
  rw [scanF, if_neg (by omega)]
theorem scan_bad {f : Nat} {l : List UInt8} {i : Nat} {a : List (Nat × Nat × Nat)} (h : i < l.length) (hw : (wordP l i).1 = 0) : scanF (f + 1) l i a = ([], (i : Int)) := by
  rw [scanF, if_pos h, if_pos hw]
theorem scan_next {f : Nat} {l : List UInt8} {i : Nat} {a : List (Nat × Nat × Nat)} (h : i < l.length) (hw : (wordP l i).1 ≠ 0) :
    scanF (f + 1) l i a = scanF f l (skip l (wordP l i).2) (a ++ [((wordP l i).1, i, (wordP l i).2)]) := by
  rw [scanF, if_pos h, if_neg hw]

/-- Is it a name? -/
def nameOk (l : List UInt8) : Bool := !(l == []) && isL (bt l 0) && (((runEnd isN l 0 : Nat) : Int) == (l.length : Int)) && decide ((l.length : Int) ≤ 12)

/-- Digits of a number, ahead of what is there. -/
def dg : Nat → Nat → List UInt8 → List UInt8
  | 0, _, t => t
  | f + 1, n, t => if n / 10 = 0 then UInt8.ofNat (48 + n % 10) :: t else dg f (n / 10) (UInt8.ofNat (48 + n % 10) :: t)

/-- All but the first byte stay in the run. -/
theorem runEnd_all {p : Int → Bool} {l : List UInt8} : ∀ (k i : Nat), i + k = l.length → (∀ j, i ≤ j → j < l.length → p (bt l j) = true) → runEnd p l i = l.length
  | 0, i, h, _ => by rw [runEnd_out (by omega)]; omega
  | k + 1, i, h, ha => by
    rw [runEnd_step (by omega) (ha i (Nat.le_refl _) (by omega))]
    exact runEnd_all k (i + 1) (by omega) (fun j h1 h2 => ha j (by omega) h2)

/-- In a run all are of its kind. -/
theorem runEnd_in {p : Int → Bool} {l : List UInt8} : ∀ (k i : Nat), i + k = l.length → runEnd p l i = l.length → ∀ j, i ≤ j → j < l.length → p (bt l j) = true
  | 0, i, h, _, j, h1, h2 => by omega
  | k + 1, i, h, he, j, h1, h2 => by
    have hi : i < l.length := by omega
    by_cases hp : p (bt l i) = true
    · rw [runEnd_step hi hp] at he
      rcases Nat.eq_or_lt_of_le h1 with e | h1
      · rw [← e]; exact hp
      · exact runEnd_in k (i + 1) (by omega) he j h1 h2
    · rw [runEnd_stop hi (by simpa using hp)] at he
      omega

/-- One number alone: a fault, or two words. -/
theorem scan_digits {l : List UInt8} (h0 : 0 < l.length) (hd : ∀ j, j < l.length → isD (bt l j) = true) (hz : 1 < l.length → (bt l 0 == 48) = false) :
    scan l = if 4 < l.length then ([], 0) else ([(2, 0, l.length), (5, l.length, l.length)], -1) := by
  have hd0 := hd 0 h0
  have hd1 : 48 ≤ bt l 0 ∧ bt l 0 ≤ 57 := by simpa [isD] using hd0
  have hL : isL (bt l 0) = false := by unfold isL; simp; omega
  have hB : isB (bt l 0) = false := by unfold isB; simp; omega
  have hP : pre2 47 47 l 0 = false := by
    unfold pre2
    have : (bt l 0 == 47) = false := by simp; omega
    rw [this]; simp
  have hs : skip l 0 = 0 := skip_word hB hP
  have hr : runEnd isD l 0 = l.length := runEnd_all l.length 0 (by omega) (fun j _ h => hd j h)
  have hw : wordP l 0 = if 4 < l.length then (0, 0) else (2, l.length) := by
    rw [wordP_num hL hd0]
    unfold numberP numBad
    rw [hr]
    by_cases h4 : 4 < l.length
    · simp [h4]
    · by_cases h1 : 1 < l.length
      · simp [h4, hz h1]
      · simp [h4, h1]
  unfold scan
  rw [hs]
  by_cases h4 : 4 < l.length
  · rw [if_pos h4] at hw ⊢
    rw [scan_bad h0 (by rw [hw])]
    rfl
  · rw [if_neg h4] at hw ⊢
    obtain ⟨m, hm⟩ : ∃ m, l.length = m + 1 := ⟨l.length - 1, by omega⟩
    rw [scan_next h0 (by rw [hw]; simp), hw]
    simp only
    have hs2 : skip l l.length = l.length := skip_out (Nat.le_refl _)
    rw [hs2]
    have : scanF l.length l l.length ([] ++ [(2, 0, l.length)]) = scanF (m + 1) l l.length ([] ++ [(2, 0, l.length)]) := by rw [← hm]
    rw [this, scan_out (Nat.le_refl _)]
    rfl

end Go.Proofs.YtdgadamkiililaaDoor
