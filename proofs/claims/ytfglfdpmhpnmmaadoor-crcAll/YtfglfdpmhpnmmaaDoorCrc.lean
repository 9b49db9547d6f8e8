/-
  Plain mathematics of the sum: steps of a bit, of half a byte, of a byte; they are linear over exclusive or, and lose nothing.
-/
namespace Go.Proofs.YtfglfdpmhpnmmaaDoor
namespace Crc

def poly : Nat := 3988292384
def ones : Nat := 4294967295
/-- A step of one bit. -/
def bit (s : Nat) : Nat := if s % 2 = 1 then (s / 2) ^^^ poly else s / 2
def tab : List Nat := [0, 498536548, 997073096, 651767980, 1994146192, 1802195444, 1303535960, 1342533948, 3988292384, 4027552580, 3604390888, 3412177804, 2607071920, 2262029012, 2685067896, 3183342108]
/-- A step of half a byte, by the table. -/
def half (s : Nat) : Nat := (s / 16) ^^^ tab.getD (s % 16) 0
def bit4 (s : Nat) : Nat := bit (bit (bit (bit s)))
def bit8 (s : Nat) : Nat := bit4 (bit4 s)
/-- The bytes l behind the state s. -/
def run (s : Nat) (l : List Nat) : Nat := l.foldl (fun s c => bit8 (s ^^^ c)) s
def more (s : Nat) (l : List Nat) : Nat := ones ^^^ run (ones ^^^ s) l
def sum (l : List Nat) : Nat := more 0 l

theorem xor_self_left (a b : Nat) : a ^^^ (a ^^^ b) = b := by rw [← Nat.xor_assoc, Nat.xor_self, Nat.zero_xor]
theorem xor_swap (a b c : Nat) : a ^^^ (b ^^^ c) = b ^^^ (a ^^^ c) := by rw [← Nat.xor_assoc, Nat.xor_comm a b, Nat.xor_assoc]

theorem xor_half (a b : Nat) : (a ^^^ b) / 2 = a / 2 ^^^ b / 2 := by
  have := Nat.shiftRight_xor_distrib (a := a) (b := b) (i := 1)
  simpa [Nat.shiftRight_eq_div_pow] using this
theorem xor_mod (a b : Nat) : (a ^^^ b) % 2 = (a % 2 + b % 2) % 2 := by
  have h := Nat.testBit_xor a b 0
  simp only [Nat.testBit_zero] at h
  rcases Nat.mod_two_eq_zero_or_one a with ha | ha <;> rcases Nat.mod_two_eq_zero_or_one b with hb | hb <;> rcases Nat.mod_two_eq_zero_or_one (a ^^^ b) with hc | hc <;> simp [ha, hb, hc] at h ⊢

theorem bit_xor (a b : Nat) : bit (a ^^^ b) = bit a ^^^ bit b := by
  unfold bit
  rw [xor_mod, xor_half]
  rcases Nat.mod_two_eq_zero_or_one a with ha | ha <;> rcases Nat.mod_two_eq_zero_or_one b with hb | hb <;> simp only [ha, hb, if_pos, Nat.reduceAdd, Nat.reduceMod, Nat.reduceEqDiff, if_false]
  · rw [Nat.xor_assoc]
  · rw [Nat.xor_assoc, Nat.xor_assoc, Nat.xor_comm (b / 2) poly]
  · rw [Nat.xor_assoc (a / 2), Nat.xor_comm (b / 2), xor_self_left]

theorem bit_lt {a : Nat} (h : a < 4294967296) : bit a < 4294967296 := by
  unfold bit
  split
  · exact Nat.xor_lt_two_pow (n := 32) (by omega) (by decide)
  · omega
theorem bit_zero : bit 0 = 0 := rfl
theorem bit_null {a : Nat} (h : a < 4294967296) (h0 : bit a = 0) : a = 0 := by
  unfold bit at h0
  split at h0
  · have : a / 2 = poly := by
      have := congrArg (· ^^^ poly) h0
      simpa [Nat.xor_assoc] using this
    unfold poly at this
    omega
  · omega

theorem bit4_xor (a b : Nat) : bit4 (a ^^^ b) = bit4 a ^^^ bit4 b := by unfold bit4; simp only [bit_xor]
theorem bit8_xor (a b : Nat) : bit8 (a ^^^ b) = bit8 a ^^^ bit8 b := by unfold bit8; simp only [bit4_xor]
theorem bit4_lt {a : Nat} (h : a < 4294967296) : bit4 a < 4294967296 := bit_lt (bit_lt (bit_lt (bit_lt h)))
theorem bit8_lt {a : Nat} (h : a < 4294967296) : bit8 a < 4294967296 := bit4_lt (bit4_lt h)
theorem bit4_null {a : Nat} (h : a < 4294967296) (h0 : bit4 a = 0) : a = 0 :=
  bit_null h (bit_null (bit_lt h) (bit_null (bit_lt (bit_lt h)) (bit_null (bit_lt (bit_lt (bit_lt h))) h0)))
theorem bit8_null {a : Nat} (h : a < 4294967296) (h0 : bit8 a = 0) : a = 0 := bit4_null h (bit4_null (bit4_lt h) h0)
theorem bit8_zero : bit8 0 = 0 := by decide
theorem bit4_lift (q : Nat) : bit4 (16 * q) = q := by
  unfold bit4 bit
  simp only [show 16 * q % 2 = 0 by omega, show 16 * q / 2 = 8 * q by omega, show 8 * q % 2 = 0 by omega, show 8 * q / 2 = 4 * q by omega, show 4 * q % 2 = 0 by omega, show 4 * q / 2 = 2 * q by omega, show 2 * q % 2 = 0 by omega, show 2 * q / 2 = q by omega, Nat.zero_ne_one, if_false]
theorem bit8_lift (q : Nat) : bit8 (256 * q) = q := by
  unfold bit8
  rw [show 256 * q = 16 * (16 * q) by omega, bit4_lift, bit4_lift]

theorem split (q r : Nat) (h : r < 16) : 16 * q + r = (16 * q) ^^^ r := by
  have h1 := Nat.two_pow_add_eq_or_of_lt (i := 4) h q
  rw [show 2 ^ 4 * q = 16 * q by omega] at h1
  rw [h1]
  apply Nat.eq_of_testBit_eq
  intro i
  rw [Nat.testBit_or, Nat.testBit_xor]
  by_cases hi : i < 4
  · have : (16 * q).testBit i = false := by
      rw [show 16 * q = 2 ^ 4 * q by omega, Nat.testBit_two_pow_mul]
      simp; omega
    rw [this]; simp
  · have : r.testBit i = false := Nat.testBit_lt_two_pow (Nat.lt_of_lt_of_le h (by have := Nat.pow_le_pow_right (n := 2) (by decide) (show 4 ≤ i by omega); simpa using this))
    rw [this]; simp

theorem half_eq (s : Nat) : half s = bit4 s := by
  have hs : s = (16 * (s / 16)) ^^^ (s % 16) := by rw [← split _ _ (Nat.mod_lt _ (by decide))]; omega
  have ht : ∀ r, r < 16 → tab.getD r 0 = bit4 r := by decide
  conv => rhs; rw [hs, bit4_xor, bit4_lift, ← ht _ (Nat.mod_lt _ (by decide))]
  rfl

theorem run_lt (l : List Nat) (hl : ∀ x ∈ l, x < 256) : ∀ {s : Nat}, s < 4294967296 → run s l < 4294967296 := by
  induction l with
  | nil => intro s h; exact h
  | cons c r ih =>
    intro s h
    have hc := hl c (List.mem_cons_self ..)
    exact ih (fun x hx => hl x (List.mem_cons_of_mem _ hx)) (bit8_lt (Nat.xor_lt_two_pow (n := 32) h (by omega)))

theorem run_append (s : Nat) (a b : List Nat) : run s (a ++ b) = run (run s a) b := List.foldl_append ..
theorem run_cons (s c : Nat) (r : List Nat) : run s (c :: r) = run (bit8 (s ^^^ c)) r := rfl
theorem more_more (s : Nat) (a b : List Nat) : more (more s a) b = more s (a ++ b) := by
  unfold more; rw [xor_self_left, run_append]
theorem more_nil (s : Nat) : more s [] = s := by unfold more run; exact xor_self_left _ _
theorem sum_more (a b : List Nat) : more (sum a) b = sum (a ++ b) := more_more ..
theorem more_lt {s : Nat} (l : List Nat) (hl : ∀ x ∈ l, x < 256) (h : s < 4294967296) : more s l < 4294967296 :=
  Nat.xor_lt_two_pow (n := 32) (by decide) (run_lt l hl (Nat.xor_lt_two_pow (n := 32) (by decide) h))
theorem sum_lt (l : List Nat) (hl : ∀ x ∈ l, x < 256) : sum l < 4294967296 := more_lt l hl (by decide)

/-- Two texts of one length: their difference runs by itself. -/
theorem run_xor (a : List Nat) : ∀ (b : List Nat) (s t : Nat), a.length = b.length → run (s ^^^ t) (List.zipWith (· ^^^ ·) a b) = run s a ^^^ run t b := by
  induction a with
  | nil => intro b s t h; cases b with
    | nil => rfl
    | cons _ _ => cases h
  | cons x a ih =>
    intro b s t h
    cases b with
    | nil => cases h
    | cons y b =>
      simp only [List.zipWith_cons_cons, run_cons]
      rw [← ih b _ _ (by simpa using h), ← bit8_xor]
      congr 2
      rw [Nat.xor_assoc, Nat.xor_assoc, xor_swap t]

theorem xor_three (a b c d : Nat) : a ^^^ (b ^^^ c ^^^ d) = (a ^^^ b) ^^^ (a ^^^ c) ^^^ (a ^^^ d) := by
  simp only [Nat.xor_assoc]
  congr 1
  rw [xor_swap c a, xor_self_left]

theorem sum_three (a b c : List Nat) (hb : a.length = b.length) (hc : a.length = c.length) :
    sum (List.zipWith (· ^^^ ·) (List.zipWith (· ^^^ ·) a b) c) = sum a ^^^ sum b ^^^ sum c := by
  have h1 := run_xor (List.zipWith (· ^^^ ·) a b) c (ones ^^^ ones) ones (by rw [List.length_zipWith]; omega)
  rw [run_xor a b ones ones hb] at h1
  have e : ones ^^^ ones ^^^ ones = ones := by decide
  rw [e] at h1
  have e0 : ones ^^^ 0 = ones := by decide
  unfold sum more
  rw [e0, h1, xor_three]

theorem run_zeros (n : Nat) : ∀ {s : Nat}, s < 4294967296 → run s (List.replicate n 0) = 0 → s = 0 := by
  induction n with
  | zero => intro s _ h; exact h
  | succ n ih =>
    intro s hs h
    rw [List.replicate_succ, run_cons, Nat.xor_zero] at h
    exact bit8_null hs (ih (bit8_lt hs) h)
theorem run_zero (n : Nat) : run 0 (List.replicate n 0) = 0 := by
  induction n with
  | zero => rfl
  | succ n ih => rw [List.replicate_succ, run_cons, Nat.xor_zero, bit8_zero, ih]

/-- The bytes of a short text as one number. -/
def word : List Nat → Nat
  | [] => 0
  | c :: r => c ^^^ (256 * word r)
def bits8 : Nat → Nat → Nat
  | 0, s => s
  | n + 1, s => bits8 n (bit8 s)
theorem run_word (l : List Nat) : ∀ s, run s l = bits8 l.length (s ^^^ word l) := by
  induction l with
  | nil => intro s; simp [run, word, bits8]
  | cons c r ih =>
    intro s
    rw [run_cons, ih, List.length_cons, bits8, word]
    congr 1
    rw [show s ^^^ (c ^^^ 256 * word r) = (s ^^^ c) ^^^ 256 * word r from (Nat.xor_assoc ..).symm, bit8_xor (s ^^^ c), bit8_lift]
theorem bits8_null (n : Nat) : ∀ {s : Nat}, s < 4294967296 → bits8 n s = 0 → s = 0 := by
  induction n with
  | zero => intro s _ h; exact h
  | succ n ih => intro s hs h; exact bit8_null hs (ih (bit8_lt hs) h)
theorem word_lt (l : List Nat) (hl : ∀ x ∈ l, x < 256) : word l < 2 ^ (8 * l.length) := by
  induction l with
  | nil => decide
  | cons c r ih =>
    have hc := hl c (List.mem_cons_self ..)
    have hr := ih (fun x hx => hl x (List.mem_cons_of_mem _ hx))
    have e : 2 ^ (8 * (c :: r).length) = 256 * 2 ^ (8 * r.length) := by
      rw [List.length_cons, Nat.mul_add, Nat.pow_add, Nat.mul_comm]
    have h1 : 1 ≤ 2 ^ (8 * r.length) := Nat.one_le_two_pow
    exact Nat.xor_lt_two_pow (by rw [e]; omega) (by rw [e]; omega)
theorem word_null (l : List Nat) (hl : ∀ x ∈ l, x < 256) (h : word l = 0) : ∀ x ∈ l, x = 0 := by
  induction l with
  | nil => intro x hx; cases hx
  | cons c r ih =>
    have hc := hl c (List.mem_cons_self ..)
    rw [word] at h
    have e : c = 256 * word r := by
      have := congrArg (· ^^^ (256 * word r)) h
      simpa [Nat.xor_assoc] using this
    intro x hx
    rcases List.mem_cons.1 hx with rfl | hx
    · omega
    · exact ih (fun x hx => hl x (List.mem_cons_of_mem _ hx)) (by omega) x hx

/-- Up to four bytes that were changed change the sum. -/
theorem sum_burst (b c : List Nat) (p : Nat) (x : List Nat) (q : Nat) (hlen : b.length = c.length) (hx : ∀ y ∈ x, y < 256) (h4 : x.length ≤ 4)
    (hd : List.zipWith (· ^^^ ·) b c = List.replicate p 0 ++ x ++ List.replicate q 0) (h : sum b = sum c) : ∀ y ∈ x, y = 0 := by
  have h1 : run ones b = run ones c := by
    have e0 : ones ^^^ 0 = ones := by decide
    unfold sum more at h
    rw [e0] at h
    have := congrArg (ones ^^^ ·) h
    simpa only [xor_self_left] using this
  have h2 := run_xor b c ones ones hlen
  rw [h1, Nat.xor_self, Nat.xor_self, hd, run_append, run_append, run_zero] at h2
  have hlt : run 0 x < 4294967296 := run_lt x hx (by decide)
  have h3 := run_zeros q hlt h2
  rw [run_word, Nat.zero_xor] at h3
  refine word_null x hx (bits8_null _ ?_ h3)
  refine Nat.lt_of_lt_of_le (word_lt x hx) ?_
  have := Nat.pow_le_pow_right (n := 2) (by decide) (show 8 * x.length ≤ 32 by omega)
  simpa using this

end Crc
end Go.Proofs.YtfglfdpmhpnmmaaDoor
