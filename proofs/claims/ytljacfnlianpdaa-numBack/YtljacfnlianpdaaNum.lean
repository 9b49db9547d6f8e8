/-
  Plain mathematics of numbers as bytes: what is written for a number, what is read from bytes, that reading undoes writing. Nothing of the program is named here.
-/
namespace Go.Proofs.Ytljacfnlianpdaa.Num

/-- The number that is written for n. -/
def fold (n : Int) : Nat := if n < 0 then (-2 * n - 1).toNat else (2 * n).toNat
/-- The number of which u is the fold. -/
def unf (u : Nat) : Int := if u % 2 = 1 then -((u / 2 : Nat) : Int) - 1 else ((u / 2 : Nat) : Int)

theorem unf_fold (n : Int) : unf (fold n) = n := by
  unfold unf fold
  split <;> split <;> omega

/-- The bytes of u, f of them at most and one more. -/
def encF : Nat → Nat → List Int
  | 0, u => [(u : Int)]
  | f + 1, u => if u < 128 then [(u : Int)] else ((u % 128 + 128 : Nat) : Int) :: encF f (u / 128)

theorem encF_same (f g u : Nat) (hf : u ≤ f) (hg : u ≤ g) : encF f u = encF g u := by
  induction u using Nat.strongRecOn generalizing f g with
  | ind u ih =>
    match f, g, hf, hg with
    | 0, 0, _, _ => rfl
    | 0, g + 1, hf, _ => rw [encF, encF, if_pos (by omega)]
    | f + 1, 0, _, hg => rw [encF, encF, if_pos (by omega)]
    | f + 1, g + 1, hf, hg =>
      rw [encF, encF]
      by_cases h : u < 128
      · rw [if_pos h, if_pos h]
      · rw [if_neg h, if_neg h, ih (u / 128) (by omega) f g (by omega) (by omega)]

/-- The bytes of u. -/
def enc (u : Nat) : List Int := encF u u

theorem enc_small {u : Nat} (h : u < 128) : enc u = [(u : Int)] := by
  unfold enc
  match u with
  | 0 => rfl
  | u + 1 => rw [encF, if_pos h]
theorem enc_big {u : Nat} (h : 128 ≤ u) : enc u = ((u % 128 + 128 : Nat) : Int) :: enc (u / 128) := by
  unfold enc
  match u, h with
  | u + 1, h => rw [encF, if_neg (by omega), encF_same u ((u + 1) / 128) ((u + 1) / 128) (by omega) (by omega)]

theorem enc_byte (u : Nat) : ∀ x ∈ enc u, 0 ≤ x ∧ x ≤ 255 := by
  induction u using Nat.strongRecOn with
  | ind u ih =>
    by_cases h : u < 128
    · rw [enc_small h]; simp; omega
    · rw [enc_big (by omega)]
      intro x hx
      rcases List.mem_cons.1 hx with rfl | hx
      · omega
      · exact ih (u / 128) (by omega) x hx

theorem enc_pos (u : Nat) : 1 ≤ (enc u).length := by
  by_cases h : u < 128
  · rw [enc_small h]; simp
  · rw [enc_big (by omega)]; simp

theorem enc_len (k u : Nat) (h : u < 128 ^ (k + 1)) : (enc u).length ≤ k + 1 := by
  induction k generalizing u with
  | zero => rw [enc_small (by simpa using h)]; simp
  | succ k ih =>
    by_cases hu : u < 128
    · rw [enc_small hu]; simp
    · rw [enc_big (by omega)]
      have := ih (u / 128) (by rw [Nat.div_lt_iff_lt_mul (by omega)]; rw [Nat.pow_succ] at h; exact h)
      simp; omega

theorem pow9 : (128 : Nat) ^ 9 = 9223372036854775808 := by decide
theorem pow10 : (128 : Nat) ^ 10 = 1180591620717411303424 := by decide

theorem enc_ten {u : Nat} (h : u < 18446744073709551616) : (enc u).length ≤ 10 := enc_len 9 u (by rw [pow10]; omega)

theorem enc_mono {u v : Nat} (h : u ≤ v) : (enc u).length ≤ (enc v).length := by
  induction v using Nat.strongRecOn generalizing u with
  | ind v ih =>
    by_cases hu : u < 128
    · rw [enc_small hu]; exact enc_pos v
    · rw [enc_big (show 128 ≤ u by omega), enc_big (show 128 ≤ v by omega)]
      have := ih (v / 128) (by omega) (u := u / 128) (by omega)
      simp; omega

theorem fold_lt {n : Int} (h0 : -9223372036854775808 ≤ n) (h1 : n ≤ 9223372036854775807) : fold n < 18446744073709551616 := by
  unfold fold; split <;> omega

/-- What is read: the number, how many bytes, the error. k bytes were read, they were worth u. -/
def dec (k u : Nat) : List Int → Int × Int × Int
  | [] => (0, 0, 2)
  | c :: r =>
    if k = 9 ∧ 1 < c then (0, 0, 1)
    else if 128 ≤ c then dec (k + 1) (u + (c % 128).toNat * 128 ^ k) r
    else if c = 0 ∧ 0 < k then (0, 0, 1)
    else (unf (u + (c % 128).toNat * 128 ^ k), (k : Int) + 1, 0)

def get (l : List Int) : Int × Int × Int := dec 0 0 l

theorem pow_le {k : Nat} (h : 10 ≤ k) : 1180591620717411303424 ≤ (128 : Nat) ^ k := by
  have := Nat.pow_le_pow_right (show 0 < 128 by decide) h
  rw [pow10] at this; exact this

theorem dec_enc (u k a : Nat) (rest : List Int) (ht : a + u * 128 ^ k < 18446744073709551616) (hk : k = 0 ∨ u ≠ 0) :
    dec k a (enc u ++ rest) = (unf (a + u * 128 ^ k), (k : Int) + (enc u).length, 0) := by
  induction u using Nat.strongRecOn generalizing k a with
  | ind u ih =>
    have hk9 : k ≤ 9 := by
      rcases hk with rfl | hu
      · omega
      · by_cases h : k ≤ 9
        · exact h
        · have h1 := pow_le (show 10 ≤ k by omega)
          have h2 : 1 * 128 ^ k ≤ u * 128 ^ k := Nat.mul_le_mul_right _ (by omega)
          omega
    by_cases h : u < 128
    · rw [enc_small h]
      have h9 : ¬ (k = 9 ∧ (1 : Int) < (u : Int)) := by
        rintro ⟨rfl, h1⟩
        rw [pow9] at ht
        have : 2 * 9223372036854775808 ≤ u * 9223372036854775808 := Nat.mul_le_mul_right _ (by omega)
        omega
      have hc : ¬ (128 : Int) ≤ (u : Int) := by omega
      have hz : ¬ ((u : Int) = 0 ∧ 0 < k) := by omega
      have hm : ((u : Int) % 128).toNat = u := by omega
      simp only [List.cons_append, List.nil_append, dec, if_neg h9, if_neg hc, if_neg hz, hm, List.length_cons, List.length_nil]
      simp
    · rw [enc_big (by omega)]
      have hk8 : k < 9 := by
        by_cases h9 : k = 9
        · subst h9
          rw [pow9] at ht
          have : 128 * 9223372036854775808 ≤ u * 9223372036854775808 := Nat.mul_le_mul_right _ (by omega)
          omega
        · omega
      have h9 : ¬ (k = 9 ∧ (1 : Int) < ((u % 128 + 128 : Nat) : Int)) := by omega
      have hc : (128 : Int) ≤ ((u % 128 + 128 : Nat) : Int) := by omega
      have hm : (((u % 128 + 128 : Nat) : Int) % 128).toNat = u % 128 := by omega
      have he : a + u % 128 * 128 ^ k + u / 128 * 128 ^ (k + 1) = a + u * 128 ^ k := by
        have h1 : u = u / 128 * 128 + u % 128 := by omega
        have h2 : u * 128 ^ k = u / 128 * 128 * 128 ^ k + u % 128 * 128 ^ k := by
          rw [← Nat.add_mul, ← h1]
        rw [Nat.pow_succ, Nat.mul_comm (128 ^ k) 128, ← Nat.mul_assoc, h2]; omega
      simp only [List.cons_append, dec, if_neg h9, if_pos hc, hm]
      rw [ih (u / 128) (by omega) (k + 1) (a + u % 128 * 128 ^ k) (by rw [he]; exact ht) (by omega), he]
      simp; omega

theorem dec_cut (u k a j : Nat) (ht : a + u * 128 ^ k < 18446744073709551616) (hj : j < (enc u).length) :
    dec k a ((enc u).take j) = (0, 0, 2) := by
  induction u using Nat.strongRecOn generalizing k a j with
  | ind u ih =>
    cases j with
    | zero => simp [dec]
    | succ j =>
      by_cases h : u < 128
      · rw [enc_small h] at hj; simp at hj
      · rw [enc_big (by omega)] at hj ⊢
        have hu1 : 1 * 128 ^ k ≤ u * 128 ^ k := Nat.mul_le_mul_right _ (by omega)
        have hk8 : k < 9 := by
          by_cases h10 : 10 ≤ k
          · have h1 := pow_le h10; omega
          · by_cases h9 : k = 9
            · subst h9
              rw [pow9] at ht
              have : 128 * 9223372036854775808 ≤ u * 9223372036854775808 := Nat.mul_le_mul_right _ (by omega)
              omega
            · omega
        have h9 : ¬ (k = 9 ∧ (1 : Int) < ((u % 128 + 128 : Nat) : Int)) := by omega
        have hc : (128 : Int) ≤ ((u % 128 + 128 : Nat) : Int) := by omega
        have hm : (((u % 128 + 128 : Nat) : Int) % 128).toNat = u % 128 := by omega
        have he : a + u % 128 * 128 ^ k + u / 128 * 128 ^ (k + 1) = a + u * 128 ^ k := by
          have h1 : u = u / 128 * 128 + u % 128 := by omega
          have h2 : u * 128 ^ k = u / 128 * 128 * 128 ^ k + u % 128 * 128 ^ k := by
            rw [← Nat.add_mul, ← h1]
          rw [Nat.pow_succ, Nat.mul_comm (128 ^ k) 128, ← Nat.mul_assoc, h2]; omega
        simp only [List.take_succ_cons, dec, if_neg h9, if_pos hc, hm]
        exact ih (u / 128) (by omega) (k + 1) (a + u % 128 * 128 ^ k) j (by rw [he]; exact ht) (by simpa using hj)

/-- A number's bytes. -/
def put (n : Int) : List Int := enc (fold n)

theorem put_ten {n : Int} (h0 : -9223372036854775808 ≤ n) (h1 : n ≤ 9223372036854775807) : 1 ≤ (put n).length ∧ (put n).length ≤ 10 := ⟨enc_pos _, enc_ten (fold_lt h0 h1)⟩
theorem put_byte (n : Int) : ∀ x ∈ put n, 0 ≤ x ∧ x ≤ 255 := enc_byte _
theorem get_put {n : Int} (h0 : -9223372036854775808 ≤ n) (h1 : n ≤ 9223372036854775807) (rest : List Int) : get (put n ++ rest) = (n, ((put n).length : Int), 0) := by
  have h := dec_enc (fold n) 0 0 rest (by have := fold_lt h0 h1; simpa using this) (.inl rfl)
  simp only [get, put]
  rw [h]
  simp [unf_fold]
theorem get_cut {n : Int} (h0 : -9223372036854775808 ≤ n) (h1 : n ≤ 9223372036854775807) (j : Nat) (hj : j < (put n).length) : get ((put n).take j) = (0, 0, 2) :=
  dec_cut (fold n) 0 0 j (by have := fold_lt h0 h1; simpa using this) hj
theorem put_order {a b : Int} (h0 : 0 ≤ a) (h : a ≤ b) : (put a).length ≤ (put b).length ∧ (put (-a)).length ≤ (put (-b)).length := by
  constructor <;> (apply enc_mono; unfold fold; split <;> split <;> omega)

/-- How many bytes a text has, told at its beginning. -/
def getText (l : List Int) : List Int × Int × Int :=
  if (get l).2.2 ≠ 0 then ([], 0, (get l).2.2)
  else if (get l).1 < 0 ∨ 1048576 < (get l).1 then ([], 0, 1)
  else if (l.length : Int) < (get l).2.1 + (get l).1 then ([], 0, 2)
  else ((l.drop (get l).2.1.toNat).take (get l).1.toNat, (get l).2.1 + (get l).1, 0)

end Go.Proofs.Ytljacfnlianpdaa.Num
