/-
  The text of what may be tells the grammar: lines are parted at their ends, words at blanks, the first word of a line tells its kind.
-/
import Derived.Test.YtdgadamkiililaaDoorRlev
namespace Go.Proofs.YtdgadamkiililaaDoor
open Go.RowKit

theorem split_eq {α : Type} {p : α → Prop} : ∀ {A A' B B' : List α}, (∀ x ∈ A, p x) → (∀ x ∈ A', p x) → (∀ x, B.head? = some x → ¬ p x) → (∀ x, B'.head? = some x → ¬ p x) → A ++ B = A' ++ B' → A = A' ∧ B = B'
  | [], [], B, B', _, _, _, _, h => ⟨rfl, h⟩
  | [], y :: A', B, B', _, h2, h3, _, h => by
    rw [List.nil_append, List.cons_append] at h
    subst h
    exact absurd (h2 y List.mem_cons_self) (h3 y rfl)
  | x :: A, [], B, B', h1, _, _, h4, h => by
    rw [List.nil_append, List.cons_append] at h
    subst h
    exact absurd (h1 x List.mem_cons_self) (h4 x rfl)
  | x :: A, y :: A', B, B', h1, h2, h3, h4, h => by
    rw [List.cons_append, List.cons_append, List.cons.injEq] at h
    obtain ⟨rfl, h⟩ := h
    obtain ⟨rfl, e⟩ := split_eq (fun z hz => h1 z (List.mem_cons_of_mem _ hz)) (fun z hz => h2 z (List.mem_cons_of_mem _ hz)) h3 h4 h
    exact ⟨rfl, e⟩
/-- A line whose words hold neither a blank nor a line's end. -/
def WordsP (ws : List (List UInt8)) : Prop := ws ≠ [] ∧ ∀ x ∈ ws, ∀ c ∈ x, c ≠ 32 ∧ c ≠ 10

theorem sp_inj : ∀ {a b : List (List UInt8)}, (∀ x ∈ a, ∀ c ∈ x, c ≠ 32) → (∀ x ∈ b, ∀ c ∈ x, c ≠ 32) → sp a = sp b → a = b
  | [], [], _, _, _ => rfl
  | [], y :: b, _, _, h => by simp [sp] at h
  | x :: a, [], _, _, h => by simp [sp] at h
  | x :: a, y :: b, h1, h2, h => by
    have h : (32 :: x) ++ sp a = (32 :: y) ++ sp b := h
    rw [List.cons_append, List.cons_append, List.cons.injEq] at h
    have hh : ∀ (l : List (List UInt8)) (z : UInt8), (sp l).head? = some z → ¬ z ≠ 32 := by
      intro l z hz
      cases l with
      | nil => cases hz
      | cons u l => cases hz; simp
    obtain ⟨rfl, e⟩ := split_eq (p := fun c => c ≠ 32) (h1 x List.mem_cons_self) (h2 y List.mem_cons_self) (hh a) (hh b) h.2
    rw [sp_inj (fun z hz => h1 z (List.mem_cons_of_mem _ hz)) (fun z hz => h2 z (List.mem_cons_of_mem _ hz)) e]

theorem jn_inj {a b : List (List UInt8)} (ha : WordsP a) (hb : WordsP b) (h : jn a = jn b) : a = b := by
  obtain ⟨ha0, ha⟩ := ha
  obtain ⟨hb0, hb⟩ := hb
  cases a with
  | nil => exact absurd rfl ha0
  | cons x a =>
    cases b with
    | nil => exact absurd rfl hb0
    | cons y b =>
      refine sp_inj (fun z hz c hc => (ha z hz c hc).1) (fun z hz c hc => (hb z hz c hc).1) ?_
      show 32 :: (x ++ sp a) = 32 :: (y ++ sp b)
      rw [show x ++ sp a = y ++ sp b from h]

theorem jn_no10 {a : List (List UInt8)} (ha : WordsP a) : ∀ c ∈ jn a, c ≠ 10 := by
  obtain ⟨-, ha⟩ := ha
  cases a with
  | nil => intro c hc; cases hc
  | cons x a =>
    intro c hc
    rcases List.mem_append.1 hc with h | h
    · exact (ha x List.mem_cons_self c h).2
    · unfold sp at h
      rw [List.mem_flatMap] at h
      obtain ⟨y, hy, hc⟩ := h
      rcases List.mem_cons.1 hc with rfl | hc
      · decide
      · exact (ha y (List.mem_cons_of_mem _ hy) c hc).2

theorem tx_inj : ∀ {L M : List (List (List UInt8))}, (∀ l ∈ L, WordsP l) → (∀ l ∈ M, WordsP l) → tx L = tx M → L = M
  | [], [], _, _, _ => rfl
  | [], y :: b, _, _, h => by simp [tx, lineT] at h
  | x :: a, [], _, _, h => by simp [tx, lineT] at h
  | x :: a, y :: b, h1, h2, h => by
    have h : lineT x ++ tx a = lineT y ++ tx b := h
    unfold lineT at h
    rw [List.append_assoc, List.append_assoc] at h
    have hh : ∀ (l : List UInt8) (z : UInt8), ([10] ++ l).head? = some z → ¬ z ≠ 10 := by
      intro l z hz
      cases hz
      simp
    obtain ⟨e1, e⟩ := split_eq (p := fun c => c ≠ 10) (jn_no10 (h1 x List.mem_cons_self)) (jn_no10 (h2 y List.mem_cons_self)) (hh _) (hh _) h
    rw [jn_inj (h1 x List.mem_cons_self) (h2 y List.mem_cons_self) e1]
    rw [tx_inj (fun z hz => h1 z (List.mem_cons_of_mem _ hz)) (fun z hz => h2 z (List.mem_cons_of_mem _ hz)) (List.append_cancel_left e)]

theorem name_first {l : List UInt8} (h : nameOk l = true) : ∃ c r, l = c :: r ∧ c ≠ 37 ∧ c ≠ 58 ∧ c ≠ 59 := by
  unfold nameOk at h
  cases l with
  | nil => simp at h
  | cons c r =>
    refine ⟨c, r, rfl, ?_⟩
    simp only [Bool.and_eq_true] at h
    have h1 := h.1.1.2
    have e : bt (c :: r) 0 = (c.toNat : Int) := rfl
    rw [e] at h1
    refine ⟨?_, ?_, ?_⟩ <;> (rintro rfl; revert h1; decide)

theorem name_bytes {l : List UInt8} (h : nameOk l = true) : ∀ c ∈ l, c ≠ 32 ∧ c ≠ 10 := by
  unfold nameOk at h
  simp only [Bool.and_eq_true] at h
  have h1 : runEnd isN l 0 = l.length := by have := h.1.2; simp at this; omega
  intro c hc
  obtain ⟨j, hj, rfl⟩ := List.getElem_of_mem hc
  have h2 := runEnd_in l.length 0 (by omega) h1 j (Nat.zero_le _) hj
  have e : bt l j = ((l[j]).toNat : Int) := by unfold bt; rw [List.getElem?_eq_getElem hj]; rfl
  rw [e] at h2
  constructor <;> (intro h3; rw [h3] at h2; revert h2; decide)

theorem NameP.bytes {s : ByteArray} (h : NameP s) : ∀ c ∈ by8 s, c ≠ 32 ∧ c ≠ 10 := name_bytes h

theorem by8_map_inj : ∀ {a b : List ByteArray}, a.map by8 = b.map by8 → a = b
  | [], [], _ => rfl
  | [], _ :: _, h => by cases h
  | _ :: _, [], h => by cases h
  | x :: a, y :: b, h => by
    rw [List.map_cons, List.map_cons, List.cons.injEq] at h
    rw [by8_inj h.1, by8_map_inj h.2]

/-- The digits of a number tell it. -/
def undg (l : List UInt8) : Nat := l.foldl (fun a c => a * 10 + (c.toNat - 48)) 0
theorem undg_all : ((List.range 10000).all fun n => undg (dg 6 n []) == n) = true := by kernel_rfl
theorem dg_inj {n m : Nat} (hn : n ≤ 9999) (hm : m ≤ 9999) (h : dg 6 n [] = dg 6 m []) : n = m := by
  have h1 := List.all_eq_true.1 undg_all n (List.mem_range.2 (by omega))
  have h2 := List.all_eq_true.1 undg_all m (List.mem_range.2 (by omega))
  simp only [beq_iff_eq] at h1 h2
  rw [← h1, ← h2, h]

theorem dg_ok_all : ((List.range 10000).all fun n => (dg 6 n []).all fun c => c != 32 && c != 10) = true := by kernel_rfl
theorem dg_ok {n : Nat} (hn : n ≤ 9999) : ∀ c ∈ dg 6 n [], c ≠ 32 ∧ c ≠ 10 := by
  have h1 := List.all_eq_true.1 dg_ok_all n (List.mem_range.2 (by omega))
  intro c hc
  have := List.all_eq_true.1 h1 c hc
  simpa using this

theorem keyA_ok (a : Int) : ∀ c ∈ by8 (keyA a), c ≠ 32 ∧ c ≠ 10 := by
  unfold keyA
  split
  · decide
  · split <;> decide

theorem keyA_inj {a b : Int} (ha : 1 ≤ a ∧ a ≤ 3) (hb : 1 ≤ b ∧ b ≤ 3) (h : by8 (keyA a) = by8 (keyA b)) : a = b := by
  obtain rfl | rfl | rfl : a = 1 ∨ a = 2 ∨ a = 3 := by omega
  all_goals obtain rfl | rfl | rfl : b = 1 ∨ b = 2 ∨ b = 3 := by omega
  all_goals first
    | rfl
    | (exfalso; revert h; decide)

/-- All lines of what may be are lines of words. -/
theorem lines_ok {G : Gm} {l : List Int} (h : MayP G) : ∀ ws ∈ linesG G l, WordsP ws := by
  have names : ∀ t ∈ G.ts, NameP t.n := fun t ht => by
    obtain ⟨i, hi, rfl⟩ := List.getElem_of_mem ht
    exact (h.tk.1 i _ (List.getElem?_eq_getElem hi)).1
  have lits : ∀ (k : ByteArray) (ns : List ByteArray), (∀ c ∈ by8 k, c ≠ 32 ∧ c ≠ 10) → (∀ x ∈ ns, NameP x) → WordsP ((k :: ns).map by8) := by
    intro k ns hk hn
    refine ⟨by simp, fun x hx c hc => ?_⟩
    rw [List.map_cons, List.mem_cons] at hx
    rcases hx with rfl | hx
    · exact hk c hc
    · obtain ⟨y, hy, rfl⟩ := List.mem_map.1 hx
      exact (hn y hy).bytes c hc
  intro ws hw
  unfold linesG headLn at hw
  simp only [List.mem_append] at hw
  rcases hw with ((((hw | hw) | hw) | hw) | hw) | hw
  · unfold tokLn at hw
    split at hw
    · cases hw
    · rw [List.mem_singleton] at hw
      subst hw
      exact lits _ _ (by decide) (fun x hx => by obtain ⟨t, ht, rfl⟩ := List.mem_map.1 hx; exact names t ht)
  · unfold levLs at hw
    rw [List.mem_flatMap] at hw
    obtain ⟨i, -, hw⟩ := hw
    unfold levLn at hw
    split at hw
    · cases hw
    · rw [List.mem_singleton] at hw
      subst hw
      refine lits _ _ (keyA_ok _) (fun x hx => ?_)
      unfold namesAt at hx
      obtain ⟨t, ht, rfl⟩ := List.mem_map.1 hx
      exact names t (List.mem_filter.1 ht).1
  · unfold startLn at hw
    split at hw
    · cases hw
    · rename_i hs
      rw [List.mem_singleton] at hw
      subst hw
      exact lits _ _ (by decide) (fun x hx => by
        rw [List.mem_singleton] at hx
        subst hx
        exact h.st.resolve_left hs)
  · unfold expLn at hw
    split at hw
    · cases hw
    · rw [List.mem_singleton] at hw
      subst hw
      refine ⟨by simp, fun x hx c hc => ?_⟩
      simp only [List.mem_cons, List.not_mem_nil, or_false] at hx
      rcases hx with rfl | rfl
      · revert c; decide
      · exact dg_ok (by have := h.e1; omega) c hc
  · rw [List.mem_singleton] at hw
    subst hw
    exact ⟨by simp, by decide⟩
  · obtain ⟨r, hr, rfl⟩ := List.mem_map.1 hw
    obtain ⟨h1, -, h2, h3⟩ := h.rl r hr
    refine ⟨by unfold ruleL; simp, fun x hx c hc => ?_⟩
    obtain ⟨y, hy, rfl⟩ := List.mem_map.1 hx
    unfold ruleL at hy
    simp only [List.mem_append, List.mem_cons, List.not_mem_nil, or_false] at hy
    rcases hy with (((rfl | rfl) | hy) | hy) | rfl
    · exact h1.bytes c hc
    · revert c; decide
    · exact (h3 y hy).bytes c hc
    · split at hy
      · cases hy
      · rename_i hp
        simp only [List.mem_cons, List.not_mem_nil, or_false] at hy
        rcases hy with rfl | rfl
        · revert c; decide
        · exact (h2.resolve_left hp).bytes c hc
    · revert c; decide

/-- A rule's words tell it. -/
theorem ruleL_inj {r s : Ru} (hr : RuleP r) (hs : RuleP s) (h : (ruleL r).map by8 = (ruleL s).map by8) : r = s := by
  have h := by8_map_inj h
  obtain ⟨rl, rr, rp⟩ := r
  obtain ⟨sl, sr, sq⟩ := s
  obtain ⟨-, -, r2, r3⟩ := hr
  obtain ⟨-, -, s2, s3⟩ := hs
  simp only at r2 r3 s2 s3
  unfold ruleL at h
  simp only [List.cons_append, List.nil_append, List.append_assoc, List.cons.injEq] at h
  obtain ⟨rfl, -, h⟩ := h
  have nm : ∀ x : ByteArray, NameP x → x ≠ ⟨#[37, 112, 114, 101, 99]⟩ ∧ x ≠ ⟨#[59]⟩ := by
    intro x hx
    obtain ⟨c, r, e, h1, -, h3⟩ := name_first hx
    constructor
    · rintro rfl; cases e; exact h1 rfl
    · rintro rfl; cases e; exact h3 rfl
  have hd : ∀ (p : ByteArray) (x : ByteArray), ((if p = ⟨#[]⟩ then [] else [⟨#[37, 112, 114, 101, 99]⟩, p]) ++ [(⟨#[59]⟩ : ByteArray)]).head? = some x → ¬ (x ≠ ⟨#[37, 112, 114, 101, 99]⟩ ∧ x ≠ ⟨#[59]⟩) := by
    intro p x hx
    split at hx
    · cases hx; exact fun h => h.2 rfl
    · cases hx; exact fun h => h.1 rfl
  obtain ⟨rfl, h⟩ := split_eq (p := fun x : ByteArray => x ≠ ⟨#[37, 112, 114, 101, 99]⟩ ∧ x ≠ ⟨#[59]⟩) (fun x hx => nm x (r3 x hx)) (fun x hx => nm x (s3 x hx)) (hd rp) (hd sq) h
  have : rp = sq := by
    by_cases h1 : rp = ⟨#[]⟩
    · by_cases h2 : sq = ⟨#[]⟩
      · rw [h1, h2]
      · rw [if_pos h1, if_neg h2] at h
        have := congrArg List.length h
        simp at this
    · by_cases h2 : sq = ⟨#[]⟩
      · rw [if_neg h1, if_pos h2] at h
        have := congrArg List.length h
        simp at this
      · rw [if_neg h1, if_neg h2] at h
        simp at h
        exact h
  rw [this]
/-- The first word of a line. -/
def isK (K : List (List UInt8)) (ws : List (List UInt8)) : Bool := match ws with | [] => false | w :: _ => K.contains w

def kTok : List UInt8 := [37, 116, 111, 107, 101, 110]
def kLev : List (List UInt8) := [[37, 108, 101, 102, 116], [37, 114, 105, 103, 104, 116], [37, 110, 111, 110, 97, 115, 115, 111, 99]]
def kStart : List UInt8 := [37, 115, 116, 97, 114, 116]
def kExp : List UInt8 := [37, 101, 120, 112, 101, 99, 116]

theorem keyA_lev (a : Int) : by8 (keyA a) ∈ kLev := by
  unfold keyA
  split
  · decide
  · split <;> decide

theorem filter_all {α : Type} {p : α → Bool} {l : List α} (h : ∀ x ∈ l, p x = true) : l.filter p = l := List.filter_eq_self.2 h
theorem filter_none {α : Type} {p : α → Bool} {l : List α} (h : ∀ x ∈ l, p x = false) : l.filter p = [] := List.filter_eq_nil_iff.2 (fun x hx => by rw [h x hx]; decide)

theorem tokLn_first {ts : List Tk} : ∀ ws ∈ tokLn ts, ∃ r, ws = kTok :: r := by
  intro ws hw
  unfold tokLn at hw
  split at hw
  · cases hw
  · rw [List.mem_singleton] at hw; subst hw; exact ⟨_, rfl⟩
theorem levLs_first {ts : List Tk} {l : List Int} {n : Nat} : ∀ ws ∈ levLs ts l n, ∃ k r, k ∈ kLev ∧ ws = k :: r := by
  intro ws hw
  unfold levLs at hw
  rw [List.mem_flatMap] at hw
  obtain ⟨i, -, hw⟩ := hw
  unfold levLn at hw
  split at hw
  · cases hw
  · rw [List.mem_singleton] at hw; subst hw; exact ⟨_, _, keyA_lev _, rfl⟩
theorem startLn_first {s : ByteArray} : ∀ ws ∈ startLn s, ∃ r, ws = kStart :: r := by
  intro ws hw
  unfold startLn at hw
  split at hw
  · cases hw
  · rw [List.mem_singleton] at hw; subst hw; exact ⟨_, rfl⟩
theorem expLn_first {e : Int} : ∀ ws ∈ expLn e, ∃ r, ws = kExp :: r := by
  intro ws hw
  unfold expLn at hw
  split at hw
  · cases hw
  · rw [List.mem_singleton] at hw; subst hw; exact ⟨_, rfl⟩

theorem isK_mem {K : List (List UInt8)} {k : List UInt8} {r : List (List UInt8)} (h : k ∈ K) : isK K (k :: r) = true := by unfold isK; simpa using h
theorem isK_not {K : List (List UInt8)} {k : List UInt8} {r : List (List UInt8)} (h : k ∉ K) : isK K (k :: r) = false := by unfold isK; simpa using h

/-- The parts of the lines ahead of the rules. -/
theorem head_parts {ts us : List Tk} {l m : List Int} {s u : ByteArray} {e f : Int} (h : tokLn ts ++ levLs ts l 8 ++ startLn s ++ expLn e = tokLn us ++ levLs us m 8 ++ startLn u ++ expLn f) :
    tokLn ts = tokLn us ∧ levLs ts l 8 = levLs us m 8 ∧ startLn s = startLn u ∧ expLn e = expLn f := by
  have d1 : ∀ k ∈ kLev, k ∉ [kTok] ∧ k ∉ [kStart] ∧ k ∉ [kExp] := by decide
  have A : ∀ (ts : List Tk) (l : List Int) (s : ByteArray) (e : Int), (tokLn ts ++ levLs ts l 8 ++ startLn s ++ expLn e).filter (isK [kTok]) = tokLn ts ∧ (tokLn ts ++ levLs ts l 8 ++ startLn s ++ expLn e).filter (isK kLev) = levLs ts l 8 ∧ (tokLn ts ++ levLs ts l 8 ++ startLn s ++ expLn e).filter (isK [kStart]) = startLn s ∧ (tokLn ts ++ levLs ts l 8 ++ startLn s ++ expLn e).filter (isK [kExp]) = expLn e := by
    intro ts l s e
    simp only [List.filter_append]
    refine ⟨?_, ?_, ?_, ?_⟩
    · rw [filter_all (fun ws hw => by obtain ⟨r, rfl⟩ := tokLn_first ws hw; exact isK_mem (by decide)), filter_none (fun ws hw => by obtain ⟨k, r, hk, rfl⟩ := levLs_first ws hw; exact isK_not (d1 k hk).1),
        filter_none (fun ws hw => by obtain ⟨r, rfl⟩ := startLn_first ws hw; exact isK_not (by decide)), filter_none (fun ws hw => by obtain ⟨r, rfl⟩ := expLn_first ws hw; exact isK_not (by decide))]
      simp
    · rw [filter_none (fun ws hw => by obtain ⟨r, rfl⟩ := tokLn_first ws hw; exact isK_not (by decide)), filter_all (fun ws hw => by obtain ⟨k, r, hk, rfl⟩ := levLs_first ws hw; exact isK_mem hk),
        filter_none (fun ws hw => by obtain ⟨r, rfl⟩ := startLn_first ws hw; exact isK_not (by decide)), filter_none (fun ws hw => by obtain ⟨r, rfl⟩ := expLn_first ws hw; exact isK_not (by decide))]
      simp
    · rw [filter_none (fun ws hw => by obtain ⟨r, rfl⟩ := tokLn_first ws hw; exact isK_not (by decide)), filter_none (fun ws hw => by obtain ⟨k, r, hk, rfl⟩ := levLs_first ws hw; exact isK_not (d1 k hk).2.1),
        filter_all (fun ws hw => by obtain ⟨r, rfl⟩ := startLn_first ws hw; exact isK_mem (by decide)), filter_none (fun ws hw => by obtain ⟨r, rfl⟩ := expLn_first ws hw; exact isK_not (by decide))]
      simp
    · rw [filter_none (fun ws hw => by obtain ⟨r, rfl⟩ := tokLn_first ws hw; exact isK_not (by decide)), filter_none (fun ws hw => by obtain ⟨k, r, hk, rfl⟩ := levLs_first ws hw; exact isK_not (d1 k hk).2.2),
        filter_none (fun ws hw => by obtain ⟨r, rfl⟩ := startLn_first ws hw; exact isK_not (by decide)), filter_all (fun ws hw => by obtain ⟨r, rfl⟩ := expLn_first ws hw; exact isK_mem (by decide))]
      simp
  obtain ⟨a1, a2, a3, a4⟩ := A ts l s e
  obtain ⟨b1, b2, b3, b4⟩ := A us m u f
  rw [h] at a1 a2 a3 a4
  exact ⟨a1.symm.trans b1, a2.symm.trans b2, a3.symm.trans b3, a4.symm.trans b4⟩

theorem startLn_inj {s u : ByteArray} (h : startLn s = startLn u) : s = u := by
  unfold startLn at h
  by_cases h1 : s = ⟨#[]⟩
  · by_cases h2 : u = ⟨#[]⟩
    · rw [h1, h2]
    · rw [if_pos h1, if_neg h2] at h; cases h
  · by_cases h2 : u = ⟨#[]⟩
    · rw [if_neg h1, if_pos h2] at h; cases h
    · rw [if_neg h1, if_neg h2, List.cons.injEq] at h
      have := by8_map_inj h.1
      simp at this
      exact this

theorem expLn_inj {e f : Int} (he : 0 ≤ e ∧ e ≤ 9999) (hf : 0 ≤ f ∧ f ≤ 9999) (h : expLn e = expLn f) : e = f := by
  unfold expLn at h
  by_cases h1 : e = 0
  · by_cases h2 : f = 0
    · rw [h1, h2]
    · rw [if_pos h1, if_neg h2] at h; cases h
  · by_cases h2 : f = 0
    · rw [if_neg h1, if_pos h2] at h; cases h
    · rw [if_neg h1, if_neg h2] at h
      simp only [List.cons.injEq, and_true, true_and] at h
      have := dg_inj (by omega) (by omega) h
      omega

theorem tokLn_inj {ts us : List Tk} (h : tokLn ts = tokLn us) : ts.map (·.n) = us.map (·.n) := by
  unfold tokLn at h
  by_cases h1 : ts = []
  · by_cases h2 : us = []
    · rw [h1, h2]
    · rw [if_pos h1, if_neg h2] at h; cases h
  · by_cases h2 : us = []
    · rw [if_neg h1, if_pos h2] at h; cases h
    · rw [if_neg h1, if_neg h2, List.cons.injEq] at h
      have := by8_map_inj h.1
      rw [List.cons.injEq] at this
      exact this.2

/-- One level: its line tells its kind and its names. -/
theorem levLn_inj {ts us : List Tk} {l m : List Int} (hl : LevI ts l) (hm : LevI us m) {k : Nat} (h1 : 1 ≤ k) (h : levLn ts l k = levLn us m k) : (l[k]?).getD 0 = (m[k]?).getD 0 ∧ namesAt ts k = namesAt us k := by
  have zero : ∀ {ts : List Tk} {l : List Int}, LevI ts l → (l[k]?).getD 0 = 0 → namesAt ts k = [] := fun {ts l} h h0 => namesAt_nil.2 (fun t ht he => by
    obtain ⟨h1, h2⟩ := h.of t ht
    unfold at9 at h2
    rw [he, Int.toNat_natCast, h0] at h2
    unfold LevP at h1
    omega)
  have rng : ∀ {ts : List Tk} {l : List Int}, LevI ts l → (l[k]?).getD 0 ≠ 0 → 1 ≤ (l[k]?).getD 0 ∧ (l[k]?).getD 0 ≤ 3 := fun {ts l} h h0 => by
    obtain ⟨t, ht, he⟩ := h.has k h0
    obtain ⟨h1, h2⟩ := h.of t ht
    unfold at9 at h2
    rw [he, Int.toNat_natCast] at h2
    unfold LevP at h1
    omega
  unfold levLn at h
  by_cases z1 : (l[k]?).getD 0 = 0
  · by_cases z2 : (m[k]?).getD 0 = 0
    · exact ⟨by rw [z1, z2], by rw [zero hl z1, zero hm z2]⟩
    · rw [if_pos z1, if_neg z2] at h; cases h
  · by_cases z2 : (m[k]?).getD 0 = 0
    · rw [if_neg z1, if_pos z2] at h; cases h
    · rw [if_neg z1, if_neg z2] at h
      simp only [List.map_cons, List.cons.injEq, and_true] at h
      exact ⟨keyA_inj (rng hl z1) (rng hm z2) h.1, by8_map_inj h.2⟩

/-- Levels without gaps: their lines one by one. -/
theorem levLs_inj {ts us : List Tk} {l m : List Int} (gl : NoGap l) (gm : NoGap m) (h : levLs ts l 8 = levLs us m 8) : ∀ k, 1 ≤ k → k ≤ 8 → levLn ts l k = levLn us m k := by
  -- k levels from i on
  have one : ∀ (ts : List Tk) (l : List Int) (k : Nat), levLn ts l k = [] ∨ ∃ x, levLn ts l k = [x] := by
    intro ts l k; unfold levLn; split
    · exact .inl rfl
    · exact .inr ⟨_, rfl⟩
  have nil : ∀ (ts : List Tk) (l : List Int) (k : Nat), levLn ts l k = [] ↔ (l[k]?).getD 0 = 0 := by
    intro ts l k; unfold levLn; split <;> simp_all
  have gone : ∀ (ts : List Tk) (l : List Int), NoGap l → ∀ k, 1 ≤ k → levLn ts l k = [] → ∀ j, k ≤ j → j ≤ 8 → levLn ts l j = [] := by
    intro ts l g k hk h0 j hj h8
    obtain ⟨d, rfl⟩ := Nat.exists_eq_add_of_le hj
    clear hj
    induction d with
    | zero => exact h0
    | succ d ih =>
      have h1 := (nil ts l (k + d)).1 (ih (by omega))
      rw [nil]
      rcases Classical.em ((l[k + (d + 1)]?).getD 0 = 0) with h | h
      · exact h
      · exact absurd h1 (g (k + (d + 1)) (by omega) (by omega) h)
  have main : ∀ (n i : Nat), i + n = 8 → (List.range n).flatMap (fun j => levLn ts l (i + j + 1)) = (List.range n).flatMap (fun j => levLn us m (i + j + 1)) → ∀ k, i + 1 ≤ k → k ≤ 8 → levLn ts l k = levLn us m k := by
    intro n
    induction n with
    | zero => intro i hi _ k h1 h2; omega
    | succ n ih =>
      intro i hi h k h1 h2
      rw [List.range_succ_eq_map, List.flatMap_cons, List.flatMap_cons, List.flatMap_map, List.flatMap_map] at h
      have all : ∀ (ts : List Tk) (l : List Int), NoGap l → levLn ts l (i + 0 + 1) = [] → (List.range n).flatMap (fun j => levLn ts l (i + Nat.succ j + 1)) = [] := by
        intro ts l g h0
        rw [List.flatMap_eq_nil_iff]
        intro j hj
        exact gone ts l g (i + 0 + 1) (by omega) h0 _ (by omega) (by have := List.mem_range.1 hj; omega)
      have e0 : levLn ts l (i + 0 + 1) = levLn us m (i + 0 + 1) ∧ (List.range n).flatMap (fun j => levLn ts l (i + Nat.succ j + 1)) = (List.range n).flatMap (fun j => levLn us m (i + Nat.succ j + 1)) := by
        rcases one ts l (i + 0 + 1) with a | ⟨x, a⟩
        · rcases one us m (i + 0 + 1) with b | ⟨y, b⟩
          · rw [a, b, List.nil_append, List.nil_append] at h
            exact ⟨by rw [a, b], h⟩
          · rw [a, all ts l gl a, b] at h
            cases h
        · rcases one us m (i + 0 + 1) with b | ⟨y, b⟩
          · rw [b, all us m gm b, a] at h
            cases h
          · rw [a, b, List.singleton_append, List.singleton_append, List.cons.injEq] at h
            exact ⟨by rw [a, b, h.1], h.2⟩
      rcases Nat.eq_or_lt_of_le h1 with h3 | h3
      · rw [← h3]; exact e0.1
      · refine ih (i + 1) (by omega) ?_ k (by omega) h2
        have e : ∀ j, i + Nat.succ j + 1 = i + 1 + j + 1 := fun j => by omega
        simpa only [e] using e0.2
  intro k h1 h2
  refine main 8 0 rfl ?_ k (by omega) h2
  unfold levLs at h
  simpa only [Nat.zero_add] using h

theorem tk_ext {a b : Tk} (h1 : a.n = b.n) (h2 : a.l = b.l) (h3 : a.a = b.a) : a = b := by cases a; cases b; simp_all

theorem mem_namesAt {ts : List Tk} {k : Int} {t : Tk} (ht : t ∈ ts) (h : t.l = k) : t.n ∈ namesAt ts k := by
  unfold namesAt
  exact List.mem_map.2 ⟨t, List.mem_filter.2 ⟨ht, by simpa using h⟩, rfl⟩

/-- Tokens are told by their names, in order, and by those of each level. -/
theorem toks_inj {ts us : List Tk} {l m : List Int} (ht : TokP ts) (hu : TokP us) (hl : LevI ts l) (hm : LevI us m) (hn : ts.map (·.n) = us.map (·.n)) (hk : ∀ k : Nat, 1 ≤ k → k ≤ 8 → (l[k]?).getD 0 = (m[k]?).getD 0 ∧ namesAt ts k = namesAt us k) : ts = us := by
  have uniq : ∀ {ts : List Tk}, TokP ts → ∀ (a b : Tk), a ∈ ts → b ∈ ts → a.n = b.n → a = b := by
    intro ts h a b ha hb e
    obtain ⟨i, hi, rfl⟩ := List.getElem_of_mem ha
    obtain ⟨j, hj, rfl⟩ := List.getElem_of_mem hb
    rcases Nat.lt_trichotomy i j with c | c | c
    · exact absurd e ((h.1 j _ (List.getElem?_eq_getElem hj)).2 i _ c (List.getElem?_eq_getElem hi))
    · subst c; rfl
    · exact absurd e.symm ((h.1 i _ (List.getElem?_eq_getElem hi)).2 j _ c (List.getElem?_eq_getElem hj))
  have lev : ∀ {ts us : List Tk} {l m : List Int}, TokP us → LevI ts l → LevI us m → (∀ k : Nat, 1 ≤ k → k ≤ 8 → (l[k]?).getD 0 = (m[k]?).getD 0 ∧ namesAt ts k = namesAt us k) → ∀ a ∈ ts, ∀ b ∈ us, a.n = b.n → 1 ≤ a.l → b.l = a.l := by
    intro ts us l m hu hl hm hk a ha b hb e h1
    have r := (hl.of a ha).1.range
    obtain ⟨q, hq⟩ := Int.eq_ofNat_of_zero_le r.1
    have e2 := (hk q (by omega) (by omega)).2
    have h3 := mem_namesAt ha hq
    rw [e2] at h3
    unfold namesAt at h3
    obtain ⟨c, hc, hcn⟩ := List.mem_map.1 h3
    rw [List.mem_filter] at hc
    have := uniq hu c b hc.1 hb (by rw [hcn, e])
    subst this
    have := hc.2
    simp at this
    omega
  have hlen : ts.length = us.length := by have := congrArg List.length hn; simpa using this
  apply List.ext_getElem hlen
  intro i h1 h2
  have e : (ts[i]).n = (us[i]).n := by
    have := congrArg (fun x => x[i]?) hn
    simp only [List.getElem?_map, List.getElem?_eq_getElem h1, List.getElem?_eq_getElem h2, Option.map_some, Option.some.injEq] at this
    exact this
  have ma : ts[i] ∈ ts := List.getElem_mem h1
  have mb : us[i] ∈ us := List.getElem_mem h2
  generalize ts[i] = a at e ma ⊢
  generalize us[i] = b at e mb ⊢
  have ra := (hl.of a ma).1.range
  have rb := (hm.of b mb).1.range
  have el : a.l = b.l := by
    rcases Int.lt_or_le a.l 1 with c | c
    · rcases Int.lt_or_le b.l 1 with d | d
      · omega
      · exact lev ht hm hl (fun k k1 k8 => ⟨(hk k k1 k8).1.symm, (hk k k1 k8).2.symm⟩) b mb a ma e.symm d
    · exact (lev hu hl hm hk a ma b mb e c).symm
  refine tk_ext e el ?_
  have h3 := hl.of a ma
  have h4 := hm.of b mb
  rcases Int.lt_or_le a.l 1 with c | c
  · have h5 := h3.1
    have h6 := h4.1
    unfold LevP at h5 h6
    omega
  · obtain ⟨q, hq⟩ := Int.eq_ofNat_of_zero_le ra.1
    have e2 := (hk q (by omega) (by omega)).1
    have h5 := h3.2
    have h6 := h4.2
    unfold at9 at h5 h6
    rw [hq, Int.toNat_natCast] at h5
    rw [← el, hq, Int.toNat_natCast] at h6
    rw [← h5, ← h6, e2]

theorem rules_inj : ∀ {a b : List Ru}, (∀ r ∈ a, RuleP r) → (∀ r ∈ b, RuleP r) → a.map (fun r => (ruleL r).map by8) = b.map (fun r => (ruleL r).map by8) → a = b
  | [], [], _, _, _ => rfl
  | [], _ :: _, _, _, h => by cases h
  | _ :: _, [], _, _, h => by cases h
  | x :: a, y :: b, h1, h2, h => by
    rw [List.map_cons, List.map_cons, List.cons.injEq] at h
    rw [ruleL_inj (h1 x List.mem_cons_self) (h2 y List.mem_cons_self) h.1, rules_inj (fun z hz => h1 z (List.mem_cons_of_mem _ hz)) (fun z hz => h2 z (List.mem_cons_of_mem _ hz)) h.2]

/-- The text of what may be tells the grammar. -/
theorem text_inj {G K : Gm} {l m : List Int} (hG : MayP G) (hK : MayP K) (hl : levF G.ts = some l) (hm : levF K.ts = some m) (h : tx (linesG G l) = tx (linesG K m)) : G = K := by
  have h := tx_inj (lines_ok hG) (lines_ok hK) h
  obtain ⟨l', hl', gl⟩ := hG.tk.2
  obtain ⟨m', hm', gm⟩ := hK.tk.2
  rw [hl] at hl'; cases hl'
  rw [hm] at hm'; cases hm'
  unfold linesG headLn at h
  rw [List.append_assoc _ [[by8 ⟨#[37, 37]⟩]] _, List.append_assoc _ [[by8 ⟨#[37, 37]⟩]] _] at h
  have nt : ∀ (ts : List Tk) (l : List Int) (s : ByteArray) (e : Int), ∀ ws ∈ tokLn ts ++ levLs ts l 8 ++ startLn s ++ expLn e, ws ≠ [by8 ⟨#[37, 37]⟩] := by
    intro ts l s e ws hw
    simp only [List.mem_append] at hw
    rcases hw with ((hw | hw) | hw) | hw
    · obtain ⟨r, rfl⟩ := tokLn_first ws hw
      intro h; rw [List.cons.injEq] at h; exact absurd h.1 (by decide)
    · obtain ⟨k, r, hk, rfl⟩ := levLs_first ws hw
      have : ∀ k ∈ kLev, k ≠ by8 ⟨#[37, 37]⟩ := by decide
      intro h; rw [List.cons.injEq] at h; exact absurd h.1 (this k hk)
    · obtain ⟨r, rfl⟩ := startLn_first ws hw
      intro h; rw [List.cons.injEq] at h; exact absurd h.1 (by decide)
    · obtain ⟨r, rfl⟩ := expLn_first ws hw
      intro h; rw [List.cons.injEq] at h; exact absurd h.1 (by decide)
  have hd : ∀ (r : List (List (List UInt8))) (x : List (List UInt8)), ([[by8 ⟨#[37, 37]⟩]] ++ r).head? = some x → ¬ x ≠ [by8 ⟨#[37, 37]⟩] := by
    intro r x hx; cases hx; simp
  obtain ⟨h1, h2⟩ := split_eq (p := fun ws => ws ≠ [by8 ⟨#[37, 37]⟩]) (nt _ _ _ _) (nt _ _ _ _) (hd _) (hd _) h
  have h2 := List.append_cancel_left h2
  obtain ⟨a1, a2, a3, a4⟩ := head_parts h1
  have il := levI hl
  have im := levI hm
  have e1 := toks_inj hG.tk hK.tk il im (tokLn_inj a1) (fun k k1 k8 => levLn_inj il im k1 (levLs_inj gl gm a2 k k1 k8))
  have e2 := startLn_inj a3
  have e3 := expLn_inj ⟨hG.e0, hG.e1⟩ ⟨hK.e0, hK.e1⟩ a4
  have e4 := rules_inj hG.rl hK.rl h2
  cases G; cases K
  simp only at e1 e2 e3 e4
  rw [e1, e2, e3, e4]

end Go.Proofs.YtdgadamkiililaaDoor
