/-
  ReadTokens: for every row of numbers and every row of flags, the tokens that they say stand where each was first said, with the level of the one line that says it, and a token said again is a fault at its name (the call returns true), under no condition but the tied tables and sentinels.
-/
import Derived.Test.YtkaojokhdleeiaaGreatDoorOwn12
import Derived.ChangeSlices
import Derived.Deep.Matrix
import Derived.Deep.Grids
import Derived.Test.YtkaojokhdleeiaaGreatDoorCards
import Derived.Test.YtkaojokhdleeiaaGreatDoorTie
import Derived.OpenShut
import Derived.ShutString
import Derived.ChangeOld
import Derived.Below
import Derived.SevenTiedAt
/-
  Numbers that came in.
-/
namespace Go.Proofs.YtkaojokhdleeiaaGreatDoor
open Go.RowKit

set_option maxRecDepth 20000

/-- Numbers that a slice shows. -/
structure RawI (w : World) (ao : Option Addr) (n cap : Nat) (zs : List Int) : Prop where
  le : n ≤ cap ∧ cap ≤ 9223372036854775807
  get : ∀ i, i < n → ∃ b o, ao = some ⟨b, o, none⟩ ∧ w.cell? ⟨b, o + i, none⟩ = some (.int .i64 (zs.getD i 0))

theorem RawI.below {w w' : World} {ao : Option Addr} {n cap : Nat} {zs : List Int} (h : RawI w ao n cap zs) (hb : Below w.heap.size w w') : RawI w' ao n cap zs :=
  ⟨h.le, fun i hi => by obtain ⟨b, o, e, c⟩ := h.get i hi; exact ⟨b, o, e, cell_below hb c⟩⟩

theorem open_nums {H : Type} {enc : TypeId × Value → H} {W : World} {ao : Option Addr} {n cap : Nat} {d : DataW H} {ps : List MemPlace} (h : DataW.Trod enc Tryz.prog W 0 (fun _ => true) true 37 (.slice ao n cap) d ps) : ∃ zs, RawI W ao n cap zs := by
  obtain ⟨fuel, hf⟩ := h
  rcases ChangeShapes.open_ints Tryz.underlying37 Tryz.underlying3 (by kernel_rfl) hf with ⟨hcs, _⟩ | ⟨x, l, c, zs, hcs, _, hl, hm, hz, _, hcell, hwz⟩
  · simp [Value.cells] at hcs
    obtain ⟨rfl, rfl, rfl⟩ := hcs
    exact ⟨[], ⟨Nat.le_refl _, by omega⟩, fun i hi => absurd hi (Nat.not_lt_zero _)⟩
  · simp [Value.cells] at hcs
    obtain ⟨rfl, rfl, rfl⟩ := hcs
    have hz' : zs.length = cap := by simpa using hz
    refine ⟨zs, ⟨hl, by unfold maxLen at hm; omega⟩, fun i hi => ?_⟩
    have hc := hcell i (by omega)
    have h0 := hcell 0 (by omega)
    obtain ⟨b, off, spot⟩ := x
    have hspot : spot = none := by simpa [Addr.add] using World.cell?_spot h0
    subst hspot
    rw [Addr.add_lit] at hc
    exact ⟨b, off, rfl, hc⟩

/-- A number's rest by m, from nought on. -/
theorem rem_range (z : Int) (m : Int) (hm : 0 < m) : -m < z.tmod m ∧ z.tmod m < m := by
  refine ⟨?_, Int.tmod_lt_of_pos z hm⟩
  have h := Int.tmod_lt_of_pos (-z) hm
  rw [Int.neg_tmod] at h
  omega

end Go.Proofs.YtkaojokhdleeiaaGreatDoor

/-
  Texts that are laid together out of words: their scan. Plain mathematics.
-/
namespace Go.Proofs.YtkaojokhdleeiaaGreatDoor
open Go.RowKit

theorem bt_app (p r : List UInt8) (j : Nat) : bt (p ++ r) (p.length + j) = bt r j := by
  unfold bt
  rw [List.getElem?_append_right (Nat.le_add_right _ _), Nat.add_sub_cancel_left]

theorem bt_app0 (p r : List UInt8) : bt (p ++ r) p.length = bt r 0 := bt_app p r 0

theorem runEnd_app (q : Int → Bool) (p r : List UInt8) (j : Nat) : runEnd q (p ++ r) (p.length + j) = p.length + runEnd q r j := by
  unfold runEnd
  rw [List.drop_append, Nat.add_sub_cancel_left, List.drop_eq_nil_of_le (Nat.le_add_right _ _), List.nil_append]
  omega

theorem part_app (p r : List UInt8) (i e : Nat) : part (p ++ r) (p.length + i) (p.length + e) = part r i e := by
  unfold part
  rw [List.drop_append, Nat.add_sub_cancel_left, List.drop_eq_nil_of_le (Nat.le_add_right _ _), List.nil_append]
  congr 1
  omega

theorem pre2_app (x y : Int) (p r : List UInt8) : pre2 x y (p ++ r) p.length = pre2 x y r 0 := by
  unfold pre2
  rw [bt_app0, bt_app p r 1, List.length_append]
  congr 2
  apply decide_eq_decide.2
  omega

/-- A word is told where it stands as it is told alone. -/
theorem wordP_app (p r : List UInt8) (hd : isD (bt r 0) = false) : wordP (p ++ r) p.length = ((wordP r 0).1, if (wordP r 0).1 = 0 then p.length else p.length + (wordP r 0).2) := by
  have h0 := runEnd_app isN p r 0
  have h1 := runEnd_app isN p r 1
  rw [Nat.add_zero] at h0
  unfold wordP
  rw [bt_app0]
  split
  · unfold nameP
    rw [h0]
    have e : p.length + runEnd isN r 0 - p.length = runEnd isN r 0 - 0 := by omega
    rw [e]
    split <;> simp
  · rw [hd]
    simp only [Bool.false_eq_true, if_false]
    split
    · unfold keyP
      rw [pre2_app, h1, part_app]
      split
      · simp
      · simp only [Nat.zero_add]
        split <;> simp
    · split <;> simp

/-- No name's byte comes first. -/
def NB (R : List UInt8) : Prop := ∀ c r, R = c :: r → isN (c.toNat : Int) = false

theorem runLen_app {q : Int → Bool} : ∀ {t R : List UInt8}, (∀ c ∈ t, q (c.toNat : Int) = true) → (∀ c r, R = c :: r → q (c.toNat : Int) = false) → runLen q (t ++ R) = t.length
  | [], R, _, hR => by
    cases R with
    | nil => rfl
    | cons c r =>
      rw [List.nil_append]
      unfold runLen
      rw [hR c r rfl]
      rfl
  | c :: t, R, ht, hR => by
    rw [List.cons_append]
    unfold runLen
    rw [if_pos (ht c List.mem_cons_self), runLen_app (fun x hx => ht x (List.mem_cons_of_mem _ hx)) hR]
    rfl

/-- What stands ahead of a word, its kind, its bytes. -/
structure Un where
  s : List UInt8
  k : Nat
  t : List UInt8

def Bl (s : List UInt8) : Prop := ∀ c ∈ s, isB (c.toNat : Int) = true

/-- A word as it may be laid. -/
def WW (u : Un) : Prop :=
  (u.k = 1 ∧ 1 ≤ u.t.length ∧ u.t.length ≤ 12 ∧ isL (bt u.t 0) = true ∧ ∀ c ∈ u.t, isN (c.toNat : Int) = true) ∨
  (u.k = 4 ∧ (u.t = [37, 116, 111, 107, 101, 110] ∨ u.t = [37, 108, 101, 102, 116])) ∨ (u.k = 4 ∧ u.t = [37, 37]) ∨ (u.k = 3 ∧ (u.t = [58] ∨ u.t = [124] ∨ u.t = [59]))

structure UOk (u : Un) : Prop where
  bl : Bl u.s
  ww : WW u
  fs : u.s ≠ [] ∨ isN (bt u.t 0) = false

def unB (U : List Un) : List UInt8 := U.flatMap fun u => u.s ++ u.t

theorem unB_cons (u : Un) (U : List Un) : unB (u :: U) = u.s ++ (u.t ++ unB U) := by
  unfold unB
  rw [List.flatMap_cons, List.append_assoc]

theorem unB_append (U V : List Un) : unB (U ++ V) = unB U ++ unB V := by unfold unB; rw [List.flatMap_append]

theorem isN_blank {c : Int} (h : isB c = true) : isN c = false := by
  unfold isB at h
  simp only [Bool.or_eq_true, beq_iff_eq] at h
  rcases h with (h | h) | h <;> (subst h; rfl)

theorem ww_pos {u : Un} (h : WW u) : 1 ≤ u.t.length := by
  rcases h with h | ⟨-, h | h⟩ | ⟨-, h⟩ | ⟨-, h | h | h⟩
  · exact h.2.1
  all_goals (rw [h]; decide)

theorem bt_first {u : Un} (h : WW u) (R : List UInt8) : bt (u.t ++ R) 0 = bt u.t 0 := by
  have := ww_pos h
  unfold bt
  rw [List.getElem?_append_left (by omega)]

theorem nb_units {U : List Un} {tr : List UInt8} (h : ∀ u ∈ U, UOk u) (ht : Bl tr) : NB (unB U ++ tr) := by
  cases U with
  | nil =>
    intro c r e
    exact isN_blank (ht c (by
      have e : tr = c :: r := e
      rw [e]
      exact List.mem_cons_self))
  | cons u U =>
    have hu := h u List.mem_cons_self
    rw [unB_cons]
    intro c r e
    cases hs : u.s with
    | cons d ds =>
      rw [hs] at e
      simp only [List.cons_append, List.cons.injEq] at e
      rw [← e.1]
      exact isN_blank (hu.bl d (by rw [hs]; exact List.mem_cons_self))
    | nil =>
      rcases hu.fs with hf | hf
      · exact absurd hs hf
      · have hp := ww_pos hu.ww
        rw [hs] at e
        cases ht2 : u.t with
        | nil =>
          rw [ht2] at hp
          exact absurd hp (by decide)
        | cons d ds =>
          rw [ht2] at e hf
          simp only [List.nil_append, List.cons_append, List.cons.injEq] at e
          rw [← e.1]
          exact hf

/-- A word, told alone. -/
theorem wordP_unit {u : Un} {R : List UInt8} (h : WW u) (hR : NB R) : wordP (u.t ++ R) 0 = (u.k, u.t.length) := by
  have hb := bt_first h R
  rcases h with ⟨hk, h1, h2, h3, h4⟩ | ⟨hk, h⟩ | ⟨hk, h⟩ | ⟨hk, h⟩
  · unfold wordP
    rw [hb, if_pos h3]
    unfold nameP runEnd
    rw [List.drop_zero, runLen_app h4 (fun c r e => hR c r e), if_neg (by omega), hk, Nat.zero_add]
  · have key : ∀ k : List UInt8, keyWords.contains k = true → (bt (37 :: k) 1 == 37) = false → (∀ c ∈ k, isN (c.toNat : Int) = true) → 1 ≤ k.length → wordP ((37 :: k) ++ R) 0 = (4, (37 :: k).length) := by
      intro k hc h37 hn hl
      have e0 : bt ((37 :: k) ++ R) 0 = 37 := rfl
      have e1 : bt ((37 :: k) ++ R) 1 = bt (37 :: k) 1 := by
        unfold bt
        rw [List.getElem?_append_left (by rw [List.length_cons]; omega)]
      have hrl : runEnd isN ((37 :: k) ++ R) 1 = 1 + k.length := by
        unfold runEnd
        rw [List.cons_append, List.drop_succ_cons, List.drop_zero, runLen_app hn (fun c r e => hR c r e)]
      have hpt : part ((37 :: k) ++ R) 1 (1 + k.length) = k := by
        unfold part
        rw [List.cons_append, List.drop_succ_cons, List.drop_zero, Nat.add_sub_cancel_left, List.take_left]
      unfold wordP keyP
      rw [e0]
      have hp2 : pre2 37 37 ((37 :: k) ++ R) 0 = false := by
        unfold pre2
        rw [Nat.zero_add, e1, h37]
        simp
      rw [hp2, hrl, hpt, hc]
      rw [List.length_cons, Nat.add_comm 1]
      rfl
    rcases h with h | h
    · rw [h, hk]
      exact key [116, 111, 107, 101, 110] (by decide) (by decide) (by decide) (by decide)
    · rw [h, hk]
      exact key [108, 101, 102, 116] (by decide) (by decide) (by decide) (by decide)
  · rw [h, hk]
    have hp2 : pre2 37 37 ([37, 37] ++ R) 0 = true := by
      unfold pre2
      simp only [List.cons_append, List.nil_append, List.length_cons, Bool.and_eq_true, decide_eq_true_eq]
      exact ⟨⟨by omega, rfl⟩, rfl⟩
    have e0 : bt ([37, 37] ++ R) 0 = 37 := rfl
    unfold wordP keyP
    rw [e0, hp2]
    rfl
  · rcases h with h | h | h
    · rw [h, hk]
      have e0 : bt ([58] ++ R) 0 = 58 := rfl
      unfold wordP
      rw [e0]
      rfl
    · rw [h, hk]
      have e0 : bt ([124] ++ R) 0 = 124 := rfl
      unfold wordP
      rw [e0]
      rfl
    · rw [h, hk]
      have e0 : bt ([59] ++ R) 0 = 59 := rfl
      unfold wordP
      rw [e0]
      rfl

theorem ww_first {u : Un} (h : WW u) : isD (bt u.t 0) = false ∧ isB (bt u.t 0) = false ∧ bt u.t 0 ≠ 47 ∧ u.k ≠ 0 := by
  rcases h with ⟨hk, h1, h2, h3, h4⟩ | ⟨hk, h | h⟩ | ⟨hk, h⟩ | ⟨hk, h | h | h⟩
  · unfold isL at h3
    unfold isD isB
    simp only [Bool.or_eq_true, Bool.and_eq_true, decide_eq_true_eq, beq_iff_eq] at h3
    refine ⟨?_, ?_, ?_, by omega⟩
    · rw [Bool.and_eq_false_iff, decide_eq_false_iff_not, decide_eq_false_iff_not]
      omega
    · simp only [Bool.or_eq_false_iff, beq_eq_false_iff_ne]
      omega
    · omega
  all_goals (rw [h]; exact ⟨rfl, rfl, by decide, by omega⟩)

theorem skipF_units {R : List UInt8} : ∀ (s : List UInt8) (p : List UInt8) (f : Nat), Bl s → s.length ≤ f → (R = [] ∨ (isB (bt R 0) = false ∧ bt R 0 ≠ 47)) → skipF f (p ++ (s ++ R)) p.length = p.length + s.length
  | [], p, f, _, _, hR => by
    rw [List.nil_append, List.length_nil, Nat.add_zero]
    rcases hR with rfl | ⟨h1, h2⟩
    · rw [List.append_nil]
      exact skip_out (Nat.le_refl _)
    · refine skip_word (by rw [bt_app0]; exact h1) ?_
      rw [pre2_app]
      unfold pre2
      have : (bt R 0 == 47) = false := by simpa using h2
      rw [this]
      simp
  | c :: s, p, f, hb, hf, hR => by
    rw [List.length_cons] at hf
    obtain ⟨f, rfl⟩ : ∃ g, f = g + 1 := ⟨f - 1, by omega⟩
    have hc : bt (p ++ (c :: s ++ R)) p.length = (c.toNat : Int) := by rw [bt_app0]; rfl
    rw [skip_blank (by rw [List.length_append, List.length_append, List.length_cons]; omega) (by rw [hc]; exact hb c List.mem_cons_self)]
    have e : p ++ (c :: s ++ R) = (p ++ [c]) ++ (s ++ R) := by simp
    have e2 : p.length + 1 = (p ++ [c]).length := by simp
    rw [e, e2, skipF_units s (p ++ [c]) f (fun x hx => hb x (List.mem_cons_of_mem _ hx)) (by omega) hR]
    simp
    omega

/-- Where words stand. -/
def posU : Nat → List Un → List (Nat × Nat × Nat)
  | _, [] => []
  | p, u :: U => (u.k, p + u.s.length, p + u.s.length + u.t.length) :: posU (p + u.s.length + u.t.length) U

theorem scan_units {tr : List UInt8} (htr : Bl tr) : ∀ (U : List Un) (p : List UInt8) (a : List (Nat × Nat × Nat)) (f : Nat), (∀ u ∈ U, UOk u) → U.length < f → scanF f (p ++ (unB U ++ tr)) (skip (p ++ (unB U ++ tr)) p.length) a = (a ++ posU p.length U ++ [(5, (p ++ (unB U ++ tr)).length, (p ++ (unB U ++ tr)).length)], -1)
  | [], p, a, f, _, hf => by
    obtain ⟨f, rfl⟩ : ∃ g, f = g + 1 := ⟨f - 1, by omega⟩
    have e : unB [] ++ tr = tr ++ [] := by simp [unB]
    have h1 : skip (p ++ (tr ++ [])) p.length = p.length + tr.length := skipF_units tr p _ htr (by simp; omega) (.inl rfl)
    rw [e, h1, scan_out (by simp)]
    simp [posU]
  | u :: U, p, a, f, hU, hf => by
    rw [List.length_cons] at hf
    obtain ⟨f, rfl⟩ : ∃ g, f = g + 1 := ⟨f - 1, by omega⟩
    have hu := hU u List.mem_cons_self
    have hU2 : ∀ v ∈ U, UOk v := fun v hv => hU v (List.mem_cons_of_mem _ hv)
    have hnb : NB (unB U ++ tr) := nb_units hU2 htr
    have hw := wordP_unit hu.ww hnb
    obtain ⟨hd, hbk, h47, hk0⟩ := ww_first hu.ww
    have hbt := bt_first hu.ww (unB U ++ tr)
    have hpos := ww_pos hu.ww
    have e : p ++ (unB (u :: U) ++ tr) = p ++ (u.s ++ (u.t ++ (unB U ++ tr))) := by rw [unB_cons]; simp
    have e2 : p ++ (u.s ++ (u.t ++ (unB U ++ tr))) = (p ++ u.s) ++ (u.t ++ (unB U ++ tr)) := by simp
    have e3 : p ++ (u.s ++ (u.t ++ (unB U ++ tr))) = (p ++ u.s ++ u.t) ++ (unB U ++ tr) := by simp
    have hsk : skip (p ++ (u.s ++ (u.t ++ (unB U ++ tr)))) p.length = p.length + u.s.length := skipF_units u.s p _ hu.bl (by simp; omega) (.inr ⟨by rw [hbt]; exact hbk, by rw [hbt]; exact h47⟩)
    have hwp : wordP (p ++ (u.s ++ (u.t ++ (unB U ++ tr)))) (p.length + u.s.length) = (u.k, p.length + u.s.length + u.t.length) := by
      have h1 := wordP_app (p ++ u.s) (u.t ++ (unB U ++ tr)) (by rw [hbt]; exact hd)
      rw [hw] at h1
      simp only [if_neg hk0] at h1
      rw [e2]
      have e4 : p.length + u.s.length = (p ++ u.s).length := by rw [List.length_append]
      rw [e4]
      exact h1
    have hlt : p.length + u.s.length < (p ++ (u.s ++ (u.t ++ (unB U ++ tr)))).length := by
      simp only [List.length_append]
      omega
    rw [e, hsk, scan_next hlt (by rw [hwp]; exact hk0), hwp]
    have ih := scan_units htr U (p ++ u.s ++ u.t) (a ++ [(u.k, p.length + u.s.length, p.length + u.s.length + u.t.length)]) f hU2 (by omega)
    have e5 : (p ++ u.s ++ u.t).length = p.length + u.s.length + u.t.length := by simp only [List.length_append]
    rw [e5] at ih
    rw [e3]
    rw [ih]
    simp [posU]

theorem unB_len {U : List Un} (h : ∀ u ∈ U, UOk u) : U.length ≤ (unB U).length := by
  induction U with
  | nil => exact Nat.zero_le _
  | cons u U ih =>
    have h1 := ih (fun v hv => h v (List.mem_cons_of_mem _ hv))
    have h2 := ww_pos (h u List.mem_cons_self).ww
    rw [unB_cons, List.length_append, List.length_append, List.length_cons]
    omega

/-- The words as the reader takes them. -/
def uw : Nat → List Un → List Wd
  | _, [] => []
  | p, u :: U => ⟨(u.k : Int), ⟨u.t.toArray⟩, ((p + u.s.length : Nat) : Int)⟩ :: uw (p + u.s.length + u.t.length) U

theorem posU_words {s : ByteArray} : ∀ (U : List Un) (p r : List UInt8), by8 s = p ++ (unB U ++ r) → (posU p.length U).map (wdOf s) = uw p.length U
  | [], p, r, _ => rfl
  | u :: U, p, r, h => by
    unfold posU uw
    rw [List.map_cons]
    have e : p ++ (unB (u :: U) ++ r) = (p ++ u.s ++ u.t) ++ (unB U ++ r) := by rw [unB_cons]; simp
    have e5 : (p ++ u.s ++ u.t).length = p.length + u.s.length + u.t.length := by simp only [List.length_append]
    have ih := posU_words U (p ++ u.s ++ u.t) r (by rw [h, e])
    rw [e5] at ih
    rw [ih]
    congr 1
    unfold wdOf
    simp only
    congr 1
    apply by8_inj
    rw [by8_extract, h, e]
    show part _ _ _ = u.t
    have e6 : (p ++ u.s ++ u.t) ++ (unB U ++ r) = (p ++ u.s) ++ (u.t ++ (unB U ++ r)) := by simp
    have e7 : p.length + u.s.length = (p ++ u.s).length + 0 := by simp
    have e8 : p.length + u.s.length + u.t.length = (p ++ u.s).length + u.t.length := by simp
    rw [e6, e8, e7, part_app]
    unfold part
    rw [List.drop_zero, Nat.sub_zero, List.take_left]

/-- A text out of words: it has no fault, and these are its words. -/
theorem words_units {s : ByteArray} {U : List Un} {tr : List UInt8} (h : by8 s = unB U ++ tr) (hU : ∀ u ∈ U, UOk u) (htr : Bl tr) : (scan (by8 s)).2 = -1 ∧ wordsOf s = uw 0 U ++ [endW (s.size : Int)] := by
  have hl := unB_len hU
  have hlen : (by8 s).length = (unB U).length + tr.length := by rw [h, List.length_append]
  have e := scan_units htr U [] [] ((by8 s).length + 1) hU (by omega)
  simp only [List.nil_append, List.length_nil] at e
  rw [← h] at e
  have e2 : scan (by8 s) = scanF ((by8 s).length + 1) (by8 s) (skip (by8 s) 0) [] := rfl
  rw [← e2] at e
  refine ⟨by rw [e], ?_⟩
  unfold wordsOf
  rw [e, List.map_append]
  have e3 := posU_words (s := s) U [] tr (by rw [List.nil_append]; exact h)
  rw [List.length_nil] at e3
  rw [e3]
  congr 1
  show [wdOf s (5, (by8 s).length, (by8 s).length)] = [endW _]
  unfold wdOf endW
  simp only
  rw [by8_length, extract_end]
  rfl

end Go.Proofs.YtkaojokhdleeiaaGreatDoor

/-
  Texts that are laid together, as the reader takes them. Plain mathematics.
-/
namespace Go.Proofs.YtkaojokhdleeiaaGreatDoor
open Go.RowKit

/-- A word's kind and its bytes. -/
abbrev KT := Nat × List UInt8
def ba (t : List UInt8) : ByteArray := ⟨t.toArray⟩

/-- A text of such words; blanks may stand behind them. -/
def TX (a : ByteArray) (L : List KT) : Prop := ∃ U pend, by8 a = unB U ++ pend ∧ Bl pend ∧ (∀ u ∈ U, UOk u) ∧ U.map (fun u => (u.k, u.t)) = L

theorem bl_append {a b : List UInt8} (ha : Bl a) (hb : Bl b) : Bl (a ++ b) := fun c hc => by
  rcases List.mem_append.1 hc with h | h
  · exact ha c h
  · exact hb c h

theorem TX.add {a v : ByteArray} {L : List KT} (h : TX a L) (V : List Un) (tr : List UInt8) (hv : by8 v = unB V ++ tr) (htr : Bl tr) (hV : ∀ u ∈ V, UOk u) : TX (a ++ v) (L ++ V.map (fun u => (u.k, u.t))) := by
  obtain ⟨U, pend, h1, h2, h3, h4⟩ := h
  cases V with
  | nil =>
    refine ⟨U, pend ++ tr, ?_, bl_append h2 htr, h3, by simpa using h4⟩
    rw [by8_append, h1, hv]
    simp [unB]
  | cons u V =>
    have hu := hV u List.mem_cons_self
    refine ⟨U ++ (⟨pend ++ u.s, u.k, u.t⟩ :: V), tr, ?_, htr, fun x hx => ?_, ?_⟩
    · rw [by8_append, h1, hv, unB_append, unB_cons, unB_cons]
      simp
    · rcases List.mem_append.1 hx with hx | hx
      · exact h3 x hx
      · rcases List.mem_cons.1 hx with rfl | hx
        · refine ⟨bl_append h2 hu.bl, hu.ww, ?_⟩
          rcases hu.fs with hf | hf
          · exact .inl (fun e => hf (List.append_eq_nil_iff.1 e).2)
          · exact .inr hf
        · exact hV x (List.mem_cons_of_mem _ hx)
    · rw [List.map_append, h4]
      rfl

/-- Words of these kinds and texts, then the end. -/
def WSeq (ws : List Wd) (L : List KT) : Prop := ws.map (fun w => (w.k, w.t)) = L.map (fun p => ((p.1 : Int), ba p.2)) ++ [((5 : Int), (⟨#[]⟩ : ByteArray))]

theorem uw_map : ∀ (U : List Un) (p : Nat), (uw p U).map (fun w => (w.k, w.t)) = (U.map (fun u => (u.k, u.t))).map (fun p => ((p.1 : Int), ba p.2))
  | [], _ => rfl
  | u :: U, p => by
    unfold uw
    rw [List.map_cons, uw_map U]
    rfl

theorem TX.words {s : ByteArray} {L : List KT} (h : TX s L) : (scan (by8 s)).2 = -1 ∧ WSeq (wordsOf s) L := by
  obtain ⟨U, pend, h1, h2, h3, h4⟩ := h
  obtain ⟨e1, e2⟩ := words_units h1 h3 h2
  refine ⟨e1, ?_⟩
  unfold WSeq
  rw [e2, List.map_append, uw_map, h4]
  rfl

theorem WSeq.cons {ws : List Wd} {k : Nat} {t : List UInt8} {L : List KT} (h : WSeq ws ((k, t) :: L)) : (headW ws).k = (k : Int) ∧ (headW ws).t = ba t ∧ WSeq ws.tail L ∧ ws.length = L.length + 2 := by
  unfold WSeq at h
  cases ws with
  | nil => simp at h
  | cons w r =>
    simp only [List.map_cons, List.cons_append, List.cons.injEq, Prod.mk.injEq] at h
    refine ⟨h.1.1, h.1.2, h.2, ?_⟩
    have := congrArg List.length h.2
    simp only [List.length_map, List.length_append, List.length_cons, List.length_nil] at this
    rw [List.length_cons]
    omega

theorem WSeq.nil {ws : List Wd} (h : WSeq ws []) : (headW ws).k = 5 ∧ (headW ws).t = ⟨#[]⟩ ∧ ws.length = 1 := by
  unfold WSeq at h
  cases ws with
  | nil => simp at h
  | cons w r =>
    simp only [List.map_cons, List.map_nil, List.nil_append, List.cons.injEq, Prod.mk.injEq] at h
    have := congrArg List.length h.2
    simp only [List.length_map, List.length_nil] at this
    exact ⟨h.1.1, h.1.2, by rw [List.length_cons, this]⟩

def setW (S : St) (ws : List Wd) : St := ⟨ws, S.ts, S.ls, S.lv, S.st, S.ed, S.ex, S.rs⟩
def nmK (x : List (List UInt8)) : List KT := x.map fun t => (1, t)

theorem symP_seq : ∀ (x : List (List UInt8)) (k : Nat) (t : List UInt8) (L : List KT) (f : Nat) (l : List ByteArray) (S : St), WSeq S.ws (nmK x ++ (k, t) :: L) → k ≠ 1 → l.length + x.length ≤ 20 → x.length < f → ∃ ws', symP f l S = .ok (l ++ x.map ba, setW S ws') ∧ WSeq ws' ((k, t) :: L)
  | [], k, t, L, f, l, S, h, hk, hl, hf => by
    obtain ⟨f, rfl⟩ : ∃ g, f = g + 1 := ⟨f - 1, by rw [List.length_nil] at hf; omega⟩
    have h1 := h.cons
    refine ⟨S.ws, ?_, h⟩
    unfold symP
    rw [if_neg (show ¬ S.hd.k = 1 by unfold St.hd; rw [h1.1]; omega)]
    simp [setW]
  | y :: x, k, t, L, f, l, S, h, hk, hl, hf => by
    rw [List.length_cons] at hl hf
    obtain ⟨f, rfl⟩ : ∃ g, f = g + 1 := ⟨f - 1, by omega⟩
    have h0 : WSeq S.ws ((1, y) :: (nmK x ++ (k, t) :: L)) := h
    have h1 := h0.cons
    have hd : S.hd.k = 1 := h1.1
    have ht : S.hd.t = ba y := h1.2.1
    obtain ⟨ws', e, hw⟩ := symP_seq x k t L f (l ++ [ba y]) S.next h1.2.2.1 hk (by rw [List.length_append]; simp only [List.length_cons, List.length_nil]; omega) (by omega)
    refine ⟨ws', ?_, hw⟩
    unfold symP
    rw [if_pos hd, if_neg (by omega), ht, e]
    simp [setW, St.next]

theorem altP_seq (left : ByteArray) (x : List (List UInt8)) (c : List UInt8) (L : List KT) (S : St) (h : WSeq S.ws (nmK x ++ (3, c) :: L)) (hx : x.length ≤ 20) (hn : S.rs.length < 100) (hc : ba c ≠ tPrec) :
    ∃ ws', altP left S = .ok (ruleAdd (setW S ws') ⟨left, x.map ba, ⟨#[]⟩⟩) ∧ WSeq ws' ((3, c) :: L) := by
  have hlen : x.length < S.ws.length := by
    have := congrArg List.length h
    unfold nmK at this
    simp only [List.length_map, List.length_append, List.length_cons, List.length_nil] at this
    omega
  obtain ⟨ws', e, hw⟩ := symP_seq x 3 c L S.ws.length [] S h (by decide) (by rw [List.length_nil]; omega) hlen
  refine ⟨ws', ?_, hw⟩
  have h1 := hw.cons
  unfold altP
  rw [if_neg (by omega), e]
  simp only
  rw [if_neg (show ¬ (setW S ws').hd.t = tPrec by unfold St.hd setW; simp only; rw [h1.2.1]; exact hc)]
  simp

/-- Alternatives behind the first one. -/
def altT (r : List (List (List UInt8))) : List KT := r.flatMap fun x => (3, [124]) :: nmK x

def mkR (left : ByteArray) (x : List (List UInt8)) : Ru := ⟨left, x.map ba, ⟨#[]⟩⟩
def addR (S : St) (l : List Ru) (ws : List Wd) : St := ⟨ws, S.ts, S.ls, S.lv, S.st, S.ed, S.ex, S.rs ++ l⟩

theorem ba_semi : ba [59] = tSemi := rfl
theorem ba_bar : ba [124] = tBar := rfl
theorem ba_col : ba [58] = tCol := rfl

theorem altsP_seq (left : ByteArray) : ∀ (r : List (List (List UInt8))) (x : List (List UInt8)) (L : List KT) (f : Nat) (S : St), WSeq S.ws (nmK x ++ (altT r ++ (3, [59]) :: L)) → (∀ y ∈ x :: r, y.length ≤ 20) → S.rs.length + 1 + r.length ≤ 100 → r.length < f →
    ∃ ws', altsP left f S = .ok (addR S ((x :: r).map (mkR left)) ws') ∧ WSeq ws' L
  | [], x, L, f, S, h, hx, hn, hf => by
    obtain ⟨f, rfl⟩ : ∃ g, f = g + 1 := ⟨f - 1, by rw [List.length_nil] at hf; omega⟩
    obtain ⟨ws', e, hw⟩ := altP_seq left x [59] L S h (hx x List.mem_cons_self) (by rw [List.length_nil] at hn; omega) (by rw [ba_semi]; exact fun e => absurd (congrArg ByteArray.size e) (by decide))
    have h1 := hw.cons
    refine ⟨ws'.tail, ?_, h1.2.2.1⟩
    unfold altsP
    rw [e]
    simp only
    rw [if_pos (show (ruleAdd (setW S ws') ⟨left, x.map ba, ⟨#[]⟩⟩).hd.t = tSemi from h1.2.1)]
    rfl
  | y :: r, x, L, f, S, h, hx, hn, hf => by
    rw [List.length_cons] at hn hf
    obtain ⟨f, rfl⟩ : ∃ g, f = g + 1 := ⟨f - 1, by omega⟩
    have h0 : WSeq S.ws (nmK x ++ (3, [124]) :: (nmK y ++ (altT r ++ (3, [59]) :: L))) := by
      have e : altT (y :: r) = (3, [124]) :: nmK y ++ altT r := rfl
      rw [e] at h
      simpa using h
    obtain ⟨ws', e, hw⟩ := altP_seq left x [124] _ S h0 (hx x List.mem_cons_self) (by omega) (by rw [ba_bar]; exact fun e => absurd (congrArg ByteArray.size e) (by decide))
    have h1 := hw.cons
    have hb : (ruleAdd (setW S ws') ⟨left, x.map ba, ⟨#[]⟩⟩).hd.t = tBar := h1.2.1
    obtain ⟨ws2, e2, hw2⟩ := altsP_seq left r y L f (ruleAdd (setW S ws') ⟨left, x.map ba, ⟨#[]⟩⟩).next h1.2.2.1 (fun z hz => hx z (List.mem_cons_of_mem _ hz)) (by
      show (S.rs ++ [_]).length + 1 + r.length ≤ 100
      rw [List.length_append]
      simp only [List.length_cons, List.length_nil]
      omega) (by omega)
    refine ⟨ws2, ?_, hw2⟩
    unfold altsP
    rw [e]
    simp only
    rw [if_neg (by rw [hb]; exact fun e => absurd (congrArg by8 e) (by decide)), if_pos hb, e2]
    unfold addR ruleAdd St.next setW mkR
    simp

theorem altT_len : ∀ r : List (List (List UInt8)), r.length ≤ (altT r).length
  | [] => Nat.le_refl _
  | y :: r => by
    have := altT_len r
    have e : altT (y :: r) = (3, [124]) :: nmK y ++ altT r := rfl
    rw [e, List.length_append, List.length_cons, List.length_cons]
    omega

theorem ruleRd_seq (left : List UInt8) (x : List (List UInt8)) (r : List (List (List UInt8))) (L : List KT) (S : St) (h : WSeq S.ws ((1, left) :: (3, [58]) :: (nmK x ++ (altT r ++ (3, [59]) :: L)))) (hx : ∀ y ∈ x :: r, y.length ≤ 20) (hn : S.rs.length + 1 + r.length ≤ 100) :
    ∃ ws', ruleRd S = .ok (addR S ((x :: r).map (mkR (ba left))) ws') ∧ WSeq ws' L := by
  have h1 := h.cons
  have h2 := h1.2.2.1.cons
  have hk : S.hd.k = 1 := h1.1
  have hc : S.next.hd.t = tCol := h2.2.1
  have hlen : r.length < S.next.ws.length := by
    have := congrArg List.length h1.2.2.1
    have e := altT_len r
    simp only [List.length_map, List.length_append, List.length_cons, List.length_nil] at this
    show r.length < S.ws.tail.length
    omega
  obtain ⟨ws', e, hw⟩ := altsP_seq (ba left) r x L S.next.ws.length S.next.next h2.2.2.1 hx hn hlen
  refine ⟨ws', ?_, hw⟩
  unfold ruleRd takeP
  rw [if_pos hk]
  simp only
  rw [if_pos hc]
  have ht : S.hd.t = ba left := h1.2.1
  rw [ht, e]
  rfl

/-- Rules one by one. -/
def oneT (left : List UInt8) (r : List (List (List UInt8))) : List KT := r.flatMap fun x => [(1, left), (3, [58])] ++ nmK x ++ [(3, [59])]

theorem rulesP_seq (left : List UInt8) : ∀ (r : List (List (List UInt8))) (f : Nat) (S : St), WSeq S.ws (oneT left r) → (∀ y ∈ r, y.length ≤ 20) → S.rs.length + r.length ≤ 100 → r.length < f →
    ∃ ws', rulesP f S = .ok (addR S (r.map (mkR (ba left))) ws')
  | [], f, S, h, _, _, hf => by
    obtain ⟨f, rfl⟩ : ∃ g, f = g + 1 := ⟨f - 1, by rw [List.length_nil] at hf; omega⟩
    refine ⟨S.ws, ?_⟩
    rw [rulesP_end (show S.hd.k = 5 from (WSeq.nil h).1)]
    simp [addR]
  | x :: r, f, S, h, hx, hn, hf => by
    rw [List.length_cons] at hn hf
    obtain ⟨f, rfl⟩ : ∃ g, f = g + 1 := ⟨f - 1, by omega⟩
    have h0 : WSeq S.ws ((1, left) :: (3, [58]) :: (nmK x ++ (altT [] ++ (3, [59]) :: oneT left r))) := by
      have e : oneT left (x :: r) = [(1, left), (3, [58])] ++ nmK x ++ [(3, [59])] ++ oneT left r := rfl
      rw [e] at h
      simpa [altT] using h
    obtain ⟨ws', e, hw⟩ := ruleRd_seq left x [] (oneT left r) S h0 (fun y hy => hx y (by
      rw [List.mem_singleton] at hy
      subst hy
      exact List.mem_cons_self)) (by rw [List.length_nil]; omega)
    obtain ⟨ws2, e2⟩ := rulesP_seq left r f (addR S ([x].map (mkR (ba left))) ws') hw (fun y hy => hx y (List.mem_cons_of_mem _ hy)) (by
      show (S.rs ++ [_]).length + r.length ≤ 100
      rw [List.length_append]
      simp only [List.length_cons, List.length_nil]
      omega) (by omega)
    refine ⟨ws2, ?_⟩
    have hk : S.hd.k ≠ 5 := by
      have := h0.cons.1
      show (headW S.ws).k ≠ 5
      rw [this]
      decide
    rw [rulesP_more hk, e]
    simp only
    rw [e2]
    unfold addR
    simp

theorem listP_new {w : Wd} {S : St} (h1 : findN S.ts w.t = none) (h2 : S.ts.length < 40) (h3 : S.ls.length = S.ts.length) : listP w S = .ok ⟨S.ws, S.ts ++ [⟨w.t, 0, 0⟩], S.ls ++ [true], S.lv, S.st, S.ed, S.ex, S.rs⟩ := by
  unfold listP tokP
  rw [h1]
  simp only
  rw [if_neg (by omega)]
  simp only
  rw [← h3, List.getElem?_append_right (Nat.le_refl _), Nat.sub_self]
  simp

def headK : List KT := [(4, [37, 116, 111, 107, 101, 110]), (1, [65]), (1, [66]), (4, [37, 37])]

/-- %token A B %% -/
theorem head_seq {ws : List Wd} {L : List KT} (h : WSeq ws (headK ++ L)) : ∃ ws', partsP ws.length (st0 ws) = .ok ⟨ws', [⟨ba [65], 0, 0⟩, ⟨ba [66], 0, 0⟩], [true, true], 0, ⟨#[]⟩, false, 0, []⟩ ∧ WSeq ws' L := by
  have h1 := h.cons
  have h2 := h1.2.2.1.cons
  have h3 := h2.2.2.1.cons
  have h4 := h3.2.2.1.cons
  obtain ⟨n, hn⟩ : ∃ n, ws.length = n + 3 := ⟨ws.length - 3, by have e := h4.2.2.2; simp only [List.length_tail] at e; omega⟩
  refine ⟨ws.tail.tail.tail.tail, ?_, h4.2.2.1⟩
  have hA : findN ([] : List Tk) (ba [65]) = none := rfl
  have hAB : findN [⟨ba [65], 0, 0⟩] (ba [66]) = none := by
    unfold findN findN
    rw [if_neg (fun e => absurd (congrArg by8 e) (by decide))]
    rfl
  have q1 : takeP 1 (st0 ws).next = .ok (headW ws.tail, (st0 ws).next.next) := by
    unfold takeP
    rw [if_pos (show (st0 ws).next.hd.k = 1 from h2.1)]
    rfl
  have q2 : listP (headW ws.tail) (st0 ws).next.next = .ok ⟨ws.tail.tail, [⟨ba [65], 0, 0⟩], [true], 0, ⟨#[]⟩, false, 0, []⟩ := by
    rw [listP_new (by rw [h2.2.1]; exact hA) (by show (0 : Nat) < 40; decide) rfl, h2.2.1]
    rfl
  have q3 : takeP 1 ⟨ws.tail.tail, [⟨ba [65], 0, 0⟩], [true], 0, ⟨#[]⟩, false, 0, []⟩ = .ok (headW ws.tail.tail, ⟨ws.tail.tail.tail, [⟨ba [65], 0, 0⟩], [true], 0, ⟨#[]⟩, false, 0, []⟩) := by
    unfold takeP
    rw [if_pos (show (St.mk ws.tail.tail [⟨ba [65], 0, 0⟩] [true] 0 ⟨#[]⟩ false 0 []).hd.k = 1 from h3.1)]
    rfl
  have q4 : listP (headW ws.tail.tail) ⟨ws.tail.tail.tail, [⟨ba [65], 0, 0⟩], [true], 0, ⟨#[]⟩, false, 0, []⟩ = .ok ⟨ws.tail.tail.tail, [⟨ba [65], 0, 0⟩, ⟨ba [66], 0, 0⟩], [true, true], 0, ⟨#[]⟩, false, 0, []⟩ := by
    rw [listP_new (by rw [h3.2.1]; exact hAB) (by show (1 : Nat) < 40; decide) rfl, h3.2.1]
    rfl
  have q5 : namesP listP (n + 3) (st0 ws).next = .ok ⟨ws.tail.tail.tail, [⟨ba [65], 0, 0⟩, ⟨ba [66], 0, 0⟩], [true, true], 0, ⟨#[]⟩, false, 0, []⟩ := by
    unfold namesP
    rw [q1]
    simp only
    rw [q2]
    simp only
    rw [if_pos (show (St.mk ws.tail.tail [⟨ba [65], 0, 0⟩] [true] 0 ⟨#[]⟩ false 0 []).hd.k = 1 from h3.1)]
    unfold namesP
    rw [q3]
    simp only
    rw [q4]
    simp only
    rw [if_neg (show ¬ (St.mk ws.tail.tail.tail [⟨ba [65], 0, 0⟩, ⟨ba [66], 0, 0⟩] [true, true] 0 ⟨#[]⟩ false 0 []).hd.k = 1 from fun e => by
      have e2 : (headW ws.tail.tail.tail).k = 1 := e
      rw [h4.1] at e2
      exact absurd e2 (by decide))]
  have q6 : partP (st0 ws) = .ok ⟨ws.tail.tail.tail, [⟨ba [65], 0, 0⟩, ⟨ba [66], 0, 0⟩], [true, true], 0, ⟨#[]⟩, false, 0, []⟩ := by
    unfold partP
    rw [if_pos (show (st0 ws).hd.t = tTok from h1.2.1)]
    show namesP listP ws.length _ = _
    rw [hn, q5]
  rw [hn]
  unfold partsP
  rw [if_neg (show ¬ (st0 ws).hd.t = tTwo from fun e => by
    have e2 : (headW ws).t = tTwo := e
    rw [h1.2.1] at e2
    exact absurd (congrArg by8 e2) (by decide)), q6]
  simp only
  unfold partsP
  rw [if_pos (show (St.mk ws.tail.tail.tail [⟨ba [65], 0, 0⟩, ⟨ba [66], 0, 0⟩] [true, true] 0 ⟨#[]⟩ false 0 []).hd.t = tTwo from h4.2.1)]
  rfl

def ruG (r : List (List (List UInt8))) : Gm := ⟨[⟨ba [65], 0, 0⟩, ⟨ba [66], 0, 0⟩], ⟨#[]⟩, 0, r.map (mkR (ba [115]))⟩

theorem readS_of {s : ByteArray} {S : St} (hs : s.size ≤ 2000) (hf : (scan (by8 s)).2 = -1) (h : readP (st0 (wordsOf s)) = .ok S) : readS s = .ok S := by
  unfold readS
  rw [if_neg (by omega), if_pos (by rw [hf]; decide), h]

/-- Rules of one Left as alternatives. -/
theorem rules_alt {s : ByteArray} {x : List (List UInt8)} {r : List (List (List UInt8))} (h : TX s (headK ++ ((1, [115]) :: (3, [58]) :: (nmK x ++ (altT r ++ [(3, [59])]))))) (hs : s.size ≤ 2000) (hx : ∀ y ∈ x :: r, y.length ≤ 20) (hn : 1 + r.length ≤ 100) : ∃ S, readS s = .ok S ∧ gmOf S = ruG (x :: r) := by
  obtain ⟨hf, hw⟩ := h.words
  obtain ⟨ws', e1, hw1⟩ := head_seq hw
  obtain ⟨ws2, e2, hw2⟩ := ruleRd_seq [115] x r [] ⟨ws', [⟨ba [65], 0, 0⟩, ⟨ba [66], 0, 0⟩], [true, true], 0, ⟨#[]⟩, false, 0, []⟩ hw1 hx (by simpa using hn)
  have hlen := hw1.cons.2.2.2
  obtain ⟨m, hm⟩ : ∃ m, ws'.length = m + 2 := ⟨ws'.length - 2, by omega⟩
  refine ⟨addR ⟨ws', [⟨ba [65], 0, 0⟩, ⟨ba [66], 0, 0⟩], [true, true], 0, ⟨#[]⟩, false, 0, []⟩ ((x :: r).map (mkR (ba [115]))) ws2, readS_of hs hf ?_, ?_⟩
  · rw [readP_eq]
    show thenRules (partsP (wordsOf s).length (st0 (wordsOf s))) = _
    rw [e1]
    show rulesP ws'.length _ = _
    rw [hm, rulesP_more (show (St.mk ws' [⟨ba [65], 0, 0⟩, ⟨ba [66], 0, 0⟩] [true, true] 0 ⟨#[]⟩ false 0 []).hd.k ≠ 5 from fun e => by
      have e3 : (headW ws').k = 5 := e
      rw [hw1.cons.1] at e3
      exact absurd e3 (by decide)), e2]
    simp only
    exact rulesP_end (show (headW ws2).k = 5 from hw2.nil.1)
  · rfl

/-- Rules of one Left one by one. -/
theorem rules_one {s : ByteArray} {r : List (List (List UInt8))} (h : TX s (headK ++ oneT [115] r)) (hs : s.size ≤ 2000) (hx : ∀ y ∈ r, y.length ≤ 20) (hn : r.length ≤ 100) : ∃ S, readS s = .ok S ∧ gmOf S = ruG r := by
  obtain ⟨hf, hw⟩ := h.words
  obtain ⟨ws', e1, hw1⟩ := head_seq hw
  have hlen : r.length < ws'.length := by
    have := congrArg List.length hw1
    have e : r.length ≤ (oneT [115] r).length := by
      clear h hw e1 hw1 this hx hn
      induction r with
      | nil => exact Nat.le_refl _
      | cons y r ih =>
        have e : oneT [115] (y :: r) = [(1, [115]), (3, [58])] ++ nmK y ++ [(3, [59])] ++ oneT [115] r := rfl
        rw [e]
        simp only [List.length_append, List.length_cons]
        omega
    simp only [List.length_map, List.length_append, List.length_cons, List.length_nil] at this
    omega
  obtain ⟨ws2, e2⟩ := rulesP_seq [115] r ws'.length ⟨ws', [⟨ba [65], 0, 0⟩, ⟨ba [66], 0, 0⟩], [true, true], 0, ⟨#[]⟩, false, 0, []⟩ hw1 hx (by simpa using hn) hlen
  refine ⟨addR ⟨ws', [⟨ba [65], 0, 0⟩, ⟨ba [66], 0, 0⟩], [true, true], 0, ⟨#[]⟩, false, 0, []⟩ (r.map (mkR (ba [115]))) ws2, readS_of hs hf ?_, ?_⟩
  · rw [readP_eq]
    show thenRules (partsP (wordsOf s).length (st0 (wordsOf s))) = _
    rw [e1]
    exact e2
  · rfl

end Go.Proofs.YtkaojokhdleeiaaGreatDoor

/-
  Rows of numbers that came in.
-/
namespace Go.Proofs.YtkaojokhdleeiaaGreatDoor
open Go.RowKit

set_option maxRecDepth 20000

/-- Rows of numbers that a slice shows. -/
structure RawM (w : World) (ao : Option Addr) (n cap : Nat) : Prop where
  le : n ≤ cap ∧ cap ≤ 9223372036854775807
  get : ∀ i, i < n → ∃ b o ai ni ci zs, ao = some ⟨b, o, none⟩ ∧ w.cell? ⟨b, o + i, none⟩ = some (.slice ai ni ci) ∧ RawI w ai ni ci zs

theorem RawM.below {w w' : World} {ao : Option Addr} {n cap : Nat} (h : RawM w ao n cap) (hb : Below w.heap.size w w') : RawM w' ao n cap :=
  ⟨h.le, fun i hi => by obtain ⟨b, o, ai, ni, ci, zs, e, c, r⟩ := h.get i hi; exact ⟨b, o, ai, ni, ci, zs, e, cell_below hb c, r.below hb⟩⟩

theorem open_rows {H : Type} {enc : TypeId × Value → H} {W : World} {ao : Option Addr} {n cap : Nat} {d : DataW H} {ps : List MemPlace} (h : DataW.Trod enc Tryz.prog W 0 (fun _ => true) true 52 (.slice ao n cap) d ps) : ∃ _ : Unit, RawM W ao n cap := by
  obtain ⟨fuel, hf⟩ := h
  rcases Deep.open_int_rows Tryz.underlying52 Tryz.underlying37 Tryz.underlying3 (by kernel_rfl) (by kernel_rfl) hf with ⟨hcs, _⟩ | ⟨x, l, c, A, L, C, Z, hcs, _, hl, hm, _, hx⟩
  · simp [Value.cells] at hcs
    obtain ⟨rfl, rfl, rfl⟩ := hcs
    exact ⟨(), ⟨Nat.le_refl _, by omega⟩, fun i hi => absurd hi (Nat.not_lt_zero _)⟩
  · simp [Value.cells] at hcs
    obtain ⟨rfl, rfl, rfl⟩ := hcs
    refine ⟨(), ⟨hl, by unfold maxLen at hm; omega⟩, fun i hi => ?_⟩
    obtain ⟨hc, hl2, hm2, hz, -, hnone, hsome⟩ := hx i (by omega)
    have h0 := (hx 0 (by omega)).1
    obtain ⟨b, off, spot⟩ := x
    have hspot : spot = none := by simpa [Addr.add] using World.cell?_spot h0
    subst hspot
    rw [Addr.add_lit] at hc
    refine ⟨b, off, A i, L i, C i, Z i, rfl, hc, ⟨hl2, by unfold maxLen at hm2; omega⟩, fun j hj => ?_⟩
    cases ha : A i with
    | none =>
      have := hnone ha
      omega
    | some a =>
      obtain ⟨-, hcell⟩ := hsome a ha
      have h1 := hcell j (by omega)
      have h2 := hcell 0 (by omega)
      obtain ⟨b2, o2, s2⟩ := a
      have hs2 : s2 = none := by simpa [Addr.add] using World.cell?_spot h2
      subst hs2
      rw [Addr.add_lit] at h1
      exact ⟨b2, o2, rfl, h1⟩

/-- The alternatives so far. -/
def aK : List (List (List UInt8)) → List KT
  | [] => [(1, [115]), (3, [58])]
  | x :: r => (1, [115]) :: (3, [58]) :: (nmK x ++ altT r)

theorem aK_first (y : List (List UInt8)) : aK [] ++ nmK y = aK [y] := by simp [aK, altT]
theorem aK_more (xs : List (List (List UInt8))) (y : List (List UInt8)) (h : xs ≠ []) : aK xs ++ [(3, [124])] ++ nmK y = aK (xs ++ [y]) := by
  cases xs with
  | nil => exact absurd rfl h
  | cons x r =>
    show (1, [115]) :: (3, [58]) :: (nmK x ++ altT r) ++ [(3, [124])] ++ nmK y = (1, [115]) :: (3, [58]) :: (nmK x ++ altT (r ++ [y]))
    unfold altT
    rw [List.flatMap_append]
    simp
theorem oneT_more (l : List UInt8) (xs : List (List (List UInt8))) (y : List (List UInt8)) : oneT l xs ++ ([(1, l), (3, [58])] ++ nmK y ++ [(3, [59])]) = oneT l (xs ++ [y]) := by
  unfold oneT
  rw [List.flatMap_append]
  simp

def xU (ys : List (List UInt8)) : List Un := ys.map fun y => ⟨[32], 1, y⟩
def SymY (y : List UInt8) : Prop := y = [65] ∨ y = [66] ∨ y = [115]

theorem bl32 : Bl [32] := fun c hc => by rw [List.mem_singleton] at hc; subst hc; rfl
theorem bl0 : Bl [] := fun c hc => by cases hc

theorem symY_ok {y : List UInt8} (h : SymY y) : UOk ⟨[32], 1, y⟩ := by
  refine ⟨bl32, .inl ?_, .inl (by simp)⟩
  rcases h with rfl | rfl | rfl <;> exact ⟨rfl, by decide, by decide, by decide, fun c hc => by rw [List.mem_singleton] at hc; subst hc; rfl⟩

theorem xU_ok {ys : List (List UInt8)} (h : ∀ y ∈ ys, SymY y) : ∀ u ∈ xU ys, UOk u := fun u hu => by
  unfold xU at hu
  obtain ⟨y, hy, rfl⟩ := List.mem_map.1 hu
  exact symY_ok (h y hy)

theorem xU_kt (ys : List (List UInt8)) : (xU ys).map (fun u => (u.k, u.t)) = nmK ys := by
  unfold xU nmK
  rw [List.map_map]
  rfl

theorem signOk {s : List UInt8} (hs : Bl s) {c : UInt8} (h : c = 58 ∨ c = 124 ∨ c = 59) : UOk ⟨s, 3, [c]⟩ := by
  refine ⟨hs, .inr (.inr (.inr ⟨rfl, ?_⟩)), .inr ?_⟩
  · rcases h with rfl | rfl | rfl <;> simp
  · rcases h with rfl | rfl | rfl <;> rfl

theorem xU_snoc (ys : List (List UInt8)) (y : List UInt8) : unB (xU (ys ++ [y])) = unB (xU ys) ++ (32 :: y) := by
  unfold xU
  rw [List.map_append, unB_append]
  simp [unB]

/-- How the two texts begin. -/
def txA : ByteArray := ⟨#[37, 116, 111, 107, 101, 110, 32, 65, 32, 66, 32, 37, 37, 32, 115, 32, 58, 32]⟩
def txB : ByteArray := ⟨#[37, 116, 111, 107, 101, 110, 32, 65, 32, 66, 32, 37, 37]⟩

def unH : List Un := [⟨[], 4, [37, 116, 111, 107, 101, 110]⟩, ⟨[32], 1, [65]⟩, ⟨[32], 1, [66]⟩, ⟨[32], 4, [37, 37]⟩]

theorem unH_ok : ∀ u ∈ unH, UOk u := fun u hu => by
  unfold unH at hu
  rcases List.mem_cons.1 hu with rfl | hu
  · exact ⟨bl0, .inr (.inl ⟨rfl, .inl rfl⟩), .inr rfl⟩
  rcases List.mem_cons.1 hu with rfl | hu
  · exact symY_ok (.inl rfl)
  rcases List.mem_cons.1 hu with rfl | hu
  · exact symY_ok (.inr (.inl rfl))
  rw [List.mem_singleton] at hu
  subst hu
  exact ⟨bl32, .inr (.inr (.inl ⟨rfl, rfl⟩)), .inl (by simp)⟩

theorem txB_tx : TX txB (headK ++ oneT [115] []) := ⟨unH, [], rfl, bl0, unH_ok, rfl⟩
theorem txA_tx : TX txA (headK ++ aK []) := by
  refine ⟨unH ++ [⟨[32], 1, [115]⟩, ⟨[32], 3, [58]⟩], [32], rfl, bl32, fun u hu => ?_, rfl⟩
  rcases List.mem_append.1 hu with hu | hu
  · exact unH_ok u hu
  · rcases List.mem_cons.1 hu with rfl | hu
    · exact symY_ok (.inr (.inr rfl))
    · rw [List.mem_singleton] at hu
      subst hu
      exact signOk bl32 (.inl rfl)

/-- One more alternative. -/
theorem tx_alt0 {a x : ByteArray} {ys : List (List UInt8)} (h : TX a (headK ++ aK [])) (hx : by8 x = unB (xU ys)) (hy : ∀ y ∈ ys, SymY y) : TX (a ++ x) (headK ++ aK [ys]) := by
  have := h.add (xU ys) [] (by rw [hx, List.append_nil]) bl0 (xU_ok hy)
  rw [xU_kt, List.append_assoc, aK_first] at this
  exact this

theorem tx_alt1 {a x : ByteArray} {xs : List (List (List UInt8))} {ys : List (List UInt8)} (h : TX a (headK ++ aK xs)) (hne : xs ≠ []) (hx : by8 x = unB (xU ys)) (hy : ∀ y ∈ ys, SymY y) : TX (a ++ ⟨#[32, 124]⟩ ++ x) (headK ++ aK (xs ++ [ys])) := by
  have h1 := h.add (v := ⟨#[32, 124]⟩) [⟨[32], 3, [124]⟩] [] rfl bl0 (fun u hu => by rw [List.mem_singleton] at hu; subst hu; exact signOk bl32 (.inr (.inl rfl)))
  have h2 := h1.add (xU ys) [] (by rw [hx, List.append_nil]) bl0 (xU_ok hy)
  rw [xU_kt] at h2
  have e : headK ++ aK xs ++ [(⟨[32], 3, [124]⟩ : Un)].map (fun u => (u.k, u.t)) ++ nmK ys = headK ++ aK (xs ++ [ys]) := by
    rw [← aK_more xs ys hne]
    simp
  rw [e] at h2
  exact h2

theorem tx_rule {b x : ByteArray} {xs : List (List (List UInt8))} {ys : List (List UInt8)} (h : TX b (headK ++ oneT [115] xs)) (hx : by8 x = unB (xU ys)) (hy : ∀ y ∈ ys, SymY y) : TX (b ++ ((⟨#[32, 115, 32, 58]⟩ ++ x) ++ ⟨#[32, 59]⟩)) (headK ++ oneT [115] (xs ++ [ys])) := by
  have h1 := h.add (v := (⟨#[32, 115, 32, 58]⟩ ++ x) ++ ⟨#[32, 59]⟩) ([⟨[32], 1, [115]⟩, ⟨[32], 3, [58]⟩] ++ xU ys ++ [⟨[32], 3, [59]⟩]) [] (by
    rw [by8_append, by8_append, hx, unB_append, unB_append]
    simp [unB, by8]) bl0 (fun u hu => by
      rcases List.mem_append.1 hu with hu | hu
      · rcases List.mem_append.1 hu with hu | hu
        · rcases List.mem_cons.1 hu with rfl | hu
          · exact symY_ok (.inr (.inr rfl))
          · rw [List.mem_singleton] at hu
            subst hu
            exact signOk bl32 (.inl rfl)
        · exact xU_ok hy u hu
      · rw [List.mem_singleton] at hu
        subst hu
        exact signOk bl32 (.inr (.inr rfl)))
  rw [List.map_append, List.map_append, xU_kt, List.append_assoc headK] at h1
  have e := oneT_more [115] xs ys
  rw [← e]
  exact h1

theorem tx_end {a : ByteArray} {xs : List (List (List UInt8))} (h : TX a (headK ++ aK xs)) : TX (a ++ ⟨#[59]⟩) (headK ++ aK xs ++ [(3, [59])]) :=
  h.add (v := ⟨#[59]⟩) [⟨[], 3, [59]⟩] [] rfl bl0 (fun u hu => by rw [List.mem_singleton] at hu; subst hu; exact signOk bl0 (.inr (.inr rfl)))

end Go.Proofs.YtkaojokhdleeiaaGreatDoor

/-
  Texts of lines that say tokens: what is read of them. Plain mathematics.
-/
namespace Go.Proofs.YtkaojokhdleeiaaGreatDoor
open Go.RowKit

set_option maxRecDepth 20000

def keyB (b : Bool) : List UInt8 := if b then [37, 108, 101, 102, 116] else [37, 116, 111, 107, 101, 110]
abbrev Ln := Bool × List UInt8

/-- A name of two signs, the first a capital T. -/
def Nm2 (nm : List UInt8) : Prop := ∃ c : UInt8, nm = [84, c] ∧ 97 ≤ c.toNat ∧ c.toNat ≤ 104

theorem nm2_isN {nm : List UInt8} (h : Nm2 nm) : UOk ⟨[32], 1, nm⟩ := by
  obtain ⟨c, rfl, h1, h2⟩ := h
  refine ⟨bl32, .inl ⟨rfl, (by decide : 1 ≤ 2), (by decide : 2 ≤ 12), rfl, fun x hx => ?_⟩, .inl (by simp)⟩
  rcases List.mem_cons.1 hx with rfl | hx
  · rfl
  · rw [List.mem_singleton] at hx
    subst hx
    unfold isN isL
    simp only [Bool.or_eq_true, Bool.and_eq_true, decide_eq_true_eq]
    omega

theorem keyOk (s : List UInt8) (hs : Bl s) (b : Bool) : UOk ⟨s, 4, keyB b⟩ := by
  refine ⟨hs, .inr (.inl ⟨rfl, ?_⟩), .inr (by cases b <;> rfl)⟩
  cases b
  · exact .inl rfl
  · exact .inr rfl

def lnK (l : Ln) : List KT := [(4, keyB l.1), (1, l.2)]
def linesK (ls : List Ln) : List KT := ls.flatMap lnK

/-- The text of such lines, and what of it is not a word yet. -/
def TL (a : ByteArray) (ls : List Ln) : Prop := ∃ U pend, by8 a = unB U ++ pend ∧ Bl pend ∧ (∀ u ∈ U, UOk u) ∧ U.map (fun u => (u.k, u.t)) = linesK ls

theorem TL.tx {a : ByteArray} {ls : List Ln} (h : TL a ls) : TX a (linesK ls) := h

theorem uw_append : ∀ (A B : List Un) (p : Nat), uw p (A ++ B) = uw p A ++ uw (p + (unB A).length) B
  | [], B, p => by simp [uw, unB]
  | u :: A, B, p => by
    rw [List.cons_append]
    show _ :: uw _ (A ++ B) = (_ :: uw _ A) ++ uw _ B
    rw [uw_append A B, unB_cons, List.cons_append, List.length_append, List.length_append]
    rw [show p + u.s.length + u.t.length + (unB A).length = p + (u.s.length + (u.t.length + (unB A).length)) from by omega]

theorem by8_ba (t : List UInt8) : by8 (ba t) = t := rfl

/-- One line more; the name stands three bytes ahead of the end. -/
theorem line_words {a l : ByteArray} {ls : List Ln} {b : Bool} {nm : List UInt8} (h : TX a (linesK ls)) (hn : Nm2 nm) (hl : by8 l = keyB b ++ (32 :: nm) ++ [10]) :
    TX (a ++ l) (linesK (ls ++ [(b, nm)])) ∧ (scan (by8 (a ++ l ++ ⟨#[37, 37]⟩))).2 = -1 ∧ ∃ ws0 x y z, wordsOf (a ++ l ++ ⟨#[37, 37]⟩) = ws0 ++ [x, y, z, endW ((a ++ l ++ ⟨#[37, 37]⟩).size : Int)] ∧ ws0.length = 2 * ls.length ∧ y.a = ((a ++ l).size : Int) - 3 := by
  have hLL : ∀ ls : List Ln, (linesK ls).length = 2 * ls.length := fun ls => by
    induction ls with
    | nil => rfl
    | cons x r ih =>
      have e : linesK (x :: r) = lnK x ++ linesK r := rfl
      rw [e, List.length_append, ih, List.length_cons]
      show 2 + _ = _
      omega
  have e1 : by8 l = unB [⟨[], 4, keyB b⟩, ⟨[32], 1, nm⟩] ++ [10] := by rw [hl]; simp [unB]
  have b10 : Bl [10] := fun c hc => by rw [List.mem_singleton] at hc; subst hc; rfl
  have hok : ∀ u ∈ ([⟨[], 4, keyB b⟩, ⟨[32], 1, nm⟩] : List Un), UOk u := fun u hu => by
    rcases List.mem_cons.1 hu with rfl | hu
    · exact keyOk [] bl0 b
    · rw [List.mem_singleton] at hu
      subst hu
      exact nm2_isN hn
  have h1 := h.add _ [10] e1 b10 hok
  have e2 : linesK ls ++ ([⟨[], 4, keyB b⟩, ⟨[32], 1, nm⟩] : List Un).map (fun u => (u.k, u.t)) = linesK (ls ++ [(b, nm)]) := by
    unfold linesK
    rw [List.flatMap_append]
    simp [lnK]
  rw [e2] at h1
  refine ⟨h1, ?_⟩
  obtain ⟨U, pend, g1, g2, g3, g4⟩ := h
  have hUl : U.length = 2 * ls.length := by rw [← hLL, ← g4, List.length_map]
  have hU : ∀ u ∈ U ++ ([⟨pend, 4, keyB b⟩, ⟨[32], 1, nm⟩, ⟨[10], 4, [37, 37]⟩] : List Un), UOk u := fun u hu => by
    rcases List.mem_append.1 hu with hu | hu
    · exact g3 u hu
    · rcases List.mem_cons.1 hu with rfl | hu
      · exact keyOk pend g2 b
      · rcases List.mem_cons.1 hu with rfl | hu
        · exact nm2_isN hn
        · rw [List.mem_singleton] at hu
          subst hu
          exact ⟨b10, .inr (.inr (.inl ⟨rfl, rfl⟩)), .inl (by simp)⟩
  have hby : by8 (a ++ l ++ ⟨#[37, 37]⟩) = unB (U ++ ([⟨pend, 4, keyB b⟩, ⟨[32], 1, nm⟩, ⟨[10], 4, [37, 37]⟩] : List Un)) ++ [] := by
    rw [by8_append, by8_append, g1, hl, unB_append]
    simp [unB, by8]
  obtain ⟨w1, w2⟩ := words_units hby hU bl0
  refine ⟨w1, ?_⟩
  have hsz : (a ++ l).size = (unB U).length + pend.length + (keyB b).length + 4 := by
    rw [← by8_length, by8_append, g1, hl]
    obtain ⟨c, rfl, -, -⟩ := hn
    simp only [List.length_append, List.length_cons, List.length_nil]
    omega
  refine ⟨uw 0 U, ⟨((4 : Nat) : Int), ⟨(keyB b).toArray⟩, ((0 + (unB U).length + pend.length : Nat) : Int)⟩, ⟨((1 : Nat) : Int), ⟨nm.toArray⟩, ((0 + (unB U).length + pend.length + (keyB b).length + 1 : Nat) : Int)⟩, ⟨((4 : Nat) : Int), ⟨([37, 37] : List UInt8).toArray⟩, ((0 + (unB U).length + pend.length + (keyB b).length + 1 + nm.length + 1 : Nat) : Int)⟩, ?_, ?_, ?_⟩
  · rw [w2, uw_append, List.append_assoc]
    rfl
  · have : ∀ (U : List Un) (p : Nat), (uw p U).length = U.length := fun U => by
      induction U with
      | nil => intro p; rfl
      | cons u U ih => intro p; unfold uw; rw [List.length_cons, List.length_cons, ih]
    rw [this, hUl]
  · show (((0 + (unB U).length + pend.length + (keyB b).length + 1 : Nat)) : Int) = _
    rw [hsz]
    omega

/-- Where a name stands, or would stand. -/
def mIdx (ts : List Tk) (nm : ByteArray) : Nat := match findN ts nm with | some k => k | none => ts.length
def mTs (ts : List Tk) (nm : ByteArray) : List Tk := match findN ts nm with | some _ => ts | none => ts ++ [⟨nm, 0, 0⟩]
def mLs (ts : List Tk) (ls : List Bool) (nm : ByteArray) : List Bool := match findN ts nm with | some _ => ls | none => ls ++ [false]

structure Core where
  ts : List Tk
  ls : List Bool
  lv : Nat

def stepC (c : Core) (l : Ln) : Option Core :=
  if l.1 = true then (if (tkAt (mTs c.ts (ba l.2)) (mIdx c.ts (ba l.2))).l ≠ 0 then none else some ⟨(mTs c.ts (ba l.2)).set (mIdx c.ts (ba l.2)) ⟨(tkAt (mTs c.ts (ba l.2)) (mIdx c.ts (ba l.2))).n, (c.lv : Int) + 1, 1⟩, mLs c.ts c.ls (ba l.2), c.lv + 1⟩)
  else (if ((mLs c.ts c.ls (ba l.2))[mIdx c.ts (ba l.2)]?).getD false = true then none else some ⟨mTs c.ts (ba l.2), (mLs c.ts c.ls (ba l.2)).set (mIdx c.ts (ba l.2)) true, c.lv⟩)

theorem stepC_tok (c : Core) (nm : List UInt8) : stepC c (false, nm) = if ((mLs c.ts c.ls (ba nm))[mIdx c.ts (ba nm)]?).getD false = true then none else some ⟨mTs c.ts (ba nm), (mLs c.ts c.ls (ba nm)).set (mIdx c.ts (ba nm)) true, c.lv⟩ := by
  unfold stepC
  exact if_neg (show ¬ (false = true) by decide)

theorem stepC_left (c : Core) (nm : List UInt8) : stepC c (true, nm) = if (tkAt (mTs c.ts (ba nm)) (mIdx c.ts (ba nm))).l ≠ 0 then none else some ⟨(mTs c.ts (ba nm)).set (mIdx c.ts (ba nm)) ⟨(tkAt (mTs c.ts (ba nm)) (mIdx c.ts (ba nm))).n, (c.lv : Int) + 1, 1⟩, mLs c.ts c.ls (ba nm), c.lv + 1⟩ := by
  unfold stepC
  exact if_pos rfl

def runC : Core → List Ln → Option Core
  | c, [] => some c
  | c, l :: r => match stepC c l with | none => none | some c' => runC c' r

theorem runC_snoc : ∀ (r : List Ln) (c : Core) (l : Ln), runC c (r ++ [l]) = match runC c r with | none => none | some c' => stepC c' l
  | [], c, l => by
    show (match stepC c l with | none => none | some c' => runC c' []) = stepC c l
    cases stepC c l <;> rfl
  | x :: r, c, l => by
    rw [List.cons_append]
    unfold runC
    cases stepC c x with
    | none => rfl
    | some c' => exact runC_snoc r c' l

def core (c : Core) (ws : List Wd) : St := ⟨ws, c.ts, c.ls, c.lv, ⟨#[]⟩, false, 0, []⟩

theorem tokP_m {x : Wd} {S : St} (h : S.ts.length < 40) : tokP x S = .ok (mIdx S.ts x.t, ⟨S.ws, mTs S.ts x.t, mLs S.ts S.ls x.t, S.lv, S.st, S.ed, S.ex, S.rs⟩) := by
  unfold tokP mIdx mTs mLs
  cases findN S.ts x.t with
  | some k => rfl
  | none =>
    simp only
    rw [if_neg (by omega)]

/-- A line is read. -/
theorem partP_line {c : Core} {ws : List Wd} {b : Bool} {nm : List UInt8} {k : Nat} {t : List UInt8} {L : List KT} (h : WSeq ws ((4, keyB b) :: (1, nm) :: (k, t) :: L)) (hk : k ≠ 1) (ht : c.ts.length < 40) (hlv : c.lv < 8) :
    partP (core c ws) = match stepC c (b, nm) with | none => .error (againF (headW ws.tail)) | some c' => .ok (core c' ws.tail.tail) := by
  have h1 := h.cons
  have h2 := h1.2.2.1.cons
  have h3 := h2.2.2.1.cons
  have hk3 : ∀ S : St, S.ws = ws.tail.tail → ¬ S.hd.k = 1 := fun S hS e => by
    have e2 : (headW ws.tail.tail).k = 1 := by rw [← hS]; exact e
    rw [h3.1] at e2
    omega
  obtain ⟨n, hn⟩ : ∃ n, ws.length = n + 2 := ⟨ws.length - 2, by have := h1.2.2.2; omega⟩
  have q1 : ∀ S : St, S.ws = ws.tail → takeP 1 S = .ok (headW ws.tail, S.next) := fun S hS => by
    unfold takeP
    have e : S.hd = headW ws.tail := by unfold St.hd; rw [hS]
    rw [e, if_pos (show (headW ws.tail).k = 1 from h2.1)]
  cases b
  · have e0 : (core c ws).hd.t = tTok := h1.2.1
    unfold partP
    rw [if_pos e0]
    show namesP listP ws.length _ = _
    rw [hn]
    unfold namesP
    rw [q1 _ rfl]
    simp only
    unfold listP
    rw [tokP_m (show (core c ws).next.next.ts.length < 40 from ht), h2.2.1]
    simp only
    show (match (if ((mLs c.ts c.ls (ba nm))[mIdx c.ts (ba nm)]?).getD false = true then Except.error (againF (headW ws.tail)) else Except.ok (core ⟨mTs c.ts (ba nm), (mLs c.ts c.ls (ba nm)).set (mIdx c.ts (ba nm)) true, c.lv⟩ ws.tail.tail) : Except Flt St) with | Except.error e => Except.error e | Except.ok S2 => if S2.hd.k = 1 then namesP listP (n + 1) S2 else Except.ok S2) = _
    rw [stepC_tok]
    by_cases h5 : ((mLs c.ts c.ls (ba nm))[mIdx c.ts (ba nm)]?).getD false = true
    · rw [if_pos h5, if_pos h5]
    · rw [if_neg h5, if_neg h5]
      exact if_neg (hk3 _ rfl)
  · have e0 : (core c ws).hd.t = tLeft := h1.2.1
    unfold partP
    rw [if_neg (by rw [e0]; exact fun e => absurd (congrArg ByteArray.size e) (by decide)), if_pos e0]
    unfold levelP
    rw [if_neg (show ¬ (core c ws).next.lv = 8 from by show ¬ c.lv = 8; omega)]
    have hl2 : (core c ws).next.ws.length = n + 1 := by
      show ws.tail.length = _
      rw [List.length_tail, hn]
      rfl
    rw [hl2]
    unfold namesP
    rw [q1 _ rfl]
    simp only
    unfold levP
    rw [tokP_m (show c.ts.length < 40 from ht), h2.2.1]
    simp only
    show (match (if (tkAt (mTs c.ts (ba nm)) (mIdx c.ts (ba nm))).l ≠ 0 then Except.error (againF (headW ws.tail)) else Except.ok (core ⟨(mTs c.ts (ba nm)).set (mIdx c.ts (ba nm)) ⟨(tkAt (mTs c.ts (ba nm)) (mIdx c.ts (ba nm))).n, (c.lv : Int) + 1, 1⟩, mLs c.ts c.ls (ba nm), c.lv + 1⟩ ws.tail.tail) : Except Flt St) with | Except.error e => Except.error e | Except.ok S2 => if S2.hd.k = 1 then namesP _ n S2 else Except.ok S2) = _
    rw [stepC_left]
    by_cases h5 : (tkAt (mTs c.ts (ba nm)) (mIdx c.ts (ba nm))).l ≠ 0
    · rw [if_pos h5, if_pos h5]
    · rw [if_neg h5, if_neg h5]
      exact if_neg (hk3 _ rfl)

end Go.Proofs.YtkaojokhdleeiaaGreatDoor

/-
  Texts of lines that say tokens: the whole text is read. Plain mathematics.
-/
namespace Go.Proofs.YtkaojokhdleeiaaGreatDoor
open Go.RowKit

set_option maxRecDepth 20000

def c0 : Core := ⟨[], [], 0⟩

theorem mTs_len (ts : List Tk) (nm : ByteArray) : ts.length ≤ (mTs ts nm).length ∧ (mTs ts nm).length ≤ ts.length + 1 := by
  unfold mTs
  cases findN ts nm with
  | some k => exact ⟨Nat.le_refl _, Nat.le_succ _⟩
  | none => simp

theorem stepC_len {c c' : Core} {l : Ln} (h : stepC c l = some c') : c'.ts.length ≤ c.ts.length + 1 ∧ c'.lv ≤ c.lv + 1 := by
  obtain ⟨b, nm⟩ := l
  have hm := mTs_len c.ts (ba nm)
  cases b
  · rw [stepC_tok] at h
    split at h
    · cases h
    · cases h
      exact ⟨hm.2, Nat.le_succ _⟩
  · rw [stepC_left] at h
    split at h
    · cases h
    · cases h
      refine ⟨?_, Nat.le_refl _⟩
      show (List.set _ _ _).length ≤ _
      rw [List.length_set]
      exact hm.2

theorem linesK_cons (b : Bool) (nm : List UInt8) (r : List Ln) (L : List KT) : linesK ((b, nm) :: r) ++ L = (4, keyB b) :: (1, nm) :: (linesK r ++ L) := rfl

theorem behind (r : List Ln) (k : Nat) (t : List UInt8) (L : List KT) (hk : k ≠ 1) : ∃ k' t' L', linesK r ++ (k, t) :: L = (k', t') :: L' ∧ k' ≠ 1 := by
  cases r with
  | nil => exact ⟨k, t, L, rfl, hk⟩
  | cons x r =>
    obtain ⟨b, nm⟩ := x
    exact ⟨4, keyB b, _, linesK_cons b nm r _, by decide⟩

theorem key_two (b : Bool) : ba (keyB b) ≠ tTwo := fun e => by
  have := congrArg by8 e
  cases b <;> exact absurd this (by decide)

theorem partsP_line {c : Core} {ws : List Wd} {b : Bool} {nm : List UInt8} {k : Nat} {t : List UInt8} {L : List KT} {f : Nat} (h : WSeq ws ((4, keyB b) :: (1, nm) :: (k, t) :: L)) (hk : k ≠ 1) (ht : c.ts.length < 40) (hlv : c.lv < 8) :
    partsP (f + 1) (core c ws) = match stepC c (b, nm) with | none => .error (againF (headW ws.tail)) | some c' => partsP f (core c' ws.tail.tail) := by
  have h1 := h.cons
  show (if (core c ws).hd.t = tTwo then Except.ok (core c ws).next else match partP (core c ws) with | Except.error e => Except.error e | Except.ok S1 => partsP f S1) = _
  rw [if_neg (show ¬ (core c ws).hd.t = tTwo from fun e => by
    have e2 : (headW ws).t = tTwo := e
    rw [h1.2.1] at e2
    exact key_two b e2), partP_line h hk ht hlv]
  cases stepC c (b, nm) with
  | none => rfl
  | some c' => rfl

theorem parts_go : ∀ (ls : List Ln) (f : Nat) (c c' : Core) (ws : List Wd) (k : Nat) (t : List UInt8) (L : List KT), WSeq ws (linesK ls ++ (k, t) :: L) → k ≠ 1 → runC c ls = some c' → c.ts.length + ls.length ≤ 40 → c.lv + ls.length ≤ 8 →
    partsP (f + ls.length) (core c ws) = partsP f (core c' (ws.drop (2 * ls.length))) ∧ WSeq (ws.drop (2 * ls.length)) ((k, t) :: L) ∧ c'.ts.length ≤ c.ts.length + ls.length ∧ c'.lv ≤ c.lv + ls.length
  | [], f, c, c', ws, k, t, L, h, _, hr, _, _ => by
    cases hr
    exact ⟨rfl, h, Nat.le_refl _, Nat.le_refl _⟩
  | (b, nm) :: r, f, c, c', ws, k, t, L, h, hk, hr, h40, h8 => by
    rw [linesK_cons] at h
    obtain ⟨k', t', L', e1, e2⟩ := behind r k t L hk
    have h0 := h
    rw [e1] at h0
    rw [List.length_cons] at h40 h8
    have hs := partsP_line (f := f + r.length) h0 e2 (by omega : c.ts.length < 40) (by omega : c.lv < 8)
    have hr2 : (match stepC c (b, nm) with | none => none | some c1 => runC c1 r) = some c' := hr
    cases e3 : stepC c (b, nm) with
    | none => rw [e3] at hr2; cases hr2
    | some c1 =>
      rw [e3] at hr2 hs
      have hl := stepC_len e3
      obtain ⟨g1, g2, g3, g4⟩ := parts_go r f c1 c' ws.tail.tail k t L h.cons.2.2.1.cons.2.2.1 hk hr2 (by omega) (by omega)
      have e4 : ws.drop (2 * (r.length + 1)) = ws.tail.tail.drop (2 * r.length) := by
        rw [List.drop_tail, List.drop_tail]
        rfl
      rw [List.length_cons, e4]
      refine ⟨?_, g2, by omega, by omega⟩
      rw [← g1, show f + (r.length + 1) = f + r.length + 1 from by omega]
      exact hs

theorem tok_ok {s : ByteArray} {ls : List Ln} {c : Core} (h : TX s (linesK ls ++ [(4, [37, 37])])) (hs : s.size ≤ 2000) (hr : runC c0 ls = some c) (hn : ls.length ≤ 8) : ∃ S, readS s = .ok S ∧ gmOf S = ⟨c.ts, ⟨#[]⟩, 0, []⟩ := by
  obtain ⟨hf, hw⟩ := h.words
  obtain ⟨-, g2, -, -⟩ := parts_go ls 0 c0 c (wordsOf s) 4 [37, 37] [] hw (by decide) hr (by show 0 + ls.length ≤ 40; omega) (by show 0 + ls.length ≤ 8; omega)
  have hlen : (wordsOf s).length = 2 * ls.length + 2 := by
    have := g2.cons.2.2.2
    rw [List.length_drop] at this
    simp only [List.length_nil] at this
    omega
  obtain ⟨g1, -, -, -⟩ := parts_go ls (ls.length + 2) c0 c (wordsOf s) 4 [37, 37] [] hw (by decide) hr (by show 0 + ls.length ≤ 40; omega) (by show 0 + ls.length ≤ 8; omega)
  have e1 : partsP (wordsOf s).length (st0 (wordsOf s)) = .ok (core c ((wordsOf s).drop (2 * ls.length)).tail) := by
    rw [hlen, show 2 * ls.length + 2 = ls.length + 2 + ls.length from by omega]
    refine Eq.trans g1 ?_
    unfold partsP
    rw [if_pos (show (core c ((wordsOf s).drop (2 * ls.length))).hd.t = tTwo from g2.cons.2.1)]
    rfl
  refine ⟨core c ((wordsOf s).drop (2 * ls.length)).tail, readS_of hs hf ?_, rfl⟩
  rw [readP_eq]
  show thenRules (partsP (wordsOf s).length (st0 (wordsOf s))) = _
  rw [e1]
  have h5 := g2.cons.2.2.1.nil
  show rulesP ((wordsOf s).drop (2 * ls.length)).tail.length _ = _
  rw [h5.2.2]
  exact rulesP_end (show (headW _).k = 5 from h5.1)

theorem tx_two {a : ByteArray} {L : List KT} (h : TX a L) : TX (a ++ ⟨#[37, 37]⟩) (L ++ [(4, [37, 37])]) := by
  obtain ⟨U, pend, h1, h2, h3, h4⟩ := h
  refine ⟨U ++ [⟨pend, 4, [37, 37]⟩], [], ?_, bl0, fun u hu => ?_, ?_⟩
  · rw [by8_append, h1, unB_append]
    simp [unB, by8]
  · rcases List.mem_append.1 hu with hu | hu
    · exact h3 u hu
    · rw [List.mem_singleton] at hu
      subst hu
      exact ⟨h2, .inr (.inr (.inl ⟨rfl, rfl⟩)), .inr rfl⟩
  · rw [List.map_append, h4]
    rfl

theorem tok_twice {a l : ByteArray} {ls : List Ln} {b : Bool} {nm : List UInt8} {c : Core} (h : TX a (linesK ls)) (hn : Nm2 nm) (hl : by8 l = keyB b ++ (32 :: nm) ++ [10]) (hr : runC c0 ls = some c) (h2 : stepC c (b, nm) = none) (hk : ls.length ≤ 7) (hs : (a ++ l ++ ⟨#[37, 37]⟩).size ≤ 2000) :
    readS (a ++ l ++ ⟨#[37, 37]⟩) = .error (7, ((a ++ l).size : Int) - 3) := by
  obtain ⟨q1, q2, ws0, x, y, z, q3, q4, q5⟩ := line_words h hn hl
  have hT := (tx_two q1).words.2
  have eK : linesK (ls ++ [(b, nm)]) ++ [(4, [37, 37])] = linesK ls ++ (4, keyB b) :: [(1, nm), (4, [37, 37])] := by
    unfold linesK
    rw [List.flatMap_append]
    simp [lnK]
  rw [eK] at hT
  obtain ⟨g1, g2, g3, g4⟩ := parts_go ls (ls.length + 4) c0 c _ 4 (keyB b) [(1, nm), (4, [37, 37])] hT (by decide) hr (by show 0 + ls.length ≤ 40; omega) (by show 0 + ls.length ≤ 8; omega)
  have e0 : c0.ts.length = 0 := rfl
  have e00 : c0.lv = 0 := rfl
  have hp := partsP_line (f := ls.length + 3) g2 (by decide) (by omega : c.ts.length < 40) (by omega : c.lv < 8)
  rw [h2] at hp
  have hd : (wordsOf (a ++ l ++ ⟨#[37, 37]⟩)).drop (2 * ls.length) = [x, y, z, endW ((a ++ l ++ ⟨#[37, 37]⟩).size : Int)] := by
    rw [q3, ← q4, List.drop_left]
  have hlen : (wordsOf (a ++ l ++ ⟨#[37, 37]⟩)).length = ls.length + 4 + ls.length := by
    rw [q3, List.length_append, q4]
    simp only [List.length_cons, List.length_nil]
    omega
  have e1 : partsP (wordsOf (a ++ l ++ ⟨#[37, 37]⟩)).length (st0 (wordsOf (a ++ l ++ ⟨#[37, 37]⟩))) = .error (7, ((a ++ l).size : Int) - 3) := by
    rw [hlen]
    refine Eq.trans g1 (Eq.trans hp ?_)
    rw [hd]
    show Except.error (7, y.a) = _
    rw [q5]
  unfold readS
  rw [if_neg (by omega), if_pos (by rw [q2]; decide), readP_eq]
  show thenRules (partsP (wordsOf (a ++ l ++ ⟨#[37, 37]⟩)).length (st0 (wordsOf (a ++ l ++ ⟨#[37, 37]⟩)))) = _
  rw [e1]
  rfl

end Go.Proofs.YtkaojokhdleeiaaGreatDoor

/-
  Names, levels and flags that a walk keeps in three rows.
-/
namespace Go.Proofs.YtkaojokhdleeiaaGreatDoor
open Go.RowKit

set_option maxRecDepth 20000

/-- Flags that a slice shows. -/
structure RawB (w : World) (ao : Option Addr) (n cap : Nat) (zs : Nat → Bool) : Prop where
  le : n ≤ cap ∧ cap ≤ 9223372036854775807
  get : ∀ i, i < n → ∃ b o, ao = some ⟨b, o, none⟩ ∧ w.cell? ⟨b, o + i, none⟩ = some (.bool (zs i))

theorem RawB.below {w w' : World} {ao : Option Addr} {n cap : Nat} {zs : Nat → Bool} (h : RawB w ao n cap zs) (hb : Below w.heap.size w w') : RawB w' ao n cap zs :=
  ⟨h.le, fun i hi => by obtain ⟨b, o, e, c⟩ := h.get i hi; exact ⟨b, o, e, cell_below hb c⟩⟩

theorem Tryz.underlying4 : Tryz.prog.underlying 4 = some .bool := by kernel_rfl

theorem open_flags {H : Type} {enc : TypeId × Value → H} {W : World} {ao : Option Addr} {n cap : Nat} {d : DataW H} {ps : List MemPlace} (h : DataW.Trod enc Tryz.prog W 0 (fun _ => true) true 43 (.slice ao n cap) d ps) : ∃ zs, RawB W ao n cap zs := by
  obtain ⟨fuel, hf⟩ := h
  rcases Deep.open_bools Tryz.underlying43 Tryz.underlying4 (by kernel_rfl) hf with ⟨hcs, _⟩ | ⟨x, l, c, zs, hcs, _, hl, hm, _, hcell⟩
  · simp [Value.cells] at hcs
    obtain ⟨rfl, rfl, rfl⟩ := hcs
    exact ⟨fun _ => false, ⟨Nat.le_refl _, by omega⟩, fun i hi => absurd hi (Nat.not_lt_zero _)⟩
  · simp [Value.cells] at hcs
    obtain ⟨rfl, rfl, rfl⟩ := hcs
    refine ⟨zs, ⟨hl, by unfold maxLen at hm; omega⟩, fun i hi => ?_⟩
    have hc := hcell i (by omega)
    have h0 := hcell 0 (by omega)
    obtain ⟨b, off, spot⟩ := x
    have hspot : spot = none := by simpa [Addr.add] using World.cell?_spot h0
    subst hspot
    rw [Addr.add_lit] at hc
    exact ⟨b, off, rfl, hc⟩

theorem run_nm (W : World) (y : Nat) : ∃ d, (convert 41 9 (.slice (some ⟨W.heap.size, 0, none⟩) 2 2)).run Tryz.prog (W.alloc (.cells #[.int .u8 84, .int .u8 (y : Int)] 5)) = .ok (.string d) (W.alloc (.cells #[.int .u8 84, .int .u8 (y : Int)] 5)) ∧ d.size = 2 ∧ by8 d = [84, UInt8.ofNat y] := by
  have := run_convert_bytes_arg (P := Tryz.prog) (W.alloc (.cells #[.int .u8 84, .int .u8 (y : Int)] 5)) 41 5 Tryz.underlying41 Tryz.underlying5 W.heap.size 0 2 2 [84, (y : Int)] rfl (fun j hj => by
    have hj2 : j = 0 ∨ j = 1 := by omega
    rcases hj2 with rfl | rfl <;> (rw [World.cell?_alloc_mark]; rfl)) 9 Tryz.underlying9
  exact ⟨_, this, rfl, rfl⟩

def nmC (c : Core) : List Value := c.ts.map fun t => .string t.n
def lvC (c : Core) : List Value := c.ts.map fun t => .int .i64 t.l
def plC (c : Core) : List Value := c.ls.map .bool

/-- The three rows. -/
structure Three (w W : World) (na : Option Addr) (nc : Nat) (la : Option Addr) (lc : Nat) (pa : Option Addr) (pc : Nat) (c : Core) : Prop where
  nm : W.ownsRow w.heap.size 9 1 (.slice na c.ts.length nc) c.ts.length (nmC c)
  lv : W.ownsRow w.heap.size 3 1 (.slice la c.ts.length lc) c.ts.length (lvC c)
  pl : W.ownsRow w.heap.size 4 1 (.slice pa c.ts.length pc) c.ts.length (plC c)
  bel : Below w.heap.size w W

theorem own_below {W W' : World} {base E k n : Nat} {v : Value} {cs : List Value} (h : W.ownsRow base E k v n cs) (hb : Below W.heap.size W W') : W'.ownsRow base E k v n cs :=
  ownsRow_of_block h (fun i hi => hb.block i (World.ownsRow.lt h i hi).2)

theorem Three.below {w W W' : World} {na la pa : Option Addr} {nc lc pc : Nat} {c : Core} (h : Three w W na nc la lc pa pc c) (hb : Below W.heap.size W W') : Three w W' na nc la lc pa pc c :=
  ⟨own_below h.nm hb, own_below h.lv hb, own_below h.pl hb, below_step h.bel hb⟩

theorem three_zero {w W : World} (hb : Below w.heap.size w W) : Three w W none 0 none 0 none 0 c0 :=
  ⟨World.ownsRow_nil _ _ _ _, World.ownsRow_nil _ _ _ _, World.ownsRow_nil _ _ _ _, hb⟩

theorem Tryz.info3a : (Tryz.prog.info? 3).map (fun i => (i.zero, i.size, i.bytes)) = some (some (.int .i64 0), 1, 8) := by kernel_rfl
theorem Tryz.under38 : Tryz.prog.underlying 38 = some (.slice 9) := by kernel_rfl
theorem Tryz.under37 : Tryz.prog.underlying 37 = some (.slice 3) := by kernel_rfl

/-- One cell laid behind an owned row. -/
theorem ap_one {W : World} {B T E n nc : Nat} {na : Option Addr} {z u : Value} {by_ : Nat} {cs : List Value} (ht : Tryz.prog.underlying T = some (.slice E)) (hi0 : (Tryz.prog.info? E).map (fun i => (i.zero, i.size, i.bytes)) = some (some z, 1, by_)) (hzc : z.cells.size = 1) (hby : by_ ≤ 100) (hu : u.oneCell' = true) (h : W.ownsRow B E 1 (.slice na n nc) n cs) (hB : B ≤ W.heap.size) (hn : n < 40) :
    ∃ g c W', (Builtin.append_ #[T, T] T #[.slice na n nc, .slice (some ⟨W.heap.size, 0, none⟩) 1 1]).run Tryz.prog (W.alloc (.cells #[u] E)) = .ok (.slice (some ⟨g, 0, none⟩) (n + 1) c) W' ∧ W'.ownsRow B E 1 (.slice (some ⟨g, 0, none⟩) (n + 1) c) (n + 1) (cs ++ [u]) ∧ (W.alloc (.cells #[u] E)).grownBy W' (Value.slice na n nc).ownBlock := by
  obtain ⟨i0, hi, hz0, hz1, hz2⟩ := info_parts hi0
  have hnews : ∀ j x, ([u] : List Value)[j]? = some x → (W.alloc (.cells #[u] E)).cell? ((⟨W.heap.size, 0, none⟩ : Addr).add j) = some x := by
    intro j x hx
    rw [Addr.add_lit, Nat.zero_add, World.cell?_alloc_mark, ← hx]
    exact List.getElem?_toArray (xs := [u]) (i := j)
  have hbb : (n + 1) * by_ ≤ 140737488355328 := Nat.le_trans (Nat.mul_le_mul (by omega : n + 1 ≤ 40) hby) (by decide)
  obtain ⟨v', w', hr, h2, h3, -⟩ := run_append_own (P := Tryz.prog) (W.alloc (.cells #[u] E)) B T T E i0 _ 1 by_ ht hi hz0 hz1 hz2 hzc (by decide) _ n _ (h.alloc _) ⟨W.heap.size, 0, none⟩ 1 1 [u] rfl hnews
    (fun x hx => by rw [List.mem_singleton] at hx; subst hx; exact hu) (by unfold maxLen; omega) hbb (by rw [size_alloc1]; omega)
  obtain ⟨ao, c, rfl, h4, h5, h6⟩ := own_slice h2
  obtain ⟨g, rfl⟩ : ∃ g, ao = some ⟨g, 0, none⟩ := by
    rcases h6 with ⟨-, h6, -⟩ | h6
    · omega
    · exact h6
  exact ⟨g, c, w', hr, h2, h3⟩

/-- A name more. -/
theorem Three.add {w W : World} {na la pa : Option Addr} {nc lc pc n : Nat} {c : Core} (h : Three w W na nc la lc pa pc c) (hcn : c.ts.length = n) (nm : ByteArray) (hn : n < 40) :
    ∃ g7 c7 W2 g8 c8 W4 g9 c9 W6, (Builtin.append_ #[38, 38] 38 #[.slice na n nc, .slice (some ⟨W.heap.size, 0, none⟩) 1 1]).run Tryz.prog (W.alloc (.cells #[.string nm] 9)) = .ok (.slice (some ⟨g7, 0, none⟩) (n + 1) c7) W2 ∧
      (Builtin.append_ #[37, 37] 37 #[.slice la n lc, .slice (some ⟨W2.heap.size, 0, none⟩) 1 1]).run Tryz.prog (W2.alloc (.cells #[.int .i64 0] 3)) = .ok (.slice (some ⟨g8, 0, none⟩) (n + 1) c8) W4 ∧
      (Builtin.append_ #[43, 43] 43 #[.slice pa n pc, .slice (some ⟨W4.heap.size, 0, none⟩) 1 1]).run Tryz.prog (W4.alloc (.cells #[.bool false] 4)) = .ok (.slice (some ⟨g9, 0, none⟩) (n + 1) c9) W6 ∧
      Three w W6 (some ⟨g7, 0, none⟩) c7 (some ⟨g8, 0, none⟩) c8 (some ⟨g9, 0, none⟩) c9 ⟨c.ts ++ [⟨nm, 0, 0⟩], c.ls ++ [false], c.lv⟩ := by
  subst hcn
  have hS := h.bel.size
  obtain ⟨g7, c7, W2, r1, o1, y1⟩ := ap_one (u := .string nm) Tryz.under38 Tryz.info9 rfl (by decide) rfl h.nm hS hn
  have l1 := own_stay (h.lv.alloc (.cells #[.string nm] 9)) (h.nm.alloc (.cells #[.string nm] 9)) (by decide) y1
  have p1 := own_stay (h.pl.alloc (.cells #[.string nm] 9)) (h.nm.alloc (.cells #[.string nm] 9)) (by decide) y1
  have b1 : Below w.heap.size w W2 := (below_step h.bel (below_alloc W _)).grown y1 (by rw [size_alloc1]; omega) (fun k hk => (World.ownsRow.lt h.nm k hk).1)
  obtain ⟨g8, c8, W4, r2, o2, y2⟩ := ap_one (u := .int .i64 0) Tryz.under37 Tryz.info3a rfl (by decide) rfl l1 b1.size hn
  have n2 := own_stay (o1.alloc (.cells #[.int .i64 0] 3)) (l1.alloc (.cells #[.int .i64 0] 3)) (by decide) y2
  have p2 := own_stay (p1.alloc (.cells #[.int .i64 0] 3)) (l1.alloc (.cells #[.int .i64 0] 3)) (by decide) y2
  have b2 : Below w.heap.size w W4 := (below_step b1 (below_alloc W2 _)).grown y2 (by rw [size_alloc1]; have := b1.size; omega) (fun k hk => (World.ownsRow.lt l1 k hk).1)
  obtain ⟨g9, c9, W6, r3, o3, y3⟩ := ap_one (u := .bool false) Tryz.underlying43 Tryz.info4 rfl (by decide) rfl p2 b2.size hn
  have n3 := own_stay (n2.alloc (.cells #[.bool false] 4)) (p2.alloc (.cells #[.bool false] 4)) (by decide) y3
  have l3 := own_stay (o2.alloc (.cells #[.bool false] 4)) (p2.alloc (.cells #[.bool false] 4)) (by decide) y3
  have b3 : Below w.heap.size w W6 := (below_step b2 (below_alloc W4 _)).grown y3 (by rw [size_alloc1]; have := b2.size; omega) (fun k hk => (World.ownsRow.lt p2 k hk).1)
  have el : (c.ts ++ [(⟨nm, 0, 0⟩ : Tk)]).length = c.ts.length + 1 := by simp
  refine ⟨g7, c7, W2, g8, c8, W4, g9, c9, W6, r1, r2, r3, ?_, ?_, ?_, b3⟩
  · show W6.ownsRow _ 9 1 (.slice _ (c.ts ++ [_]).length _) (c.ts ++ [_]).length _
    rw [el]
    have e : nmC ⟨c.ts ++ [⟨nm, 0, 0⟩], c.ls ++ [false], c.lv⟩ = nmC c ++ [.string nm] := by unfold nmC; rw [List.map_append]; rfl
    rw [e]
    exact n3
  · show W6.ownsRow _ 3 1 (.slice _ (c.ts ++ [_]).length _) (c.ts ++ [_]).length _
    rw [el]
    have e : lvC ⟨c.ts ++ [⟨nm, 0, 0⟩], c.ls ++ [false], c.lv⟩ = lvC c ++ [.int .i64 0] := by unfold lvC; rw [List.map_append]; rfl
    rw [e]
    exact l3
  · show W6.ownsRow _ 4 1 (.slice _ (c.ts ++ [_]).length _) (c.ts ++ [_]).length _
    rw [el]
    have e : plC ⟨c.ts ++ [⟨nm, 0, 0⟩], c.ls ++ [false], c.lv⟩ = plC c ++ [.bool false] := by unfold plC; rw [List.map_append]; rfl
    rw [e]
    exact o3

theorem own_addr {W : World} {B E k n nc : Nat} {na : Option Addr} {cs : List Value} (h : W.ownsRow B E k (.slice na n nc) n cs) (hn : 0 < n) : ∃ g, na = some ⟨g, 0, none⟩ := by
  obtain ⟨ao, c, e, -, -, h6⟩ := own_slice h
  cases e
  rcases h6 with ⟨-, h6, -⟩ | h6
  · omega
  · exact h6

theorem Three.lls {w W : World} {na la pa : Option Addr} {nc lc pc : Nat} {c : Core} (h : Three w W na nc la lc pa pc c) : c.ls.length = c.ts.length := by
  have := h.pl.1
  unfold plC at this
  simpa using this

theorem Three.at {w W : World} {na la pa : Option Addr} {nc lc pc : Nat} {c : Core} (h : Three w W na nc la lc pa pc c) {k : Nat} (hk : k < c.ts.length) :
    ∃ g7 g8 g9, na = some ⟨g7, 0, none⟩ ∧ la = some ⟨g8, 0, none⟩ ∧ pa = some ⟨g9, 0, none⟩ ∧ W.cell? ⟨g7, k, none⟩ = some (.string (tkAt c.ts k).n) ∧ W.cell? ⟨g8, k, none⟩ = some (.int .i64 (tkAt c.ts k).l) ∧ W.cell? ⟨g9, k, none⟩ = some (.bool ((c.ls[k]?).getD false)) ∧ W.frozen? ⟨g8, k, none⟩ = false ∧ W.frozen? ⟨g9, k, none⟩ = false := by
  obtain ⟨n1, n2, n3, n4⟩ := h
  have hls : c.ls.length = c.ts.length := Three.lls ⟨n1, n2, n3, n4⟩
  obtain ⟨g7, rfl⟩ := own_addr n1 (by omega)
  obtain ⟨g8, rfl⟩ := own_addr n2 (by omega)
  obtain ⟨g9, rfl⟩ := own_addr n3 (by omega)
  have q : c.ts[k]? = some (tkAt c.ts k) := by unfold tkAt; rw [List.getElem?_eq_getElem hk]; rfl
  have ql : c.ls[k]? = some ((c.ls[k]?).getD false) := by rw [List.getElem?_eq_getElem (by omega : k < c.ls.length)]; rfl
  refine ⟨g7, g8, g9, rfl, rfl, rfl, ?_, ?_, ?_, n2.frozenAt k, n3.frozenAt k⟩
  · rw [n1.cellAt k (by omega)]
    unfold nmC
    rw [List.getElem?_map, q]
    rfl
  · rw [n2.cellAt k (by omega)]
    unfold lvC
    rw [List.getElem?_map, q]
    rfl
  · rw [n3.cellAt k (by omega)]
    unfold plC
    rw [List.getElem?_map, ql]
    rfl

theorem Three.lens {w W : World} {na la pa : Option Addr} {nc lc pc : Nat} {c : Core} (h : Three w W na nc la lc pa pc c) : (c.ts.length ≤ nc ∧ nc ≤ 9223372036854775807) ∧ (c.ts.length ≤ lc ∧ lc ≤ 9223372036854775807) ∧ (c.ts.length ≤ pc ∧ pc ≤ 9223372036854775807) := by
  have go : ∀ {E k n nc : Nat} {na : Option Addr} {cs : List Value}, W.ownsRow w.heap.size E k (.slice na n nc) n cs → n ≤ nc ∧ nc ≤ 9223372036854775807 := fun h => by
    obtain ⟨ao, cap, e, h1, h2, -⟩ := own_slice h
    cases e
    unfold maxLen at h2
    exact ⟨h1, by omega⟩
  exact ⟨go h.nm, go h.lv, go h.pl⟩

theorem set_map_n (ts : List Tk) (k : Nat) (l a : Int) : (ts.set k ⟨(tkAt ts k).n, l, a⟩).map (fun t => Value.string t.n) = ts.map (fun t => Value.string t.n) := by
  rw [List.map_set]
  apply List.ext_getElem?
  intro j
  rw [List.getElem?_set, List.length_map]
  split
  · rename_i e
    subst e
    split
    · rename_i hk
      rw [List.getElem?_map, List.getElem?_eq_getElem hk]
      unfold tkAt
      rw [List.getElem?_eq_getElem hk]
      rfl
    · rename_i hk
      rw [List.getElem?_map, List.getElem?_eq_none (by omega)]
      rfl
  · rfl

theorem Three.setL {w W : World} {na pa : Option Addr} {nc lc pc g8 : Nat} {c : Core} (h : Three w W na nc (some ⟨g8, 0, none⟩) lc pa pc c) (k : Nat) (z a : Int) (lv' : Nat) :
    Three w (W.setCell ⟨g8, k, none⟩ (.int .i64 z)) na nc (some ⟨g8, 0, none⟩) lc pa pc ⟨c.ts.set k ⟨(tkAt c.ts k).n, z, a⟩, c.ls, lv'⟩ := by
  obtain ⟨s1, s2⟩ := h.lv.stored k (.int .i64 z)
  have el : (c.ts.set k ⟨(tkAt c.ts k).n, z, a⟩).length = c.ts.length := List.length_set
  refine ⟨?_, ?_, ?_, ?_⟩
  · show World.ownsRow _ _ 9 1 (.slice _ (c.ts.set k _).length _) (c.ts.set k _).length ((c.ts.set k _).map _)
    rw [el, set_map_n]
    exact own_stay h.nm h.lv (by decide) s2
  · show World.ownsRow _ _ 3 1 (.slice _ (c.ts.set k _).length _) (c.ts.set k _).length ((c.ts.set k _).map _)
    rw [el, List.map_set]
    exact s1
  · show World.ownsRow _ _ 4 1 (.slice _ (c.ts.set k _).length _) (c.ts.set k _).length _
    rw [el]
    exact own_stay h.pl h.lv (by decide) s2
  · exact h.bel.grown s2 h.bel.size (fun k hk => (World.ownsRow.lt h.lv k hk).1)

theorem Three.setP {w W : World} {na la : Option Addr} {nc lc pc g9 : Nat} {c : Core} (h : Three w W na nc la lc (some ⟨g9, 0, none⟩) pc c) (k : Nat) (b : Bool) (lv' : Nat) :
    Three w (W.setCell ⟨g9, k, none⟩ (.bool b)) na nc la lc (some ⟨g9, 0, none⟩) pc ⟨c.ts, c.ls.set k b, lv'⟩ := by
  obtain ⟨s1, s2⟩ := h.pl.stored k (.bool b)
  refine ⟨own_stay h.nm h.pl (by decide) s2, own_stay h.lv h.pl (by decide) s2, ?_, h.bel.grown s2 h.bel.size (fun k hk => (World.ownsRow.lt h.pl k hk).1)⟩
  show World.ownsRow _ _ 4 1 _ _ ((c.ls.set k b).map _)
  rw [List.map_set]
  exact s1

end Go.Proofs.YtkaojokhdleeiaaGreatDoor

/-
  What the walk of ReadTokens knows at each round. Plain mathematics.
-/
namespace Go.Proofs.YtkaojokhdleeiaaGreatDoor
open Go.RowKit

set_option maxRecDepth 20000

def LvOk (c : Core) : Prop := ∀ t ∈ c.ts, 0 ≤ t.l
def two : ByteArray := ⟨#[37, 37]⟩

/-- No token was said twice yet. -/
def St7c (w wr : World) (a : ByteArray) (i n m : Nat) (na : Option Addr) (nc : Nat) (la : Option Addr) (lc : Nat) (pa : Option Addr) (pc : Nat) (c : Core) : Prop :=
  ∃ ls, ls.length = i ∧ runC c0 ls = some c ∧ c.lv = n ∧ c.ts.length = m ∧ LvOk c ∧ TX a (linesK ls) ∧ Three w wr na nc la lc pa pc c

def St7 (w wr : World) (a : ByteArray) (i n m : Nat) (na : Option Addr) (nc : Nat) (la : Option Addr) (lc : Nat) (pa : Option Addr) (pc : Nat) : Prop := ∃ c, St7c w wr a i n m na nc la lc pa pc c

/-- The last token was said again. -/
def Tw7 (w wr : World) (a : ByteArray) : Prop := readS (a ++ two) = .error (7, (a.size : Int) - 3) ∧ Below w.heap.size w wr

/-- A name's place is known, and it has one. -/
def Md7 (w wr : World) (a d : ByteArray) (i n m k : Nat) (na : Option Addr) (nc : Nat) (la : Option Addr) (lc : Nat) (pa : Option Addr) (pc : Nat) : Prop :=
  ∃ ls c, ls.length = i ∧ runC c0 ls = some c ∧ c.lv = n ∧ (mTs c.ts d).length = m ∧ LvOk c ∧ TX a (linesK ls) ∧ k = mIdx c.ts d ∧ k < m ∧ Three w wr na nc la lc pa pc ⟨mTs c.ts d, mLs c.ts c.ls d, c.lv⟩

theorem ba_by8 (d : ByteArray) : ba (by8 d) = d := by
  cases d
  rfl

theorem findN_range {ts : List Tk} {s : ByteArray} {k : Nat} (h : findN ts s = some k) : k < ts.length := by
  obtain ⟨t, ht, -⟩ := findN_lt h
  exact (List.getElem?_eq_some_iff.1 ht).1

theorem mid_old {w wr : World} {a d : ByteArray} {i n m k : Nat} {na la pa : Option Addr} {nc lc pc : Nat} {c : Core} (h : St7c w wr a i n m na nc la lc pa pc c) (e : mIdx c.ts d = k) (hlt : k < m) : Md7 w wr a d i n m k na nc la lc pa pc := by
  obtain ⟨ls, h1, h2, h3, h4, h5, h6, h7⟩ := h
  have hf : findN c.ts d = some k := by
    unfold mIdx at e
    cases hf : findN c.ts d with
    | some j => rw [hf] at e; exact congrArg some e
    | none => rw [hf] at e; simp only at e; omega
  have e1 : mTs c.ts d = c.ts := by unfold mTs; rw [hf]
  have e2 : mLs c.ts c.ls d = c.ls := by unfold mLs; rw [hf]
  refine ⟨ls, c, h1, h2, h3, by rw [e1]; exact h4, h5, h6, e.symm, hlt, ?_⟩
  rw [e1, e2]
  exact h7

theorem mid_new {w wr : World} {a d : ByteArray} {i n m : Nat} {na la pa : Option Addr} {nc lc pc : Nat} {c : Core} (h : St7c w wr a i n m na nc la lc pa pc c) (e : mIdx c.ts d = m) (hm : m < 40) :
    ∃ g7 c7 W2 g8 c8 W4 g9 c9 W6, (Builtin.append_ #[38, 38] 38 #[.slice na m nc, .slice (some ⟨wr.heap.size, 0, none⟩) 1 1]).run Tryz.prog (wr.alloc (.cells #[.string d] 9)) = .ok (.slice (some ⟨g7, 0, none⟩) (m + 1) c7) W2 ∧
      (Builtin.append_ #[37, 37] 37 #[.slice la m lc, .slice (some ⟨W2.heap.size, 0, none⟩) 1 1]).run Tryz.prog (W2.alloc (.cells #[.int .i64 0] 3)) = .ok (.slice (some ⟨g8, 0, none⟩) (m + 1) c8) W4 ∧
      (Builtin.append_ #[43, 43] 43 #[.slice pa m pc, .slice (some ⟨W4.heap.size, 0, none⟩) 1 1]).run Tryz.prog (W4.alloc (.cells #[.bool false] 4)) = .ok (.slice (some ⟨g9, 0, none⟩) (m + 1) c9) W6 ∧
      Md7 w W6 a d i n (m + 1) m (some ⟨g7, 0, none⟩) c7 (some ⟨g8, 0, none⟩) c8 (some ⟨g9, 0, none⟩) c9 := by
  obtain ⟨ls, h1, h2, h3, h4, h5, h6, h7⟩ := h
  have hf : findN c.ts d = none := by
    cases hf : findN c.ts d with
    | none => rfl
    | some j =>
      have := findN_range hf
      unfold mIdx at e
      rw [hf] at e
      simp only at e
      omega
  have e1 : mTs c.ts d = c.ts ++ [⟨d, 0, 0⟩] := by unfold mTs; rw [hf]
  have e2 : mLs c.ts c.ls d = c.ls ++ [false] := by unfold mLs; rw [hf]
  obtain ⟨g7, c7, W2, g8, c8, W4, g9, c9, W6, r1, r2, r3, r4⟩ := h7.add h4 d hm
  refine ⟨g7, c7, W2, g8, c8, W4, g9, c9, W6, r1, r2, r3, ls, c, h1, h2, h3, ?_, h5, h6, e.symm, Nat.lt_succ_self _, ?_⟩
  · rw [e1, List.length_append, h4]
    rfl
  · rw [e1, e2]
    exact r4

/-- Where a search ends. -/
theorem idx_at {w W : World} {na la pa : Option Addr} {nc lc pc m k : Nat} {c : Core} {d : ByteArray} (hm : c.ts.length = m) (hb : ∀ j, j < k → (tkAt c.ts j).n ≠ d) (h : k = m ∨ (k < m ∧ (tkAt c.ts k).n = d)) (_ : Three w W na nc la lc pa pc c) : mIdx c.ts d = k := by
  have q : ∀ j, j < c.ts.length → c.ts[j]? = some (tkAt c.ts j) := fun j hj => by unfold tkAt; rw [List.getElem?_eq_getElem hj]; rfl
  rcases h with h | ⟨h, h2⟩
  · have hf : findN c.ts d = none := findN_none (fun j t ht => by
      have hj := (List.getElem?_eq_some_iff.1 ht).1
      rw [q j hj] at ht
      cases ht
      exact hb j (by omega))
    unfold mIdx
    rw [hf]
    simp only
    omega
  · have hf : findN c.ts d = some k := findN_at (fun j t hj ht => by
      have hj2 := (List.getElem?_eq_some_iff.1 ht).1
      rw [q j hj2] at ht
      cases ht
      exact hb j hj) (q k (by omega)) h2
    unfold mIdx
    rw [hf]

theorem mTs_lv {ts : List Tk} {d : ByteArray} (h : ∀ t ∈ ts, 0 ≤ t.l) : ∀ t ∈ mTs ts d, 0 ≤ t.l := by
  unfold mTs
  cases findN ts d with
  | some k => exact h
  | none =>
    intro t ht
    rcases List.mem_append.1 ht with ht | ht
    · exact h t ht
    · rw [List.mem_singleton] at ht
      subst ht
      exact Int.le_refl _

theorem tkAt_mem {ts : List Tk} {k : Nat} (h : k < ts.length) : tkAt ts k ∈ ts := by
  unfold tkAt
  rw [List.getElem?_eq_getElem h]
  exact List.getElem_mem h

/-- A level is said. -/
theorem left_step {w wr : World} {a d l : ByteArray} {i n m k : Nat} {na pa : Option Addr} {nc lc pc g8 : Nat} (h : Md7 w wr a d i n m k na nc (some ⟨g8, 0, none⟩) lc pa pc) (hn : Nm2 (by8 d)) (hl : by8 l = keyB true ++ (32 :: by8 d) ++ [10]) (hi : i ≤ 7) (hs : (a ++ l).size ≤ 1000) :
    ∃ z : Int, 0 ≤ z ∧ wr.cell? ⟨g8, k, none⟩ = some (.int .i64 z) ∧ wr.frozen? ⟨g8, k, none⟩ = false ∧
      (z > 0 → Tw7 w (wr.setCell ⟨g8, k, none⟩ (.int .i64 ((n : Int) + 1))) (a ++ l)) ∧ (¬ z > 0 → St7 w (wr.setCell ⟨g8, k, none⟩ (.int .i64 ((n : Int) + 1))) (a ++ l) (i + 1) (n + 1) m na nc (some ⟨g8, 0, none⟩) lc pa pc) := by
  obtain ⟨ls, c, h1, h2, h3, h4, h5, h6, h7, h8, h9⟩ := h
  have hkl : k < (mTs c.ts d).length := by omega
  obtain ⟨g7, g8', g9, -, e8, -, -, c8, -, f8, -⟩ := h9.at hkl
  cases e8
  have hz : 0 ≤ (tkAt (mTs c.ts d) k).l := mTs_lv h5 _ (tkAt_mem hkl)
  refine ⟨_, hz, c8, f8, fun hp => ⟨?_, ?_⟩, fun hp => ?_⟩
  · refine tok_twice (ls := ls) (b := true) (nm := by8 d) (c := c) h6 hn hl h2 ?_ (by omega) ?_
    · rw [stepC_left, ba_by8, ← h7]
      exact if_pos (by omega)
    · rw [ByteArray.size_append]
      have : (⟨#[37, 37]⟩ : ByteArray).size = 2 := rfl
      omega
  · exact (h9.setL k ((n : Int) + 1) 1 0).bel
  · have hst : stepC c (true, by8 d) = some ⟨(mTs c.ts d).set k ⟨(tkAt (mTs c.ts d) k).n, (c.lv : Int) + 1, 1⟩, mLs c.ts c.ls d, c.lv + 1⟩ := by
      rw [stepC_left, ba_by8, ← h7]
      exact if_neg (by omega)
    refine ⟨⟨(mTs c.ts d).set k ⟨(tkAt (mTs c.ts d) k).n, (c.lv : Int) + 1, 1⟩, mLs c.ts c.ls d, c.lv + 1⟩, ls ++ [(true, by8 d)], by rw [List.length_append, h1]; rfl, by rw [runC_snoc, h2]; exact hst, by show c.lv + 1 = _; omega, ?_, ?_, (line_words h6 hn hl).1, ?_⟩
    · show ((mTs c.ts d).set k _).length = m
      rw [List.length_set]
      exact h4
    · intro t ht
      rcases List.mem_or_eq_of_mem_set ht with ht | ht
      · exact mTs_lv h5 t ht
      · subst ht
        show 0 ≤ (c.lv : Int) + 1
        omega
    · rw [h3]
      exact h9.setL k ((n : Int) + 1) 1 (n + 1)

/-- A token is said. -/
theorem tok_step {w wr : World} {a d l : ByteArray} {i n m k : Nat} {na la : Option Addr} {nc lc pc g9 : Nat} (h : Md7 w wr a d i n m k na nc la lc (some ⟨g9, 0, none⟩) pc) (hn : Nm2 (by8 d)) (hl : by8 l = keyB false ++ (32 :: by8 d) ++ [10]) (hi : i ≤ 7) (hs : (a ++ l).size ≤ 1000) :
    ∃ z : Bool, wr.cell? ⟨g9, k, none⟩ = some (.bool z) ∧ wr.frozen? ⟨g9, k, none⟩ = false ∧
      (z = true → Tw7 w (wr.setCell ⟨g9, k, none⟩ (.bool true)) (a ++ l)) ∧ (z = false → St7 w (wr.setCell ⟨g9, k, none⟩ (.bool true)) (a ++ l) (i + 1) n m na nc la lc (some ⟨g9, 0, none⟩) pc) := by
  obtain ⟨ls, c, h1, h2, h3, h4, h5, h6, h7, h8, h9⟩ := h
  have hkl : k < (mTs c.ts d).length := by omega
  obtain ⟨g7, g8', g9', -, -, e9, -, -, c9, -, f9⟩ := h9.at hkl
  cases e9
  refine ⟨_, c9, f9, fun hp => ⟨?_, ?_⟩, fun hp => ?_⟩
  · refine tok_twice (ls := ls) (b := false) (nm := by8 d) (c := c) h6 hn hl h2 ?_ (by omega) ?_
    · rw [stepC_tok, ba_by8, ← h7]
      exact if_pos hp
    · rw [ByteArray.size_append]
      have : (⟨#[37, 37]⟩ : ByteArray).size = 2 := rfl
      omega
  · exact (h9.setP k true 0).bel
  · have hst : stepC c (false, by8 d) = some ⟨mTs c.ts d, (mLs c.ts c.ls d).set k true, c.lv⟩ := by
      rw [stepC_tok, ba_by8, ← h7]
      exact if_neg (by rw [hp]; decide)
    refine ⟨⟨mTs c.ts d, (mLs c.ts c.ls d).set k true, c.lv⟩, ls ++ [(false, by8 d)], by rw [List.length_append, h1]; rfl, by rw [runC_snoc, h2]; exact hst, h3, h4, mTs_lv h5, (line_words h6 hn hl).1, ?_⟩
    exact h9.setP k true c.lv

/-- All lines are read. -/
theorem end_ok {w wr : World} {a : ByteArray} {i n m : Nat} {na la pa : Option Addr} {nc lc pc : Nat} (h : St7 w wr a i n m na nc la lc pa pc) (hi : i ≤ 8) (hs : a.size ≤ 1000) :
    ∃ c S, c.ts.length = m ∧ Three w wr na nc la lc pa pc c ∧ readS (a ++ two) = .ok S ∧ gmOf S = ⟨c.ts, ⟨#[]⟩, 0, []⟩ := by
  obtain ⟨c, ls, h1, h2, h3, h4, h5, h6, h7⟩ := h
  obtain ⟨S, e1, e2⟩ := tok_ok (tx_two h6) (by
    rw [ByteArray.size_append]
    have : (⟨#[37, 37]⟩ : ByteArray).size = 2 := rfl
    omega) h2 (by omega)
  exact ⟨c, S, h4, h7, e1, e2⟩

end Go.Proofs.YtkaojokhdleeiaaGreatDoor

/-
  ReadTokens: whatever the input, the call returns true and leaves all that was there as it was.
-/
namespace Go.Proofs.YtkaojokhdleeiaaGreatDoor.Tokens
open Go.RowKit

set_option maxRecDepth 20000

theorem two_size (a : ByteArray) : (a ++ ⟨#[37, 37]⟩).size = a.size + 2 := by
  rw [ByteArray.size_append]
  rfl

theorem bad_calls (a : ByteArray) (W : World) (h : readS (a ++ two) = .error (7, (a.size : Int) - 3)) (hs : a.size ≤ 1000) : Calls Tryz.prog 15 #[.string (a ++ ⟨#[37, 37]⟩)] W fun e w' => ∃ f1 f2, e = .returned (.tuple #[.agg #[.slice none 0 0, .string ⟨#[]⟩, .int .i64 0, .slice none 0 0], .agg #[.int .i64 f1, .int .i64 f2]]) ∧ (f1 == 7) = true ∧ (f2 == (a.size : Int) - 3) = true ∧ Below W.heap.size W w' := by
  refine (read_calls _ W (by rw [two_size]; omega)).mono ?_
  rintro e w' ⟨hb, h1⟩
  have h2 : readS (a ++ ⟨#[37, 37]⟩) = .error (7, (a.size : Int) - 3) := h
  rw [h2] at h1
  exact ⟨7, (a.size : Int) - 3, h1, rfl, by simp, hb⟩

theorem good_calls (a : ByteArray) (W : World) {S : St} {c : Core} {m : Nat} (h : readS (a ++ two) = .ok S) (hg : gmOf S = ⟨c.ts, ⟨#[]⟩, 0, []⟩) (hm : c.ts.length = m) (hs : a.size ≤ 1000) : Calls Tryz.prog 15 #[.string (a ++ ⟨#[37, 37]⟩)] W fun e w' => ∃ ta tc ra rc f1 f2, e = .returned (.tuple #[.agg #[.slice ta m tc, .string ⟨#[]⟩, .int .i64 0, .slice ra 0 rc], .agg #[.int .i64 f1, .int .i64 f2]]) ∧ (f1 == 0) = true ∧ Row w' 3 ta m tc (tokC c.ts) ∧ Below W.heap.size W w' := by
  subst hm
  refine (read_calls _ W (by rw [two_size]; omega)).mono ?_
  rintro e w' ⟨hb, h1⟩
  have h2 : readS (a ++ ⟨#[37, 37]⟩) = .ok S := h
  rw [h2] at h1
  obtain ⟨hd, qs, he, ho⟩ := h1
  have hI := (ho.isG (readS_small h)).tok
  rw [hg] at he hI
  exact ⟨hd.ta, hd.tc, hd.ra, hd.rc, 0, 0, he, rfl, hI, hb⟩

set_option maxHeartbeats 8000000 in
theorem walk (ao : Option Addr) (len cap : Nat) (zs : List Int) (bo : Option Addr) (bl bc : Nat) (bs : Nat → Bool) (w : World) (hp : Pow w) (hz : RawI w ao len cap zs) (hy : RawB w bo bl bc bs) : Calls Tryz.prog 7 #[.slice ao len cap, .slice bo bl bc] w fun e w' => e = .returned (.bool true) ∧ Below w.heap.size w w' := by
  have H1 : Hid (Calls Tryz.prog 9 #[] w fun e w' => e = .returned (.bool true) ∧ Below w.heap.size w w') := begun6_calls w hp
  have HZ : Hid (RawI w ao len cap zs) := hz
  have HY : Hid (RawB w bo bl bc bs) := hy
  obtain ⟨hle, hmx⟩ := hz.le
  obtain ⟨hle2, hmx2⟩ := hy.le
  clear hp hz hy
  go_enter Tryz.func7, Tryz.ntmps7
  go_wp2_with fail
  refine H1.out.mono ?_
  rintro e V ⟨rfl, hB⟩
  have HM : Hid (St7 w V ⟨#[]⟩ 0 0 0 none 0 none 0 none 0) := ⟨c0, [], rfl, rfl, rfl, rfl, fun t ht => (by cases ht), ⟨[], [], rfl, bl0, fun u hu => (by cases hu), rfl⟩, three_zero hB⟩
  clear hB H1
  go_wp2_with fail
  go_loopg [6, 7, 8, 9, 10, 11, 12] 8 (fun kx s6 s7 s8 s9 s10 s11 s12 wr => ∃ (i n m : Nat) (a : ByteArray) (na : Option Addr) (nc : Nat) (la : Option Addr) (lc : Nat) (pa : Option Addr) (pc : Nat) (tw : Bool), s6 = .string a ∧ s7 = .slice na m nc ∧ s8 = .slice la m lc ∧ s9 = .slice pa m pc ∧ s10 = .int .i64 n ∧ s11 = .bool tw ∧ s12 = .int .i64 i ∧ i ≤ 8 ∧ i ≤ len ∧ 8 - i ≤ kx ∧ a.size ≤ 10 * i ∧ m ≤ i ∧ n ≤ i ∧ Hid ((tw = true ∧ Tw7 w wr a) ∨ (tw = false ∧ St7 w wr a i n m na nc la lc pa pc)))
  case atStart => exact ⟨0, 0, 0, ⟨#[]⟩, none, 0, none, 0, none, 0, false, rfl, rfl, rfl, rfl, rfl, rfl, rfl, Nat.zero_le _, Nat.zero_le _, by omega, by decide, Nat.le_refl _, Nat.le_refl _, .inr ⟨rfl, HM.out⟩⟩
  case round =>
    obtain ⟨i, n, m, a, na, nc, la, lc, pa, pc, tw, rfl, rfl, rfl, rfl, rfl, rfl, rfl, hi8, hil, hg, has, hmi, hni, J⟩ := hrel
    clear HM
    rcases J.out with ⟨rfl, HTW⟩ | ⟨rfl, HST⟩
    · by_cases hlt : i < len
      · have hlt' : (i : Int) < (len : Int) := by omega
        by_cases h8 : i < 8
        · have h8' : (i : Int) < 8 := by omega
          obtain ⟨hrd, hbw⟩ := HTW
          have HR : Hid (∀ W : World, Calls Tryz.prog 15 #[.string (a ++ ⟨#[37, 37]⟩)] W fun e w' => ∃ f1 f2, e = .returned (.tuple #[.agg #[.slice none 0 0, .string ⟨#[]⟩, .int .i64 0, .slice none 0 0], .agg #[.int .i64 f1, .int .i64 f2]]) ∧ (f1 == 7) = true ∧ (f2 == (a.size : Int) - 3) = true ∧ Below W.heap.size W w') := fun W => bad_calls a W hrd (by omega)
          have HBW : Hid (Below w.heap.size w wr) := hbw
          clear hrd hbw J HZ HY
          go_wp2_with fail
          refine (HR.out _).mono ?_
          rintro e V1 ⟨f1, f2, rfl, hf1, hf2, hB⟩
          have hBa : Below V1.heap.size V1 ((V1.alloc (.cells #[.slice none 0 0, .string ⟨#[]⟩, .int .i64 0, .slice none 0 0] 28)).alloc (.cells #[.int .i64 f1, .int .i64 f2] 46)) := below_step (below_alloc _ _) (below_alloc _ _)
          have hba2 : ((V1.alloc (.cells #[.slice none 0 0, .string ⟨#[]⟩, .int .i64 0, .slice none 0 0] 28)).alloc (.cells #[.int .i64 f1, .int .i64 f2] 46)).heap[V1.heap.size + 1]? = some (.cells #[.int .i64 f1, .int .i64 f2] 46 (0, 0)) := by
            have := heap_alloc_new (V1.alloc (.cells #[.slice none 0 0, .string ⟨#[]⟩, .int .i64 0, .slice none 0 0] 28)) (.cells #[.int .i64 f1, .int .i64 f2] 46)
            rwa [size_alloc1] at this
          go_upto_region 27 with fail
          obtain ⟨pb, hpb⟩ : ∃ pb, pb = V1.heap.size := ⟨_, rfl⟩
          rw [← hpb] at hba2 ⊢
          generalize (V1.alloc (.cells #[.slice none 0 0, .string ⟨#[]⟩, .int .i64 0, .slice none 0 0] 28)).alloc (.cells #[.int .i64 f1, .int .i64 f2] 46) = V2 at *
          have HV : Hid (Below w.heap.size w V2) := below_step HBW.out (below_step hB hBa)
          obtain ⟨a4, a5, -, -⟩ := box46 hba2
          clear hB hBa hba2 hpb HBW HR
          go_wp2_with fail
          go_ret
          exact ⟨by simp, HV.out⟩
        · have h8' : ¬ (i : Int) < 8 := by omega
          obtain ⟨hrd, hbw⟩ := HTW
          have HR : Hid (∀ W : World, Calls Tryz.prog 15 #[.string (a ++ ⟨#[37, 37]⟩)] W fun e w' => ∃ f1 f2, e = .returned (.tuple #[.agg #[.slice none 0 0, .string ⟨#[]⟩, .int .i64 0, .slice none 0 0], .agg #[.int .i64 f1, .int .i64 f2]]) ∧ (f1 == 7) = true ∧ (f2 == (a.size : Int) - 3) = true ∧ Below W.heap.size W w') := fun W => bad_calls a W hrd (by omega)
          have HBW : Hid (Below w.heap.size w wr) := hbw
          clear hrd hbw J HZ HY
          go_wp2_with fail
          refine (HR.out _).mono ?_
          rintro e V1 ⟨f1, f2, rfl, hf1, hf2, hB⟩
          have hBa : Below V1.heap.size V1 ((V1.alloc (.cells #[.slice none 0 0, .string ⟨#[]⟩, .int .i64 0, .slice none 0 0] 28)).alloc (.cells #[.int .i64 f1, .int .i64 f2] 46)) := below_step (below_alloc _ _) (below_alloc _ _)
          have hba2 : ((V1.alloc (.cells #[.slice none 0 0, .string ⟨#[]⟩, .int .i64 0, .slice none 0 0] 28)).alloc (.cells #[.int .i64 f1, .int .i64 f2] 46)).heap[V1.heap.size + 1]? = some (.cells #[.int .i64 f1, .int .i64 f2] 46 (0, 0)) := by
            have := heap_alloc_new (V1.alloc (.cells #[.slice none 0 0, .string ⟨#[]⟩, .int .i64 0, .slice none 0 0] 28)) (.cells #[.int .i64 f1, .int .i64 f2] 46)
            rwa [size_alloc1] at this
          go_upto_region 27 with fail
          obtain ⟨pb, hpb⟩ : ∃ pb, pb = V1.heap.size := ⟨_, rfl⟩
          rw [← hpb] at hba2 ⊢
          generalize (V1.alloc (.cells #[.slice none 0 0, .string ⟨#[]⟩, .int .i64 0, .slice none 0 0] 28)).alloc (.cells #[.int .i64 f1, .int .i64 f2] 46) = V2 at *
          have HV : Hid (Below w.heap.size w V2) := below_step HBW.out (below_step hB hBa)
          obtain ⟨a4, a5, -, -⟩ := box46 hba2
          clear hB hBa hba2 hpb HBW HR
          go_wp2_with fail
          go_ret
          exact ⟨by simp, HV.out⟩
      · have hlt' : ¬ (i : Int) < (len : Int) := by omega
        obtain ⟨hrd, hbw⟩ := HTW
        have HR : Hid (∀ W : World, Calls Tryz.prog 15 #[.string (a ++ ⟨#[37, 37]⟩)] W fun e w' => ∃ f1 f2, e = .returned (.tuple #[.agg #[.slice none 0 0, .string ⟨#[]⟩, .int .i64 0, .slice none 0 0], .agg #[.int .i64 f1, .int .i64 f2]]) ∧ (f1 == 7) = true ∧ (f2 == (a.size : Int) - 3) = true ∧ Below W.heap.size W w') := fun W => bad_calls a W hrd (by omega)
        have HBW : Hid (Below w.heap.size w wr) := hbw
        clear hrd hbw J HZ HY
        go_wp2_with fail
        refine (HR.out _).mono ?_
        rintro e V1 ⟨f1, f2, rfl, hf1, hf2, hB⟩
        have hBa : Below V1.heap.size V1 ((V1.alloc (.cells #[.slice none 0 0, .string ⟨#[]⟩, .int .i64 0, .slice none 0 0] 28)).alloc (.cells #[.int .i64 f1, .int .i64 f2] 46)) := below_step (below_alloc _ _) (below_alloc _ _)
        have hba2 : ((V1.alloc (.cells #[.slice none 0 0, .string ⟨#[]⟩, .int .i64 0, .slice none 0 0] 28)).alloc (.cells #[.int .i64 f1, .int .i64 f2] 46)).heap[V1.heap.size + 1]? = some (.cells #[.int .i64 f1, .int .i64 f2] 46 (0, 0)) := by
          have := heap_alloc_new (V1.alloc (.cells #[.slice none 0 0, .string ⟨#[]⟩, .int .i64 0, .slice none 0 0] 28)) (.cells #[.int .i64 f1, .int .i64 f2] 46)
          rwa [size_alloc1] at this
        go_upto_region 27 with fail
        obtain ⟨pb, hpb⟩ : ∃ pb, pb = V1.heap.size := ⟨_, rfl⟩
        rw [← hpb] at hba2 ⊢
        generalize (V1.alloc (.cells #[.slice none 0 0, .string ⟨#[]⟩, .int .i64 0, .slice none 0 0] 28)).alloc (.cells #[.int .i64 f1, .int .i64 f2] 46) = V2 at *
        have HV : Hid (Below w.heap.size w V2) := below_step HBW.out (below_step hB hBa)
        obtain ⟨a4, a5, -, -⟩ := box46 hba2
        clear hB hBa hba2 hpb HBW HR
        go_wp2_with fail
        go_ret
        exact ⟨by simp, HV.out⟩
    · have HS : Hid (St7 w wr a i n m na nc la lc pa pc) := HST
      clear HST J
      by_cases hlt : i < len
      · have hlt' : (i : Int) < (len : Int) := by omega
        by_cases h8 : i < 8
        · have h8' : (i : Int) < 8 := by omega
          have HBr : Hid (Below w.heap.size w wr) := by obtain ⟨c, ls, -, -, -, -, -, -, h⟩ := HS.out; exact h.bel
          obtain ⟨zb, zo, rfl, cz⟩ := (HZ.out.below HBr.out).get i hlt
          generalize zs.getD i 0 = z at cz
          have hr := rem_range z 8 (by decide)
          obtain ⟨r, hr0⟩ : ∃ r, z.tmod 8 = r := ⟨_, rfl⟩
          rw [hr0] at hr
          have hr2 := rem_range (r + 8) 8 (by decide)
          have hr3 : 0 ≤ (r + 8).tmod 8 := Int.tmod_nonneg _ (by omega)
          obtain ⟨q, hq⟩ : ∃ q : Nat, (r + 8).tmod 8 = (q : Int) := ⟨((r + 8).tmod 8).toNat, by omega⟩
          have hq8 : q < 8 := by omega
          obtain ⟨hr4, hr5⟩ := hr
          clear hr2 hr3
          obtain ⟨d, hcv, hd1, hd2⟩ := run_nm wr (97 + q)
          have hcv' : (convert 41 9 (.slice (some ⟨wr.heap.size, 0, none⟩) 2 2)).run Tryz.prog (wr.alloc (.cells #[.int .u8 84, .int .u8 (97 + (q : Int))] 5)) = .ok (.string d) (wr.alloc (.cells #[.int .u8 84, .int .u8 (97 + (q : Int))] 5)) := by
            have e1 : ((97 + q : Nat) : Int) = 97 + (q : Int) := by omega
            rw [e1] at hcv
            exact hcv
          have HD : Hid (Nm2 (by8 d)) := ⟨UInt8.ofNat (97 + q), hd2, by rw [UInt8.toNat_ofNat']; omega, by rw [UInt8.toNat_ofNat']; omega⟩
          obtain ⟨c, hc⟩ := HS.out
          have HS2 : Hid (St7c w (wr.alloc (.cells #[.int .u8 84, .int .u8 (97 + (q : Int))] 5)) a i n m na nc la lc pa pc c) := by
            obtain ⟨ls, e1, e2, e3, e4, e5, e6, e7⟩ := hc
            exact ⟨ls, e1, e2, e3, e4, e5, e6, e7.below (below_alloc _ _)⟩
          clear hc
          have hk1 : (97 + (q : Int)) ≤ 255 := by omega
          clear hcv hd2 HS HBr
          go_upto_block 2 with fail
          generalize wr.alloc (.cells #[.int .u8 84, .int .u8 (97 + (q : Int))] 5) = W1 at *
          clear hcv' cz hk1 hr4 hr5 hq8
          go_cut [14] from 21 to 111 (fun s14 wd => ∃ k : Nat, s14 = .int .i64 k ∧ k ≤ m ∧ wd = W1 ∧ Hid (mIdx c.ts d = k))
          case first =>
            go_wp2_with fail
            go_loopg [14] m (fun kx s14 wl => ∃ k : Nat, s14 = .int .i64 k ∧ k ≤ m ∧ m - k ≤ kx ∧ wl = W1 ∧ Hid (∀ j, j < k → (tkAt c.ts j).n ≠ d))
            case atStart => exact ⟨0, rfl, Nat.zero_le _, by omega, rfl, (fun j hj => absurd hj (Nat.not_lt_zero _) : ∀ j, j < 0 → (tkAt c.ts j).n ≠ d)⟩
            case round =>
              obtain ⟨k, rfl, hkm, hg2, hwl, K⟩ := hrel
              subst hwl
              by_cases hlk : k < m
              · have hlk' : (k : Int) < (m : Int) := by omega
                obtain ⟨g7, g8, g9, ena, -, -, cn, -, -, -, -⟩ := Three.at (k := k) (by obtain ⟨ls, -, -, -, -, -, -, e7⟩ := HS2.out; exact e7) (by obtain ⟨ls, -, -, -, e4, -, -, e7⟩ := HS2.out; omega)
                subst ena
                by_cases he : (tkAt c.ts k).n = d
                · have hb := toList_beq_eq he
                  have HF : Hid (mIdx c.ts d = k) := by
                    obtain ⟨ls, -, -, -, e4, -, -, e7⟩ := HS2.out
                    exact idx_at e4 K.out (.inr ⟨hlk, he⟩) e7
                  generalize (tkAt c.ts k).n = un at cn hb
                  clear he K
                  go_wp2_with fail
                  go_meet
                  exact ⟨k, rfl, hkm, rfl, HF⟩
                · have hb := toList_beq_ne he
                  have HF : Hid (∀ j, j < k + 1 → (tkAt c.ts j).n ≠ d) := fun j hj => by
                    rcases Nat.lt_or_ge j k with h | h
                    · exact K.out j h
                    · have : j = k := by omega
                      subst this
                      exact he
                  generalize (tkAt c.ts k).n = un at cn hb
                  clear he K
                  go_wp2_with fail
                  go_roundg (m - (k + 1))
                  case measure => omega
                  case rel => exact ⟨k + 1, by simp, by omega, Nat.le_refl _, rfl, HF⟩
              · have hlk' : ¬ (k : Int) < (m : Int) := by omega
                have HF : Hid (mIdx c.ts d = k) := by
                  obtain ⟨ls, -, -, -, e4, -, -, e7⟩ := HS2.out
                  exact idx_at e4 K.out (.inl (by omega)) e7
                clear K
                go_wp2_with fail
                go_meet
                exact ⟨k, rfl, hkm, rfl, HF⟩
          case rest =>
            obtain ⟨k, rfl, hkm, hwc, HK⟩ := hcut
            subst hwc
            go_upto_if 63 with fail
            go_cut [7, 8, 9] from 21 to 111 (fun s7 s8 s9 wd => ∃ (m' : Nat) (na : Option Addr) (nc : Nat) (la : Option Addr) (lc : Nat) (pa : Option Addr) (pc : Nat), s7 = .slice na m' nc ∧ s8 = .slice la m' lc ∧ s9 = .slice pa m' pc ∧ m' ≤ i + 1 ∧ k < m' ∧ Hid (Md7 w wd a d i n m' k na nc la lc pa pc))
            case first =>
              by_cases hk2 : k = m
              · have hkb : ((k : Int) == (m : Int)) = true := by simp [hk2]
                obtain ⟨g7, c7, W2, g8, c8, W4, g9, c9, W6, r1, r2, r3, hmd⟩ := mid_new HS2.out (by rw [HK.out]; exact hk2) (by omega)
                have HN : Hid (Md7 w W6 a d i n (m + 1) k (some ⟨g7, 0, none⟩) c7 (some ⟨g8, 0, none⟩) c8 (some ⟨g9, 0, none⟩) c9) := by rw [hk2]; exact hmd
                have hk3 : k < m + 1 := by omega
                clear HK HS2 hk2 hmd
                go_wp2_with (first | (at_builtin; refine Lib.wpList_append_run _ rfl _ _ _ _ rfl _ _ rfl rfl _ _ r1 ?_) | (at_builtin; refine Lib.wpList_append_run _ rfl _ _ _ _ rfl _ _ rfl rfl _ _ r2 ?_) | (at_builtin; refine Lib.wpList_append_run _ rfl _ _ _ _ rfl _ _ rfl rfl _ _ r3 ?_))
                go_meet
                exact ⟨m + 1, _, _, _, _, _, _, by simp, by simp, by simp, by omega, hk3, HN⟩
              · have hkb : ((k : Int) == (m : Int)) = false := by simp; omega
                have HN : Hid (Md7 w wc a d i n m k na nc la lc pa pc) := mid_old HS2.out HK.out (by omega)
                have hk3 : k < m := by omega
                clear HK HS2 hk2
                go_wp2_with fail
                go_meet
                exact ⟨m, na, nc, la, lc, pa, pc, rfl, rfl, rfl, by omega, hk3, HN⟩
            case rest =>
              obtain ⟨m', na2, nc2, la2, lc2, pa2, pc2, rfl, rfl, rfl, hm1, hk3, HM2⟩ := hcut
              clear HS2 HK
              obtain ⟨W3, hW3⟩ : ∃ W3, W3 = wc := ⟨_, rfl⟩
              subst wc
              obtain ⟨g7, g8, g9, ena, ela, epa, hBw⟩ : ∃ g7 g8 g9, na2 = some ⟨g7, 0, none⟩ ∧ la2 = some ⟨g8, 0, none⟩ ∧ pa2 = some ⟨g9, 0, none⟩ ∧ Below w.heap.size w W3 := by
                obtain ⟨ls, c, -, -, -, e4, -, -, e7, e8, e9⟩ := HM2.out
                obtain ⟨g7, g8, g9, x1, x2, x3, -⟩ := e9.at (k := k) (by show k < (mTs c.ts d).length; omega)
                exact ⟨g7, g8, g9, x1, x2, x3, e9.bel⟩
              subst ena ela epa
              have HBW : Hid (Below w.heap.size w W3) := hBw
              have hd0 : by8 (((⟨#[37, 108, 101, 102, 116, 32]⟩ : ByteArray) ++ d) ++ ⟨#[10]⟩) = keyB true ++ (32 :: by8 d) ++ [10] := by rw [by8_append, by8_append]; rfl
              have hd3 : by8 (((⟨#[37, 116, 111, 107, 101, 110, 32]⟩ : ByteArray) ++ d) ++ ⟨#[10]⟩) = keyB false ++ (32 :: by8 d) ++ [10] := by rw [by8_append, by8_append]; rfl
              have z6 : (⟨#[37, 108, 101, 102, 116, 32]⟩ : ByteArray).size = 6 := rfl
              have z7 : (⟨#[37, 116, 111, 107, 101, 110, 32]⟩ : ByteArray).size = 7 := rfl
              have z1 : (⟨#[10]⟩ : ByteArray).size = 1 := rfl
              have hs0 : (a ++ (((⟨#[37, 108, 101, 102, 116, 32]⟩ : ByteArray) ++ d) ++ ⟨#[10]⟩)).size ≤ 10 * (i + 1) := by
                rw [ByteArray.size_append, ByteArray.size_append, ByteArray.size_append, hd1]
                omega
              have hs3 : (a ++ (((⟨#[37, 116, 111, 107, 101, 110, 32]⟩ : ByteArray) ++ d) ++ ⟨#[10]⟩)).size ≤ 10 * (i + 1) := by
                rw [ByteArray.size_append, ByteArray.size_append, ByteArray.size_append, hd1]
                omega
              obtain ⟨zl, hz0, cl, fl, t1, t2⟩ := left_step HM2.out HD.out hd0 (by omega) (by omega)
              obtain ⟨zp, cp, fp, t3, t4⟩ := tok_step HM2.out HD.out hd3 (by omega) (by omega)
              have T1 : Hid (zl > 0 → Tw7 w (W3.setCell ⟨g8, k, none⟩ (.int .i64 ((n : Int) + 1))) (a ++ (((⟨#[37, 108, 101, 102, 116, 32]⟩ : ByteArray) ++ d) ++ ⟨#[10]⟩))) := t1
              have T2 : Hid (¬ zl > 0 → St7 w (W3.setCell ⟨g8, k, none⟩ (.int .i64 ((n : Int) + 1))) (a ++ (((⟨#[37, 108, 101, 102, 116, 32]⟩ : ByteArray) ++ d) ++ ⟨#[10]⟩)) (i + 1) (n + 1) m' (some ⟨g7, 0, none⟩) nc2 (some ⟨g8, 0, none⟩) lc2 (some ⟨g9, 0, none⟩) pc2) := t2
              have T3 : Hid (zp = true → Tw7 w (W3.setCell ⟨g9, k, none⟩ (.bool true)) (a ++ (((⟨#[37, 116, 111, 107, 101, 110, 32]⟩ : ByteArray) ++ d) ++ ⟨#[10]⟩))) := t3
              have T4 : Hid (zp = false → St7 w (W3.setCell ⟨g9, k, none⟩ (.bool true)) (a ++ (((⟨#[37, 116, 111, 107, 101, 110, 32]⟩ : ByteArray) ++ d) ++ ⟨#[10]⟩)) (i + 1) n m' (some ⟨g7, 0, none⟩) nc2 (some ⟨g8, 0, none⟩) lc2 (some ⟨g9, 0, none⟩) pc2) := t4
              have hk3' : (k : Int) < (m' : Int) := by omega
              clear t1 t2 t3 t4 hd0 hd3 z6 z7 z1 HD HM2 hBw
              by_cases hib : i < bl
              · have hib' : (i : Int) < (bl : Int) := by omega
                obtain ⟨bb, boff, rfl, cb⟩ := (HY.out.below HBW.out).get i hib
                cases hbi : bs i with
                | true =>
                  rw [hbi] at cb
                  clear hbi cp fp T3 T4 hs3
                  have HL : Hid ((decide (0 < zl) = true ∧ Tw7 w (W3.setCell ⟨g8, k, none⟩ (.int .i64 ((n : Int) + 1))) (a ++ (((⟨#[37, 108, 101, 102, 116, 32]⟩ : ByteArray) ++ d) ++ ⟨#[10]⟩))) ∨ (decide (0 < zl) = false ∧ St7 w (W3.setCell ⟨g8, k, none⟩ (.int .i64 ((n : Int) + 1))) (a ++ (((⟨#[37, 108, 101, 102, 116, 32]⟩ : ByteArray) ++ d) ++ ⟨#[10]⟩)) (i + 1) (n + 1) m' (some ⟨g7, 0, none⟩) nc2 (some ⟨g8, 0, none⟩) lc2 (some ⟨g9, 0, none⟩) pc2)) := by
                    by_cases hz : 0 < zl
                    · exact .inl ⟨decide_eq_true hz, T1.out hz⟩
                    · exact .inr ⟨decide_eq_false hz, T2.out hz⟩
                  clear T1 T2
                  go_wp2_with fail
                  go_roundg (8 - (i + 1))
                  case measure => omega
                  case rel => exact ⟨i + 1, n + 1, m', _, _, _, _, _, _, _, decide (0 < zl), rfl, rfl, rfl, rfl, by simp, rfl, by simp, by omega, by omega, Nat.le_refl _, hs0, by omega, by omega, HL⟩
                | false =>
                  rw [hbi] at cb
                  clear hbi cl fl T1 T2 hs0 hz0
                  have HL : Hid ((zp = true ∧ Tw7 w (W3.setCell ⟨g9, k, none⟩ (.bool true)) (a ++ (((⟨#[37, 116, 111, 107, 101, 110, 32]⟩ : ByteArray) ++ d) ++ ⟨#[10]⟩))) ∨ (zp = false ∧ St7 w (W3.setCell ⟨g9, k, none⟩ (.bool true)) (a ++ (((⟨#[37, 116, 111, 107, 101, 110, 32]⟩ : ByteArray) ++ d) ++ ⟨#[10]⟩)) (i + 1) n m' (some ⟨g7, 0, none⟩) nc2 (some ⟨g8, 0, none⟩) lc2 (some ⟨g9, 0, none⟩) pc2)) := by
                    cases zp with
                    | true => exact .inl ⟨rfl, T3.out rfl⟩
                    | false => exact .inr ⟨rfl, T4.out rfl⟩
                  clear T3 T4
                  go_wp2_with fail
                  go_roundg (8 - (i + 1))
                  case measure => omega
                  case rel => exact ⟨i + 1, n, m', _, _, _, _, _, _, _, zp, rfl, rfl, rfl, rfl, rfl, rfl, by simp, by omega, by omega, Nat.le_refl _, hs3, by omega, by omega, HL⟩
              · have hib' : ¬ (i : Int) < (bl : Int) := by omega
                clear cl fl T1 T2 hs0 hz0
                have HL : Hid ((zp = true ∧ Tw7 w (W3.setCell ⟨g9, k, none⟩ (.bool true)) (a ++ (((⟨#[37, 116, 111, 107, 101, 110, 32]⟩ : ByteArray) ++ d) ++ ⟨#[10]⟩))) ∨ (zp = false ∧ St7 w (W3.setCell ⟨g9, k, none⟩ (.bool true)) (a ++ (((⟨#[37, 116, 111, 107, 101, 110, 32]⟩ : ByteArray) ++ d) ++ ⟨#[10]⟩)) (i + 1) n m' (some ⟨g7, 0, none⟩) nc2 (some ⟨g8, 0, none⟩) lc2 (some ⟨g9, 0, none⟩) pc2)) := by
                  cases zp with
                  | true => exact .inl ⟨rfl, T3.out rfl⟩
                  | false => exact .inr ⟨rfl, T4.out rfl⟩
                clear T3 T4
                go_wp2_with fail
                go_roundg (8 - (i + 1))
                case measure => omega
                case rel => exact ⟨i + 1, n, m', _, _, _, _, _, _, _, zp, rfl, rfl, rfl, rfl, rfl, rfl, by simp, by omega, by omega, Nat.le_refl _, hs3, by omega, by omega, HL⟩
        · have h8' : ¬ (i : Int) < 8 := by omega
          obtain ⟨c, S, hcm, hth, hrs, hgm⟩ := end_ok HS.out hi8 (by omega)
          have HR : Hid (∀ W : World, Calls Tryz.prog 15 #[.string (a ++ ⟨#[37, 37]⟩)] W fun e w' => ∃ ta tc ra rc f1 f2, e = .returned (.tuple #[.agg #[.slice ta m tc, .string ⟨#[]⟩, .int .i64 0, .slice ra 0 rc], .agg #[.int .i64 f1, .int .i64 f2]]) ∧ (f1 == 0) = true ∧ Row w' 3 ta m tc (tokC c.ts) ∧ Below W.heap.size W w') := fun W => good_calls a W hrs hgm hcm (by omega)
          have HT : Hid (c.ts.length = m ∧ Three w wr na nc la lc pa pc c) := ⟨hcm, hth⟩
          obtain ⟨⟨x1, x2⟩, ⟨x3, x4⟩, -⟩ := hth.lens
          rw [hcm] at x1 x3
          clear hcm hth hrs hgm HZ HY HS
          go_wp2_with fail
          refine (HR.out _).mono ?_
          rintro e V1 ⟨ta, tc, ra, rc, f1, f2, rfl, hf1, hrow, hB⟩
          obtain rfl : f1 = 0 := by simpa using hf1
          clear hf1
          have hBa : Below V1.heap.size V1 ((V1.alloc (.cells #[.slice ta m tc, .string ⟨#[]⟩, .int .i64 0, .slice ra 0 rc] 28)).alloc (.cells #[.int .i64 0, .int .i64 f2] 46)) := below_step (below_alloc _ _) (below_alloc _ _)
          have hba1 : ((V1.alloc (.cells #[.slice ta m tc, .string ⟨#[]⟩, .int .i64 0, .slice ra 0 rc] 28)).alloc (.cells #[.int .i64 0, .int .i64 f2] 46)).heap[V1.heap.size]? = some (.cells #[.slice ta m tc, .string ⟨#[]⟩, .int .i64 0, .slice ra 0 rc] 28 (0, 0)) := block_below (below_alloc _ _) (heap_alloc_new _ _)
          have hba2 : ((V1.alloc (.cells #[.slice ta m tc, .string ⟨#[]⟩, .int .i64 0, .slice ra 0 rc] 28)).alloc (.cells #[.int .i64 0, .int .i64 f2] 46)).heap[V1.heap.size + 1]? = some (.cells #[.int .i64 0, .int .i64 f2] 46 (0, 0)) := by
            have := heap_alloc_new (V1.alloc (.cells #[.slice ta m tc, .string ⟨#[]⟩, .int .i64 0, .slice ra 0 rc] 28)) (.cells #[.int .i64 0, .int .i64 f2] 46)
            rwa [size_alloc1] at this
          go_upto_region 27 with fail
          obtain ⟨pb, hpb⟩ : ∃ pb, pb = V1.heap.size := ⟨_, rfl⟩
          rw [← hpb] at hba1 hba2 ⊢
          generalize (V1.alloc (.cells #[.slice ta m tc, .string ⟨#[]⟩, .int .i64 0, .slice ra 0 rc] 28)).alloc (.cells #[.int .i64 0, .int .i64 f2] 46) = V2 at *
          have HV : Hid (Below wr.heap.size wr V2 ∧ Row V2 3 ta m tc (tokC c.ts) ∧ V2.heap[pb]? = some (.cells #[.slice ta m tc, .string ⟨#[]⟩, .int .i64 0, .slice ra 0 rc] 28 (0, 0))) := ⟨below_step hB hBa, hrow.below hBa, hba1⟩
          have HTT : Hid (c.ts.length = m ∧ Three w V2 na nc la lc pa pc c) := ⟨HT.out.1, HT.out.2.below (below_step hB hBa)⟩
          have y1 : m ≤ tc ∧ tc ≤ 9223372036854775807 := by have h1 := hrow.le; have h2 := hrow.max; unfold maxLen at h2; omega
          obtain ⟨y2, y3⟩ := y1
          obtain ⟨a0, -, -, -, -, -, -, -⟩ := box_cells hba1
          obtain ⟨a4, a5, -, -⟩ := box46 hba2
          have HQ : Hid (Below V2.heap.size V2 V2) := Below.refl _ _
          clear hB hBa hba1 hba2 hpb HR hrow HT
          go_wp2_with fail
          go_loopg [17] m (fun kx s17 wl => ∃ j : Nat, s17 = .int .i64 j ∧ j ≤ m ∧ m - j ≤ kx ∧ Hid (Below V2.heap.size V2 wl))
          case atStart => exact ⟨0, rfl, Nat.zero_le _, by omega, HQ⟩
          case round =>
            obtain ⟨j, rfl, hjm, hg3, JB⟩ := hrel
            clear a0 a4 a5
            by_cases hlj : j < m
            · have hlj' : (j : Int) < (m : Int) := by omega
              obtain ⟨tb, tof, eta, p0, p1, -⟩ := tok_at (i := j) (t := tkAt c.ts j) (HV.out.2.1.below JB.out) (by unfold tkAt; rw [List.getElem?_eq_getElem (by have := HTT.out.1; omega)]; rfl)
              obtain ⟨g7, g8, g9, ena, ela, -, cn, cl, -, -, -⟩ := (HTT.out.2.below JB.out).at (k := j) (by have := HTT.out.1; omega)
              subst eta ena ela
              obtain ⟨b0, -, -, -, -, -, -, -⟩ := box_cells (block_below JB.out HV.out.2.2)
              generalize (tkAt c.ts j).n = un at p0 cn
              generalize (tkAt c.ts j).l = ul at p1 cl
              have hbb : (un.toList == un.toList) = true := by simp
              go_upto_region 34 with fail
              go_quiet (fail)
              all_goals
                go_wp2_with fail
                go_roundg (m - (j + 1))
                case measure => omega
                case rel => exact ⟨j + 1, by simp, by omega, Nat.le_refl _, below_step JB.out ⟨rfl, rfl, rfl, Nat.le_refl _, fun _ _ => rfl⟩⟩
            · have hlj' : ¬ (j : Int) < (m : Int) := by omega
              go_wp2_with fail
              go_ret
              exact ⟨rfl, below_step HTT.out.2.bel JB.out⟩
      · have hlt' : ¬ (i : Int) < (len : Int) := by omega
        obtain ⟨c, S, hcm, hth, hrs, hgm⟩ := end_ok HS.out hi8 (by omega)
        have HR : Hid (∀ W : World, Calls Tryz.prog 15 #[.string (a ++ ⟨#[37, 37]⟩)] W fun e w' => ∃ ta tc ra rc f1 f2, e = .returned (.tuple #[.agg #[.slice ta m tc, .string ⟨#[]⟩, .int .i64 0, .slice ra 0 rc], .agg #[.int .i64 f1, .int .i64 f2]]) ∧ (f1 == 0) = true ∧ Row w' 3 ta m tc (tokC c.ts) ∧ Below W.heap.size W w') := fun W => good_calls a W hrs hgm hcm (by omega)
        have HT : Hid (c.ts.length = m ∧ Three w wr na nc la lc pa pc c) := ⟨hcm, hth⟩
        obtain ⟨⟨x1, x2⟩, ⟨x3, x4⟩, -⟩ := hth.lens
        rw [hcm] at x1 x3
        clear hcm hth hrs hgm HZ HY HS
        go_wp2_with fail
        refine (HR.out _).mono ?_
        rintro e V1 ⟨ta, tc, ra, rc, f1, f2, rfl, hf1, hrow, hB⟩
        obtain rfl : f1 = 0 := by simpa using hf1
        clear hf1
        have hBa : Below V1.heap.size V1 ((V1.alloc (.cells #[.slice ta m tc, .string ⟨#[]⟩, .int .i64 0, .slice ra 0 rc] 28)).alloc (.cells #[.int .i64 0, .int .i64 f2] 46)) := below_step (below_alloc _ _) (below_alloc _ _)
        have hba1 : ((V1.alloc (.cells #[.slice ta m tc, .string ⟨#[]⟩, .int .i64 0, .slice ra 0 rc] 28)).alloc (.cells #[.int .i64 0, .int .i64 f2] 46)).heap[V1.heap.size]? = some (.cells #[.slice ta m tc, .string ⟨#[]⟩, .int .i64 0, .slice ra 0 rc] 28 (0, 0)) := block_below (below_alloc _ _) (heap_alloc_new _ _)
        have hba2 : ((V1.alloc (.cells #[.slice ta m tc, .string ⟨#[]⟩, .int .i64 0, .slice ra 0 rc] 28)).alloc (.cells #[.int .i64 0, .int .i64 f2] 46)).heap[V1.heap.size + 1]? = some (.cells #[.int .i64 0, .int .i64 f2] 46 (0, 0)) := by
          have := heap_alloc_new (V1.alloc (.cells #[.slice ta m tc, .string ⟨#[]⟩, .int .i64 0, .slice ra 0 rc] 28)) (.cells #[.int .i64 0, .int .i64 f2] 46)
          rwa [size_alloc1] at this
        go_upto_region 27 with fail
        obtain ⟨pb, hpb⟩ : ∃ pb, pb = V1.heap.size := ⟨_, rfl⟩
        rw [← hpb] at hba1 hba2 ⊢
        generalize (V1.alloc (.cells #[.slice ta m tc, .string ⟨#[]⟩, .int .i64 0, .slice ra 0 rc] 28)).alloc (.cells #[.int .i64 0, .int .i64 f2] 46) = V2 at *
        have HV : Hid (Below wr.heap.size wr V2 ∧ Row V2 3 ta m tc (tokC c.ts) ∧ V2.heap[pb]? = some (.cells #[.slice ta m tc, .string ⟨#[]⟩, .int .i64 0, .slice ra 0 rc] 28 (0, 0))) := ⟨below_step hB hBa, hrow.below hBa, hba1⟩
        have HTT : Hid (c.ts.length = m ∧ Three w V2 na nc la lc pa pc c) := ⟨HT.out.1, HT.out.2.below (below_step hB hBa)⟩
        have y1 : m ≤ tc ∧ tc ≤ 9223372036854775807 := by have h1 := hrow.le; have h2 := hrow.max; unfold maxLen at h2; omega
        obtain ⟨y2, y3⟩ := y1
        obtain ⟨a0, -, -, -, -, -, -, -⟩ := box_cells hba1
        obtain ⟨a4, a5, -, -⟩ := box46 hba2
        have HQ : Hid (Below V2.heap.size V2 V2) := Below.refl _ _
        clear hB hBa hba1 hba2 hpb HR hrow HT
        go_wp2_with fail
        go_loopg [17] m (fun kx s17 wl => ∃ j : Nat, s17 = .int .i64 j ∧ j ≤ m ∧ m - j ≤ kx ∧ Hid (Below V2.heap.size V2 wl))
        case atStart => exact ⟨0, rfl, Nat.zero_le _, by omega, HQ⟩
        case round =>
          obtain ⟨j, rfl, hjm, hg3, JB⟩ := hrel
          clear a0 a4 a5
          by_cases hlj : j < m
          · have hlj' : (j : Int) < (m : Int) := by omega
            obtain ⟨tb, tof, eta, p0, p1, -⟩ := tok_at (i := j) (t := tkAt c.ts j) (HV.out.2.1.below JB.out) (by unfold tkAt; rw [List.getElem?_eq_getElem (by have := HTT.out.1; omega)]; rfl)
            obtain ⟨g7, g8, g9, ena, ela, -, cn, cl, -, -, -⟩ := (HTT.out.2.below JB.out).at (k := j) (by have := HTT.out.1; omega)
            subst eta ena ela
            obtain ⟨b0, -, -, -, -, -, -, -⟩ := box_cells (block_below JB.out HV.out.2.2)
            generalize (tkAt c.ts j).n = un at p0 cn
            generalize (tkAt c.ts j).l = ul at p1 cl
            have hbb : (un.toList == un.toList) = true := by simp
            go_upto_region 34 with fail
            go_quiet (fail)
            all_goals
              go_wp2_with fail
              go_roundg (m - (j + 1))
              case measure => omega
              case rel => exact ⟨j + 1, by simp, by omega, Nat.le_refl _, below_step JB.out ⟨rfl, rfl, rfl, Nat.le_refl _, fun _ _ => rfl⟩⟩
          · have hlj' : ¬ (j : Int) < (m : Int) := by omega
            go_wp2_with fail
            go_ret
            exact ⟨rfl, below_step HTT.out.2.bel JB.out⟩

end Go.Proofs.YtkaojokhdleeiaaGreatDoor.Tokens

/-
  ReadTokens: for every row of numbers and every row of flags, the tokens that they say stand where each was first said, with the level of the one line that says it, and a token said again is a fault at its name (the call returns true), under no condition but the tied tables and sentinels.
-/
namespace Go.Proofs.YtkaojokhdleeiaaGreatDoor.Tokens
open Go.ChangeShapes Go.WideShapes Go.ChangeAt Go.RowKit
open Go.ChangeMaps (open_string shut_string)

set_option maxRecDepth 100000 in
theorem lifted (os : Os) (started : os.Started) (H : Type) (enc : TypeId × Value → H) :
    ReturnsInHanded {} Tryz.checked os 7 .any (fun w args => (Rows.readTokensSpec.pre enc Tryz.prog Tryz.f7 [] false w args ∧ laidMetH Tryz.prog laid5 w) ∧ sizedMet enc Tryz.prog Tryz.f7 (OpenSpec.ofChange Rows.readTokensSpec) false w args) (Rows.readTokensSpec.post enc Tryz.prog Tryz.f7 false true false false) := by
  refine returnsInHanded_of_change_and (C := Tryz.checked) (X := fun w _ => laidMetH Tryz.prog laid5 w) (fun _ _ _ hh h => h.of_heap hh) own started (by kernel_rfl) Tryz.func7
    (ChangeSpec.witness_shaped (enc := enc) (C := Tryz.checked) (os := os) (X := fun w _ => laidMetH Tryz.prog laid5 w) false (World.doorLaid Tryz.prog 64 os) #[.slice none 0 0, .slice none 0 0] 8 rfl (World.shaped_of_RefB (by kernel_rfl) (by kernel_rfl)) (by kernel_rfl) (by kernel_rfl) (by kernel_rfl) (door_met os _)) ?_
  intro W base args ds gs before hval0 hW _ _ hL _
  have hval : ∀ (j : Nat) t v, Tryz.f7.params[j]? = some t → args[j]? = some v → Value.okWide Tryz.prog W .any base t v := hval0
  have hW' := hW
  obtain ⟨p, q, hA0, hV, rfl, _, _⟩ := hW
  have hA : DataW.TrodAll enc Tryz.prog W 0 (fun _ => true) true Tryz.f7.params.toList args.toList ds p := hA0
  rw [Tryz.params7] at hA hval
  obtain ⟨v0, vs0, d0, ds0, p0, q0, _, rfl, rfl, h0, r0⟩ := trodAll_cons hA
  obtain ⟨v1, vs1, d1, ds1, p1, q1, rfl, rfl, rfl, h1, r1⟩ := trodAll_cons r0
  obtain ⟨rfl, rfl, rfl⟩ := trodAll_nil r1
  obtain rfl : args = #[v0, v1] := by cases args; simp_all
  obtain ⟨rfl, rfl⟩ := trodVars_none hV
  have k0 := h0
  have lt0 : ∀ x ∈ p0, x.block < W.heap.size := by obtain ⟨m, hm⟩ := k0; exact DataW.trod_lt m _ _ _ hm
  obtain ⟨A0, n0, c0, rfl⟩ := okWide_slice Tryz.underlying37 (hval 0 37 v0 rfl rfl)
  obtain ⟨z0, raw0⟩ := open_nums h0
  have k1 := h1
  have lt1 : ∀ x ∈ p1, x.block < W.heap.size := by obtain ⟨m, hm⟩ := k1; exact DataW.trod_lt m _ _ _ hm
  obtain ⟨A1, n1, c1, rfl⟩ := okWide_slice Tryz.underlying43 (hval 1 43 v1 rfl rfl)
  obtain ⟨z1, raw1⟩ := open_flags h1
  clear hA0 hval0
  simp only [List.append_nil] at hW'
  refine (walk A0 n0 c0 z0 A1 n1 c1 z1 W (pow_of_laid hL) raw0 raw1 ).mono fun e W' ⟨he, bel⟩ => ?_
  subst he
  exact ⟨_, rfl, _, _, _, [], _, [], hW', trodAll_mk1 (shut_bool Tryz.underlying4 _), (trodAll_cons_mk (Below.trod laidOut (by kernel_rfl) (of_decide_eq_true (by kernel_rfl)) k0 bel lt0) (trodAll_cons_mk (Below.trod laidOut (by kernel_rfl) (of_decide_eq_true (by kernel_rfl)) k1 bel lt1) trodAll_mk0)), rfl, bel.frame _, fun h => by cases h⟩

theorem over : Rows.readTokensRow.holds Tryz.pinned (OpenSpec.ofChange Rows.readTokensSpec) :=
  OpenClaim.holds_of_wide 7 Tryz.f7 rfl rfl rfl rfl rfl rfl rfl ⟨rfl, rfl, rfl, rfl, rfl⟩ rfl rfl rfl rfl rfl (by kernel_rfl) Tryz.func7 (by kernel_rfl)
    (of_decide_eq_true (by kernel_rfl)) (by unfold Func.isWrapper; first | (rw [if_pos (by decide +kernel)]; kernel_rfl) | (rw [if_neg (by decide +kernel)]; exact ⟨rfl, rfl⟩))
    (fun os started H enc _ => lifted os started H enc)

theorem card : Claim7.holds Tryz.pinned (.plain (OpenSpec.ofChange Rows.readTokensSpec)) Rows.readTokensCard :=
  Claim7.holds_tied_plain_at .later [] [.data, .data, .data, .sentinel, .sentinel] true (true, "a34ec45f1bf4a802a45acaf3f737525841640676f706a3d95b9ddd94c0393142") true
    over (fun _ h => by cases h) (by kernel_rfl) (fun _ h => by cases h) readTokens_row_tie rfl ⟨rfl, rfl⟩ (by kernel_rfl) rfl
    (fun f fn hf hfn => by
      obtain rfl : f = 7 := Option.some.inj ((show Tryz.prog.funcNamed "donatus/donatuslaw6.ReadTokens" = some 7 by kernel_rfl).symm.trans hf) |>.symm
      obtain rfl : fn = Tryz.f7 := (Option.some.inj (Tryz.func7.symm.trans hfn)).symm
      exact ⟨by kernel_rfl, fun j t ht => by
        rw [Tryz.params7] at ht
        have hm : t ∈ [37, 43] := by simpa using Array.mem_of_getElem? ht
        have hall : ([37, 43].all fun u => !Tryz.prog.wantsStandIn u) = true := by kernel_rfl
        exact (show Tryz.prog.wantsStandIn t = false by simpa using List.all_eq_true.1 hall t hm)⟩)
    (by kernel_rfl)

end Go.Proofs.YtkaojokhdleeiaaGreatDoor.Tokens
namespace Go.Proofs.YtkaojokhdleeiaaGreatDoor
theorem readTokens_holds : Rows.ReadTokensCardSaid := Tokens.card
#print axioms readTokens_holds
end Go.Proofs.YtkaojokhdleeiaaGreatDoor
