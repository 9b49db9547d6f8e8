/-
  ReadRules: for every rows of numbers, the rules that they choose, written as alternatives or one by one, are read as the same grammar (the call returns true), under no condition but the tied tables and sentinels.
-/
import Derived.Test.YtkaojokhdleeiaaGreatDoorOwn12
import Derived.ChangeSlices
import Derived.Deep.Matrix
import Derived.Test.YtkaojokhdleeiaaGreatDoorCards
import Derived.Test.YtkaojokhdleeiaaGreatDoorTie
import Derived.OpenShut
import Derived.ShutString
import Derived.ChangeOld
import Derived.Below
import Derived.SevenTiedAt
/-
  Numbers that came in.
-/
namespace Go.Proofs.YtkaojokhdleeiaaGreatDoor
open Go.RowKit

set_option maxRecDepth 20000

/-- Numbers that a slice shows. -/
structure RawI (w : World) (ao : Option Addr) (n cap : Nat) (zs : List Int) : Prop where
  le : n ≤ cap ∧ cap ≤ 9223372036854775807
  get : ∀ i, i < n → ∃ b o, ao = some ⟨b, o, none⟩ ∧ w.cell? ⟨b, o + i, none⟩ = some (.int .i64 (zs.getD i 0))

theorem RawI.below {w w' : World} {ao : Option Addr} {n cap : Nat} {zs : List Int} (h : RawI w ao n cap zs) (hb : Below w.heap.size w w') : RawI w' ao n cap zs :=
  ⟨h.le, fun i hi => by obtain ⟨b, o, e, c⟩ := h.get i hi; exact ⟨b, o, e, cell_below hb c⟩⟩

theorem open_nums {H : Type} {enc : TypeId × Value → H} {W : World} {ao : Option Addr} {n cap : Nat} {d : DataW H} {ps : List MemPlace} (h : DataW.Trod enc Tryz.prog W 0 (fun _ => true) true 37 (.slice ao n cap) d ps) : ∃ zs, RawI W ao n cap zs := by
  obtain ⟨fuel, hf⟩ := h
  rcases ChangeShapes.open_ints Tryz.underlying37 Tryz.underlying3 (by kernel_rfl) hf with ⟨hcs, _⟩ | ⟨x, l, c, zs, hcs, _, hl, hm, hz, _, hcell, hwz⟩
  · simp [Value.cells] at hcs
    obtain ⟨rfl, rfl, rfl⟩ := hcs
    exact ⟨[], ⟨Nat.le_refl _, by omega⟩, fun i hi => absurd hi (Nat.not_lt_zero _)⟩
  · simp [Value.cells] at hcs
    obtain ⟨rfl, rfl, rfl⟩ := hcs
    have hz' : zs.length = cap := by simpa using hz
    refine ⟨zs, ⟨hl, by unfold maxLen at hm; omega⟩, fun i hi => ?_⟩
    have hc := hcell i (by omega)
    have h0 := hcell 0 (by omega)
    obtain ⟨b, off, spot⟩ := x
    have hspot : spot = none := by simpa [Addr.add] using World.cell?_spot h0
    subst hspot
    rw [Addr.add_lit] at hc
    exact ⟨b, off, rfl, hc⟩

/-- A number's rest by m, from nought on. -/
theorem rem_range (z : Int) (m : Int) (hm : 0 < m) : -m < z.tmod m ∧ z.tmod m < m := by
  refine ⟨?_, Int.tmod_lt_of_pos z hm⟩
  have h := Int.tmod_lt_of_pos (-z) hm
  rw [Int.neg_tmod] at h
  omega

end Go.Proofs.YtkaojokhdleeiaaGreatDoor

/-
  Texts that are laid together out of words: their scan. Plain mathematics.
-/
namespace Go.Proofs.YtkaojokhdleeiaaGreatDoor
open Go.RowKit

theorem bt_app (p r : List UInt8) (j : Nat) : bt (p ++ r) (p.length + j) = bt r j := by
  unfold bt
  rw [List.getElem?_append_right (Nat.le_add_right _ _), Nat.add_sub_cancel_left]

theorem bt_app0 (p r : List UInt8) : bt (p ++ r) p.length = bt r 0 := bt_app p r 0

theorem runEnd_app (q : Int → Bool) (p r : List UInt8) (j : Nat) : runEnd q (p ++ r) (p.length + j) = p.length + runEnd q r j := by
  unfold runEnd
  rw [List.drop_append, Nat.add_sub_cancel_left, List.drop_eq_nil_of_le (Nat.le_add_right _ _), List.nil_append]
  omega

theorem part_app (p r : List UInt8) (i e : Nat) : part (p ++ r) (p.length + i) (p.length + e) = part r i e := by
  unfold part
  rw [List.drop_append, Nat.add_sub_cancel_left, List.drop_eq_nil_of_le (Nat.le_add_right _ _), List.nil_append]
  congr 1
  omega

theorem pre2_app (x y : Int) (p r : List UInt8) : pre2 x y (p ++ r) p.length = pre2 x y r 0 := by
  unfold pre2
  rw [bt_app0, bt_app p r 1, List.length_append]
  congr 2
  apply decide_eq_decide.2
  omega

/-- A word is told where it stands as it is told alone. -/
theorem wordP_app (p r : List UInt8) (hd : isD (bt r 0) = false) : wordP (p ++ r) p.length = ((wordP r 0).1, if (wordP r 0).1 = 0 then p.length else p.length + (wordP r 0).2) := by
  have h0 := runEnd_app isN p r 0
  have h1 := runEnd_app isN p r 1
  rw [Nat.add_zero] at h0
  unfold wordP
  rw [bt_app0]
  split
  · unfold nameP
    rw [h0]
    have e : p.length + runEnd isN r 0 - p.length = runEnd isN r 0 - 0 := by omega
    rw [e]
    split <;> simp
  · rw [hd]
    simp only [Bool.false_eq_true, if_false]
    split
    · unfold keyP
      rw [pre2_app, h1, part_app]
      split
      · simp
      · simp only [Nat.zero_add]
        split <;> simp
    · split <;> simp

/-- No name's byte comes first. -/
def NB (R : List UInt8) : Prop := ∀ c r, R = c :: r → isN (c.toNat : Int) = false

theorem runLen_app {q : Int → Bool} : ∀ {t R : List UInt8}, (∀ c ∈ t, q (c.toNat : Int) = true) → (∀ c r, R = c :: r → q (c.toNat : Int) = false) → runLen q (t ++ R) = t.length
  | [], R, _, hR => by
    cases R with
    | nil => rfl
    | cons c r =>
      rw [List.nil_append]
      unfold runLen
      rw [hR c r rfl]
      rfl
  | c :: t, R, ht, hR => by
    rw [List.cons_append]
    unfold runLen
    rw [if_pos (ht c List.mem_cons_self), runLen_app (fun x hx => ht x (List.mem_cons_of_mem _ hx)) hR]
    rfl

/-- What stands ahead of a word, its kind, its bytes. -/
structure Un where
  s : List UInt8
  k : Nat
  t : List UInt8

def Bl (s : List UInt8) : Prop := ∀ c ∈ s, isB (c.toNat : Int) = true

/-- A word as it may be laid. -/
def WW (u : Un) : Prop :=
  (u.k = 1 ∧ 1 ≤ u.t.length ∧ u.t.length ≤ 12 ∧ isL (bt u.t 0) = true ∧ ∀ c ∈ u.t, isN (c.toNat : Int) = true) ∨
  (u.k = 4 ∧ (u.t = [37, 116, 111, 107, 101, 110] ∨ u.t = [37, 108, 101, 102, 116])) ∨ (u.k = 4 ∧ u.t = [37, 37]) ∨ (u.k = 3 ∧ (u.t = [58] ∨ u.t = [124] ∨ u.t = [59]))

structure UOk (u : Un) : Prop where
  bl : Bl u.s
  ww : WW u
  fs : u.s ≠ [] ∨ isN (bt u.t 0) = false

def unB (U : List Un) : List UInt8 := U.flatMap fun u => u.s ++ u.t

theorem unB_cons (u : Un) (U : List Un) : unB (u :: U) = u.s ++ (u.t ++ unB U) := by
  unfold unB
  rw [List.flatMap_cons, List.append_assoc]

theorem unB_append (U V : List Un) : unB (U ++ V) = unB U ++ unB V := by unfold unB; rw [List.flatMap_append]

theorem isN_blank {c : Int} (h : isB c = true) : isN c = false := by
  unfold isB at h
  simp only [Bool.or_eq_true, beq_iff_eq] at h
  rcases h with (h | h) | h <;> (subst h; rfl)

theorem ww_pos {u : Un} (h : WW u) : 1 ≤ u.t.length := by
  rcases h with h | ⟨-, h | h⟩ | ⟨-, h⟩ | ⟨-, h | h | h⟩
  · exact h.2.1
  all_goals (rw [h]; decide)

theorem bt_first {u : Un} (h : WW u) (R : List UInt8) : bt (u.t ++ R) 0 = bt u.t 0 := by
  have := ww_pos h
  unfold bt
  rw [List.getElem?_append_left (by omega)]

theorem nb_units {U : List Un} {tr : List UInt8} (h : ∀ u ∈ U, UOk u) (ht : Bl tr) : NB (unB U ++ tr) := by
  cases U with
  | nil =>
    intro c r e
    exact isN_blank (ht c (by
      have e : tr = c :: r := e
      rw [e]
      exact List.mem_cons_self))
  | cons u U =>
    have hu := h u List.mem_cons_self
    rw [unB_cons]
    intro c r e
    cases hs : u.s with
    | cons d ds =>
      rw [hs] at e
      simp only [List.cons_append, List.cons.injEq] at e
      rw [← e.1]
      exact isN_blank (hu.bl d (by rw [hs]; exact List.mem_cons_self))
    | nil =>
      rcases hu.fs with hf | hf
      · exact absurd hs hf
      · have hp := ww_pos hu.ww
        rw [hs] at e
        cases ht2 : u.t with
        | nil =>
          rw [ht2] at hp
          exact absurd hp (by decide)
        | cons d ds =>
          rw [ht2] at e hf
          simp only [List.nil_append, List.cons_append, List.cons.injEq] at e
          rw [← e.1]
          exact hf

/-- A word, told alone. -/
theorem wordP_unit {u : Un} {R : List UInt8} (h : WW u) (hR : NB R) : wordP (u.t ++ R) 0 = (u.k, u.t.length) := by
  have hb := bt_first h R
  rcases h with ⟨hk, h1, h2, h3, h4⟩ | ⟨hk, h⟩ | ⟨hk, h⟩ | ⟨hk, h⟩
  · unfold wordP
    rw [hb, if_pos h3]
    unfold nameP runEnd
    rw [List.drop_zero, runLen_app h4 (fun c r e => hR c r e), if_neg (by omega), hk, Nat.zero_add]
  · have key : ∀ k : List UInt8, keyWords.contains k = true → (bt (37 :: k) 1 == 37) = false → (∀ c ∈ k, isN (c.toNat : Int) = true) → 1 ≤ k.length → wordP ((37 :: k) ++ R) 0 = (4, (37 :: k).length) := by
      intro k hc h37 hn hl
      have e0 : bt ((37 :: k) ++ R) 0 = 37 := rfl
      have e1 : bt ((37 :: k) ++ R) 1 = bt (37 :: k) 1 := by
        unfold bt
        rw [List.getElem?_append_left (by rw [List.length_cons]; omega)]
      have hrl : runEnd isN ((37 :: k) ++ R) 1 = 1 + k.length := by
        unfold runEnd
        rw [List.cons_append, List.drop_succ_cons, List.drop_zero, runLen_app hn (fun c r e => hR c r e)]
      have hpt : part ((37 :: k) ++ R) 1 (1 + k.length) = k := by
        unfold part
        rw [List.cons_append, List.drop_succ_cons, List.drop_zero, Nat.add_sub_cancel_left, List.take_left]
      unfold wordP keyP
      rw [e0]
      have hp2 : pre2 37 37 ((37 :: k) ++ R) 0 = false := by
        unfold pre2
        rw [Nat.zero_add, e1, h37]
        simp
      rw [hp2, hrl, hpt, hc]
      rw [List.length_cons, Nat.add_comm 1]
      rfl
    rcases h with h | h
    · rw [h, hk]
      exact key [116, 111, 107, 101, 110] (by decide) (by decide) (by decide) (by decide)
    · rw [h, hk]
      exact key [108, 101, 102, 116] (by decide) (by decide) (by decide) (by decide)
  · rw [h, hk]
    have hp2 : pre2 37 37 ([37, 37] ++ R) 0 = true := by
      unfold pre2
      simp only [List.cons_append, List.nil_append, List.length_cons, Bool.and_eq_true, decide_eq_true_eq]
      exact ⟨⟨by omega, rfl⟩, rfl⟩
    have e0 : bt ([37, 37] ++ R) 0 = 37 := rfl
    unfold wordP keyP
    rw [e0, hp2]
    rfl
  · rcases h with h | h | h
    · rw [h, hk]
      have e0 : bt ([58] ++ R) 0 = 58 := rfl
      unfold wordP
      rw [e0]
      rfl
    · rw [h, hk]
      have e0 : bt ([124] ++ R) 0 = 124 := rfl
      unfold wordP
      rw [e0]
      rfl
    · rw [h, hk]
      have e0 : bt ([59] ++ R) 0 = 59 := rfl
      unfold wordP
      rw [e0]
      rfl

theorem ww_first {u : Un} (h : WW u) : isD (bt u.t 0) = false ∧ isB (bt u.t 0) = false ∧ bt u.t 0 ≠ 47 ∧ u.k ≠ 0 := by
  rcases h with ⟨hk, h1, h2, h3, h4⟩ | ⟨hk, h | h⟩ | ⟨hk, h⟩ | ⟨hk, h | h | h⟩
  · unfold isL at h3
    unfold isD isB
    simp only [Bool.or_eq_true, Bool.and_eq_true, decide_eq_true_eq, beq_iff_eq] at h3
    refine ⟨?_, ?_, ?_, by omega⟩
    · rw [Bool.and_eq_false_iff, decide_eq_false_iff_not, decide_eq_false_iff_not]
      omega
    · simp only [Bool.or_eq_false_iff, beq_eq_false_iff_ne]
      omega
    · omega
  all_goals (rw [h]; exact ⟨rfl, rfl, by decide, by omega⟩)

theorem skipF_units {R : List UInt8} : ∀ (s : List UInt8) (p : List UInt8) (f : Nat), Bl s → s.length ≤ f → (R = [] ∨ (isB (bt R 0) = false ∧ bt R 0 ≠ 47)) → skipF f (p ++ (s ++ R)) p.length = p.length + s.length
  | [], p, f, _, _, hR => by
    rw [List.nil_append, List.length_nil, Nat.add_zero]
    rcases hR with rfl | ⟨h1, h2⟩
    · rw [List.append_nil]
      exact skip_out (Nat.le_refl _)
    · refine skip_word (by rw [bt_app0]; exact h1) ?_
      rw [pre2_app]
      unfold pre2
      have : (bt R 0 == 47) = false := by simpa using h2
      rw [this]
      simp
  | c :: s, p, f, hb, hf, hR => by
    rw [List.length_cons] at hf
    obtain ⟨f, rfl⟩ : ∃ g, f = g + 1 := ⟨f - 1, by omega⟩
    have hc : bt (p ++ (c :: s ++ R)) p.length = (c.toNat : Int) := by rw [bt_app0]; rfl
    rw [skip_blank (by rw [List.length_append, List.length_append, List.length_cons]; omega) (by rw [hc]; exact hb c List.mem_cons_self)]
    have e : p ++ (c :: s ++ R) = (p ++ [c]) ++ (s ++ R) := by simp
    have e2 : p.length + 1 = (p ++ [c]).length := by simp
    rw [e, e2, skipF_units s (p ++ [c]) f (fun x hx => hb x (List.mem_cons_of_mem _ hx)) (by omega) hR]
    simp
    omega

/-- Where words stand. -/
def posU : Nat → List Un → List (Nat × Nat × Nat)
  | _, [] => []
  | p, u :: U => (u.k, p + u.s.length, p + u.s.length + u.t.length) :: posU (p + u.s.length + u.t.length) U

theorem scan_units {tr : List UInt8} (htr : Bl tr) : ∀ (U : List Un) (p : List UInt8) (a : List (Nat × Nat × Nat)) (f : Nat), (∀ u ∈ U, UOk u) → U.length < f → scanF f (p ++ (unB U ++ tr)) (skip (p ++ (unB U ++ tr)) p.length) a = (a ++ posU p.length U ++ [(5, (p ++ (unB U ++ tr)).length, (p ++ (unB U ++ tr)).length)], -1)
  | [], p, a, f, _, hf => by
    obtain ⟨f, rfl⟩ : ∃ g, f = g + 1 := ⟨f - 1, by omega⟩
    have e : unB [] ++ tr = tr ++ [] := by simp [unB]
    have h1 : skip (p ++ (tr ++ [])) p.length = p.length + tr.length := skipF_units tr p _ htr (by simp; omega) (.inl rfl)
    rw [e, h1, scan_out (by simp)]
    simp [posU]
  | u :: U, p, a, f, hU, hf => by
    rw [List.length_cons] at hf
    obtain ⟨f, rfl⟩ : ∃ g, f = g + 1 := ⟨f - 1, by omega⟩
    have hu := hU u List.mem_cons_self
    have hU2 : ∀ v ∈ U, UOk v := fun v hv => hU v (List.mem_cons_of_mem _ hv)
    have hnb : NB (unB U ++ tr) := nb_units hU2 htr
    have hw := wordP_unit hu.ww hnb
    obtain ⟨hd, hbk, h47, hk0⟩ := ww_first hu.ww
    have hbt := bt_first hu.ww (unB U ++ tr)
    have hpos := ww_pos hu.ww
    have e : p ++ (unB (u :: U) ++ tr) = p ++ (u.s ++ (u.t ++ (unB U ++ tr))) := by rw [unB_cons]; simp
    have e2 : p ++ (u.s ++ (u.t ++ (unB U ++ tr))) = (p ++ u.s) ++ (u.t ++ (unB U ++ tr)) := by simp
    have e3 : p ++ (u.s ++ (u.t ++ (unB U ++ tr))) = (p ++ u.s ++ u.t) ++ (unB U ++ tr) := by simp
    have hsk : skip (p ++ (u.s ++ (u.t ++ (unB U ++ tr)))) p.length = p.length + u.s.length := skipF_units u.s p _ hu.bl (by simp; omega) (.inr ⟨by rw [hbt]; exact hbk, by rw [hbt]; exact h47⟩)
    have hwp : wordP (p ++ (u.s ++ (u.t ++ (unB U ++ tr)))) (p.length + u.s.length) = (u.k, p.length + u.s.length + u.t.length) := by
      have h1 := wordP_app (p ++ u.s) (u.t ++ (unB U ++ tr)) (by rw [hbt]; exact hd)
      rw [hw] at h1
      simp only [if_neg hk0] at h1
      rw [e2]
      have e4 : p.length + u.s.length = (p ++ u.s).length := by rw [List.length_append]
      rw [e4]
      exact h1
    have hlt : p.length + u.s.length < (p ++ (u.s ++ (u.t ++ (unB U ++ tr)))).length := by
      simp only [List.length_append]
      omega
    rw [e, hsk, scan_next hlt (by rw [hwp]; exact hk0), hwp]
    have ih := scan_units htr U (p ++ u.s ++ u.t) (a ++ [(u.k, p.length + u.s.length, p.length + u.s.length + u.t.length)]) f hU2 (by omega)
    have e5 : (p ++ u.s ++ u.t).length = p.length + u.s.length + u.t.length := by simp only [List.length_append]
    rw [e5] at ih
    rw [e3]
    rw [ih]
    simp [posU]

theorem unB_len {U : List Un} (h : ∀ u ∈ U, UOk u) : U.length ≤ (unB U).length := by
  induction U with
  | nil => exact Nat.zero_le _
  | cons u U ih =>
    have h1 := ih (fun v hv => h v (List.mem_cons_of_mem _ hv))
    have h2 := ww_pos (h u List.mem_cons_self).ww
    rw [unB_cons, List.length_append, List.length_append, List.length_cons]
    omega

/-- The words as the reader takes them. -/
def uw : Nat → List Un → List Wd
  | _, [] => []
  | p, u :: U => ⟨(u.k : Int), ⟨u.t.toArray⟩, ((p + u.s.length : Nat) : Int)⟩ :: uw (p + u.s.length + u.t.length) U

theorem posU_words {s : ByteArray} : ∀ (U : List Un) (p r : List UInt8), by8 s = p ++ (unB U ++ r) → (posU p.length U).map (wdOf s) = uw p.length U
  | [], p, r, _ => rfl
  | u :: U, p, r, h => by
    unfold posU uw
    rw [List.map_cons]
    have e : p ++ (unB (u :: U) ++ r) = (p ++ u.s ++ u.t) ++ (unB U ++ r) := by rw [unB_cons]; simp
    have e5 : (p ++ u.s ++ u.t).length = p.length + u.s.length + u.t.length := by simp only [List.length_append]
    have ih := posU_words U (p ++ u.s ++ u.t) r (by rw [h, e])
    rw [e5] at ih
    rw [ih]
    congr 1
    unfold wdOf
    simp only
    congr 1
    apply by8_inj
    rw [by8_extract, h, e]
    show part _ _ _ = u.t
    have e6 : (p ++ u.s ++ u.t) ++ (unB U ++ r) = (p ++ u.s) ++ (u.t ++ (unB U ++ r)) := by simp
    have e7 : p.length + u.s.length = (p ++ u.s).length + 0 := by simp
    have e8 : p.length + u.s.length + u.t.length = (p ++ u.s).length + u.t.length := by simp
    rw [e6, e8, e7, part_app]
    unfold part
    rw [List.drop_zero, Nat.sub_zero, List.take_left]

/-- A text out of words: it has no fault, and these are its words. -/
theorem words_units {s : ByteArray} {U : List Un} {tr : List UInt8} (h : by8 s = unB U ++ tr) (hU : ∀ u ∈ U, UOk u) (htr : Bl tr) : (scan (by8 s)).2 = -1 ∧ wordsOf s = uw 0 U ++ [endW (s.size : Int)] := by
  have hl := unB_len hU
  have hlen : (by8 s).length = (unB U).length + tr.length := by rw [h, List.length_append]
  have e := scan_units htr U [] [] ((by8 s).length + 1) hU (by omega)
  simp only [List.nil_append, List.length_nil] at e
  rw [← h] at e
  have e2 : scan (by8 s) = scanF ((by8 s).length + 1) (by8 s) (skip (by8 s) 0) [] := rfl
  rw [← e2] at e
  refine ⟨by rw [e], ?_⟩
  unfold wordsOf
  rw [e, List.map_append]
  have e3 := posU_words (s := s) U [] tr (by rw [List.nil_append]; exact h)
  rw [List.length_nil] at e3
  rw [e3]
  congr 1
  show [wdOf s (5, (by8 s).length, (by8 s).length)] = [endW _]
  unfold wdOf endW
  simp only
  rw [by8_length, extract_end]
  rfl

end Go.Proofs.YtkaojokhdleeiaaGreatDoor

/-
  Texts that are laid together, as the reader takes them. Plain mathematics.
-/
namespace Go.Proofs.YtkaojokhdleeiaaGreatDoor
open Go.RowKit

/-- A word's kind and its bytes. -/
abbrev KT := Nat × List UInt8
def ba (t : List UInt8) : ByteArray := ⟨t.toArray⟩

/-- A text of such words; blanks may stand behind them. -/
def TX (a : ByteArray) (L : List KT) : Prop := ∃ U pend, by8 a = unB U ++ pend ∧ Bl pend ∧ (∀ u ∈ U, UOk u) ∧ U.map (fun u => (u.k, u.t)) = L

theorem bl_append {a b : List UInt8} (ha : Bl a) (hb : Bl b) : Bl (a ++ b) := fun c hc => by
  rcases List.mem_append.1 hc with h | h
  · exact ha c h
  · exact hb c h

theorem TX.add {a v : ByteArray} {L : List KT} (h : TX a L) (V : List Un) (tr : List UInt8) (hv : by8 v = unB V ++ tr) (htr : Bl tr) (hV : ∀ u ∈ V, UOk u) : TX (a ++ v) (L ++ V.map (fun u => (u.k, u.t))) := by
  obtain ⟨U, pend, h1, h2, h3, h4⟩ := h
  cases V with
  | nil =>
    refine ⟨U, pend ++ tr, ?_, bl_append h2 htr, h3, by simpa using h4⟩
    rw [by8_append, h1, hv]
    simp [unB]
  | cons u V =>
    have hu := hV u List.mem_cons_self
    refine ⟨U ++ (⟨pend ++ u.s, u.k, u.t⟩ :: V), tr, ?_, htr, fun x hx => ?_, ?_⟩
    · rw [by8_append, h1, hv, unB_append, unB_cons, unB_cons]
      simp
    · rcases List.mem_append.1 hx with hx | hx
      · exact h3 x hx
      · rcases List.mem_cons.1 hx with rfl | hx
        · refine ⟨bl_append h2 hu.bl, hu.ww, ?_⟩
          rcases hu.fs with hf | hf
          · exact .inl (fun e => hf (List.append_eq_nil_iff.1 e).2)
          · exact .inr hf
        · exact hV x (List.mem_cons_of_mem _ hx)
    · rw [List.map_append, h4]
      rfl

/-- Words of these kinds and texts, then the end. -/
def WSeq (ws : List Wd) (L : List KT) : Prop := ws.map (fun w => (w.k, w.t)) = L.map (fun p => ((p.1 : Int), ba p.2)) ++ [((5 : Int), (⟨#[]⟩ : ByteArray))]

theorem uw_map : ∀ (U : List Un) (p : Nat), (uw p U).map (fun w => (w.k, w.t)) = (U.map (fun u => (u.k, u.t))).map (fun p => ((p.1 : Int), ba p.2))
  | [], _ => rfl
  | u :: U, p => by
    unfold uw
    rw [List.map_cons, uw_map U]
    rfl

theorem TX.words {s : ByteArray} {L : List KT} (h : TX s L) : (scan (by8 s)).2 = -1 ∧ WSeq (wordsOf s) L := by
  obtain ⟨U, pend, h1, h2, h3, h4⟩ := h
  obtain ⟨e1, e2⟩ := words_units h1 h3 h2
  refine ⟨e1, ?_⟩
  unfold WSeq
  rw [e2, List.map_append, uw_map, h4]
  rfl

theorem WSeq.cons {ws : List Wd} {k : Nat} {t : List UInt8} {L : List KT} (h : WSeq ws ((k, t) :: L)) : (headW ws).k = (k : Int) ∧ (headW ws).t = ba t ∧ WSeq ws.tail L ∧ ws.length = L.length + 2 := by
  unfold WSeq at h
  cases ws with
  | nil => simp at h
  | cons w r =>
    simp only [List.map_cons, List.cons_append, List.cons.injEq, Prod.mk.injEq] at h
    refine ⟨h.1.1, h.1.2, h.2, ?_⟩
    have := congrArg List.length h.2
    simp only [List.length_map, List.length_append, List.length_cons, List.length_nil] at this
    rw [List.length_cons]
    omega

theorem WSeq.nil {ws : List Wd} (h : WSeq ws []) : (headW ws).k = 5 ∧ (headW ws).t = ⟨#[]⟩ ∧ ws.length = 1 := by
  unfold WSeq at h
  cases ws with
  | nil => simp at h
  | cons w r =>
    simp only [List.map_cons, List.map_nil, List.nil_append, List.cons.injEq, Prod.mk.injEq] at h
    have := congrArg List.length h.2
    simp only [List.length_map, List.length_nil] at this
    exact ⟨h.1.1, h.1.2, by rw [List.length_cons, this]⟩

def setW (S : St) (ws : List Wd) : St := ⟨ws, S.ts, S.ls, S.lv, S.st, S.ed, S.ex, S.rs⟩
def nmK (x : List (List UInt8)) : List KT := x.map fun t => (1, t)

theorem symP_seq : ∀ (x : List (List UInt8)) (k : Nat) (t : List UInt8) (L : List KT) (f : Nat) (l : List ByteArray) (S : St), WSeq S.ws (nmK x ++ (k, t) :: L) → k ≠ 1 → l.length + x.length ≤ 20 → x.length < f → ∃ ws', symP f l S = .ok (l ++ x.map ba, setW S ws') ∧ WSeq ws' ((k, t) :: L)
  | [], k, t, L, f, l, S, h, hk, hl, hf => by
    obtain ⟨f, rfl⟩ : ∃ g, f = g + 1 := ⟨f - 1, by rw [List.length_nil] at hf; omega⟩
    have h1 := h.cons
    refine ⟨S.ws, ?_, h⟩
    unfold symP
    rw [if_neg (show ¬ S.hd.k = 1 by unfold St.hd; rw [h1.1]; omega)]
    simp [setW]
  | y :: x, k, t, L, f, l, S, h, hk, hl, hf => by
    rw [List.length_cons] at hl hf
    obtain ⟨f, rfl⟩ : ∃ g, f = g + 1 := ⟨f - 1, by omega⟩
    have h0 : WSeq S.ws ((1, y) :: (nmK x ++ (k, t) :: L)) := h
    have h1 := h0.cons
    have hd : S.hd.k = 1 := h1.1
    have ht : S.hd.t = ba y := h1.2.1
    obtain ⟨ws', e, hw⟩ := symP_seq x k t L f (l ++ [ba y]) S.next h1.2.2.1 hk (by rw [List.length_append]; simp only [List.length_cons, List.length_nil]; omega) (by omega)
    refine ⟨ws', ?_, hw⟩
    unfold symP
    rw [if_pos hd, if_neg (by omega), ht, e]
    simp [setW, St.next]

theorem altP_seq (left : ByteArray) (x : List (List UInt8)) (c : List UInt8) (L : List KT) (S : St) (h : WSeq S.ws (nmK x ++ (3, c) :: L)) (hx : x.length ≤ 20) (hn : S.rs.length < 100) (hc : ba c ≠ tPrec) :
    ∃ ws', altP left S = .ok (ruleAdd (setW S ws') ⟨left, x.map ba, ⟨#[]⟩⟩) ∧ WSeq ws' ((3, c) :: L) := by
  have hlen : x.length < S.ws.length := by
    have := congrArg List.length h
    unfold nmK at this
    simp only [List.length_map, List.length_append, List.length_cons, List.length_nil] at this
    omega
  obtain ⟨ws', e, hw⟩ := symP_seq x 3 c L S.ws.length [] S h (by decide) (by rw [List.length_nil]; omega) hlen
  refine ⟨ws', ?_, hw⟩
  have h1 := hw.cons
  unfold altP
  rw [if_neg (by omega), e]
  simp only
  rw [if_neg (show ¬ (setW S ws').hd.t = tPrec by unfold St.hd setW; simp only; rw [h1.2.1]; exact hc)]
  simp

/-- Alternatives behind the first one. -/
def altT (r : List (List (List UInt8))) : List KT := r.flatMap fun x => (3, [124]) :: nmK x

def mkR (left : ByteArray) (x : List (List UInt8)) : Ru := ⟨left, x.map ba, ⟨#[]⟩⟩
def addR (S : St) (l : List Ru) (ws : List Wd) : St := ⟨ws, S.ts, S.ls, S.lv, S.st, S.ed, S.ex, S.rs ++ l⟩

theorem ba_semi : ba [59] = tSemi := rfl
theorem ba_bar : ba [124] = tBar := rfl
theorem ba_col : ba [58] = tCol := rfl

theorem altsP_seq (left : ByteArray) : ∀ (r : List (List (List UInt8))) (x : List (List UInt8)) (L : List KT) (f : Nat) (S : St), WSeq S.ws (nmK x ++ (altT r ++ (3, [59]) :: L)) → (∀ y ∈ x :: r, y.length ≤ 20) → S.rs.length + 1 + r.length ≤ 100 → r.length < f →
    ∃ ws', altsP left f S = .ok (addR S ((x :: r).map (mkR left)) ws') ∧ WSeq ws' L
  | [], x, L, f, S, h, hx, hn, hf => by
    obtain ⟨f, rfl⟩ : ∃ g, f = g + 1 := ⟨f - 1, by rw [List.length_nil] at hf; omega⟩
    obtain ⟨ws', e, hw⟩ := altP_seq left x [59] L S h (hx x List.mem_cons_self) (by rw [List.length_nil] at hn; omega) (by rw [ba_semi]; exact fun e => absurd (congrArg ByteArray.size e) (by decide))
    have h1 := hw.cons
    refine ⟨ws'.tail, ?_, h1.2.2.1⟩
    unfold altsP
    rw [e]
    simp only
    rw [if_pos (show (ruleAdd (setW S ws') ⟨left, x.map ba, ⟨#[]⟩⟩).hd.t = tSemi from h1.2.1)]
    rfl
  | y :: r, x, L, f, S, h, hx, hn, hf => by
    rw [List.length_cons] at hn hf
    obtain ⟨f, rfl⟩ : ∃ g, f = g + 1 := ⟨f - 1, by omega⟩
    have h0 : WSeq S.ws (nmK x ++ (3, [124]) :: (nmK y ++ (altT r ++ (3, [59]) :: L))) := by
      have e : altT (y :: r) = (3, [124]) :: nmK y ++ altT r := rfl
      rw [e] at h
      simpa using h
    obtain ⟨ws', e, hw⟩ := altP_seq left x [124] _ S h0 (hx x List.mem_cons_self) (by omega) (by rw [ba_bar]; exact fun e => absurd (congrArg ByteArray.size e) (by decide))
    have h1 := hw.cons
    have hb : (ruleAdd (setW S ws') ⟨left, x.map ba, ⟨#[]⟩⟩).hd.t = tBar := h1.2.1
    obtain ⟨ws2, e2, hw2⟩ := altsP_seq left r y L f (ruleAdd (setW S ws') ⟨left, x.map ba, ⟨#[]⟩⟩).next h1.2.2.1 (fun z hz => hx z (List.mem_cons_of_mem _ hz)) (by
      show (S.rs ++ [_]).length + 1 + r.length ≤ 100
      rw [List.length_append]
      simp only [List.length_cons, List.length_nil]
      omega) (by omega)
    refine ⟨ws2, ?_, hw2⟩
    unfold altsP
    rw [e]
    simp only
    rw [if_neg (by rw [hb]; exact fun e => absurd (congrArg by8 e) (by decide)), if_pos hb, e2]
    unfold addR ruleAdd St.next setW mkR
    simp

theorem altT_len : ∀ r : List (List (List UInt8)), r.length ≤ (altT r).length
  | [] => Nat.le_refl _
  | y :: r => by
    have := altT_len r
    have e : altT (y :: r) = (3, [124]) :: nmK y ++ altT r := rfl
    rw [e, List.length_append, List.length_cons, List.length_cons]
    omega

theorem ruleRd_seq (left : List UInt8) (x : List (List UInt8)) (r : List (List (List UInt8))) (L : List KT) (S : St) (h : WSeq S.ws ((1, left) :: (3, [58]) :: (nmK x ++ (altT r ++ (3, [59]) :: L)))) (hx : ∀ y ∈ x :: r, y.length ≤ 20) (hn : S.rs.length + 1 + r.length ≤ 100) :
    ∃ ws', ruleRd S = .ok (addR S ((x :: r).map (mkR (ba left))) ws') ∧ WSeq ws' L := by
  have h1 := h.cons
  have h2 := h1.2.2.1.cons
  have hk : S.hd.k = 1 := h1.1
  have hc : S.next.hd.t = tCol := h2.2.1
  have hlen : r.length < S.next.ws.length := by
    have := congrArg List.length h1.2.2.1
    have e := altT_len r
    simp only [List.length_map, List.length_append, List.length_cons, List.length_nil] at this
    show r.length < S.ws.tail.length
    omega
  obtain ⟨ws', e, hw⟩ := altsP_seq (ba left) r x L S.next.ws.length S.next.next h2.2.2.1 hx hn hlen
  refine ⟨ws', ?_, hw⟩
  unfold ruleRd takeP
  rw [if_pos hk]
  simp only
  rw [if_pos hc]
  have ht : S.hd.t = ba left := h1.2.1
  rw [ht, e]
  rfl

/-- Rules one by one. -/
def oneT (left : List UInt8) (r : List (List (List UInt8))) : List KT := r.flatMap fun x => [(1, left), (3, [58])] ++ nmK x ++ [(3, [59])]

theorem rulesP_seq (left : List UInt8) : ∀ (r : List (List (List UInt8))) (f : Nat) (S : St), WSeq S.ws (oneT left r) → (∀ y ∈ r, y.length ≤ 20) → S.rs.length + r.length ≤ 100 → r.length < f →
    ∃ ws', rulesP f S = .ok (addR S (r.map (mkR (ba left))) ws')
  | [], f, S, h, _, _, hf => by
    obtain ⟨f, rfl⟩ : ∃ g, f = g + 1 := ⟨f - 1, by rw [List.length_nil] at hf; omega⟩
    refine ⟨S.ws, ?_⟩
    rw [rulesP_end (show S.hd.k = 5 from (WSeq.nil h).1)]
    simp [addR]
  | x :: r, f, S, h, hx, hn, hf => by
    rw [List.length_cons] at hn hf
    obtain ⟨f, rfl⟩ : ∃ g, f = g + 1 := ⟨f - 1, by omega⟩
    have h0 : WSeq S.ws ((1, left) :: (3, [58]) :: (nmK x ++ (altT [] ++ (3, [59]) :: oneT left r))) := by
      have e : oneT left (x :: r) = [(1, left), (3, [58])] ++ nmK x ++ [(3, [59])] ++ oneT left r := rfl
      rw [e] at h
      simpa [altT] using h
    obtain ⟨ws', e, hw⟩ := ruleRd_seq left x [] (oneT left r) S h0 (fun y hy => hx y (by
      rw [List.mem_singleton] at hy
      subst hy
      exact List.mem_cons_self)) (by rw [List.length_nil]; omega)
    obtain ⟨ws2, e2⟩ := rulesP_seq left r f (addR S ([x].map (mkR (ba left))) ws') hw (fun y hy => hx y (List.mem_cons_of_mem _ hy)) (by
      show (S.rs ++ [_]).length + r.length ≤ 100
      rw [List.length_append]
      simp only [List.length_cons, List.length_nil]
      omega) (by omega)
    refine ⟨ws2, ?_⟩
    have hk : S.hd.k ≠ 5 := by
      have := h0.cons.1
      show (headW S.ws).k ≠ 5
      rw [this]
      decide
    rw [rulesP_more hk, e]
    simp only
    rw [e2]
    unfold addR
    simp

theorem listP_new {w : Wd} {S : St} (h1 : findN S.ts w.t = none) (h2 : S.ts.length < 40) (h3 : S.ls.length = S.ts.length) : listP w S = .ok ⟨S.ws, S.ts ++ [⟨w.t, 0, 0⟩], S.ls ++ [true], S.lv, S.st, S.ed, S.ex, S.rs⟩ := by
  unfold listP tokP
  rw [h1]
  simp only
  rw [if_neg (by omega)]
  simp only
  rw [← h3, List.getElem?_append_right (Nat.le_refl _), Nat.sub_self]
  simp

def headK : List KT := [(4, [37, 116, 111, 107, 101, 110]), (1, [65]), (1, [66]), (4, [37, 37])]

/-- %token A B %% -/
theorem head_seq {ws : List Wd} {L : List KT} (h : WSeq ws (headK ++ L)) : ∃ ws', partsP ws.length (st0 ws) = .ok ⟨ws', [⟨ba [65], 0, 0⟩, ⟨ba [66], 0, 0⟩], [true, true], 0, ⟨#[]⟩, false, 0, []⟩ ∧ WSeq ws' L := by
  have h1 := h.cons
  have h2 := h1.2.2.1.cons
  have h3 := h2.2.2.1.cons
  have h4 := h3.2.2.1.cons
  obtain ⟨n, hn⟩ : ∃ n, ws.length = n + 3 := ⟨ws.length - 3, by have e := h4.2.2.2; simp only [List.length_tail] at e; omega⟩
  refine ⟨ws.tail.tail.tail.tail, ?_, h4.2.2.1⟩
  have hA : findN ([] : List Tk) (ba [65]) = none := rfl
  have hAB : findN [⟨ba [65], 0, 0⟩] (ba [66]) = none := by
    unfold findN findN
    rw [if_neg (fun e => absurd (congrArg by8 e) (by decide))]
    rfl
  have q1 : takeP 1 (st0 ws).next = .ok (headW ws.tail, (st0 ws).next.next) := by
    unfold takeP
    rw [if_pos (show (st0 ws).next.hd.k = 1 from h2.1)]
    rfl
  have q2 : listP (headW ws.tail) (st0 ws).next.next = .ok ⟨ws.tail.tail, [⟨ba [65], 0, 0⟩], [true], 0, ⟨#[]⟩, false, 0, []⟩ := by
    rw [listP_new (by rw [h2.2.1]; exact hA) (by show (0 : Nat) < 40; decide) rfl, h2.2.1]
    rfl
  have q3 : takeP 1 ⟨ws.tail.tail, [⟨ba [65], 0, 0⟩], [true], 0, ⟨#[]⟩, false, 0, []⟩ = .ok (headW ws.tail.tail, ⟨ws.tail.tail.tail, [⟨ba [65], 0, 0⟩], [true], 0, ⟨#[]⟩, false, 0, []⟩) := by
    unfold takeP
    rw [if_pos (show (St.mk ws.tail.tail [⟨ba [65], 0, 0⟩] [true] 0 ⟨#[]⟩ false 0 []).hd.k = 1 from h3.1)]
    rfl
  have q4 : listP (headW ws.tail.tail) ⟨ws.tail.tail.tail, [⟨ba [65], 0, 0⟩], [true], 0, ⟨#[]⟩, false, 0, []⟩ = .ok ⟨ws.tail.tail.tail, [⟨ba [65], 0, 0⟩, ⟨ba [66], 0, 0⟩], [true, true], 0, ⟨#[]⟩, false, 0, []⟩ := by
    rw [listP_new (by rw [h3.2.1]; exact hAB) (by show (1 : Nat) < 40; decide) rfl, h3.2.1]
    rfl
  have q5 : namesP listP (n + 3) (st0 ws).next = .ok ⟨ws.tail.tail.tail, [⟨ba [65], 0, 0⟩, ⟨ba [66], 0, 0⟩], [true, true], 0, ⟨#[]⟩, false, 0, []⟩ := by
    unfold namesP
    rw [q1]
    simp only
    rw [q2]
    simp only
    rw [if_pos (show (St.mk ws.tail.tail [⟨ba [65], 0, 0⟩] [true] 0 ⟨#[]⟩ false 0 []).hd.k = 1 from h3.1)]
    unfold namesP
    rw [q3]
    simp only
    rw [q4]
    simp only
    rw [if_neg (show ¬ (St.mk ws.tail.tail.tail [⟨ba [65], 0, 0⟩, ⟨ba [66], 0, 0⟩] [true, true] 0 ⟨#[]⟩ false 0 []).hd.k = 1 from fun e => by
      have e2 : (headW ws.tail.tail.tail).k = 1 := e
      rw [h4.1] at e2
      exact absurd e2 (by decide))]
  have q6 : partP (st0 ws) = .ok ⟨ws.tail.tail.tail, [⟨ba [65], 0, 0⟩, ⟨ba [66], 0, 0⟩], [true, true], 0, ⟨#[]⟩, false, 0, []⟩ := by
    unfold partP
    rw [if_pos (show (st0 ws).hd.t = tTok from h1.2.1)]
    show namesP listP ws.length _ = _
    rw [hn, q5]
  rw [hn]
  unfold partsP
  rw [if_neg (show ¬ (st0 ws).hd.t = tTwo from fun e => by
    have e2 : (headW ws).t = tTwo := e
    rw [h1.2.1] at e2
    exact absurd (congrArg by8 e2) (by decide)), q6]
  simp only
  unfold partsP
  rw [if_pos (show (St.mk ws.tail.tail.tail [⟨ba [65], 0, 0⟩, ⟨ba [66], 0, 0⟩] [true, true] 0 ⟨#[]⟩ false 0 []).hd.t = tTwo from h4.2.1)]
  rfl

def ruG (r : List (List (List UInt8))) : Gm := ⟨[⟨ba [65], 0, 0⟩, ⟨ba [66], 0, 0⟩], ⟨#[]⟩, 0, r.map (mkR (ba [115]))⟩

theorem readS_of {s : ByteArray} {S : St} (hs : s.size ≤ 2000) (hf : (scan (by8 s)).2 = -1) (h : readP (st0 (wordsOf s)) = .ok S) : readS s = .ok S := by
  unfold readS
  rw [if_neg (by omega), if_pos (by rw [hf]; decide), h]

/-- Rules of one Left as alternatives. -/
theorem rules_alt {s : ByteArray} {x : List (List UInt8)} {r : List (List (List UInt8))} (h : TX s (headK ++ ((1, [115]) :: (3, [58]) :: (nmK x ++ (altT r ++ [(3, [59])]))))) (hs : s.size ≤ 2000) (hx : ∀ y ∈ x :: r, y.length ≤ 20) (hn : 1 + r.length ≤ 100) : ∃ S, readS s = .ok S ∧ gmOf S = ruG (x :: r) := by
  obtain ⟨hf, hw⟩ := h.words
  obtain ⟨ws', e1, hw1⟩ := head_seq hw
  obtain ⟨ws2, e2, hw2⟩ := ruleRd_seq [115] x r [] ⟨ws', [⟨ba [65], 0, 0⟩, ⟨ba [66], 0, 0⟩], [true, true], 0, ⟨#[]⟩, false, 0, []⟩ hw1 hx (by simpa using hn)
  have hlen := hw1.cons.2.2.2
  obtain ⟨m, hm⟩ : ∃ m, ws'.length = m + 2 := ⟨ws'.length - 2, by omega⟩
  refine ⟨addR ⟨ws', [⟨ba [65], 0, 0⟩, ⟨ba [66], 0, 0⟩], [true, true], 0, ⟨#[]⟩, false, 0, []⟩ ((x :: r).map (mkR (ba [115]))) ws2, readS_of hs hf ?_, ?_⟩
  · rw [readP_eq]
    show thenRules (partsP (wordsOf s).length (st0 (wordsOf s))) = _
    rw [e1]
    show rulesP ws'.length _ = _
    rw [hm, rulesP_more (show (St.mk ws' [⟨ba [65], 0, 0⟩, ⟨ba [66], 0, 0⟩] [true, true] 0 ⟨#[]⟩ false 0 []).hd.k ≠ 5 from fun e => by
      have e3 : (headW ws').k = 5 := e
      rw [hw1.cons.1] at e3
      exact absurd e3 (by decide)), e2]
    simp only
    exact rulesP_end (show (headW ws2).k = 5 from hw2.nil.1)
  · rfl

/-- Rules of one Left one by one. -/
theorem rules_one {s : ByteArray} {r : List (List (List UInt8))} (h : TX s (headK ++ oneT [115] r)) (hs : s.size ≤ 2000) (hx : ∀ y ∈ r, y.length ≤ 20) (hn : r.length ≤ 100) : ∃ S, readS s = .ok S ∧ gmOf S = ruG r := by
  obtain ⟨hf, hw⟩ := h.words
  obtain ⟨ws', e1, hw1⟩ := head_seq hw
  have hlen : r.length < ws'.length := by
    have := congrArg List.length hw1
    have e : r.length ≤ (oneT [115] r).length := by
      clear h hw e1 hw1 this hx hn
      induction r with
      | nil => exact Nat.le_refl _
      | cons y r ih =>
        have e : oneT [115] (y :: r) = [(1, [115]), (3, [58])] ++ nmK y ++ [(3, [59])] ++ oneT [115] r := rfl
        rw [e]
        simp only [List.length_append, List.length_cons]
        omega
    simp only [List.length_map, List.length_append, List.length_cons, List.length_nil] at this
    omega
  obtain ⟨ws2, e2⟩ := rulesP_seq [115] r ws'.length ⟨ws', [⟨ba [65], 0, 0⟩, ⟨ba [66], 0, 0⟩], [true, true], 0, ⟨#[]⟩, false, 0, []⟩ hw1 hx (by simpa using hn) hlen
  refine ⟨addR ⟨ws', [⟨ba [65], 0, 0⟩, ⟨ba [66], 0, 0⟩], [true, true], 0, ⟨#[]⟩, false, 0, []⟩ (r.map (mkR (ba [115]))) ws2, readS_of hs hf ?_, ?_⟩
  · rw [readP_eq]
    show thenRules (partsP (wordsOf s).length (st0 (wordsOf s))) = _
    rw [e1]
    exact e2
  · rfl

end Go.Proofs.YtkaojokhdleeiaaGreatDoor

/-
  Rows of numbers that came in.
-/
namespace Go.Proofs.YtkaojokhdleeiaaGreatDoor
open Go.RowKit

set_option maxRecDepth 20000

/-- Rows of numbers that a slice shows. -/
structure RawM (w : World) (ao : Option Addr) (n cap : Nat) : Prop where
  le : n ≤ cap ∧ cap ≤ 9223372036854775807
  get : ∀ i, i < n → ∃ b o ai ni ci zs, ao = some ⟨b, o, none⟩ ∧ w.cell? ⟨b, o + i, none⟩ = some (.slice ai ni ci) ∧ RawI w ai ni ci zs

theorem RawM.below {w w' : World} {ao : Option Addr} {n cap : Nat} (h : RawM w ao n cap) (hb : Below w.heap.size w w') : RawM w' ao n cap :=
  ⟨h.le, fun i hi => by obtain ⟨b, o, ai, ni, ci, zs, e, c, r⟩ := h.get i hi; exact ⟨b, o, ai, ni, ci, zs, e, cell_below hb c, r.below hb⟩⟩

theorem open_rows {H : Type} {enc : TypeId × Value → H} {W : World} {ao : Option Addr} {n cap : Nat} {d : DataW H} {ps : List MemPlace} (h : DataW.Trod enc Tryz.prog W 0 (fun _ => true) true 52 (.slice ao n cap) d ps) : ∃ _ : Unit, RawM W ao n cap := by
  obtain ⟨fuel, hf⟩ := h
  rcases Deep.open_int_rows Tryz.underlying52 Tryz.underlying37 Tryz.underlying3 (by kernel_rfl) (by kernel_rfl) hf with ⟨hcs, _⟩ | ⟨x, l, c, A, L, C, Z, hcs, _, hl, hm, _, hx⟩
  · simp [Value.cells] at hcs
    obtain ⟨rfl, rfl, rfl⟩ := hcs
    exact ⟨(), ⟨Nat.le_refl _, by omega⟩, fun i hi => absurd hi (Nat.not_lt_zero _)⟩
  · simp [Value.cells] at hcs
    obtain ⟨rfl, rfl, rfl⟩ := hcs
    refine ⟨(), ⟨hl, by unfold maxLen at hm; omega⟩, fun i hi => ?_⟩
    obtain ⟨hc, hl2, hm2, hz, -, hnone, hsome⟩ := hx i (by omega)
    have h0 := (hx 0 (by omega)).1
    obtain ⟨b, off, spot⟩ := x
    have hspot : spot = none := by simpa [Addr.add] using World.cell?_spot h0
    subst hspot
    rw [Addr.add_lit] at hc
    refine ⟨b, off, A i, L i, C i, Z i, rfl, hc, ⟨hl2, by unfold maxLen at hm2; omega⟩, fun j hj => ?_⟩
    cases ha : A i with
    | none =>
      have := hnone ha
      omega
    | some a =>
      obtain ⟨-, hcell⟩ := hsome a ha
      have h1 := hcell j (by omega)
      have h2 := hcell 0 (by omega)
      obtain ⟨b2, o2, s2⟩ := a
      have hs2 : s2 = none := by simpa [Addr.add] using World.cell?_spot h2
      subst hs2
      rw [Addr.add_lit] at h1
      exact ⟨b2, o2, rfl, h1⟩

/-- The alternatives so far. -/
def aK : List (List (List UInt8)) → List KT
  | [] => [(1, [115]), (3, [58])]
  | x :: r => (1, [115]) :: (3, [58]) :: (nmK x ++ altT r)

theorem aK_first (y : List (List UInt8)) : aK [] ++ nmK y = aK [y] := by simp [aK, altT]
theorem aK_more (xs : List (List (List UInt8))) (y : List (List UInt8)) (h : xs ≠ []) : aK xs ++ [(3, [124])] ++ nmK y = aK (xs ++ [y]) := by
  cases xs with
  | nil => exact absurd rfl h
  | cons x r =>
    show (1, [115]) :: (3, [58]) :: (nmK x ++ altT r) ++ [(3, [124])] ++ nmK y = (1, [115]) :: (3, [58]) :: (nmK x ++ altT (r ++ [y]))
    unfold altT
    rw [List.flatMap_append]
    simp
theorem oneT_more (l : List UInt8) (xs : List (List (List UInt8))) (y : List (List UInt8)) : oneT l xs ++ ([(1, l), (3, [58])] ++ nmK y ++ [(3, [59])]) = oneT l (xs ++ [y]) := by
  unfold oneT
  rw [List.flatMap_append]
  simp

def xU (ys : List (List UInt8)) : List Un := ys.map fun y => ⟨[32], 1, y⟩
def SymY (y : List UInt8) : Prop := y = [65] ∨ y = [66] ∨ y = [115]

theorem bl32 : Bl [32] := fun c hc => by rw [List.mem_singleton] at hc; subst hc; rfl
theorem bl0 : Bl [] := fun c hc => by cases hc

theorem symY_ok {y : List UInt8} (h : SymY y) : UOk ⟨[32], 1, y⟩ := by
  refine ⟨bl32, .inl ?_, .inl (by simp)⟩
  rcases h with rfl | rfl | rfl <;> exact ⟨rfl, by decide, by decide, by decide, fun c hc => by rw [List.mem_singleton] at hc; subst hc; rfl⟩

theorem xU_ok {ys : List (List UInt8)} (h : ∀ y ∈ ys, SymY y) : ∀ u ∈ xU ys, UOk u := fun u hu => by
  unfold xU at hu
  obtain ⟨y, hy, rfl⟩ := List.mem_map.1 hu
  exact symY_ok (h y hy)

theorem xU_kt (ys : List (List UInt8)) : (xU ys).map (fun u => (u.k, u.t)) = nmK ys := by
  unfold xU nmK
  rw [List.map_map]
  rfl

theorem signOk {s : List UInt8} (hs : Bl s) {c : UInt8} (h : c = 58 ∨ c = 124 ∨ c = 59) : UOk ⟨s, 3, [c]⟩ := by
  refine ⟨hs, .inr (.inr (.inr ⟨rfl, ?_⟩)), .inr ?_⟩
  · rcases h with rfl | rfl | rfl <;> simp
  · rcases h with rfl | rfl | rfl <;> rfl

theorem xU_snoc (ys : List (List UInt8)) (y : List UInt8) : unB (xU (ys ++ [y])) = unB (xU ys) ++ (32 :: y) := by
  unfold xU
  rw [List.map_append, unB_append]
  simp [unB]

/-- How the two texts begin. -/
def txA : ByteArray := ⟨#[37, 116, 111, 107, 101, 110, 32, 65, 32, 66, 32, 37, 37, 32, 115, 32, 58, 32]⟩
def txB : ByteArray := ⟨#[37, 116, 111, 107, 101, 110, 32, 65, 32, 66, 32, 37, 37]⟩

def unH : List Un := [⟨[], 4, [37, 116, 111, 107, 101, 110]⟩, ⟨[32], 1, [65]⟩, ⟨[32], 1, [66]⟩, ⟨[32], 4, [37, 37]⟩]

theorem unH_ok : ∀ u ∈ unH, UOk u := fun u hu => by
  unfold unH at hu
  rcases List.mem_cons.1 hu with rfl | hu
  · exact ⟨bl0, .inr (.inl ⟨rfl, .inl rfl⟩), .inr rfl⟩
  rcases List.mem_cons.1 hu with rfl | hu
  · exact symY_ok (.inl rfl)
  rcases List.mem_cons.1 hu with rfl | hu
  · exact symY_ok (.inr (.inl rfl))
  rw [List.mem_singleton] at hu
  subst hu
  exact ⟨bl32, .inr (.inr (.inl ⟨rfl, rfl⟩)), .inl (by simp)⟩

theorem txB_tx : TX txB (headK ++ oneT [115] []) := ⟨unH, [], rfl, bl0, unH_ok, rfl⟩
theorem txA_tx : TX txA (headK ++ aK []) := by
  refine ⟨unH ++ [⟨[32], 1, [115]⟩, ⟨[32], 3, [58]⟩], [32], rfl, bl32, fun u hu => ?_, rfl⟩
  rcases List.mem_append.1 hu with hu | hu
  · exact unH_ok u hu
  · rcases List.mem_cons.1 hu with rfl | hu
    · exact symY_ok (.inr (.inr rfl))
    · rw [List.mem_singleton] at hu
      subst hu
      exact signOk bl32 (.inl rfl)

/-- One more alternative. -/
theorem tx_alt0 {a x : ByteArray} {ys : List (List UInt8)} (h : TX a (headK ++ aK [])) (hx : by8 x = unB (xU ys)) (hy : ∀ y ∈ ys, SymY y) : TX (a ++ x) (headK ++ aK [ys]) := by
  have := h.add (xU ys) [] (by rw [hx, List.append_nil]) bl0 (xU_ok hy)
  rw [xU_kt, List.append_assoc, aK_first] at this
  exact this

theorem tx_alt1 {a x : ByteArray} {xs : List (List (List UInt8))} {ys : List (List UInt8)} (h : TX a (headK ++ aK xs)) (hne : xs ≠ []) (hx : by8 x = unB (xU ys)) (hy : ∀ y ∈ ys, SymY y) : TX (a ++ ⟨#[32, 124]⟩ ++ x) (headK ++ aK (xs ++ [ys])) := by
  have h1 := h.add (v := ⟨#[32, 124]⟩) [⟨[32], 3, [124]⟩] [] rfl bl0 (fun u hu => by rw [List.mem_singleton] at hu; subst hu; exact signOk bl32 (.inr (.inl rfl)))
  have h2 := h1.add (xU ys) [] (by rw [hx, List.append_nil]) bl0 (xU_ok hy)
  rw [xU_kt] at h2
  have e : headK ++ aK xs ++ [(⟨[32], 3, [124]⟩ : Un)].map (fun u => (u.k, u.t)) ++ nmK ys = headK ++ aK (xs ++ [ys]) := by
    rw [← aK_more xs ys hne]
    simp
  rw [e] at h2
  exact h2

theorem tx_rule {b x : ByteArray} {xs : List (List (List UInt8))} {ys : List (List UInt8)} (h : TX b (headK ++ oneT [115] xs)) (hx : by8 x = unB (xU ys)) (hy : ∀ y ∈ ys, SymY y) : TX (b ++ ((⟨#[32, 115, 32, 58]⟩ ++ x) ++ ⟨#[32, 59]⟩)) (headK ++ oneT [115] (xs ++ [ys])) := by
  have h1 := h.add (v := (⟨#[32, 115, 32, 58]⟩ ++ x) ++ ⟨#[32, 59]⟩) ([⟨[32], 1, [115]⟩, ⟨[32], 3, [58]⟩] ++ xU ys ++ [⟨[32], 3, [59]⟩]) [] (by
    rw [by8_append, by8_append, hx, unB_append, unB_append]
    simp [unB, by8]) bl0 (fun u hu => by
      rcases List.mem_append.1 hu with hu | hu
      · rcases List.mem_append.1 hu with hu | hu
        · rcases List.mem_cons.1 hu with rfl | hu
          · exact symY_ok (.inr (.inr rfl))
          · rw [List.mem_singleton] at hu
            subst hu
            exact signOk bl32 (.inl rfl)
        · exact xU_ok hy u hu
      · rw [List.mem_singleton] at hu
        subst hu
        exact signOk bl32 (.inr (.inr rfl)))
  rw [List.map_append, List.map_append, xU_kt, List.append_assoc headK] at h1
  have e := oneT_more [115] xs ys
  rw [← e]
  exact h1

theorem tx_end {a : ByteArray} {xs : List (List (List UInt8))} (h : TX a (headK ++ aK xs)) : TX (a ++ ⟨#[59]⟩) (headK ++ aK xs ++ [(3, [59])]) :=
  h.add (v := ⟨#[59]⟩) [⟨[], 3, [59]⟩] [] rfl bl0 (fun u hu => by rw [List.mem_singleton] at hu; subst hu; exact signOk bl0 (.inr (.inr rfl)))

end Go.Proofs.YtkaojokhdleeiaaGreatDoor

/-
  ReadRules: whatever the input, the call returns true and leaves all that was there as it was.
-/
namespace Go.Proofs.YtkaojokhdleeiaaGreatDoor.Rules
open Go.RowKit

set_option maxRecDepth 20000

theorem sym_at {q : Nat} (h : q < 3) : ∃ p : ByteArray, (#[.string ⟨#[65]⟩, .string ⟨#[66]⟩, .string ⟨#[115]⟩] : Array Value)[q]? = some (.string p) ∧ p.size = 1 ∧ SymY (by8 p) := by
  match q, h with
  | 0, _ => exact ⟨⟨#[65]⟩, rfl, rfl, .inl rfl⟩
  | 1, _ => exact ⟨⟨#[66]⟩, rfl, rfl, .inr (.inl rfl)⟩
  | 2, _ => exact ⟨⟨#[115]⟩, rfl, rfl, .inr (.inr rfl)⟩

/-- A grammar that is read without a fault. -/
def Ok1 (G : Gm) (W : World) (e : Ending) (w' : World) : Prop := ∃ hd f1 f2, e = .returned (.tuple #[gv hd G, fv (f1, f2)]) ∧ Below W.heap.size W w' ∧ IsG w' hd G ∧ (f1 == 0) = true

theorem read_ok (s : ByteArray) (W : World) (hs : s.size ≤ 1048576) {S : St} {G : Gm} (h : readS s = .ok S) (hG : gmOf S = G) : Calls Tryz.prog 15 #[.string s] W fun e w' => Ok1 G W e w' := by
  refine (read_calls s W hs).mono ?_
  rintro e w' ⟨hb, h1⟩
  rw [h] at h1
  obtain ⟨hd, qs, he, ho⟩ := h1
  rw [hG] at he
  exact ⟨hd, 0, 0, he, hb, by rw [← hG]; exact ho.isG (readS_small h), rfl⟩

theorem both_ok {a b : ByteArray} {xs : List (List (List UInt8))} {i : Nat} (e1 : xs.length = i) (hi : 1 ≤ i) (hi10 : i ≤ 10) (e2 : ∀ y ∈ xs, y.length ≤ 5) (e3 : TX a (headK ++ aK xs)) (e4 : TX b (headK ++ oneT [115] xs)) (hsa : a.size ≤ 18 + 12 * i) (hsb : b.size ≤ 13 + 16 * i) :
    ∃ G : Gm, G.rs.length = i ∧ (∀ W : World, Calls Tryz.prog 15 #[.string (a ++ ⟨#[59]⟩)] W fun e w' => Ok1 G W e w') ∧ (∀ W : World, Calls Tryz.prog 15 #[.string b] W fun e w' => Ok1 G W e w') := by
  have hx20 : ∀ y ∈ xs, y.length ≤ 20 := fun y hy => by have := e2 y hy; omega
  have hsz : (a ++ ⟨#[59]⟩).size ≤ 200 := by
    rw [ByteArray.size_append]
    have h59 : (⟨#[59]⟩ : ByteArray).size = 1 := rfl
    omega
  obtain ⟨S2, r2, g2⟩ := rules_one e4 (by omega) hx20 (by omega)
  have h1 : ∃ S, readS (a ++ ⟨#[59]⟩) = .ok S ∧ gmOf S = ruG xs := by
    cases xs with
    | nil =>
      rw [List.length_nil] at e1
      omega
    | cons x r =>
      have h2 := tx_end e3
      have e5 : headK ++ aK (x :: r) ++ [(3, [59])] = headK ++ ((1, [115]) :: (3, [58]) :: (nmK x ++ (altT r ++ [(3, [59])]))) := by
        unfold aK
        rw [List.append_assoc, List.cons_append, List.cons_append, List.append_assoc]
      rw [e5] at h2
      rw [List.length_cons] at e1
      exact rules_alt h2 (by omega) hx20 (by omega)
  obtain ⟨S1, r1, g1⟩ := h1
  refine ⟨ruG xs, ?_, fun W => read_ok _ W (by omega) r1 g1, fun W => read_ok b W (by omega) r2 g2⟩
  unfold ruG
  rw [List.length_map]
  exact e1

set_option maxHeartbeats 8000000 in
theorem walk (ao : Option Addr) (len cap : Nat) (w : World) (hp : Pow w) (hz : RawM w ao len cap) : Calls Tryz.prog 8 #[.slice ao len cap] w fun e w' => e = .returned (.bool true) ∧ Below w.heap.size w w' := by
  have H1 : Hid (Calls Tryz.prog 9 #[] w fun e w' => e = .returned (.bool true) ∧ Below w.heap.size w w') := begun6_calls w hp
  have HZ : Hid (RawM w ao len cap) := hz
  obtain ⟨hle, hmx⟩ := hz.le
  clear hp hz
  go_enter Tryz.func8, Tryz.ntmps8
  go_wp2_with fail
  refine H1.out.mono ?_
  rintro e V ⟨rfl, hB⟩
  have HM : Hid (∃ xs : List (List (List UInt8)), xs.length = 0 ∧ (∀ y ∈ xs, y.length ≤ 5) ∧ TX txA (headK ++ aK xs) ∧ TX txB (headK ++ oneT [115] xs) ∧ Below w.heap.size w V) := ⟨[], rfl, fun y hy => (by cases hy), txA_tx, txB_tx, hB⟩
  clear hB H1
  go_wp2_with fail
  go_loopg [4, 5, 6] 10 (fun kx s4 s5 s6 wr => ∃ (i : Nat) (a b : ByteArray), s4 = .string a ∧ s5 = .string b ∧ s6 = .int .i64 i ∧ i ≤ 10 ∧ i ≤ len ∧ 10 - i ≤ kx ∧ a.size ≤ 18 + 12 * i ∧ b.size ≤ 13 + 16 * i ∧ Hid (∃ xs : List (List (List UInt8)), xs.length = i ∧ (∀ y ∈ xs, y.length ≤ 5) ∧ TX a (headK ++ aK xs) ∧ TX b (headK ++ oneT [115] xs) ∧ Below w.heap.size w wr))
  case atStart => exact ⟨0, _, _, rfl, rfl, rfl, Nat.zero_le _, Nat.zero_le _, by omega, by decide, by decide, HM⟩
  case round =>
    obtain ⟨i, a, b, rfl, rfl, rfl, hi10, hilen, hg, hsa, hsb, J0⟩ := hrel
    clear HM
    by_cases hlt : i < len
    · have hlt' : (i : Int) < (len : Int) := by omega
      by_cases h10 : i < 10
      · have h10' : (i : Int) < 10 := by omega
        have HO : Hid (∃ xs : List (List (List UInt8)), xs.length = i ∧ (∀ y ∈ xs, y.length ≤ 5) ∧ TX a (headK ++ aK xs) ∧ TX b (headK ++ oneT [115] xs) ∧ Below w.heap.size w wr) := J0
        have HBr : Hid (Below w.heap.size w wr) := by obtain ⟨xs, -, -, -, -, h⟩ := J0.out; exact h
        obtain ⟨rb, ro, ai, ni, ci, zs, rfl, crow, hrow⟩ := HZ.out.get i hlt
        obtain ⟨hnl, hnm⟩ := hrow.le
        have HRW : Hid (w.cell? ⟨rb, ro + i, none⟩ = some (.slice ai ni ci) ∧ RawI w ai ni ci zs) := ⟨crow, hrow⟩
        have HX0 : Hid (∃ ys : List (List UInt8), ys.length = 0 ∧ by8 (⟨#[]⟩ : ByteArray) = unB (xU ys) ∧ (∀ y ∈ ys, SymY y) ∧ Below w.heap.size w wr) := ⟨[], rfl, rfl, fun y hy => (by cases hy), HBr.out⟩
        clear crow hrow J0 HBr
        go_wp2_with fail
        go_loopg [7, 8] 5 (fun kx s7 s8 wr => ∃ (k : Nat) (x : ByteArray), s7 = .string x ∧ s8 = .int .i64 k ∧ k ≤ 5 ∧ 5 - k ≤ kx ∧ x.size = 2 * k ∧ Hid (∃ ys : List (List UInt8), ys.length = k ∧ by8 x = unB (xU ys) ∧ (∀ y ∈ ys, SymY y) ∧ Below w.heap.size w wr))
        case atStart => exact ⟨0, ⟨#[]⟩, rfl, rfl, Nat.zero_le _, by omega, rfl, HX0⟩
        case round =>
          obtain ⟨k, x, rfl, rfl, hk5, hg2, hxs, J⟩ := hrel
          clear HX0
          have HBr : Hid (Below w.heap.size w wr) := by obtain ⟨ys, -, -, -, h⟩ := J.out; exact h
          have crow := cell_below HBr.out HRW.out.1
          by_cases hkn : k < ni
          · have hkn' : (k : Int) < (ni : Int) := by omega
            by_cases hk : k < 5
            · have hk' : (k : Int) < 5 := by omega
              obtain ⟨zb, zo, rfl, cz⟩ := (HRW.out.2.below HBr.out).get k hkn
              generalize zs.getD k 0 = z at cz
              have hr := rem_range z 3 (by decide)
              obtain ⟨r, hr0⟩ : ∃ r, z.tmod 3 = r := ⟨_, rfl⟩
              rw [hr0] at hr
              have hr2 := rem_range (r + 3) 3 (by decide)
              have hr3 : 0 ≤ (r + 3).tmod 3 := Int.tmod_nonneg _ (by omega)
              obtain ⟨q, hq⟩ : ∃ q : Nat, (r + 3).tmod 3 = (q : Int) := ⟨((r + 3).tmod 3).toNat, by omega⟩
              have hq3 : q < 3 := by omega
              have hq3' : (q : Int) < 3 := by omega
              obtain ⟨hr4, hr5⟩ := hr
              clear hr2 hr3
              obtain ⟨p, hp, hps, hpy⟩ := sym_at hq3
              have cp : (wr.alloc (.cells #[.string ⟨#[65]⟩, .string ⟨#[66]⟩, .string ⟨#[115]⟩] 9)).cell? ⟨wr.heap.size, q, none⟩ = some (.string p) := by rw [World.cell?_alloc_mark]; exact hp
              have crow' := cell_alloc crow (.cells #[.string ⟨#[65]⟩, .string ⟨#[66]⟩, .string ⟨#[115]⟩] 9)
              have cz' := cell_alloc cz (.cells #[.string ⟨#[65]⟩, .string ⟨#[66]⟩, .string ⟨#[115]⟩] 9)
              have HN : Hid (∃ ys : List (List UInt8), ys.length = k + 1 ∧ by8 (x ++ (⟨#[32]⟩ ++ p)) = unB (xU ys) ∧ (∀ y ∈ ys, SymY y) ∧ Below w.heap.size w (wr.alloc (.cells #[.string ⟨#[65]⟩, .string ⟨#[66]⟩, .string ⟨#[115]⟩] 9))) := by
                obtain ⟨ys, f1, f2, f3, f4⟩ := J.out
                refine ⟨ys ++ [by8 p], by rw [List.length_append, List.length_singleton, f1], ?_, fun y hy => ?_, below_step f4 (below_alloc _ _)⟩
                · rw [xU_snoc, by8_append, by8_append, f2]
                  rfl
                · rcases List.mem_append.1 hy with hy | hy
                  · exact f3 y hy
                  · rw [List.mem_singleton] at hy
                    subst hy
                    exact hpy
              have hxs2 : (x ++ (⟨#[32]⟩ ++ p)).size = 2 * (k + 1) := by
                rw [ByteArray.size_append, ByteArray.size_append, hps, hxs]
                have d1 : (⟨#[32]⟩ : ByteArray).size = 1 := rfl
                omega
              clear J hp hpy HBr
              go_wp2_with fail
              go_roundg (5 - (k + 1))
              case measure => omega
              case rel => exact ⟨k + 1, _, rfl, by simp, by omega, Nat.le_refl _, hxs2, HN⟩
            · have hk' : ¬ (k : Int) < 5 := by omega
              have hxz : x.size = 2 * k := hxs
              by_cases hi0 : i = 0
              · have crow0 : wr.cell? ⟨rb, ro, none⟩ = some (.slice ai ni ci) := by have := crow; rwa [hi0, Nat.add_zero] at this
                have HN : Hid (∃ xs : List (List (List UInt8)), xs.length = i + 1 ∧ (∀ y ∈ xs, y.length ≤ 5) ∧ TX (a ++ x) (headK ++ aK xs) ∧ TX (b ++ ((⟨#[32, 115, 32, 58]⟩ ++ x) ++ ⟨#[32, 59]⟩)) (headK ++ oneT [115] xs) ∧ Below w.heap.size w wr) := by
                  obtain ⟨xs, e1, e2, e3, e4, -⟩ := HO.out
                  obtain ⟨ys, f1, f2, f3, f4⟩ := J.out
                  have e0 : xs = [] := List.eq_nil_of_length_eq_zero (by omega)
                  subst e0
                  refine ⟨[ys], by rw [List.length_singleton]; omega, fun y hy => ?_, tx_alt0 e3 f2 f3, tx_rule e4 f2 f3, f4⟩
                  rw [List.mem_singleton] at hy
                  subst hy
                  omega
                have hz1 : (a ++ x).size ≤ 18 + 12 * (i + 1) := by rw [ByteArray.size_append]; omega
                have hz2 : (b ++ ((⟨#[32, 115, 32, 58]⟩ ++ x) ++ ⟨#[32, 59]⟩)).size ≤ 13 + 16 * (i + 1) := by
                  rw [ByteArray.size_append, ByteArray.size_append, ByteArray.size_append]
                  have d1 : (⟨#[32, 115, 32, 58]⟩ : ByteArray).size = 4 := rfl
                  have d2 : (⟨#[32, 59]⟩ : ByteArray).size = 2 := rfl
                  omega
                clear J HO crow
                subst hi0
                go_wp2_with fail
                go_roundg (10 - (0 + 1))
                case measure => omega
                case rel => exact ⟨0 + 1, _, _, rfl, rfl, by simp, by omega, by omega, Nat.le_refl _, hz1, hz2, HN⟩
              · have hi0' : (i : Int) > 0 := by omega
                have HN : Hid (∃ xs : List (List (List UInt8)), xs.length = i + 1 ∧ (∀ y ∈ xs, y.length ≤ 5) ∧ TX (a ++ ⟨#[32, 124]⟩ ++ x) (headK ++ aK xs) ∧ TX (b ++ ((⟨#[32, 115, 32, 58]⟩ ++ x) ++ ⟨#[32, 59]⟩)) (headK ++ oneT [115] xs) ∧ Below w.heap.size w wr) := by
                  obtain ⟨xs, e1, e2, e3, e4, -⟩ := HO.out
                  obtain ⟨ys, f1, f2, f3, f4⟩ := J.out
                  refine ⟨xs ++ [ys], by rw [List.length_append, List.length_singleton]; omega, fun y hy => ?_, tx_alt1 e3 (fun e0 => by rw [e0, List.length_nil] at e1; omega) f2 f3, tx_rule e4 f2 f3, f4⟩
                  rcases List.mem_append.1 hy with hy | hy
                  · exact e2 y hy
                  · rw [List.mem_singleton] at hy
                    subst hy
                    omega
                have hz1 : (a ++ ⟨#[32, 124]⟩ ++ x).size ≤ 18 + 12 * (i + 1) := by
                  rw [ByteArray.size_append, ByteArray.size_append]
                  have d2 : (⟨#[32, 124]⟩ : ByteArray).size = 2 := rfl
                  omega
                have hz2 : (b ++ ((⟨#[32, 115, 32, 58]⟩ ++ x) ++ ⟨#[32, 59]⟩)).size ≤ 13 + 16 * (i + 1) := by
                  rw [ByteArray.size_append, ByteArray.size_append, ByteArray.size_append]
                  have d1 : (⟨#[32, 115, 32, 58]⟩ : ByteArray).size = 4 := rfl
                  have d2 : (⟨#[32, 59]⟩ : ByteArray).size = 2 := rfl
                  omega
                clear J HO
                go_wp2_with fail
                go_roundg (10 - (i + 1))
                case measure => omega
                case rel => exact ⟨i + 1, _, _, rfl, rfl, by simp, by omega, by omega, Nat.le_refl _, hz1, hz2, HN⟩
          · have hkn' : ¬ (k : Int) < (ni : Int) := by omega
            have hxz : x.size = 2 * k := hxs
            by_cases hi0 : i = 0
            · have crow0 : wr.cell? ⟨rb, ro, none⟩ = some (.slice ai ni ci) := by have := crow; rwa [hi0, Nat.add_zero] at this
              have HN : Hid (∃ xs : List (List (List UInt8)), xs.length = i + 1 ∧ (∀ y ∈ xs, y.length ≤ 5) ∧ TX (a ++ x) (headK ++ aK xs) ∧ TX (b ++ ((⟨#[32, 115, 32, 58]⟩ ++ x) ++ ⟨#[32, 59]⟩)) (headK ++ oneT [115] xs) ∧ Below w.heap.size w wr) := by
                obtain ⟨xs, e1, e2, e3, e4, -⟩ := HO.out
                obtain ⟨ys, f1, f2, f3, f4⟩ := J.out
                have e0 : xs = [] := List.eq_nil_of_length_eq_zero (by omega)
                subst e0
                refine ⟨[ys], by rw [List.length_singleton]; omega, fun y hy => ?_, tx_alt0 e3 f2 f3, tx_rule e4 f2 f3, f4⟩
                rw [List.mem_singleton] at hy
                subst hy
                omega
              have hz1 : (a ++ x).size ≤ 18 + 12 * (i + 1) := by rw [ByteArray.size_append]; omega
              have hz2 : (b ++ ((⟨#[32, 115, 32, 58]⟩ ++ x) ++ ⟨#[32, 59]⟩)).size ≤ 13 + 16 * (i + 1) := by
                rw [ByteArray.size_append, ByteArray.size_append, ByteArray.size_append]
                have d1 : (⟨#[32, 115, 32, 58]⟩ : ByteArray).size = 4 := rfl
                have d2 : (⟨#[32, 59]⟩ : ByteArray).size = 2 := rfl
                omega
              clear J HO crow
              subst hi0
              go_wp2_with fail
              go_roundg (10 - (0 + 1))
              case measure => omega
              case rel => exact ⟨0 + 1, _, _, rfl, rfl, by simp, by omega, by omega, Nat.le_refl _, hz1, hz2, HN⟩
            · have hi0' : (i : Int) > 0 := by omega
              have HN : Hid (∃ xs : List (List (List UInt8)), xs.length = i + 1 ∧ (∀ y ∈ xs, y.length ≤ 5) ∧ TX (a ++ ⟨#[32, 124]⟩ ++ x) (headK ++ aK xs) ∧ TX (b ++ ((⟨#[32, 115, 32, 58]⟩ ++ x) ++ ⟨#[32, 59]⟩)) (headK ++ oneT [115] xs) ∧ Below w.heap.size w wr) := by
                obtain ⟨xs, e1, e2, e3, e4, -⟩ := HO.out
                obtain ⟨ys, f1, f2, f3, f4⟩ := J.out
                refine ⟨xs ++ [ys], by rw [List.length_append, List.length_singleton]; omega, fun y hy => ?_, tx_alt1 e3 (fun e0 => by rw [e0, List.length_nil] at e1; omega) f2 f3, tx_rule e4 f2 f3, f4⟩
                rcases List.mem_append.1 hy with hy | hy
                · exact e2 y hy
                · rw [List.mem_singleton] at hy
                  subst hy
                  omega
              have hz1 : (a ++ ⟨#[32, 124]⟩ ++ x).size ≤ 18 + 12 * (i + 1) := by
                rw [ByteArray.size_append, ByteArray.size_append]
                have d2 : (⟨#[32, 124]⟩ : ByteArray).size = 2 := rfl
                omega
              have hz2 : (b ++ ((⟨#[32, 115, 32, 58]⟩ ++ x) ++ ⟨#[32, 59]⟩)).size ≤ 13 + 16 * (i + 1) := by
                rw [ByteArray.size_append, ByteArray.size_append, ByteArray.size_append]
                have d1 : (⟨#[32, 115, 32, 58]⟩ : ByteArray).size = 4 := rfl
                have d2 : (⟨#[32, 59]⟩ : ByteArray).size = 2 := rfl
                omega
              clear J HO
              go_wp2_with fail
              go_roundg (10 - (i + 1))
              case measure => omega
              case rel => exact ⟨i + 1, _, _, rfl, rfl, by simp, by omega, by omega, Nat.le_refl _, hz1, hz2, HN⟩
      · have h10' : ¬ (i : Int) < 10 := by omega
        have hi1 : 1 ≤ i := by omega
        obtain ⟨xs, e1, e2, e3, e4, hBw⟩ := J0.out
        obtain ⟨G, hGl, hA, hBB⟩ := both_ok e1 hi1 hi10 e2 e3 e4 hsa hsb
        have HA : Hid (∀ W : World, Calls Tryz.prog 15 #[.string (a ++ ⟨#[59]⟩)] W fun e w' => Ok1 G W e w') := hA
        have HBB : Hid (∀ W : World, Calls Tryz.prog 15 #[.string b] W fun e w' => Ok1 G W e w') := hBB
        have HBW : Hid (Below w.heap.size w wr) := hBw
        clear e1 e2 e3 e4 hBw hA hBB J0 HZ
        obtain ⟨n1, hn1⟩ : ∃ n1, G.rs.length = n1 := ⟨_, rfl⟩
        rw [hn1] at hGl
        have HN1 : Hid (G.rs.length = n1) := hn1
        have hlen0 : ((len : Int) == 0) = false := by simp; omega
        have hmin : min (len : Int) 10 = (n1 : Int) := by omega
        clear hn1 hGl
        go_wp2_with fail
        refine (HA.out _).mono ?_
        rintro e V1 ⟨h1, f1, f2, rfl, hB1, hI1, hf1⟩
        have HV1 : Hid (Below wr.heap.size wr V1 ∧ IsG V1 h1 G) := ⟨hB1, hI1⟩
        have eg : gv h1 G = .agg #[.slice h1.ta G.ts.length h1.tc, .string G.s, .int .i64 G.e, .slice h1.ra n1 h1.rc] := by unfold gv; rw [HN1.out]
        have ef : fv (f1, f2) = .agg #[.int .i64 f1, .int .i64 f2] := rfl
        rw [eg, ef]
        have hBa : Below V1.heap.size V1 ((V1.alloc (.cells #[.slice h1.ta G.ts.length h1.tc, .string G.s, .int .i64 G.e, .slice h1.ra n1 h1.rc] 28)).alloc (.cells #[.int .i64 f1, .int .i64 f2] 46)) := below_step (below_alloc _ _) (below_alloc _ _)
        have hba1 : ((V1.alloc (.cells #[.slice h1.ta G.ts.length h1.tc, .string G.s, .int .i64 G.e, .slice h1.ra n1 h1.rc] 28)).alloc (.cells #[.int .i64 f1, .int .i64 f2] 46)).heap[V1.heap.size]? = some (.cells #[.slice h1.ta G.ts.length h1.tc, .string G.s, .int .i64 G.e, .slice h1.ra n1 h1.rc] 28 (0, 0)) := block_below (below_alloc _ _) (heap_alloc_new _ _)
        have hba2 : ((V1.alloc (.cells #[.slice h1.ta G.ts.length h1.tc, .string G.s, .int .i64 G.e, .slice h1.ra n1 h1.rc] 28)).alloc (.cells #[.int .i64 f1, .int .i64 f2] 46)).heap[V1.heap.size + 1]? = some (.cells #[.int .i64 f1, .int .i64 f2] 46 (0, 0)) := by
          have := heap_alloc_new (V1.alloc (.cells #[.slice h1.ta G.ts.length h1.tc, .string G.s, .int .i64 G.e, .slice h1.ra n1 h1.rc] 28)) (.cells #[.int .i64 f1, .int .i64 f2] 46)
          rwa [size_alloc1] at this
        go_upto_region 20 with fail
        obtain ⟨pa, hpa⟩ : ∃ pa, pa = V1.heap.size := ⟨_, rfl⟩
        rw [← hpa] at hba1 hba2 ⊢
        generalize (V1.alloc (.cells #[.slice h1.ta G.ts.length h1.tc, .string G.s, .int .i64 G.e, .slice h1.ra n1 h1.rc] 28)).alloc (.cells #[.int .i64 f1, .int .i64 f2] 46) = V2 at *
        have HV2 : Hid (Below V1.heap.size V1 V2 ∧ V2.heap[pa]? = some (.cells #[.slice h1.ta G.ts.length h1.tc, .string G.s, .int .i64 G.e, .slice h1.ra n1 h1.rc] 28 (0, 0)) ∧ V2.heap[pa + 1]? = some (.cells #[.int .i64 f1, .int .i64 f2] 46 (0, 0))) := ⟨hBa, hba1, hba2⟩
        clear hB1 hI1 hBa hba1 hba2 hpa eg ef
        go_wp2_with fail
        refine (HBB.out _).mono ?_
        rintro e X1 ⟨h2, k1, k2, rfl, hB1, hI1, hk1⟩
        have HX1 : Hid (Below V2.heap.size V2 X1 ∧ IsG X1 h2 G) := ⟨hB1, hI1⟩
        have eg : gv h2 G = .agg #[.slice h2.ta G.ts.length h2.tc, .string G.s, .int .i64 G.e, .slice h2.ra n1 h2.rc] := by unfold gv; rw [HN1.out]
        have ef : fv (k1, k2) = .agg #[.int .i64 k1, .int .i64 k2] := rfl
        rw [eg, ef]
        have hBa : Below X1.heap.size X1 ((X1.alloc (.cells #[.slice h2.ta G.ts.length h2.tc, .string G.s, .int .i64 G.e, .slice h2.ra n1 h2.rc] 28)).alloc (.cells #[.int .i64 k1, .int .i64 k2] 46)) := below_step (below_alloc _ _) (below_alloc _ _)
        have hba1 : ((X1.alloc (.cells #[.slice h2.ta G.ts.length h2.tc, .string G.s, .int .i64 G.e, .slice h2.ra n1 h2.rc] 28)).alloc (.cells #[.int .i64 k1, .int .i64 k2] 46)).heap[X1.heap.size]? = some (.cells #[.slice h2.ta G.ts.length h2.tc, .string G.s, .int .i64 G.e, .slice h2.ra n1 h2.rc] 28 (0, 0)) := block_below (below_alloc _ _) (heap_alloc_new _ _)
        have hba2 : ((X1.alloc (.cells #[.slice h2.ta G.ts.length h2.tc, .string G.s, .int .i64 G.e, .slice h2.ra n1 h2.rc] 28)).alloc (.cells #[.int .i64 k1, .int .i64 k2] 46)).heap[X1.heap.size + 1]? = some (.cells #[.int .i64 k1, .int .i64 k2] 46 (0, 0)) := by
          have := heap_alloc_new (X1.alloc (.cells #[.slice h2.ta G.ts.length h2.tc, .string G.s, .int .i64 G.e, .slice h2.ra n1 h2.rc] 28)) (.cells #[.int .i64 k1, .int .i64 k2] 46)
          rwa [size_alloc1] at this
        go_upto_region 21 with fail
        obtain ⟨pc, hpc⟩ : ∃ pc, pc = X1.heap.size := ⟨_, rfl⟩
        rw [← hpc] at hba1 hba2 ⊢
        generalize (X1.alloc (.cells #[.slice h2.ta G.ts.length h2.tc, .string G.s, .int .i64 G.e, .slice h2.ra n1 h2.rc] 28)).alloc (.cells #[.int .i64 k1, .int .i64 k2] 46) = Y at *
        have hVY : Below V2.heap.size V2 Y := below_step HX1.out.1 hBa
        obtain ⟨a0, a1, a2, a3, -, -, -, -⟩ := box_cells (block_below hVY HV2.out.2.1)
        obtain ⟨a4, a5, -, -⟩ := box46 (block_below hVY HV2.out.2.2)
        obtain ⟨c0, c1, c2, c3, -, -, -, -⟩ := box_cells hba1
        obtain ⟨c4, c5, -, -⟩ := box46 hba2
        have HE : Hid (Calls Tryz.prog 16 #[.agg #[.slice h1.ta G.ts.length h1.tc, .string G.s, .int .i64 G.e, .slice h1.ra n1 h1.rc], .agg #[.slice h2.ta G.ts.length h2.tc, .string G.s, .int .i64 G.e, .slice h2.ra n1 h2.rc]] Y fun e w' => e = .returned (.bool true) ∧ Below Y.heap.size Y w') := by
          have := req_calls G G h1 h2 Y true (HV1.out.2.below (below_step HV2.out.1 hVY)) (HX1.out.2.below hBa) ⟨fun _ => rfl, fun _ => rfl⟩
          rw [eg] at this
          have eg1 : gv h1 G = .agg #[.slice h1.ta G.ts.length h1.tc, .string G.s, .int .i64 G.e, .slice h1.ra n1 h1.rc] := by unfold gv; rw [HN1.out]
          rw [eg1] at this
          exact this
        have HBY : Hid (Below w.heap.size w Y) := below_step HBW.out (below_step HV1.out.1 (below_step HV2.out.1 hVY))
        clear hB1 hI1 hBa hba1 hba2 hpc eg ef hVY
        go_wp2_with fail
        refine HE.out.mono ?_
        rintro e Z ⟨rfl, hB⟩
        have HZZ : Hid (Below w.heap.size w Z) := below_step HBY.out hB
        have a3' := cell_below hB a3
        clear hB
        go_wp2_with fail
        go_ret
        exact ⟨rfl, HZZ.out⟩
    · have hlt' : ¬ (i : Int) < (len : Int) := by omega
      by_cases hl0 : len = 0
      · have hlen0 : ((len : Int) == 0) = true := by simp [hl0]
        have HBW : Hid (Below w.heap.size w wr) := by obtain ⟨xs, -, -, -, -, h⟩ := J0.out; exact h
        clear hl0 J0
        go_wp2_with fail
        go_ret
        exact ⟨rfl, HBW.out⟩
      · have hi1 : 1 ≤ i := by omega
        obtain ⟨xs, e1, e2, e3, e4, hBw⟩ := J0.out
        obtain ⟨G, hGl, hA, hBB⟩ := both_ok e1 hi1 hi10 e2 e3 e4 hsa hsb
        have HA : Hid (∀ W : World, Calls Tryz.prog 15 #[.string (a ++ ⟨#[59]⟩)] W fun e w' => Ok1 G W e w') := hA
        have HBB : Hid (∀ W : World, Calls Tryz.prog 15 #[.string b] W fun e w' => Ok1 G W e w') := hBB
        have HBW : Hid (Below w.heap.size w wr) := hBw
        clear e1 e2 e3 e4 hBw hA hBB J0 HZ
        obtain ⟨n1, hn1⟩ : ∃ n1, G.rs.length = n1 := ⟨_, rfl⟩
        rw [hn1] at hGl
        have HN1 : Hid (G.rs.length = n1) := hn1
        have hlen0 : ((len : Int) == 0) = false := by simp; omega
        have hmin : min (len : Int) 10 = (n1 : Int) := by omega
        clear hn1 hGl
        go_wp2_with fail
        refine (HA.out _).mono ?_
        rintro e V1 ⟨h1, f1, f2, rfl, hB1, hI1, hf1⟩
        have HV1 : Hid (Below wr.heap.size wr V1 ∧ IsG V1 h1 G) := ⟨hB1, hI1⟩
        have eg : gv h1 G = .agg #[.slice h1.ta G.ts.length h1.tc, .string G.s, .int .i64 G.e, .slice h1.ra n1 h1.rc] := by unfold gv; rw [HN1.out]
        have ef : fv (f1, f2) = .agg #[.int .i64 f1, .int .i64 f2] := rfl
        rw [eg, ef]
        have hBa : Below V1.heap.size V1 ((V1.alloc (.cells #[.slice h1.ta G.ts.length h1.tc, .string G.s, .int .i64 G.e, .slice h1.ra n1 h1.rc] 28)).alloc (.cells #[.int .i64 f1, .int .i64 f2] 46)) := below_step (below_alloc _ _) (below_alloc _ _)
        have hba1 : ((V1.alloc (.cells #[.slice h1.ta G.ts.length h1.tc, .string G.s, .int .i64 G.e, .slice h1.ra n1 h1.rc] 28)).alloc (.cells #[.int .i64 f1, .int .i64 f2] 46)).heap[V1.heap.size]? = some (.cells #[.slice h1.ta G.ts.length h1.tc, .string G.s, .int .i64 G.e, .slice h1.ra n1 h1.rc] 28 (0, 0)) := block_below (below_alloc _ _) (heap_alloc_new _ _)
        have hba2 : ((V1.alloc (.cells #[.slice h1.ta G.ts.length h1.tc, .string G.s, .int .i64 G.e, .slice h1.ra n1 h1.rc] 28)).alloc (.cells #[.int .i64 f1, .int .i64 f2] 46)).heap[V1.heap.size + 1]? = some (.cells #[.int .i64 f1, .int .i64 f2] 46 (0, 0)) := by
          have := heap_alloc_new (V1.alloc (.cells #[.slice h1.ta G.ts.length h1.tc, .string G.s, .int .i64 G.e, .slice h1.ra n1 h1.rc] 28)) (.cells #[.int .i64 f1, .int .i64 f2] 46)
          rwa [size_alloc1] at this
        go_upto_region 20 with fail
        obtain ⟨pa, hpa⟩ : ∃ pa, pa = V1.heap.size := ⟨_, rfl⟩
        rw [← hpa] at hba1 hba2 ⊢
        generalize (V1.alloc (.cells #[.slice h1.ta G.ts.length h1.tc, .string G.s, .int .i64 G.e, .slice h1.ra n1 h1.rc] 28)).alloc (.cells #[.int .i64 f1, .int .i64 f2] 46) = V2 at *
        have HV2 : Hid (Below V1.heap.size V1 V2 ∧ V2.heap[pa]? = some (.cells #[.slice h1.ta G.ts.length h1.tc, .string G.s, .int .i64 G.e, .slice h1.ra n1 h1.rc] 28 (0, 0)) ∧ V2.heap[pa + 1]? = some (.cells #[.int .i64 f1, .int .i64 f2] 46 (0, 0))) := ⟨hBa, hba1, hba2⟩
        clear hB1 hI1 hBa hba1 hba2 hpa eg ef
        go_wp2_with fail
        refine (HBB.out _).mono ?_
        rintro e X1 ⟨h2, k1, k2, rfl, hB1, hI1, hk1⟩
        have HX1 : Hid (Below V2.heap.size V2 X1 ∧ IsG X1 h2 G) := ⟨hB1, hI1⟩
        have eg : gv h2 G = .agg #[.slice h2.ta G.ts.length h2.tc, .string G.s, .int .i64 G.e, .slice h2.ra n1 h2.rc] := by unfold gv; rw [HN1.out]
        have ef : fv (k1, k2) = .agg #[.int .i64 k1, .int .i64 k2] := rfl
        rw [eg, ef]
        have hBa : Below X1.heap.size X1 ((X1.alloc (.cells #[.slice h2.ta G.ts.length h2.tc, .string G.s, .int .i64 G.e, .slice h2.ra n1 h2.rc] 28)).alloc (.cells #[.int .i64 k1, .int .i64 k2] 46)) := below_step (below_alloc _ _) (below_alloc _ _)
        have hba1 : ((X1.alloc (.cells #[.slice h2.ta G.ts.length h2.tc, .string G.s, .int .i64 G.e, .slice h2.ra n1 h2.rc] 28)).alloc (.cells #[.int .i64 k1, .int .i64 k2] 46)).heap[X1.heap.size]? = some (.cells #[.slice h2.ta G.ts.length h2.tc, .string G.s, .int .i64 G.e, .slice h2.ra n1 h2.rc] 28 (0, 0)) := block_below (below_alloc _ _) (heap_alloc_new _ _)
        have hba2 : ((X1.alloc (.cells #[.slice h2.ta G.ts.length h2.tc, .string G.s, .int .i64 G.e, .slice h2.ra n1 h2.rc] 28)).alloc (.cells #[.int .i64 k1, .int .i64 k2] 46)).heap[X1.heap.size + 1]? = some (.cells #[.int .i64 k1, .int .i64 k2] 46 (0, 0)) := by
          have := heap_alloc_new (X1.alloc (.cells #[.slice h2.ta G.ts.length h2.tc, .string G.s, .int .i64 G.e, .slice h2.ra n1 h2.rc] 28)) (.cells #[.int .i64 k1, .int .i64 k2] 46)
          rwa [size_alloc1] at this
        go_upto_region 21 with fail
        obtain ⟨pc, hpc⟩ : ∃ pc, pc = X1.heap.size := ⟨_, rfl⟩
        rw [← hpc] at hba1 hba2 ⊢
        generalize (X1.alloc (.cells #[.slice h2.ta G.ts.length h2.tc, .string G.s, .int .i64 G.e, .slice h2.ra n1 h2.rc] 28)).alloc (.cells #[.int .i64 k1, .int .i64 k2] 46) = Y at *
        have hVY : Below V2.heap.size V2 Y := below_step HX1.out.1 hBa
        obtain ⟨a0, a1, a2, a3, -, -, -, -⟩ := box_cells (block_below hVY HV2.out.2.1)
        obtain ⟨a4, a5, -, -⟩ := box46 (block_below hVY HV2.out.2.2)
        obtain ⟨c0, c1, c2, c3, -, -, -, -⟩ := box_cells hba1
        obtain ⟨c4, c5, -, -⟩ := box46 hba2
        have HE : Hid (Calls Tryz.prog 16 #[.agg #[.slice h1.ta G.ts.length h1.tc, .string G.s, .int .i64 G.e, .slice h1.ra n1 h1.rc], .agg #[.slice h2.ta G.ts.length h2.tc, .string G.s, .int .i64 G.e, .slice h2.ra n1 h2.rc]] Y fun e w' => e = .returned (.bool true) ∧ Below Y.heap.size Y w') := by
          have := req_calls G G h1 h2 Y true (HV1.out.2.below (below_step HV2.out.1 hVY)) (HX1.out.2.below hBa) ⟨fun _ => rfl, fun _ => rfl⟩
          rw [eg] at this
          have eg1 : gv h1 G = .agg #[.slice h1.ta G.ts.length h1.tc, .string G.s, .int .i64 G.e, .slice h1.ra n1 h1.rc] := by unfold gv; rw [HN1.out]
          rw [eg1] at this
          exact this
        have HBY : Hid (Below w.heap.size w Y) := below_step HBW.out (below_step HV1.out.1 (below_step HV2.out.1 hVY))
        clear hB1 hI1 hBa hba1 hba2 hpc eg ef hVY
        go_wp2_with fail
        refine HE.out.mono ?_
        rintro e Z ⟨rfl, hB⟩
        have HZZ : Hid (Below w.heap.size w Z) := below_step HBY.out hB
        have a3' := cell_below hB a3
        clear hB
        go_wp2_with fail
        go_ret
        exact ⟨rfl, HZZ.out⟩

end Go.Proofs.YtkaojokhdleeiaaGreatDoor.Rules

/-
  ReadRules: for every rows of numbers, the rules that they choose, written as alternatives or one by one, are read as the same grammar (the call returns true), under no condition but the tied tables and sentinels.
-/
namespace Go.Proofs.YtkaojokhdleeiaaGreatDoor.Rules
open Go.ChangeShapes Go.WideShapes Go.ChangeAt Go.RowKit
open Go.ChangeMaps (open_string shut_string)

set_option maxRecDepth 100000 in
theorem lifted (os : Os) (started : os.Started) (H : Type) (enc : TypeId × Value → H) :
    ReturnsInHanded {} Tryz.checked os 8 .any (fun w args => (Rows.readRulesSpec.pre enc Tryz.prog Tryz.f8 [] false w args ∧ laidMetH Tryz.prog laid5 w) ∧ sizedMet enc Tryz.prog Tryz.f8 (OpenSpec.ofChange Rows.readRulesSpec) false w args) (Rows.readRulesSpec.post enc Tryz.prog Tryz.f8 false true false false) := by
  refine returnsInHanded_of_change_and (C := Tryz.checked) (X := fun w _ => laidMetH Tryz.prog laid5 w) (fun _ _ _ hh h => h.of_heap hh) own started (by kernel_rfl) Tryz.func8
    (ChangeSpec.witness_shaped (enc := enc) (C := Tryz.checked) (os := os) (X := fun w _ => laidMetH Tryz.prog laid5 w) false (World.doorLaid Tryz.prog 64 os) #[.slice none 0 0] 8 rfl (World.shaped_of_RefB (by kernel_rfl) (by kernel_rfl)) (by kernel_rfl) (by kernel_rfl) (by kernel_rfl) (door_met os _)) ?_
  intro W base args ds gs before hval0 hW _ _ hL _
  have hval : ∀ (j : Nat) t v, Tryz.f8.params[j]? = some t → args[j]? = some v → Value.okWide Tryz.prog W .any base t v := hval0
  have hW' := hW
  obtain ⟨p, q, hA0, hV, rfl, _, _⟩ := hW
  have hA : DataW.TrodAll enc Tryz.prog W 0 (fun _ => true) true Tryz.f8.params.toList args.toList ds p := hA0
  rw [Tryz.params8] at hA hval
  obtain ⟨v0, vs0, d0, ds0, p0, q0, _, rfl, rfl, h0, r0⟩ := trodAll_cons hA
  obtain ⟨rfl, rfl, rfl⟩ := trodAll_nil r0
  obtain rfl : args = #[v0] := by cases args; simp_all
  obtain ⟨rfl, rfl⟩ := trodVars_none hV
  have k0 := h0
  have lt0 : ∀ x ∈ p0, x.block < W.heap.size := by obtain ⟨m, hm⟩ := k0; exact DataW.trod_lt m _ _ _ hm
  obtain ⟨A0, n0, c0, rfl⟩ := okWide_slice Tryz.underlying52 (hval 0 52 v0 rfl rfl)
  obtain ⟨-, raw0⟩ := open_rows h0
  clear hA0 hval0
  simp only [List.append_nil] at hW'
  refine (walk A0 n0 c0 W (pow_of_laid hL) raw0 ).mono fun e W' ⟨he, bel⟩ => ?_
  subst he
  exact ⟨_, rfl, _, _, _, [], _, [], hW', trodAll_mk1 (shut_bool Tryz.underlying4 _), (trodAll_cons_mk (Below.trod laidOut (by kernel_rfl) (of_decide_eq_true (by kernel_rfl)) k0 bel lt0) trodAll_mk0), rfl, bel.frame _, fun h => by cases h⟩

theorem over : Rows.readRulesRow.holds Tryz.pinned (OpenSpec.ofChange Rows.readRulesSpec) :=
  OpenClaim.holds_of_wide 8 Tryz.f8 rfl rfl rfl rfl rfl rfl rfl ⟨rfl, rfl, rfl, rfl, rfl⟩ rfl rfl rfl rfl rfl (by kernel_rfl) Tryz.func8 (by kernel_rfl)
    (of_decide_eq_true (by kernel_rfl)) (by unfold Func.isWrapper; first | (rw [if_pos (by decide +kernel)]; kernel_rfl) | (rw [if_neg (by decide +kernel)]; exact ⟨rfl, rfl⟩))
    (fun os started H enc _ => lifted os started H enc)

theorem card : Claim7.holds Tryz.pinned (.plain (OpenSpec.ofChange Rows.readRulesSpec)) Rows.readRulesCard :=
  Claim7.holds_tied_plain_at .later [] [.data, .data, .data, .sentinel, .sentinel] true (true, "a34ec45f1bf4a802a45acaf3f737525841640676f706a3d95b9ddd94c0393142") true
    over (fun _ h => by cases h) (by kernel_rfl) (fun _ h => by cases h) readRules_row_tie rfl ⟨rfl, rfl⟩ (by kernel_rfl) rfl
    (fun f fn hf hfn => by
      obtain rfl : f = 8 := Option.some.inj ((show Tryz.prog.funcNamed "donatus/donatuslaw6.ReadRules" = some 8 by kernel_rfl).symm.trans hf) |>.symm
      obtain rfl : fn = Tryz.f8 := (Option.some.inj (Tryz.func8.symm.trans hfn)).symm
      exact ⟨by kernel_rfl, fun j t ht => by
        rw [Tryz.params8] at ht
        have hm : t ∈ [52] := by simpa using Array.mem_of_getElem? ht
        have hall : ([52].all fun u => !Tryz.prog.wantsStandIn u) = true := by kernel_rfl
        exact (show Tryz.prog.wantsStandIn t = false by simpa using List.all_eq_true.1 hall t hm)⟩)
    (by kernel_rfl)

end Go.Proofs.YtkaojokhdleeiaaGreatDoor.Rules
namespace Go.Proofs.YtkaojokhdleeiaaGreatDoor
theorem readRules_holds : Rows.ReadRulesCardSaid := Rules.card
#print axioms readRules_holds
end Go.Proofs.YtkaojokhdleeiaaGreatDoor
