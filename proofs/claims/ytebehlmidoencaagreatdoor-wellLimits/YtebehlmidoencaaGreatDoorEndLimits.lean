/-
  WellLimits: whatever the four numbers, as many tokens, Lefts, rules and symbols as there may be mean something and one more is a limit passed, so the call returns true and leaves all that was there as it was; its conditions are those of the row: the five tables as the program lays them.
-/
import Derived.Test.YtebehlmidoencaaGreatDoorOwn10
import Derived.Test.YtebehlmidoencaaGreatDoorOwn13
import Derived.Test.YtebehlmidoencaaGreatDoorCards
import Derived.Test.YtebehlmidoencaaGreatDoorTie
import Derived.OpenShut
import Derived.ShutString
import Derived.ChangeOld
import Derived.Below
import Derived.SevenTiedAt
/-
  Grammars at their limits, as plain mathematics.
-/
namespace Go.Proofs.YtebehlmidoencaaGreatDoor
open Go.RowKit

set_option maxRecDepth 20000

def tkT (i : Nat) : ByteArray := strOfNums [84, 97 + (i : Int)]
def lfT (i : Nat) : ByteArray := strOfNums [110, 97 + (i : Int)]

def nmChk : Bool := (List.range 14).all fun i => nameOk (by8 (tkT i)) && nameOk (by8 (lfT i)) && decide ((tkT i).size ≤ 100) && decide ((lfT i).size ≤ 100) && (List.range 14).all fun j => ((i == j) || (!((tkT i).data.toList == (tkT j).data.toList) && !((lfT i).data.toList == (lfT j).data.toList))) && !((tkT i).data.toList == (lfT j).data.toList)
theorem nmChk_ok : nmChk = true := by kernel_rfl

theorem nm_facts {i : Nat} (hi : i < 14) : NameP (tkT i) ∧ NameP (lfT i) ∧ (tkT i).size ≤ 100 ∧ (lfT i).size ≤ 100 ∧ ∀ j, j < 14 → (i ≠ j → tkT i ≠ tkT j ∧ lfT i ≠ lfT j) ∧ tkT i ≠ lfT j := by
  have h := nmChk_ok
  unfold nmChk at h
  have h1 := List.all_eq_true.1 h i (List.mem_range.2 hi)
  simp only [Bool.and_eq_true, decide_eq_true_eq] at h1
  obtain ⟨⟨⟨⟨a1, a2⟩, a3⟩, a4⟩, a5⟩ := h1
  refine ⟨a1, a2, a3, a4, fun j hj => ?_⟩
  have h2 := List.all_eq_true.1 a5 j (List.mem_range.2 hj)
  simp only [Bool.and_eq_true, Bool.or_eq_true, Bool.not_eq_true', beq_iff_eq] at h2
  obtain ⟨b1, b2⟩ := h2
  refine ⟨fun hne => ?_, bytes_ne b2⟩
  rcases b1 with b1 | ⟨b1, b3⟩
  · exact absurd b1 hne
  · exact ⟨bytes_ne b1, bytes_ne b3⟩

/-- The grammar of so many tokens, Lefts, rules, symbols. -/
def ruT (L r i : Nat) : Ru := ⟨lfT (i % L), if i + 1 < L then [lfT (i + 1)] else List.replicate r (tkT 0), e0⟩
def tsT (t : Nat) : List Tk := (List.range t).map fun i => ⟨tkT i, 0, 0⟩
def rsT (L r R : Nat) : List Ru := (List.range R).map (ruT L r)
def grT (t L R r : Nat) : Gm := ⟨tsT t, e0, 0, rsT L r R⟩

theorem rsT_at {L r R i : Nat} (hi : i < R) : (rsT L r R)[i]? = some (ruT L r i) := by
  unfold rsT
  rw [List.getElem?_map, List.getElem?_range hi]
  rfl

theorem rsT_mem {L r R : Nat} {x : Ru} (h : x ∈ rsT L r R) : ∃ i, i < R ∧ x = ruT L r i := by
  unfold rsT at h
  obtain ⟨i, hi, rfl⟩ := List.mem_map.1 h
  exact ⟨i, List.mem_range.1 hi, rfl⟩

theorem find_lfT {L : Nat} (hL : L ≤ 12) {j : Nat} (hj : j < L) : findS ((List.range L).map lfT) (lfT j) = some j := by
  refine findS_at (x := lfT j) (fun i y hi hy => ?_) (by rw [List.getElem?_map, List.getElem?_range hj]; rfl) rfl
  rw [List.getElem?_map, List.getElem?_range (by omega)] at hy
  cases hy
  exact (((nm_facts (i := i) (by omega)).2.2.2.2 j (by omega)).1 (by omega)).2

theorem lfs_rsT {L r : Nat} (hL : 1 ≤ L) (hL2 : L ≤ 12) : ∀ k, lfs (rsT L r k) = (List.range (min k L)).map lfT
  | 0 => by simp [rsT, lfs]
  | k + 1 => by
    have ih := lfs_rsT (r := r) hL hL2 k
    have e : rsT L r (k + 1) = rsT L r k ++ [ruT L r k] := by unfold rsT; rw [List.range_succ, List.map_append]; rfl
    rw [e, lfs_snoc, ih]
    unfold lfS
    rcases Nat.lt_or_ge k L with h | h
    · have e1 : min k L = k := by omega
      have e2 : min (k + 1) L = k + 1 := by omega
      have e3 : (ruT L r k).l = lfT k := by unfold ruT; simp only; rw [Nat.mod_eq_of_lt h]
      rw [e1, e2, e3, if_neg]
      · rw [List.range_succ, List.map_append]; rfl
      · intro hm
        have := findS_mem.1 hm
        obtain ⟨i, hi, he⟩ := List.mem_map.1 this
        have hi := List.mem_range.1 hi
        exact (((nm_facts (i := i) (by omega)).2.2.2.2 k (by omega)).1 (by omega)).2 he
    · have e1 : min k L = L := by omega
      have e2 : min (k + 1) L = L := by omega
      have hm : k % L < L := Nat.mod_lt _ hL
      rw [e1, e2, if_pos]
      show (findS _ (lfT (k % L))).isSome = true
      rw [find_lfT hL2 hm]
      rfl

structure Lmt (t L R r : Nat) : Prop where
  t1 : 1 ≤ t
  t2 : t ≤ 14
  l1 : 1 ≤ L
  l2 : L ≤ 12
  r1 : L ≤ R
  r2 : R ≤ 32
  s2 : r ≤ 8

theorem Lmt.lfl {t L R r : Nat} (h : Lmt t L R r) : lfs (grT t L R r).rs = (List.range L).map lfT := by
  have := lfs_rsT (r := r) h.l1 h.l2 R
  rwa [Nat.min_eq_right h.r1] at this

theorem tsT_len (t : Nat) : (tsT t).length = t := by simp [tsT]
theorem rsT_len (L r R : Nat) : (rsT L r R).length = R := by simp [rsT]

theorem tsT_at {t i : Nat} {x : Tk} (h : (tsT t)[i]? = some x) : i < t ∧ x = ⟨tkT i, 0, 0⟩ := by
  have hi : i < t := by have := (List.getElem?_eq_some_iff.1 h).1; rwa [tsT_len] at this
  unfold tsT at h
  rw [List.getElem?_map, List.getElem?_range hi] at h
  cases h
  exact ⟨hi, rfl⟩

theorem levF_zero : ∀ (l : List Tk), (∀ t ∈ l, t.l = 0 ∧ t.a = 0) → levF l = some zero9 := by
  intro l hl
  unfold levF
  have : ∀ (l : List Tk), (∀ t ∈ l, t.l = 0 ∧ t.a = 0) → l.foldl levS (some zero9) = some zero9 := by
    intro l
    induction l with
    | nil => intro _; rfl
    | cons x l ih =>
      intro h
      have hx := h x (by simp)
      rw [List.foldl_cons]
      have e : levS (some zero9) x = some zero9 := by
        obtain ⟨n, lv, a⟩ := x
        obtain ⟨rfl, rfl⟩ := hx
        unfold levS
        simp only
        rw [if_pos ⟨.inl ⟨rfl, rfl⟩, .inl rfl⟩]
        rfl
      rw [e]
      exact ih (fun t ht => h t (List.mem_cons_of_mem _ ht))
  exact this l hl

theorem ruT_r {L r i : Nat} {x : ByteArray} (hi : i + 1 < L ∨ ¬ i + 1 < L) (h : x ∈ (ruT L r i).r) : (i + 1 < L ∧ x = lfT (i + 1)) ∨ x = tkT 0 := by
  unfold ruT at h
  simp only at h
  rcases hi with hi | hi
  · rw [if_pos hi, List.mem_singleton] at h
    exact .inl ⟨hi, h⟩
  · rw [if_neg hi] at h
    exact .inr (List.eq_of_mem_replicate h)

theorem ruT_len {L r i : Nat} (hr : r ≤ 8) : (ruT L r i).r.length ≤ 8 := by
  unfold ruT
  simp only
  split
  · simp
  · rw [List.length_replicate]; exact hr

theorem Lmt.may {t L R r : Nat} (h : Lmt t L R r) : MayP (grT t L R r) := by
  have h1 := h.t2; have h2 := h.r2; have h3 := h.l2; have h4 := h.s2; have h5 := h.l1
  refine ⟨by show (tsT t).length ≤ 40; rw [tsT_len]; omega, by show (rsT L r R).length ≤ 100; rw [rsT_len]; omega, Int.le_refl _, by show (0 : Int) ≤ 9999; decide, .inl rfl, ⟨fun i x hx => ?_, zero9, levF_zero _ (fun x hx => ?_), noGap_zero⟩, fun q hq => ?_⟩
  · obtain ⟨hi, rfl⟩ := tsT_at hx
    have f := nm_facts (i := i) (by omega)
    refine ⟨f.1, fun j u hj hu => ?_⟩
    obtain ⟨hj2, rfl⟩ := tsT_at hu
    exact (((nm_facts (i := j) (by omega)).2.2.2.2 i (by omega)).1 (by omega)).1
  · obtain ⟨i, hi⟩ := List.getElem?_of_mem hx
    obtain ⟨-, rfl⟩ := tsT_at hi
    exact ⟨rfl, rfl⟩
  · obtain ⟨i, hi, rfl⟩ := rsT_mem hq
    have hm : i % L < L := Nat.mod_lt _ h5
    refine ⟨(nm_facts (i := i % L) (by omega)).2.1, by have := ruT_len (L := L) (i := i) h4; omega, .inl rfl, fun x hx => ?_⟩
    rcases ruT_r (Classical.em _) hx with ⟨h6, rfl⟩ | rfl
    · exact (nm_facts (i := i + 1) (by omega)).2.1
    · exact (nm_facts (i := 0) (by omega)).1

theorem Lmt.long {t L R r : Nat} (h : Lmt t L R r) : LongP (grT t L R r) ↔ (12 < t ∨ 10 < L ∨ 30 < R ∨ 6 < r) := by
  have e1 : (grT t L R r).ts.length = t := tsT_len t
  have e2 : (grT t L R r).rs.length = R := rsT_len L r R
  have e3 : (lfs (grT t L R r).rs).length = L := by rw [h.lfl]; simp
  unfold LongP
  rw [e1, e2, e3]
  constructor
  · rintro (h1 | h1 | h1 | ⟨q, hq, h1⟩)
    · exact .inl h1
    · exact .inr (.inr (.inl h1))
    · exact .inr (.inl h1)
    · obtain ⟨i, hi, rfl⟩ := rsT_mem hq
      refine .inr (.inr (.inr ?_))
      unfold ruT at h1
      simp only at h1
      split at h1
      · simp at h1
      · rwa [List.length_replicate] at h1
  · rintro (h1 | h1 | h1 | h1)
    · exact .inl h1
    · exact .inr (.inr (.inl h1))
    · exact .inr (.inl h1)
    · refine .inr (.inr (.inr ⟨ruT L r (L - 1), ?_, ?_⟩))
      · have := h.l1; have := h.r1
        exact List.mem_map.2 ⟨L - 1, List.mem_range.2 (by omega), rfl⟩
      · have := h.l1
        unfold ruT
        simp only
        rw [if_neg (by omega), List.length_replicate]
        exact h1

theorem Lmt.tk0 {t L R r : Nat} (h : Lmt t L R r) : tkT 0 ∈ tkG (grT t L R r) := by
  have := h.t1
  exact List.mem_map.2 ⟨⟨tkT 0, 0, 0⟩, List.mem_map.2 ⟨0, List.mem_range.2 (by omega), rfl⟩, rfl⟩

theorem Lmt.lf {t L R r : Nat} (h : Lmt t L R r) {j : Nat} (hj : j < L) : lfT j ∈ lfs (grT t L R r).rs := by
  rw [h.lfl]
  exact List.mem_map.2 ⟨j, List.mem_range.2 hj, rfl⟩

theorem Lmt.start {t L R r : Nat} (h : Lmt t L R r) : startB (grT t L R r) = lfT 0 := by
  have h1 := h.l1; have h2 := h.r1
  have e : (grT t L R r).rs[0]? = some (ruT L r 0) := rsT_at (by omega)
  unfold startB
  rw [if_pos (show (grT t L R r).s = e0 from rfl), e]
  show lfT (0 % L) = lfT 0
  rw [Nat.zero_mod]

theorem Lmt.nmp {t L R r : Nat} (h : Lmt t L R r) : NmP (grT t L R r) := by
  have h1 := h.t2; have h2 := h.r2; have h3 := h.l2; have h4 := h.s2; have h5 := h.l1; have h6 := h.r1
  refine ⟨fun e => ?_, fun x hx hl => ?_, fun q hq => ?_, fun q hq x hx => ?_, ?_⟩
  · have := congrArg List.length e
    have e2 : (grT t L R r).rs.length = R := rsT_len L r R
    rw [e2] at this
    simp at this
    omega
  · obtain ⟨i, hi⟩ := List.getElem?_of_mem hx
    obtain ⟨hi2, rfl⟩ := tsT_at hi
    rw [h.lfl] at hl
    obtain ⟨j, hj, he⟩ := List.mem_map.1 hl
    have hj := List.mem_range.1 hj
    exact ((nm_facts (i := i) (by omega)).2.2.2.2 j (by omega)).2 he.symm
  · obtain ⟨i, hi, rfl⟩ := rsT_mem hq
    exact .inl rfl
  · obtain ⟨i, hi, rfl⟩ := rsT_mem hq
    rcases ruT_r (Classical.em _) hx with ⟨h7, rfl⟩ | rfl
    · exact .inr (h.lf h7)
    · exact .inl h.tk0
  · rw [h.start]
    exact h.lf (by omega)

/-- The number of a Left, of the first token. -/
theorem Lmt.ixl {t L R r : Nat} (h : Lmt t L R r) {j : Nat} (hj : j < L) : ix (nmG (grT t L R r)) (lfT j) = t + 1 + j := by
  have h1 := find_left h.may h.nmp (h.lf hj)
  have e1 : (grT t L R r).ts.length = t := tsT_len t
  have e2 : ix (lfs (grT t L R r).rs) (lfT j) = j := by
    rw [h.lfl]
    unfold ix
    rw [find_lfT h.l2 hj]
    rfl
  rw [e1, e2] at h1
  unfold ix
  rw [h1]
  rfl

theorem Lmt.ixt {t L R r : Nat} (h : Lmt t L R r) : ix (nmG (grT t L R r)) (tkT 0) < t := by
  obtain ⟨h1, h2⟩ := find_tok h.tk0
  have e1 : (grT t L R r).ts.length = t := tsT_len t
  rw [e1] at h2
  unfold ix at h2 ⊢
  rw [h1]
  exact h2

theorem ru_grT {t L R r : Nat} {i : Nat} (hi : i < R) : (spG (grT t L R r)).rs[i + 1]? = some (ruG (grT t L R r) (ruT L r i)) := by
  show (_ :: (rsT L r R).map (ruG (grT t L R r)))[i + 1]? = _
  rw [List.getElem?_cons_succ, List.getElem?_map, rsT_at hi]
  rfl

theorem Lmt.rul {t L R r : Nat} (h : Lmt t L R r) {i : Nat} (hi : i < L) : (ruG (grT t L R r) (ruT L r i)).l = ((t + 1 + i : Nat) : Int) := by
  show ((ix (nmG (grT t L R r)) (lfT (i % L)) : Nat) : Int) = _
  rw [Nat.mod_eq_of_lt hi, h.ixl hi]

theorem Lmt.der {t L R r : Nat} (h : Lmt t L R r) : ∀ (m j : Nat), j + m + 1 = L → Der (spG (grT t L R r)) (t + 1 + j)
  | 0, j, hj => by
    have h6 := h.r1
    refine Der.rule (j + 1) _ _ (by omega) (ru_grT (by omega)) (h.rul (by omega)) (fun y hy => ?_)
    have hy : y ∈ (ruT L r j).r.map (ix (nmG (grT t L R r))) := hy
    obtain ⟨x, hx, rfl⟩ := List.mem_map.1 hy
    rcases ruT_r (Classical.em _) hx with ⟨h7, -⟩ | rfl
    · omega
    · exact Der.tok _ (by have := h.ixt; show _ < (tsT t).length; rw [tsT_len]; exact this)
  | m + 1, j, hj => by
    have h6 := h.r1
    have ih := h.der m (j + 1) (by omega)
    refine Der.rule (j + 1) _ _ (by omega) (ru_grT (by omega)) (h.rul (by omega)) (fun y hy => ?_)
    have hy : y ∈ (ruT L r j).r.map (ix (nmG (grT t L R r))) := hy
    obtain ⟨x, hx, rfl⟩ := List.mem_map.1 hy
    rcases ruT_r (Classical.em _) hx with ⟨h7, rfl⟩ | rfl
    · rw [h.ixl h7]; exact ih
    · exact Der.tok _ (by have := h.ixt; show _ < (tsT t).length; rw [tsT_len]; exact this)

theorem Lmt.rch {t L R r : Nat} (h : Lmt t L R r) : ∀ j : Nat, j < L → Rch (spG (grT t L R r)) (t + 1 + j)
  | 0, hj => by
    have e : (spG (grT t L R r)).st = t + 1 + 0 := by
      show (tsT t).length + 1 + ix (lfs (grT t L R r).rs) (startB (grT t L R r)) = _
      rw [tsT_len, h.start, h.lfl]
      unfold ix
      rw [find_lfT h.l2 hj]
      rfl
    rw [← e]
    exact Rch.start
  | j + 1, hj => by
    have h6 := h.r1
    refine Rch.rule (j + 1) _ (t + 1 + j) _ (by omega) (ru_grT (by omega)) (h.rul (by omega)) (h.rch j (by omega)) ?_
    show _ ∈ (ruT L r j).r.map (ix (nmG (grT t L R r)))
    refine List.mem_map.2 ⟨lfT (j + 1), ?_, h.ixl hj⟩
    unfold ruT
    simp only
    rw [if_pos hj]
    simp

theorem Lmt.use {t L R r : Nat} (h : Lmt t L R r) : ¬ UselP (spG (grT t L R r)) := by
  rintro ⟨x, h1, h2, h3⟩
  have e1 : (spG (grT t L R r)).tk = t := tsT_len t
  have e2 : (spG (grT t L R r)).nt = L := by show (lfs (grT t L R r).rs).length = L; rw [h.lfl]; simp
  rw [e1] at h1 h2
  rw [e2] at h2
  obtain ⟨j, rfl⟩ : ∃ j, x = t + 1 + j := ⟨x - (t + 1), by omega⟩
  rcases h3 with h3 | h3
  · exact h3 (h.der (L - 1 - j) j (by omega))
  · exact h3 (h.rch j (by omega))

theorem Lmt.of {t L R r : Nat} (h : Lmt t L R r) : (∃ k, OfR (grT t L R r) k ∧ ((12 < t ∨ 10 < L ∨ 30 < R ∨ 6 < r) ∧ k = 6 ∨ ¬ (12 < t ∨ 10 < L ∨ 30 < R ∨ 6 < r) ∧ k = 0)) := by
  rcases Classical.em (12 < t ∨ 10 < L ∨ 30 < R ∨ 6 < r) with ho | ho
  · exact ⟨6, .inr (.inl ⟨rfl, h.may, h.long.2 ho⟩), .inl ⟨ho, rfl⟩⟩
  · exact ⟨0, .inr (.inr (.inr (.inr ⟨rfl, h.may, fun e => ho (h.long.1 e), h.nmp, h.use⟩))), .inr ⟨ho, rfl⟩⟩

theorem Lmt.small {t L R r : Nat} (h : Lmt t L R r) : Small (grT t L R r) := by
  have h1 := h.t2; have h2 := h.r2; have h3 := h.l2; have h4 := h.s2; have h5 := h.l1
  refine ⟨by show (tsT t).length ≤ 100; rw [tsT_len]; omega, by show (rsT L r R).length ≤ 200; rw [rsT_len]; omega, by show e0.size ≤ 100; decide, fun x hx => ?_, fun q hq => ?_⟩
  · obtain ⟨i, hi⟩ := List.getElem?_of_mem hx
    obtain ⟨hi2, rfl⟩ := tsT_at hi
    exact (nm_facts (i := i) (by omega)).2.2.1
  · obtain ⟨i, hi, rfl⟩ := rsT_mem hq
    have hm : i % L < L := Nat.mod_lt _ h5
    refine ⟨(nm_facts (i := i % L) (by omega)).2.2.2.1, by show e0.size ≤ 100; decide, by have := ruT_len (L := L) (i := i) h4; omega, fun x hx => ?_⟩
    rcases ruT_r (Classical.em _) hx with ⟨h6, rfl⟩ | rfl
    · exact (nm_facts (i := i + 1) (by omega)).2.2.2.1
    · exact (nm_facts (i := 0) (by omega)).2.2.1

end Go.Proofs.YtebehlmidoencaaGreatDoor

/-
  WellLimits: whatever the numbers, the call returns true and leaves all that was there as it was.
-/
namespace Go.Proofs.YtebehlmidoencaaGreatDoor.Limits
open Go.RowKit

theorem tsT_snoc (i : Nat) : tsT (i + 1) = tsT i ++ [⟨tkT i, 0, 0⟩] := by unfold tsT; rw [List.range_succ, List.map_append]; rfl
theorem rsT_snoc (L r i : Nat) : rsT L r (i + 1) = rsT L r i ++ [ruT L r i] := by unfold rsT; rw [List.range_succ, List.map_append]; rfl

theorem rc_put {w W : World} {L P x : ByteArray} {b : Nat} (h : RC w W L P [] none 0 0) (ho : OwnS W (w.heap.size + 1) (.slice (some ⟨b, 0, none⟩) 1 1) [x]) : RC w (W.setCell ⟨w.heap.size, 1, none⟩ (.slice (some ⟨b, 0, none⟩) 1 1)) L P [x] (some ⟨b, 0, none⟩) 1 1 := by
  refine ⟨?_, ?_, rfl, h.bel.setCell (p := ⟨w.heap.size, 1, none⟩) (Nat.le_refl _) _⟩
  · rw [setCell_eq_setRow W w.heap.size 1 _ 46 (0, 0) _ h.box]
    exact setRow_heap _ _ _ _ 46 _ h.box
  · refine ownsRow_of_block ho (fun i hi => Below.heap_setCell _ _ _ _ (fun e => ?_))
    simp only at e
    have := (World.ownsRow.lt ho i hi).1
    omega

theorem conv2 (wr : World) (a b : Int) : (convert 42 9 (.slice (some ⟨wr.heap.size, 0, none⟩) 2 2)).run Tryz.prog (wr.alloc (.cells #[.int .u8 a, .int .u8 b] 5)) = .ok (.string (strOfNums [a, b])) (wr.alloc (.cells #[.int .u8 a, .int .u8 b] 5)) :=
  run_convert_bytes_arg _ 42 5 Tryz.underlying42 Tryz.underlying5 wr.heap.size 0 2 2 [a, b] rfl (fun j hj => by
    rw [World.cell?_alloc_mark]
    match j, hj with
    | 0, _ => rfl
    | 1, _ => rfl) 9 Tryz.underlying9

set_option maxHeartbeats 8000000 in
set_option maxRecDepth 20000 in
theorem walk (a0 a1 a2 a3 : Int) (w : World) (hp : Pow w) : Calls Tryz.prog 6 #[.int .i64 a0, .int .i64 a1, .int .i64 a2, .int .i64 a3] w fun e w' => e = .returned (.bool true) ∧ Below w.heap.size w w' := by
  have HP : Hid (Pow w) := hp
  clear hp
  go_enter Tryz.func6, Tryz.ntmps6
  go_wp2_with fail
  refine (begun7_calls w HP.out).mono ?_
  rintro e V1 ⟨rfl, hB⟩
  have HV1 : Hid (Below w.heap.size w V1) := hB
  clear hB HP
  go_upto_region 4 with fail
  by_cases h1 : a0 < 1
  · go_wp2_with fail
    go_ret
    exact ⟨rfl, HV1.out⟩
  by_cases h2 : 14 < a0
  · go_wp2_with fail
    go_ret
    exact ⟨rfl, HV1.out⟩
  by_cases h3 : a1 < 1
  · go_wp2_with fail
    go_ret
    exact ⟨rfl, HV1.out⟩
  by_cases h4 : 12 < a1
  · go_wp2_with fail
    go_ret
    exact ⟨rfl, HV1.out⟩
  by_cases h5 : a2 < a1
  · go_wp2_with fail
    go_ret
    exact ⟨rfl, HV1.out⟩
  by_cases h6 : 32 < a2
  · go_wp2_with fail
    go_ret
    exact ⟨rfl, HV1.out⟩
  by_cases h7 : a3 < 0
  · go_wp2_with fail
    go_ret
    exact ⟨rfl, HV1.out⟩
  by_cases h8 : 8 < a3
  · go_wp2_with fail
    go_ret
    exact ⟨rfl, HV1.out⟩
  obtain ⟨t, rfl⟩ : ∃ t : Nat, a0 = (t : Int) := ⟨a0.toNat, by omega⟩
  obtain ⟨L, rfl⟩ : ∃ L : Nat, a1 = (L : Int) := ⟨a1.toNat, by omega⟩
  obtain ⟨R, rfl⟩ : ∃ R : Nat, a2 = (R : Int) := ⟨a2.toNat, by omega⟩
  obtain ⟨r, rfl⟩ : ∃ r : Nat, a3 = (r : Int) := ⟨a3.toNat, by omega⟩
  have HLM : Hid (Lmt t L R r) := ⟨by omega, by omega, by omega, by omega, by omega, by omega, by omega⟩
  have HG0 : Hid (∃ h qs, GB V1 (V1.alloc (.cells #[.slice none 0 0, .string ⟨#[]⟩, .int .i64 0, .slice none 0 0] 25)) V1.heap.size h ⟨tsT 0, e0, 0, []⟩ qs) := ⟨_, _, gb_new V1 V1 e0 0 (Below.refl _ _)⟩
  go_upto_region 7 with fail
  generalize V1.alloc (.cells #[.slice none 0 0, .string ⟨#[]⟩, .int .i64 0, .slice none 0 0] 25) = W1 at HG0 ⊢
  obtain ⟨gb, HGB⟩ : ∃ gb, Hid (gb = V1.heap.size) := ⟨_, rfl⟩
  rw [← HGB.out] at HG0 ⊢
  go_wp2_with fail
  go_loopg [11] t (fun kx s11 wr => ∃ i : Nat, s11 = .int .i64 i ∧ i ≤ t ∧ t - i ≤ kx ∧ Hid (∃ h qs, GB V1 wr gb h ⟨tsT i, e0, 0, []⟩ qs))
  case atStart => exact ⟨0, rfl, Nat.zero_le _, by omega, HG0⟩
  case round =>
    clear HG0
    obtain ⟨i, rfl, hi, hg, J⟩ := hrel
    by_cases hlt : i < t
    · have hlt' : (i : Int) < (t : Int) := by omega
      obtain ⟨⟨ta, tc, ra, rc⟩, qs, g⟩ := J.out
      have hcv := conv2 wr 84 (97 + (i : Int))
      have hv : Below wr.heap.size wr (wr.alloc (.cells #[.int .u8 84, .int .u8 (97 + (i : Int))] 5)) := below_alloc _ _
      have etn : (tsT i).length = i := tsT_len i
      obtain ⟨ao, n, c, V, hr1, hn, hbox, g2⟩ := (g.step hv).addTok (by show (tsT i).length ≤ 1000; omega) ⟨tkT i, 0, 0⟩
      subst hn
      obtain ⟨c0, -, -, -, -⟩ := g.cells
      simp only at hr1 c0
      have hr1' : (Builtin.append_ #[22, 22] 22 #[.slice ta i tc, .slice (some ⟨wr.heap.size + 1, 0, none⟩) 1 1]).run Tryz.prog ((wr.alloc (.cells #[.int .u8 84, .int .u8 (97 + (i : Int))] 5)).alloc (.cells #[.string (strOfNums [84, 97 + (i : Int)]), .int .i64 0, .int .i64 0] 44)) = .ok (.slice ao (i + 1) c) V := by
        rw [size_alloc1, etn] at hr1
        exact hr1
      rw [etn] at c0
      have d0 : V.cell? ⟨gb, 0, none⟩ = some (.slice ta i tc) := by rw [cell_block hbox]; unfold boxC; simp only [etn]; rfl
      have f0 : V.frozen? ⟨gb, 0, none⟩ = false := frozen_block hbox 0
      have HF : Hid (∃ h qs, GB V1 (V.setCell ⟨gb, 0, none⟩ (.slice ao (i + 1) c)) gb h ⟨tsT (i + 1), e0, 0, []⟩ qs) := by
        simp only [etn] at g2
        rw [tsT_snoc]
        exact ⟨_, _, g2⟩
      clear hr1 g g2 J hbox etn
      generalize strOfNums [84, 97 + (i : Int)] = nm at hcv hr1'
      go_wp2_with (at_builtin; refine Lib.wpList_append_run _ rfl _ _ _ _ rfl _ _ rfl rfl _ _ hr1' ?_)
      go_roundg (t - (i + 1))
      case measure => omega
      case rel => exact ⟨i + 1, by simp, by omega, Nat.le_refl _, HF⟩
    · have hlt' : ¬ (i : Int) < (t : Int) := by omega
      have hit : i = t := by omega
      subst hit
      obtain ⟨W2, hW2⟩ : ∃ W2, W2 = wr := ⟨_, rfl⟩
      subst wr
      have HG2 : Hid (∃ h qs, GB V1 W2 gb h ⟨tsT i, e0, 0, rsT L r 0⟩ qs) := J.out
      clear J
      go_wp2_with fail
      go_loopg [12] R (fun kx s12 wr => ∃ k : Nat, s12 = .int .i64 k ∧ k ≤ R ∧ R - k ≤ kx ∧ Hid (∃ h qs, GB V1 wr gb h ⟨tsT i, e0, 0, rsT L r k⟩ qs))
      case atStart => exact ⟨0, rfl, Nat.zero_le _, by omega, HG2⟩
      case round =>
        clear HG2 hi hg hlt hlt'
        obtain ⟨k, rfl, hk, hg, J⟩ := hrel
        by_cases hlt : k < R
        · have hlt' : (k : Int) < (R : Int) := by omega
          have hLz : ((L : Int) == 0) = false := by simp; omega
          have hmod : (k : Int) % (L : Int) = ((k % L : Nat) : Int) := by simp
          have hkl : k % L < L := Nat.mod_lt _ (by omega)
          obtain ⟨j, HJ⟩ : ∃ j, Hid (k % L = j) := ⟨_, rfl⟩
          rw [HJ.out] at hmod hkl
          have hcv := conv2 wr 110 (97 + (j : Int))
          have hcv' : (convert 42 9 (.slice (some ⟨wr.heap.size, 0, none⟩) 2 2)).run Tryz.prog (wr.alloc (.cells #[.int .u8 110, .int .u8 (97 + (j : Int))] 5)) = .ok (.string (lfT j)) (wr.alloc (.cells #[.int .u8 110, .int .u8 (97 + (j : Int))] 5)) := hcv
          clear hcv
          obtain ⟨lj, HLJ⟩ : ∃ lj, Hid (lfT j = lj) := ⟨_, rfl⟩
          rw [HLJ.out] at hcv'
          have hv : Below wr.heap.size wr (wr.alloc (.cells #[.int .u8 110, .int .u8 (97 + (j : Int))] 5)) := below_alloc _ _
          have HG3 : Hid (∃ h qs, GB V1 (wr.alloc (.cells #[.int .u8 110, .int .u8 (97 + (j : Int))] 5)) gb h ⟨tsT i, e0, 0, rsT L r k⟩ qs) := by
            obtain ⟨h, qs, g⟩ := J.out
            exact ⟨h, qs, g.step hv⟩
          have HRN : Hid (RC (wr.alloc (.cells #[.int .u8 110, .int .u8 (97 + (j : Int))] 5)) ((wr.alloc (.cells #[.int .u8 110, .int .u8 (97 + (j : Int))] 5)).alloc (.cells #[.string lj, .slice none 0 0, .string ⟨#[]⟩] 46)) lj e0 [] none 0 0) := RC.new _ _ _
          have hsz : (wr.alloc (.cells #[.int .u8 110, .int .u8 (97 + (j : Int))] 5)).heap.size = wr.heap.size + 1 := size_alloc1 _ _
          clear J hv
          go_upto_region 15 with fail
          clear hcv'
          obtain ⟨W6, hW6⟩ : ∃ W6, W6 = wr.alloc (.cells #[.int .u8 110, .int .u8 (97 + (j : Int))] 5) := ⟨_, rfl⟩
          rw [← hW6] at HG3 HRN hsz ⊢
          clear hW6
          obtain ⟨W7, hW7⟩ : ∃ W7, W7 = W6.alloc (.cells #[.string lj, .slice none 0 0, .string ⟨#[]⟩] 46) := ⟨_, rfl⟩
          rw [← hW7] at HRN ⊢
          clear hW7
          rw [← hsz]
          obtain ⟨rb, HRB⟩ : ∃ rb, Hid (rb = W6.heap.size) := ⟨_, rfl⟩
          rw [← HRB.out]
          clear hsz
          have x1 : W7.cell? ⟨rb, 1, none⟩ = some (.slice none 0 0) ∧ W7.frozen? ⟨rb, 1, none⟩ = false := by
            rw [HRB.out]
            exact ⟨by rw [cell_block HRN.out.box]; rfl, frozen_block HRN.out.box 1⟩
          obtain ⟨y1, f1⟩ := x1
          go_upto_if 85 with fail
          go_cut [12] from 69 to 109 (fun s12 wd => s12 = .int .i64 (k : Int) ∧ Hid (∃ xa m xc, RC W6 wd lj e0 (ruT L r k).r xa m xc))
          case first =>
            by_cases hkL : k + 1 < L
            · have hkL' : (k : Int) < (L : Int) - 1 := by omega
              have hcv := conv2 W7 110 (97 + (k : Int) + 1)
              have hcv' : (convert 42 9 (.slice (some ⟨W7.heap.size, 0, none⟩) 2 2)).run Tryz.prog (W7.alloc (.cells #[.int .u8 110, .int .u8 (97 + (k : Int) + 1)] 5)) = .ok (.string (lfT (k + 1))) (W7.alloc (.cells #[.int .u8 110, .int .u8 (97 + (k : Int) + 1)] 5)) := by
                have e : lfT (k + 1) = strOfNums [110, 97 + (k : Int) + 1] := by
                  unfold lfT
                  have : (97 : Int) + ((k + 1 : Nat) : Int) = 97 + (k : Int) + 1 := by omega
                  rw [this]
                rw [e]
                exact hcv
              have s8 := (HRN.out.step (below_alloc W7 (.cells #[.int .u8 110, .int .u8 (97 + (k : Int) + 1)] 5))).step (below_alloc _ (.cells #[.string (lfT (k + 1))] 9))
              have ho : OwnS ((W7.alloc (.cells #[.int .u8 110, .int .u8 (97 + (k : Int) + 1)] 5)).alloc (.cells #[.string (lfT (k + 1))] 9)) (W6.heap.size + 1) (.slice (some ⟨W7.heap.size + 1, 0, none⟩) 1 1) [lfT (k + 1)] := by
                have hlt6 : W6.heap.size < W7.heap.size := (Array.getElem?_eq_some_iff.1 HRN.out.box).1
                have := own_new (W7.alloc (.cells #[.int .u8 110, .int .u8 (97 + (k : Int) + 1)] 5)) (W6.heap.size + 1) 9 1 1 [.string (lfT (k + 1))] (by rw [size_alloc1]; omega) rfl (by omega)
                rw [size_alloc1] at this
                exact this
              have s9 := rc_put s8 ho
              have er : (ruT L r k).r = [lfT (k + 1)] := by unfold ruT; simp only; rw [if_pos hkL]
              have HF : Hid (∃ xa m xc, RC W6 (((W7.alloc (.cells #[.int .u8 110, .int .u8 (97 + (k : Int) + 1)] 5)).alloc (.cells #[.string (lfT (k + 1))] 9)).setCell ⟨rb, 1, none⟩ (.slice (some ⟨W7.heap.size + 1, 0, none⟩) 1 1)) lj e0 (ruT L r k).r xa m xc) := by
                rw [er, HRB.out]
                exact ⟨_, _, _, s9⟩
              have y1' : ((W7.alloc (.cells #[.int .u8 110, .int .u8 (97 + (k : Int) + 1)] 5)).alloc (.cells #[.string (lfT (k + 1))] 9)).cell? ⟨rb, 1, none⟩ = some (.slice none 0 0) := cell_alloc (cell_alloc y1 _) _
              have f1' : ((W7.alloc (.cells #[.int .u8 110, .int .u8 (97 + (k : Int) + 1)] 5)).alloc (.cells #[.string (lfT (k + 1))] 9)).frozen? ⟨rb, 1, none⟩ = false := by rw [HRB.out]; exact frozen_block s8.box 1
              clear hcv s8 ho s9 er
              generalize lfT (k + 1) = lk at hcv' HF y1' f1'
              go_wp2_with fail
              go_meet
              exact ⟨rfl, HF⟩
            · have hkL' : ¬ (k : Int) < (L : Int) - 1 := by omega
              have er : (ruT L r k).r = List.replicate r (tkT 0) := by unfold ruT; simp only; rw [if_neg hkL]
              have HER : Hid ((ruT L r k).r = List.replicate r (tkT 0)) := er
              clear er y1 f1
              go_wp2_with fail
              go_loopg [14] r (fun kx s14 wr => ∃ q : Nat, s14 = .int .i64 q ∧ q ≤ r ∧ r - q ≤ kx ∧ Hid (∃ xa m xc, RC W6 wr lj e0 (List.replicate q (tkT 0)) xa m xc))
              case atStart => exact ⟨0, rfl, Nat.zero_le _, by omega, (⟨_, _, _, HRN.out⟩ : ∃ xa m xc, RC W6 W7 lj e0 (List.replicate 0 (tkT 0)) xa m xc)⟩
              case round =>
                obtain ⟨q, rfl, hq, hg2, K⟩ := hrel
                by_cases hqr : q < r
                · have hqr' : (q : Int) < (r : Int) := by omega
                  obtain ⟨xa, m, xc, s⟩ := K.out
                  obtain ⟨ao, n, c, V, hr1, hbox, s2⟩ := s.add (by rw [List.length_replicate]; omega) (tkT 0)
                  have y1 : wr.cell? ⟨rb, 1, none⟩ = some (.slice xa m xc) := by rw [HRB.out, cell_block s.box]; rfl
                  have d1 : V.cell? ⟨rb, 1, none⟩ = some (.slice xa m xc) := by rw [HRB.out, cell_block hbox]; rfl
                  have f1 : V.frozen? ⟨rb, 1, none⟩ = false := by rw [HRB.out]; exact frozen_block hbox 1
                  have hr1' : (Builtin.append_ #[28, 28] 28 #[.slice xa m xc, .slice (some ⟨wr.heap.size, 0, none⟩) 1 1]).run Tryz.prog (wr.alloc (.cells #[.string ⟨#[84, 97]⟩] 9)) = .ok (.slice ao n c) V := hr1
                  have HF : Hid (∃ xa m xc, RC W6 (V.setCell ⟨rb, 1, none⟩ (.slice ao n c)) lj e0 (List.replicate (q + 1) (tkT 0)) xa m xc) := by
                    rw [HRB.out, List.replicate_succ']
                    exact ⟨_, _, _, s2⟩
                  clear hr1 hbox s s2 K
                  go_wp2_with (at_builtin; refine Lib.wpList_append_run _ rfl _ _ _ _ rfl _ _ rfl rfl _ _ hr1' ?_)
                  go_roundg (r - (q + 1))
                  case measure => omega
                  case rel => exact ⟨q + 1, by simp, by omega, Nat.le_refl _, HF⟩
                · have hqr' : ¬ (q : Int) < (r : Int) := by omega
                  have HF : Hid (∃ xa m xc, RC W6 wr lj e0 (ruT L r k).r xa m xc) := by
                    have : q = r := by omega
                    subst this
                    rw [HER.out]
                    exact K.out
                  clear K
                  go_wp2_with fail
                  go_meet
                  exact ⟨rfl, HF⟩
          case rest =>
            obtain ⟨rfl, HC⟩ := hcut
            obtain ⟨W8, hW8⟩ : ∃ W8, W8 = wc := ⟨_, rfl⟩
            subst wc
            clear y1 f1 HRN
            obtain ⟨xa, m, xc, s⟩ := HC.out
            obtain ⟨⟨ta, tc, ra, rc⟩, qs, g⟩ := HG3.out
            have g8 := g.step s.bel
            have ern : (rsT L r k).length = k := rsT_len L r k
            have hlV : V1.heap.size ≤ W6.heap.size + 1 := Nat.le_succ_of_le g.bel.size
            obtain ⟨ao, n, c, V, hr1, hn, hbox, g9⟩ := g8.addRule (by show (rsT L r k).length ≤ 1000; omega) (ruT L r k) xa xc m (own_mono s.own hlV) s.len
            subst hn
            obtain ⟨-, -, -, c3, -⟩ := g8.cells
            simp only at hr1 c3
            have eL : (ruT L r k).l = lj := by rw [← HLJ.out, ← HJ.out]; rfl
            have hr1' : (Builtin.append_ #[23, 23] 23 #[.slice ra k rc, .slice (some ⟨W8.heap.size, 0, none⟩) 1 1]).run Tryz.prog (W8.alloc (.cells #[.string lj, .slice xa m xc, .string ⟨#[]⟩] 46)) = .ok (.slice ao (k + 1) c) V := by
              rw [ern, eL] at hr1
              exact hr1
            rw [ern] at c3
            have d3 : V.cell? ⟨gb, 3, none⟩ = some (.slice ra k rc) := by rw [cell_block hbox]; unfold boxC; simp only [ern]; rfl
            have f3 : V.frozen? ⟨gb, 3, none⟩ = false := frozen_block hbox 3
            have u0 : W8.cell? ⟨rb, 0, none⟩ = some (.string lj) := by rw [HRB.out, cell_block s.box]; rfl
            have u1 : W8.cell? ⟨rb, 1, none⟩ = some (.slice xa m xc) := by rw [HRB.out, cell_block s.box]; rfl
            have u2 : W8.cell? ⟨rb, 2, none⟩ = some (.string ⟨#[]⟩) := by rw [HRB.out, cell_block s.box]; rfl
            have HF : Hid (∃ h qs, GB V1 (V.setCell ⟨gb, 3, none⟩ (.slice ao (k + 1) c)) gb h ⟨tsT i, e0, 0, rsT L r (k + 1)⟩ qs) := by
              simp only [ern] at g9
              rw [rsT_snoc]
              exact ⟨_, _, g9⟩
            clear hr1 s g g8 g9 hbox ern eL HC HG3 hlV
            go_wp2_with (at_builtin; refine Lib.wpList_append_run _ rfl _ _ _ _ rfl _ _ rfl rfl _ _ hr1' ?_)
            go_roundg (R - (k + 1))
            case measure => omega
            case rel => exact ⟨k + 1, by simp, by omega, Nat.le_refl _, HF⟩
        · have hlt' : ¬ (k : Int) < (R : Int) := by omega
          have hkR : k = R := by omega
          subst hkR
          obtain ⟨W9, hW9⟩ : ∃ W9, W9 = wr := ⟨_, rfl⟩
          subst wr
          obtain ⟨⟨ta, tc, ra, rc⟩, qs, g⟩ := J.out
          obtain ⟨e, hof, hres⟩ := HLM.out.of
          have HO : Hid (Calls Tryz.prog 10 #[.agg #[.slice ta i tc, .string ⟨#[]⟩, .int .i64 0, .slice ra k rc]] W9 fun e' w' => ∃ h', e' = .returned (.tuple #[.agg (sC h' (spK (grT i L k r) e)), .int .i64 e]) ∧ IsSp w' h' (spK (grT i L k r) e) ∧ Below W9.heap.size W9 w') := by
            have := of_uni (grT i L k r) ⟨ta, tc, ra, rc⟩ W9 e (g.own.isG HLM.out.small) hof
            unfold gv at this
            have e1 : (grT i L k r).ts.length = i := tsT_len i
            have e2 : (grT i L k r).rs.length = k := rsT_len L r k
            simp only [e1, e2] at this
            exact this
          obtain ⟨c0, c1, c2, c3, -⟩ := g.cells
          simp only [tsT_len, rsT_len] at c0 c1 c2 c3
          have c1' : W9.cell? ⟨gb, 1, none⟩ = some (.string ⟨#[]⟩) := c1
          have HB9 : Hid (Below w.heap.size w W9) := below_step HV1.out g.bel
          clear g J hof c1
          generalize spK (grT i L k r) e = S at HO
          go_wp2_with fail
          refine HO.out.mono ?_
          rintro e' W10 ⟨h', rfl, -, hB⟩
          have HB : Hid (Below w.heap.size w (W10.alloc (.cells (sC h' S) 32))) := below_step (below_step HB9.out hB) (below_alloc _ _)
          clear hB HB9 c0 c1' c2 c3 HO
          unfold sC at HB ⊢
          go_upto_region 23 with fail
          rcases hres with ⟨ho, rfl⟩ | ⟨ho, rfl⟩
          · by_cases q1 : 12 < i
            · have q1' : (12 : Int) < (i : Int) := by omega
              go_wp2_with fail
              go_ret
              exact ⟨rfl, HB.out⟩
            have q1' : ¬ (12 : Int) < (i : Int) := by omega
            by_cases q2 : 10 < L
            · have q2' : (10 : Int) < (L : Int) := by omega
              go_wp2_with fail
              go_ret
              exact ⟨rfl, HB.out⟩
            have q2' : ¬ (10 : Int) < (L : Int) := by omega
            by_cases q3 : 30 < k
            · have q3' : (30 : Int) < (k : Int) := by omega
              go_wp2_with fail
              go_ret
              exact ⟨rfl, HB.out⟩
            have q3' : ¬ (30 : Int) < (k : Int) := by omega
            have q4' : (6 : Int) < (r : Int) := by omega
            go_wp2_with fail
            go_ret
            exact ⟨rfl, HB.out⟩
          · have q1' : ¬ (12 : Int) < (i : Int) := by omega
            have q2' : ¬ (10 : Int) < (L : Int) := by omega
            have q3' : ¬ (30 : Int) < (k : Int) := by omega
            have q4' : ¬ (6 : Int) < (r : Int) := by omega
            go_wp2_with fail
            go_ret
            exact ⟨rfl, HB.out⟩

end Go.Proofs.YtebehlmidoencaaGreatDoor.Limits

/-
  WellLimits: whatever the four numbers, as many tokens, Lefts, rules and symbols as there may be mean something and one more is a limit passed, so the call returns true and leaves all that was there as it was; its conditions are those of the row: the five tables as the program lays them.
-/
namespace Go.Proofs.YtebehlmidoencaaGreatDoor.Limits
open Go.ChangeShapes Go.WideShapes Go.ChangeAt Go.RowKit
open Go.ChangeMaps (open_string shut_string)

set_option maxRecDepth 100000 in
theorem lifted (os : Os) (started : os.Started) (H : Type) (enc : TypeId × Value → H) :
    ReturnsInHanded {} Tryz.checked os 6 .any (fun w args => (Rows.wellLimitsSpec.pre enc Tryz.prog Tryz.f6 [] false w args ∧ laidMetH Tryz.prog laid5 w) ∧ sizedMet enc Tryz.prog Tryz.f6 (OpenSpec.ofChange Rows.wellLimitsSpec) false w args) (Rows.wellLimitsSpec.post enc Tryz.prog Tryz.f6 false true false false) := by
  refine returnsInHanded_of_change_and (C := Tryz.checked) (X := fun w _ => laidMetH Tryz.prog laid5 w) (fun _ _ _ hh h => h.of_heap hh) own started (by kernel_rfl) Tryz.func6
    (ChangeSpec.witness_shaped (enc := enc) (C := Tryz.checked) (os := os) (X := fun w _ => laidMetH Tryz.prog laid5 w) false (World.doorLaid Tryz.prog 97 os) #[.int .i64 0, .int .i64 0, .int .i64 0, .int .i64 0] 8 rfl (World.shaped_of_RefB (by kernel_rfl) (by kernel_rfl)) (by kernel_rfl) (by kernel_rfl) (by kernel_rfl) (door_met os _)) ?_
  intro W base args ds gs before hval0 hW _ _ hL _
  have hval : ∀ (j : Nat) t v, Tryz.f6.params[j]? = some t → args[j]? = some v → Value.okWide Tryz.prog W .any base t v := hval0
  have hW' := hW
  obtain ⟨p, q, hA0, hV, rfl, _, _⟩ := hW
  have hA : DataW.TrodAll enc Tryz.prog W 0 (fun _ => true) true Tryz.f6.params.toList args.toList ds p := hA0
  rw [Tryz.params6] at hA hval
  obtain ⟨v0, vs0, d0, ds0, p0, q0, _, rfl, rfl, h0, r0⟩ := trodAll_cons hA
  obtain ⟨v1, vs1, d1, ds1, p1, q1, rfl, rfl, rfl, h1, r1⟩ := trodAll_cons r0
  obtain ⟨v2, vs2, d2, ds2, p2, q2, rfl, rfl, rfl, h2, r2⟩ := trodAll_cons r1
  obtain ⟨v3, vs3, d3, ds3, p3, q3, rfl, rfl, rfl, h3, r3⟩ := trodAll_cons r2
  obtain ⟨rfl, rfl, rfl⟩ := trodAll_nil r3
  obtain rfl : args = #[v0, v1, v2, v3] := by cases args; simp_all
  obtain ⟨rfl, rfl⟩ := trodVars_none hV
  obtain ⟨a0, rfl, rfl, rfl, w0⟩ := open_int Tryz.underlying3 (hval 0 3 v0 rfl rfl) h0
  obtain ⟨a1, rfl, rfl, rfl, w1⟩ := open_int Tryz.underlying3 (hval 1 3 v1 rfl rfl) h1
  obtain ⟨a2, rfl, rfl, rfl, w2⟩ := open_int Tryz.underlying3 (hval 2 3 v2 rfl rfl) h2
  obtain ⟨a3, rfl, rfl, rfl, w3⟩ := open_int Tryz.underlying3 (hval 3 3 v3 rfl rfl) h3
  clear hA0 hval0
  simp only [List.append_nil] at hW'
  refine (walk a0 a1 a2 a3 W (pow_of_laid hL)  ).mono fun e W' ⟨he, bel⟩ => ?_
  subst he
  exact ⟨_, rfl, _, _, _, [], _, [], hW', trodAll_mk1 (shut_bool Tryz.underlying4 _), (trodAll_cons_mk (shut_int Tryz.underlying3 w0) (trodAll_cons_mk (shut_int Tryz.underlying3 w1) (trodAll_cons_mk (shut_int Tryz.underlying3 w2) (trodAll_cons_mk (shut_int Tryz.underlying3 w3) trodAll_mk0)))), rfl, bel.frame _, fun h => by cases h⟩

theorem over : Rows.wellLimitsRow.holds Tryz.pinned (OpenSpec.ofChange Rows.wellLimitsSpec) :=
  OpenClaim.holds_of_wide 6 Tryz.f6 rfl rfl rfl rfl rfl rfl rfl ⟨rfl, rfl, rfl, rfl, rfl⟩ rfl rfl rfl rfl rfl (by kernel_rfl) Tryz.func6 (by kernel_rfl)
    (of_decide_eq_true (by kernel_rfl)) (by unfold Func.isWrapper; first | (rw [if_pos (by decide +kernel)]; kernel_rfl) | (rw [if_neg (by decide +kernel)]; exact ⟨rfl, rfl⟩))
    (fun os started H enc _ => lifted os started H enc)

theorem card : Claim7.holds Tryz.pinned (.plain (OpenSpec.ofChange Rows.wellLimitsSpec)) Rows.wellLimitsCard :=
  Claim7.holds_tied_plain_at .later [] [.data, .data, .data, .sentinel, .sentinel] true (true, "08a893462700bd46a194e27f97dd7829a9dfa3398a209d6b1c2ae5fb9c9a65e3") true
    over (fun _ h => by cases h) (by kernel_rfl) (fun _ h => by cases h) wellLimits_row_tie rfl ⟨rfl, rfl⟩ (by kernel_rfl) rfl
    (fun f fn hf hfn => by
      obtain rfl : f = 6 := Option.some.inj ((show Tryz.prog.funcNamed "donatus/donatuslaw7.WellLimits" = some 6 by kernel_rfl).symm.trans hf) |>.symm
      obtain rfl : fn = Tryz.f6 := (Option.some.inj (Tryz.func6.symm.trans hfn)).symm
      exact ⟨by kernel_rfl, fun j t ht => by
        rw [Tryz.params6] at ht
        have hm : t ∈ [3, 3, 3, 3] := by simpa using Array.mem_of_getElem? ht
        have hall : ([3, 3, 3, 3].all fun u => !Tryz.prog.wantsStandIn u) = true := by kernel_rfl
        exact (show Tryz.prog.wantsStandIn t = false by simpa using List.all_eq_true.1 hall t hm)⟩)
    (by kernel_rfl)

end Go.Proofs.YtebehlmidoencaaGreatDoor.Limits
namespace Go.Proofs.YtebehlmidoencaaGreatDoor
theorem wellLimits_holds : Rows.WellLimitsCardSaid := Limits.card
#print axioms wellLimits_holds
end Go.Proofs.YtebehlmidoencaaGreatDoor
