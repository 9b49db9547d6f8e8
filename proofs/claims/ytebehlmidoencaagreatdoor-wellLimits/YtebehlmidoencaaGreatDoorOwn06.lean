/-
  Texts that the proof of the Well statements stands on, part Own06.
-/
import Derived.Test.YtebehlmidoencaaGreatDoorOwn05
import Derived.Deep.SlicePairs
import Derived.Deep.Strs
import Derived.Deep.RegionHeld
import Derived.Deep.RegionLaw
/-
  Where a text stands in a list: the walks of slices.Index, slices.Contains, the reference's place; the lists of tokens and of Lefts of a Spec.
-/
namespace Go.Proofs.YtebehlmidoencaaGreatDoor
open Go.RowKit

set_option maxRecDepth 20000

/-- Where a text stands first. -/
def findS : List ByteArray → ByteArray → Option Nat
  | [], _ => none
  | x :: r, s => if x = s then some 0 else (findS r s).map (· + 1)

theorem findS_at {s : ByteArray} : ∀ {l : List ByteArray} {k : Nat} {x : ByteArray}, (∀ (i : Nat) (y : ByteArray), i < k → l[i]? = some y → y ≠ s) → l[k]? = some x → x = s → findS l s = some k
  | [], k, x, _, h, _ => by cases h
  | u :: r, 0, x, _, h, he => by
    cases h
    unfold findS
    rw [if_pos he]
  | u :: r, k + 1, x, hb, h, he => by
    unfold findS
    rw [if_neg (hb 0 u (by omega) rfl), findS_at (k := k) (x := x) (fun i y hi hy => hb (i + 1) y (by omega) (by simpa using hy)) (by simpa using h) he]
    rfl

theorem findS_none {s : ByteArray} : ∀ {l : List ByteArray}, (∀ (i : Nat) (y : ByteArray), l[i]? = some y → y ≠ s) → findS l s = none
  | [], _ => rfl
  | u :: r, hb => by
    unfold findS
    rw [if_neg (hb 0 u rfl), findS_none (l := r) (fun i y hy => hb (i + 1) y (by simpa using hy))]
    rfl

theorem findS_mem {s : ByteArray} : ∀ {l : List ByteArray}, (findS l s).isSome = true ↔ s ∈ l
  | [] => by simp [findS]
  | u :: r => by
    unfold findS
    split
    · rename_i h; subst h; simp
    · rename_i h
      rw [Option.isSome_map, findS_mem]
      constructor
      · intro h1; exact List.mem_cons_of_mem _ h1
      · intro h1
        rcases List.mem_cons.1 h1 with h2 | h2
        · exact absurd h2.symm h
        · exact h2

theorem findS_get {s : ByteArray} : ∀ {l : List ByteArray} {k : Nat}, findS l s = some k → l[k]? = some s
  | [], k, h => by cases h
  | u :: r, k, h => by
    unfold findS at h
    split at h
    · rename_i e; cases h; subst e; rfl
    · obtain ⟨j, hj, rfl⟩ := Option.map_eq_some_iff.1 h
      simpa using findS_get hj

theorem findS_lt {s : ByteArray} {l : List ByteArray} {k : Nat} (h : findS l s = some k) : k < l.length := (List.getElem?_eq_some_iff.1 (findS_get h)).1

theorem findS_cons (u : ByteArray) (r : List ByteArray) (s : ByteArray) : findS (u :: r) s = if u = s then some 0 else (findS r s).map (· + 1) := rfl

theorem findS_append {s : ByteArray} : ∀ (a b : List ByteArray), findS (a ++ b) s = match findS a s with | some k => some k | none => (findS b s).map (· + a.length)
  | [], b => by simp [findS]
  | u :: r, b => by
    have ih := findS_append (s := s) r b
    rw [List.cons_append, findS_cons, findS_cons]
    by_cases h : u = s
    · rw [if_pos h, if_pos h]
    · rw [if_neg h, if_neg h, ih]
      cases findS r s with
      | some k => rfl
      | none =>
        simp only [Option.map_none]
        cases findS b s with
        | none => rfl
        | some j => simp [Nat.add_assoc]

/-- The walk of a function that looks for a text, one by one. -/
def FindCalls (F : FuncId) : Prop := ∀ (l : List ByteArray) (ao : Option Addr) (cap : Nat) (s : ByteArray) (w : World), Row w 1 ao l.length cap (strC l) → l.length ≤ 10000 → Calls Tryz.prog F #[.slice ao l.length cap, .string s] w fun e w' => e = .returned (.int .i64 (idxI (findS l s))) ∧ w' = w

set_option maxHeartbeats 2000000 in
theorem index_calls : FindCalls 24 := by
  intro l ao cap s w hr hl
  have hle := row_lens hr
  have HR : Hid (Row w 1 ao l.length cap (strC l)) := hr
  clear hr
  obtain ⟨n, HN⟩ : ∃ n, Hid (l.length = n) := ⟨_, rfl⟩
  rw [HN.out] at hle hl HR ⊢
  go_enter Tryz.func24, Tryz.ntmps24
  go_wp2_with fail
  go_loopg [8] n (fun kx s8 wr => ∃ k : Nat, s8 = .int .i64 k ∧ k ≤ n ∧ n - k ≤ kx ∧ Hid (wr = w ∧ ∀ (i : Nat) (y : ByteArray), i < k → l[i]? = some y → y ≠ s))
  case atStart => exact ⟨0, rfl, Nat.zero_le _, by omega, (⟨rfl, fun i y hi => absurd hi (Nat.not_lt_zero _)⟩ : w = w ∧ ∀ (i : Nat) (y : ByteArray), i < 0 → l[i]? = some y → y ≠ s)⟩
  case round =>
    obtain ⟨k, rfl, hk, hg, J⟩ := hrel
    obtain ⟨hwr, hJ⟩ := J.out
    subst hwr
    have HJ : Hid (∀ (i : Nat) (y : ByteArray), i < k → l[i]? = some y → y ≠ s) := hJ
    clear J hJ
    by_cases hlt : k < n
    · have hlt' : (k : Int) < (n : Int) := by omega
      obtain ⟨x, hx⟩ : ∃ x, l[k]? = some x := ⟨l[k]'(by rw [HN.out]; exact hlt), List.getElem?_eq_getElem _⟩
      obtain ⟨b, o, hao, c0⟩ := str_at HR.out hx
      subst hao
      have HX : Hid (l[k]? = some x) := hx
      clear hx
      by_cases he : x = s
      · have hb := toList_beq_eq he.symm
        have HF : Hid (idxI (findS l s) = (k : Int)) := by
          show _ = _
          rw [findS_at HJ.out HX.out he]
          rfl
        clear he
        go_wp2_with fail
        go_ret
        exact ⟨by rw [HF.out]; rfl, rfl⟩
      · have hb := toList_beq_ne (fun e => he e.symm : s ≠ x)
        have HF : Hid (∀ (i : Nat) (y : ByteArray), i < k + 1 → l[i]? = some y → y ≠ s) := fun i y hi hy => by
          rcases Nat.lt_or_ge i k with h | h
          · exact HJ.out i y h hy
          · have : i = k := by omega
            subst this
            rw [HX.out] at hy
            cases hy
            exact he
        clear he
        go_wp2_with fail
        go_roundg (n - (k + 1))
        case measure => omega
        case rel => exact ⟨k + 1, by simp, by omega, Nat.le_refl _, (⟨rfl, HF.out⟩ : wr = wr ∧ ∀ (i : Nat) (y : ByteArray), i < k + 1 → l[i]? = some y → y ≠ s)⟩
    · have hlt' : ¬ (k : Int) < (n : Int) := by omega
      have HF : Hid (idxI (findS l s) = -1) := by
        show _ = _
        rw [findS_none (fun i y hy => HJ.out i y (by have := (List.getElem?_eq_some_iff.1 hy).1; rw [HN.out] at this; omega) hy)]
        rfl
      go_wp2_with fail
      go_ret
      exact ⟨by rw [HF.out]; rfl, rfl⟩

set_option maxHeartbeats 2000000 in
theorem place_calls : FindCalls 32 := by
  intro l ao cap s w hr hl
  have hle := row_lens hr
  have HR : Hid (Row w 1 ao l.length cap (strC l)) := hr
  clear hr
  obtain ⟨n, HN⟩ : ∃ n, Hid (l.length = n) := ⟨_, rfl⟩
  rw [HN.out] at hle hl HR ⊢
  go_enter Tryz.func32, Tryz.ntmps32
  go_wp2_with fail
  go_loopg [5] n (fun kx s5 wr => ∃ k : Nat, s5 = .int .i64 k ∧ k ≤ n ∧ n - k ≤ kx ∧ Hid (wr = w ∧ ∀ (i : Nat) (y : ByteArray), i < k → l[i]? = some y → y ≠ s))
  case atStart => exact ⟨0, rfl, Nat.zero_le _, by omega, (⟨rfl, fun i y hi => absurd hi (Nat.not_lt_zero _)⟩ : w = w ∧ ∀ (i : Nat) (y : ByteArray), i < 0 → l[i]? = some y → y ≠ s)⟩
  case round =>
    obtain ⟨k, rfl, hk, hg, J⟩ := hrel
    obtain ⟨hwr, hJ⟩ := J.out
    subst hwr
    have HJ : Hid (∀ (i : Nat) (y : ByteArray), i < k → l[i]? = some y → y ≠ s) := hJ
    clear J hJ
    by_cases hlt : k < n
    · have hlt' : (k : Int) < (n : Int) := by omega
      obtain ⟨x, hx⟩ : ∃ x, l[k]? = some x := ⟨l[k]'(by rw [HN.out]; exact hlt), List.getElem?_eq_getElem _⟩
      obtain ⟨b, o, hao, c0⟩ := str_at HR.out hx
      subst hao
      have HX : Hid (l[k]? = some x) := hx
      clear hx
      by_cases he : x = s
      · have hb := toList_beq_eq he
        have HF : Hid (idxI (findS l s) = (k : Int)) := by
          show _ = _
          rw [findS_at HJ.out HX.out he]
          rfl
        clear he
        go_wp2_with fail
        go_ret
        exact ⟨by rw [HF.out]; rfl, rfl⟩
      · have hb := toList_beq_ne he
        have HF : Hid (∀ (i : Nat) (y : ByteArray), i < k + 1 → l[i]? = some y → y ≠ s) := fun i y hi hy => by
          rcases Nat.lt_or_ge i k with h | h
          · exact HJ.out i y h hy
          · have : i = k := by omega
            subst this
            rw [HX.out] at hy
            cases hy
            exact he
        clear he
        go_wp2_with fail
        go_roundg (n - (k + 1))
        case measure => omega
        case rel => exact ⟨k + 1, by simp, by omega, Nat.le_refl _, (⟨rfl, HF.out⟩ : wr = wr ∧ ∀ (i : Nat) (y : ByteArray), i < k + 1 → l[i]? = some y → y ≠ s)⟩
    · have hlt' : ¬ (k : Int) < (n : Int) := by omega
      have HF : Hid (idxI (findS l s) = -1) := by
        show _ = _
        rw [findS_none (fun i y hy => HJ.out i y (by have := (List.getElem?_eq_some_iff.1 hy).1; rw [HN.out] at this; omega) hy)]
        rfl
      go_wp2_with fail
      go_ret
      exact ⟨by rw [HF.out]; rfl, rfl⟩

theorem idxI_nonneg (o : Option Nat) : (0 ≤ idxI o) ↔ o.isSome = true := by
  cases o with
  | none => simp [idxI]
  | some k => simp [idxI]

set_option maxHeartbeats 2000000 in
theorem scont_calls (l : List ByteArray) (ao : Option Addr) (cap : Nat) (s : ByteArray) (w : World) (hr : Row w 1 ao l.length cap (strC l)) (hl : l.length ≤ 10000) (b : Bool) (hb : b = true ↔ s ∈ l) :
    Calls Tryz.prog 51 #[.slice ao l.length cap, .string s] w fun e w' => e = .returned (.bool b) ∧ w' = w := by
  have HC : Hid (Calls Tryz.prog 24 #[.slice ao l.length cap, .string s] w fun e w' => e = .returned (.int .i64 (idxI (findS l s))) ∧ w' = w) := index_calls l ao cap s w hr hl
  have HE : Hid (b = true ↔ 0 ≤ idxI (findS l s)) := by rw [idxI_nonneg, findS_mem]; exact hb
  clear hb hr
  generalize idxI (findS l s) = z at HC HE
  go_enter Tryz.func51, Tryz.ntmps51
  go_wp2_with fail
  refine HC.out.mono ?_
  rintro e w1 ⟨rfl, rfl⟩
  cases b
  · have hz : ¬ 0 ≤ z := fun h => by have := HE.out.2 h; cases this
    go_wp2_with fail
    go_ret
    exact ⟨by simp [hz], rfl⟩
  · have hz : 0 ≤ z := HE.out.1 rfl
    go_wp2_with fail
    go_ret
    exact ⟨by simp, rfl⟩

end Go.Proofs.YtebehlmidoencaaGreatDoor

/-
  Which grammars mean something, and what they mean, as plain mathematics.
-/
namespace Go.Proofs.YtebehlmidoencaaGreatDoor
open Go.RowKit

set_option maxRecDepth 20000

/-- The unlike Lefts, as they first come. -/
def lfS (l : List ByteArray) (r : Ru) : List ByteArray := if (findS l r.l).isSome = true then l else l ++ [r.l]
def lfs (rs : List Ru) : List ByteArray := rs.foldl lfS []
/-- The tokens' names; all names. -/
def tkG (G : Gm) : List ByteArray := G.ts.map (·.n)
def nmG (G : Gm) : List ByteArray := tkG G ++ e0 :: lfs G.rs
def startB (G : Gm) : ByteArray := if G.s = e0 then ((G.rs[0]?).map (·.l)).getD e0 else G.s

/-- A limit is passed. -/
def LongP (G : Gm) : Prop := 12 < G.ts.length ∨ 30 < G.rs.length ∨ 10 < (lfs G.rs).length ∨ ∃ r ∈ G.rs, 6 < r.r.length
/-- Each name stands for what it must. -/
structure NmP (G : Gm) : Prop where
  ne : G.rs ≠ []
  tk : ∀ t ∈ G.ts, t.n ∉ lfs G.rs
  pr : ∀ r ∈ G.rs, r.p = e0 ∨ r.p ∈ tkG G
  rr : ∀ r ∈ G.rs, ∀ x ∈ r.r, x ∈ tkG G ∨ x ∈ lfs G.rs
  st : startB G ∈ lfs G.rs

def ix (l : List ByteArray) (s : ByteArray) : Nat := (findS l s).getD 0
/-- The token by which a rule binds. -/
def byS (nm : List ByteArray) (tk : Nat) (o : Option Nat) (x : ByteArray) : Option Nat := if ix nm x < tk then some (ix nm x) else o
def byL (G : Gm) (l : List ByteArray) : Option Nat := l.foldl (byS (nmG G) G.ts.length) none
def byG (G : Gm) (r : Ru) : Option Nat := if r.p = e0 then byL G r.r else findS (tkG G) r.p
def lvO (ts : List Tk) (o : Option Nat) : Int := match o with | some k => ((ts[k]?).map (·.l)).getD 0 | none => 0
def azO (ts : List Tk) (o : Option Nat) : Int := match o with | some k => ((ts[k]?).map (·.a)).getD 0 | none => 0
def ruG (G : Gm) (r : Ru) : SR := ⟨(ix (nmG G) r.l : Int), r.r.map (ix (nmG G)), lvO G.ts (byG G r), azO G.ts (byG G r)⟩
def stG (G : Gm) : Nat := G.ts.length + 1 + ix (lfs G.rs) (startB G)
/-- The grammar by numbers, but for its start and rules; all of it. -/
def sy0 (G : Gm) : Sp := ⟨G.ts.length, (lfs G.rs).length, 0, G.e, nmG G, G.ts.map (·.l), G.ts.map (·.a), []⟩
def spG (G : Gm) : Sp := ⟨G.ts.length, (lfs G.rs).length, stG G, G.e, nmG G, G.ts.map (·.l), G.ts.map (·.a), ⟨-1, [stG G], 0, 0⟩ :: G.rs.map (ruG G)⟩
def UselP (S : Sp) : Prop := ∃ x, S.tk < x ∧ x < S.tk + 1 + S.nt ∧ (¬ Der S x ∨ ¬ Rch S x)

/-- The number that Of tells. -/
def OfR (G : Gm) (k : Int) : Prop := (k = 1 ∧ ¬ MayP G) ∨ (k = 6 ∧ MayP G ∧ LongP G) ∨ (k = 7 ∧ MayP G ∧ ¬ LongP G ∧ ¬ NmP G) ∨ (k = 8 ∧ MayP G ∧ ¬ LongP G ∧ NmP G ∧ UselP (spG G)) ∨ (k = 0 ∧ MayP G ∧ ¬ LongP G ∧ NmP G ∧ ¬ UselP (spG G))

theorem ofR_ex (G : Gm) : ∃ k, OfR G k := by
  unfold OfR
  rcases Classical.em (MayP G) with h1 | h1
  · rcases Classical.em (LongP G) with h2 | h2
    · exact ⟨6, .inr (.inl ⟨rfl, h1, h2⟩)⟩
    · rcases Classical.em (NmP G) with h3 | h3
      · rcases Classical.em (UselP (spG G)) with h4 | h4
        · exact ⟨8, .inr (.inr (.inr (.inl ⟨rfl, h1, h2, h3, h4⟩)))⟩
        · exact ⟨0, .inr (.inr (.inr (.inr ⟨rfl, h1, h2, h3, h4⟩)))⟩
      · exact ⟨7, .inr (.inr (.inl ⟨rfl, h1, h2, h3⟩))⟩
  · exact ⟨1, .inl ⟨rfl, h1⟩⟩

theorem lfs_snoc (rs : List Ru) (r : Ru) : lfs (rs ++ [r]) = lfS (lfs rs) r := by unfold lfs; rw [List.foldl_append]; rfl

theorem lfs_take {rs : List Ru} {k : Nat} {r : Ru} (h : rs[k]? = some r) : lfs (rs.take (k + 1)) = lfS (lfs (rs.take k)) r := by rw [take_succ h, lfs_snoc]

theorem lfS_mem {l : List ByteArray} {r : Ru} {x : ByteArray} : x ∈ lfS l r ↔ x ∈ l ∨ x = r.l := by
  unfold lfS
  split
  · rename_i h
    have h := findS_mem.1 h
    constructor
    · exact .inl
    · rintro (h1 | h1)
      · exact h1
      · rw [h1]; exact h
  · rw [List.mem_append, List.mem_singleton]

theorem lfs_fold_mem (x : ByteArray) : ∀ (rs : List Ru) (l : List ByteArray), x ∈ rs.foldl lfS l ↔ x ∈ l ∨ ∃ r ∈ rs, r.l = x
  | [], l => by simp
  | r :: rs, l => by
    rw [List.foldl_cons, lfs_fold_mem x rs, lfS_mem]
    constructor
    · rintro ((h | h) | ⟨q, hq, h⟩)
      · exact .inl h
      · exact .inr ⟨r, by simp, h.symm⟩
      · exact .inr ⟨q, List.mem_cons_of_mem _ hq, h⟩
    · rintro (h | ⟨q, hq, h⟩)
      · exact .inl (.inl h)
      · rcases List.mem_cons.1 hq with rfl | hq
        · exact .inl (.inr h.symm)
        · exact .inr ⟨q, hq, h⟩

theorem lfs_mem {rs : List Ru} {x : ByteArray} : x ∈ lfs rs ↔ ∃ r ∈ rs, r.l = x := by
  unfold lfs
  rw [lfs_fold_mem]
  simp

theorem lfs_fold_le : ∀ (rs : List Ru) (l : List ByteArray), (rs.foldl lfS l).length ≤ l.length + rs.length
  | [], l => by simp
  | r :: rs, l => by
    rw [List.foldl_cons]
    have := lfs_fold_le rs (lfS l r)
    have h2 : (lfS l r).length ≤ l.length + 1 := by
      unfold lfS
      split
      · omega
      · simp
    rw [List.length_cons]
    omega

theorem lfs_le (rs : List Ru) : (lfs rs).length ≤ rs.length := by
  have := lfs_fold_le rs []
  unfold lfs
  simpa using this

theorem nmG_len (G : Gm) : (nmG G).length = G.ts.length + 1 + (lfs G.rs).length := by
  unfold nmG tkG
  rw [List.length_append, List.length_map, List.length_cons]
  omega

theorem name_ne {s : ByteArray} (h : NameP s) : s ≠ e0 := by
  rintro rfl
  unfold NameP at h
  have : nameOk (by8 e0) = false := by kernel_rfl
  rw [this] at h
  cases h

theorem may_left {G : Gm} (h : MayP G) {x : ByteArray} (hx : x ∈ lfs G.rs) : x ≠ e0 := by
  obtain ⟨r, hr, rfl⟩ := lfs_mem.1 hx
  exact name_ne (h.rl r hr).1

theorem may_tok {G : Gm} (h : MayP G) {x : ByteArray} (hx : x ∈ tkG G) : x ≠ e0 := by
  unfold tkG at hx
  obtain ⟨t, ht, rfl⟩ := List.mem_map.1 hx
  obtain ⟨i, hi⟩ := List.getElem?_of_mem ht
  exact name_ne (h.tk.1 i t hi).1

theorem may_sym {G : Gm} (h : MayP G) {r : Ru} (hr : r ∈ G.rs) {x : ByteArray} (hx : x ∈ r.r) : x ≠ e0 := name_ne ((h.rl r hr).2.2.2 x hx)

theorem findS_none_of {l : List ByteArray} {s : ByteArray} (h : s ∉ l) : findS l s = none := by
  cases hf : findS l s with
  | none => rfl
  | some k => exact absurd (findS_mem.1 (by rw [hf]; rfl)) h

theorem findS_some_of {l : List ByteArray} {s : ByteArray} (h : s ∈ l) : ∃ k, findS l s = some k := by
  cases hf : findS l s with
  | none => have := findS_mem.2 h; rw [hf] at this; cases this
  | some k => exact ⟨k, rfl⟩

/-- The place of a Left among all names. -/
theorem find_left {G : Gm} (hm : MayP G) (hn : NmP G) {x : ByteArray} (hx : x ∈ lfs G.rs) : findS (nmG G) x = some (G.ts.length + 1 + ix (lfs G.rs) x) := by
  obtain ⟨k, hk⟩ := findS_some_of hx
  have h1 : findS (tkG G) x = none := findS_none_of (fun h => by
    unfold tkG at h
    obtain ⟨t, ht, rfl⟩ := List.mem_map.1 h
    exact hn.tk t ht hx)
  unfold nmG
  rw [findS_append, h1]
  simp only
  rw [findS_cons, if_neg (fun e => may_left hm hx e.symm), hk]
  unfold ix tkG
  rw [hk]
  simp
  omega

theorem find_tok {G : Gm} {x : ByteArray} (hx : x ∈ tkG G) : findS (nmG G) x = some (ix (tkG G) x) ∧ ix (tkG G) x < G.ts.length := by
  obtain ⟨k, hk⟩ := findS_some_of hx
  have hl := findS_lt hk
  unfold nmG ix
  rw [findS_append, hk]
  refine ⟨rfl, ?_⟩
  unfold tkG at hl
  rw [List.length_map] at hl
  exact hl

theorem ix_lt {l : List ByteArray} {x : ByteArray} (h : x ∈ l) : ix l x < l.length := by
  obtain ⟨k, hk⟩ := findS_some_of h
  unfold ix
  rw [hk]
  exact findS_lt hk

theorem ix_find {l : List ByteArray} {x : ByteArray} (h : x ∈ l) : findS l x = some (ix l x) := by
  obtain ⟨k, hk⟩ := findS_some_of h
  unfold ix
  rw [hk]
  rfl

theorem nmG_mem {G : Gm} {x : ByteArray} (h : x ∈ tkG G ∨ x ∈ lfs G.rs) : x ∈ nmG G := by
  unfold nmG
  rcases h with h | h
  · exact List.mem_append_left _ h
  · exact List.mem_append_right _ (List.mem_cons_of_mem _ h)

/-- What means something is well formed. -/
theorem spG_wf {G : Gm} (hm : MayP G) (hl : ¬ LongP G) (hn : NmP G) : WF (spG G) := by
  have hl1 : G.ts.length ≤ 12 := by
    rcases Nat.lt_or_ge 12 G.ts.length with h | h
    · exact absurd (.inl h) hl
    · exact h
  have hl2 : G.rs.length ≤ 30 := by
    rcases Nat.lt_or_ge 30 G.rs.length with h | h
    · exact absurd (.inr (.inl h)) hl
    · exact h
  have hl3 : (lfs G.rs).length ≤ 10 := by
    rcases Nat.lt_or_ge 10 (lfs G.rs).length with h | h
    · exact absurd (.inr (.inr (.inl h))) hl
    · exact h
  have hl4 : ∀ r ∈ G.rs, r.r.length ≤ 6 := fun r hr => by
    rcases Nat.lt_or_ge 6 r.r.length with h | h
    · exact absurd (.inr (.inr (.inr ⟨r, hr, h⟩))) hl
    · exact h
  have hst : stG G < G.ts.length + 1 + (lfs G.rs).length := by
    have := ix_lt hn.st
    unfold stG
    omega
  refine ⟨nmG_len G, by simp [spG], by simp [spG], by show G.ts.length ≤ 100; omega, by show (lfs G.rs).length ≤ 200; omega, by simp [spG]; omega, rfl, ⟨by show G.ts.length < stG G; unfold stG; omega, hst⟩, ?_, ?_⟩
  · intro i r hi hr
    obtain ⟨j, rfl⟩ : ∃ j, i = j + 1 := ⟨i - 1, by omega⟩
    have hr : (G.rs.map (ruG G))[j]? = some r := by simpa [spG] using hr
    rw [List.getElem?_map] at hr
    obtain ⟨q, hq, rfl⟩ := Option.map_eq_some_iff.1 hr
    have hql : q.l ∈ lfs G.rs := lfs_mem.2 ⟨q, List.mem_of_getElem? hq, rfl⟩
    refine ⟨ix (nmG G) q.l, rfl, ?_⟩
    have h1 := find_left hm hn hql
    have h2 : ix (nmG G) q.l = G.ts.length + 1 + ix (lfs G.rs) q.l := by
      unfold ix at h1 ⊢
      rw [h1]
      rfl
    have h3 := ix_lt hql
    show G.ts.length < _ ∧ _ < G.ts.length + 1 + (lfs G.rs).length
    omega
  · intro r hr
    have hr : r = ⟨-1, [stG G], 0, 0⟩ ∨ r ∈ G.rs.map (ruG G) := by simpa [spG] using hr
    rcases hr with rfl | hr
    · refine ⟨by simp, fun y hy => ?_⟩
      have : y = stG G := by simpa using hy
      subst this
      exact hst
    · obtain ⟨q, hq, rfl⟩ := List.mem_map.1 hr
      refine ⟨by have := hl4 q hq; simp [ruG]; omega, fun y hy => ?_⟩
      have hy : y ∈ q.r.map (ix (nmG G)) := hy
      obtain ⟨x, hx, rfl⟩ := List.mem_map.1 hy
      have := ix_lt (nmG_mem (hn.rr q hq x hx))
      rw [nmG_len] at this
      exact this

theorem byL_snoc (G : Gm) (l : List ByteArray) (x : ByteArray) : byL G (l ++ [x]) = byS (nmG G) G.ts.length (byL G l) x := by unfold byL; rw [List.foldl_append]; rfl

theorem byS_lt {nm : List ByteArray} {tk : Nat} {o : Option Nat} {x : ByteArray} (h : ∀ k, o = some k → k < tk) : ∀ k, byS nm tk o x = some k → k < tk := by
  intro k hk
  unfold byS at hk
  split at hk
  · cases hk; assumption
  · exact h k hk

theorem byL_fold_lt (nm : List ByteArray) (tk : Nat) : ∀ (l : List ByteArray) (o : Option Nat), (∀ k, o = some k → k < tk) → ∀ k, l.foldl (byS nm tk) o = some k → k < tk
  | [], _, h, k, hk => h k hk
  | x :: l, o, h, k, hk => byL_fold_lt nm tk l (byS nm tk o x) (byS_lt h) k hk

theorem byL_lt {G : Gm} {l : List ByteArray} {k : Nat} (h : byL G l = some k) : k < G.ts.length := byL_fold_lt _ _ l none (fun k hk => by cases hk) k h

theorem byG_lt {G : Gm} {r : Ru} {k : Nat} (h : byG G r = some k) : k < G.ts.length := by
  unfold byG at h
  split at h
  · exact byL_lt h
  · have := findS_lt h
    unfold tkG at this
    rwa [List.length_map] at this

end Go.Proofs.YtebehlmidoencaaGreatDoor

/-
  Grammars of any size as they come in: what their cells hold.
-/
namespace Go.Proofs.YtebehlmidoencaaGreatDoor
open Go.RowKit Go.ChangeShapes Go.WideShapes

set_option maxRecDepth 20000


/-- Texts that a slice shows. -/
structure RawS (w : World) (ao : Option Addr) (n cap : Nat) (l : List ByteArray) : Prop where
  len : n = l.length
  le : n ≤ cap ∧ cap ≤ 9223372036854775807
  get : ∀ (i : Nat) (s : ByteArray), l[i]? = some s → ∃ b o, ao = some ⟨b, o, none⟩ ∧ w.cell? ⟨b, o + i, none⟩ = some (.string s)

/-- A grammar that came in. -/
structure RawG (w : World) (h : Hd) (G : Gm) : Prop where
  tl : G.ts.length ≤ h.tc ∧ h.tc ≤ 9223372036854775807
  rl : G.rs.length ≤ h.rc ∧ h.rc ≤ 9223372036854775807
  tok : ∀ (i : Nat) (t : Tk), G.ts[i]? = some t → ∃ b o, h.ta = some ⟨b, o, none⟩ ∧ w.cell? ⟨b, o + i * 3, none⟩ = some (.string t.n) ∧ w.cell? ⟨b, o + i * 3 + 1, none⟩ = some (.int .i64 t.l) ∧ w.cell? ⟨b, o + i * 3 + 2, none⟩ = some (.int .i64 t.a)
  rul : ∀ (i : Nat) (r : Ru), G.rs[i]? = some r → ∃ b o xa xc, h.ra = some ⟨b, o, none⟩ ∧ w.cell? ⟨b, o + i * 3, none⟩ = some (.string r.l) ∧ w.cell? ⟨b, o + i * 3 + 1, none⟩ = some (.slice xa r.r.length xc) ∧ w.cell? ⟨b, o + i * 3 + 2, none⟩ = some (.string r.p) ∧ RawS w xa r.r.length xc r.r

theorem RawS.below {w w' : World} {ao : Option Addr} {n cap : Nat} {l : List ByteArray} (h : RawS w ao n cap l) (hb : Below w.heap.size w w') : RawS w' ao n cap l :=
  ⟨h.len, h.le, fun i s hs => by obtain ⟨b, o, e, c⟩ := h.get i s hs; exact ⟨b, o, e, cell_below hb c⟩⟩

theorem RawG.below {w w' : World} {h : Hd} {G : Gm} (g : RawG w h G) (hb : Below w.heap.size w w') : RawG w' h G :=
  ⟨g.tl, g.rl, fun i t ht => by obtain ⟨b, o, e, c0, c1, c2⟩ := g.tok i t ht; exact ⟨b, o, e, cell_below hb c0, cell_below hb c1, cell_below hb c2⟩,
    fun i r hr => by obtain ⟨b, o, xa, xc, e, c0, c1, c2, c3⟩ := g.rul i r hr; exact ⟨b, o, xa, xc, e, cell_below hb c0, cell_below hb c1, cell_below hb c2, c3.below hb⟩⟩

theorem open_strs' {H : Type} {enc : TypeId × Value → H} {W : World} {fuel : Nat} {cs : List Value} {x : DataW H × List MemPlace} (h : DataW.trod enc Tryz.prog W 0 (fun _ => true) true fuel 28 cs = some x) :
    ∃ (ao : Option Addr) (n cap : Nat) (l : List ByteArray), cs = [.slice ao n cap] ∧ RawS W ao n cap l := by
  rcases Go.Deep.open_strs Tryz.underlying28 Tryz.underlying9 (by kernel_rfl) h with ⟨hcs, _⟩ | ⟨a, len, cap, m, Sx, hcs, _, hl, hm, hmm, _, hx⟩
  · exact ⟨none, 0, 0, [], hcs, rfl, ⟨Nat.le_refl _, by omega⟩, fun i s hs => by cases hs⟩
  · refine ⟨some a, len, cap, (List.range len).map Sx, hcs, by simp, ⟨hl, by unfold maxLen at hm; omega⟩, fun i s hs => ?_⟩
    obtain ⟨hi, rfl⟩ := range_map_at Sx len i s hs
    have hm' : m = cap := by simpa using hmm
    have hc := (hx i (by omega)).1
    have h0 := (hx 0 (by omega)).1
    obtain ⟨b, off, spot⟩ := a
    have hspot : spot = none := by simpa [Addr.add] using World.cell?_spot h0
    subst hspot
    rw [Addr.add_lit] at hc
    exact ⟨b, off, rfl, hc⟩

theorem rule_fields : Tryz.prog.underlying 46 = some (.struct #[⟨"Left", 9, 0, false, "", "", 0⟩, ⟨"Right", 28, 1, false, "", "", 16⟩, ⟨"Prec", 9, 2, false, "", "", 40⟩]) := by kernel_rfl
theorem tok_fields : Tryz.prog.underlying 44 = some (.struct #[⟨"Name", 9, 0, false, "", "", 0⟩, ⟨"Level", 3, 1, false, "", "", 16⟩, ⟨"Assoc", 3, 2, false, "", "", 24⟩]) := by kernel_rfl
theorem c9 : Tryz.prog.cellsOf 9 = 1 := by kernel_rfl
theorem c3' : Tryz.prog.cellsOf 3 = 1 := by kernel_rfl
theorem c37 : Tryz.prog.cellsOf 28 = 1 := by kernel_rfl
theorem c35 : Tryz.prog.cellsOf 44 = 3 := by kernel_rfl
theorem c39 : Tryz.prog.cellsOf 46 = 3 := by kernel_rfl
theorem c22 : Tryz.prog.cellsOf 22 = 1 := by kernel_rfl
theorem c23 : Tryz.prog.cellsOf 23 = 1 := by kernel_rfl
theorem c25 : Tryz.prog.cellsOf 25 = 4 := by kernel_rfl

/-- Three cells behind an address. -/
theorem three_cells {W : World} {a : Addr} {i : Nat} {cs : List Value} (h : W.cells? 0 (a.add (i * 3)) 3 = some cs) : ∃ v0 v1 v2, cs = [v0, v1, v2] ∧ W.cell? (a.add (i * 3)) = some v0 ∧ W.cell? (a.add (i * 3 + 1)) = some v1 ∧ W.cell? (a.add (i * 3 + 2)) = some v2 := by
  obtain ⟨_, hlen, hcell⟩ := World.cells?_some h
  match cs, hlen with
  | [v0, v1, v2], _ =>
    have e0 := hcell 0 (by omega)
    have e1 := hcell 1 (by omega)
    have e2 := hcell 2 (by omega)
    rw [Go.Deep.add_add] at e0 e1 e2
    exact ⟨v0, v1, v2, rfl, by simpa using e0, by simpa using e1, by simpa using e2⟩

theorem open_toks {H : Type} {enc : TypeId × Value → H} {W : World} {fuel : Nat} {cs : List Value} {x : DataW H × List MemPlace} (h : DataW.trod enc Tryz.prog W 0 (fun _ => true) true fuel 22 cs = some x) :
    ∃ (ao : Option Addr) (n cap : Nat) (ts : List Tk), cs = [.slice ao n cap] ∧ n = ts.length ∧ (n ≤ cap ∧ cap ≤ 9223372036854775807) ∧
      ∀ (i : Nat) (t : Tk), ts[i]? = some t → ∃ b o, ao = some ⟨b, o, none⟩ ∧ W.cell? ⟨b, o + i * 3, none⟩ = some (.string t.n) ∧ W.cell? ⟨b, o + i * 3 + 1, none⟩ = some (.int .i64 t.l) ∧ W.cell? ⟨b, o + i * 3 + 2, none⟩ = some (.int .i64 t.a) := by
  rcases Go.Deep.open_slice Tryz.underlying22 h with ⟨hcs, _⟩ | ⟨a, len, cap, m, n, D, Pl, hcs, _, hl, hm, hmm, _, hx⟩
  · exact ⟨none, 0, 0, [], hcs, rfl, ⟨Nat.le_refl _, by omega⟩, fun i s hs => by cases hs⟩
  · have hm' : m = cap := by simpa using hmm
    rw [c35] at hx
    have each : ∀ i, i < len → ∃ t : Tk, W.cell? (a.add (i * 3)) = some (.string t.n) ∧ W.cell? (a.add (i * 3 + 1)) = some (.int .i64 t.l) ∧ W.cell? (a.add (i * 3 + 2)) = some (.int .i64 t.a) := fun i hi => by
      obtain ⟨cs', h1, h2⟩ := hx i (by omega)
      obtain ⟨v0, v1, v2, rfl, e0, e1, e2⟩ := three_cells h1
      obtain ⟨y0, y1, y2, k, _, _, f0, f1, f2⟩ := Go.Deep.trod_struct3 tok_fields h2
      simp [c9, c3'] at f0 f1 f2
      obtain ⟨s, hs, -⟩ := DataW.trod_string Tryz.underlying9 f0
      obtain ⟨i1, g1, -⟩ := DataW.trod_int Tryz.underlying3 f1
      obtain ⟨i2, g2, -⟩ := DataW.trod_int Tryz.underlying3 f2
      simp only [List.cons.injEq, and_true] at hs g1 g2
      exact ⟨⟨s, i1, i2⟩, by rw [e0, hs], by rw [e1, g1], by rw [e2, g2]⟩
    haveI : Inhabited Tk := ⟨⟨⟨#[]⟩, 0, 0⟩⟩
    obtain ⟨f, hf⟩ := Go.Deep.choose_lt each
    refine ⟨some a, len, cap, (List.range len).map f, hcs, by simp, ⟨hl, by unfold maxLen at hm; omega⟩, fun i t ht => ?_⟩
    obtain ⟨hi, rfl⟩ := range_map_at f len i t ht
    obtain ⟨k0, k1, k2⟩ := hf i hi
    obtain ⟨b, off, spot⟩ := a
    have hspot : spot = none := by simpa [Addr.add] using World.cell?_spot (hf 0 (by omega)).1
    subst hspot
    rw [Addr.add_lit] at k0 k1 k2
    exact ⟨b, off, rfl, k0, k1, k2⟩

theorem open_ruls {H : Type} {enc : TypeId × Value → H} {W : World} {fuel : Nat} {cs : List Value} {x : DataW H × List MemPlace} (h : DataW.trod enc Tryz.prog W 0 (fun _ => true) true fuel 23 cs = some x) :
    ∃ (ao : Option Addr) (n cap : Nat) (rs : List Ru), cs = [.slice ao n cap] ∧ n = rs.length ∧ (n ≤ cap ∧ cap ≤ 9223372036854775807) ∧
      ∀ (i : Nat) (r : Ru), rs[i]? = some r → ∃ b o xa xc, ao = some ⟨b, o, none⟩ ∧ W.cell? ⟨b, o + i * 3, none⟩ = some (.string r.l) ∧ W.cell? ⟨b, o + i * 3 + 1, none⟩ = some (.slice xa r.r.length xc) ∧ W.cell? ⟨b, o + i * 3 + 2, none⟩ = some (.string r.p) ∧ RawS W xa r.r.length xc r.r := by
  rcases Go.Deep.open_slice Tryz.underlying23 h with ⟨hcs, _⟩ | ⟨a, len, cap, m, n, D, Pl, hcs, _, hl, hm, hmm, _, hx⟩
  · exact ⟨none, 0, 0, [], hcs, rfl, ⟨Nat.le_refl _, by omega⟩, fun i s hs => by cases hs⟩
  · have hm' : m = cap := by simpa using hmm
    rw [c39] at hx
    have each : ∀ i, i < len → ∃ r : Ru, ∃ xa xc, W.cell? (a.add (i * 3)) = some (.string r.l) ∧ W.cell? (a.add (i * 3 + 1)) = some (.slice xa r.r.length xc) ∧ W.cell? (a.add (i * 3 + 2)) = some (.string r.p) ∧ RawS W xa r.r.length xc r.r := fun i hi => by
      obtain ⟨cs', h1, h2⟩ := hx i (by omega)
      obtain ⟨v0, v1, v2, rfl, e0, e1, e2⟩ := three_cells h1
      obtain ⟨y0, y1, y2, k, _, _, f0, f1, f2⟩ := Go.Deep.trod_struct3 rule_fields h2
      simp [c9, c37] at f0 f1 f2
      obtain ⟨s, hs, -⟩ := DataW.trod_string Tryz.underlying9 f0
      obtain ⟨xa, xn, xc, l, g1, hl⟩ := open_strs' f1
      obtain ⟨p, hp, -⟩ := DataW.trod_string Tryz.underlying9 f2
      simp only [List.cons.injEq, and_true] at hs g1 hp
      have hln := hl.len
      subst hln
      exact ⟨⟨s, l, p⟩, xa, xc, by rw [e0, hs], by rw [e1, g1], by rw [e2, hp], hl⟩
    haveI : Inhabited Ru := ⟨⟨⟨#[]⟩, [], ⟨#[]⟩⟩⟩
    obtain ⟨f, hf⟩ := Go.Deep.choose_lt each
    refine ⟨some a, len, cap, (List.range len).map f, hcs, by simp, ⟨hl, by unfold maxLen at hm; omega⟩, fun i t ht => ?_⟩
    obtain ⟨hi, rfl⟩ := range_map_at f len i t ht
    obtain ⟨xa, xc, k0, k1, k2, k3⟩ := hf i hi
    obtain ⟨b, off, spot⟩ := a
    have hspot : spot = none := by
      obtain ⟨_, _, z0, -⟩ := hf 0 (by omega)
      simpa [Addr.add] using World.cell?_spot z0
    subst hspot
    rw [Addr.add_lit] at k0 k1 k2
    exact ⟨b, off, xa, xc, rfl, k0, k1, k2, k3⟩

theorem gram_fields : Tryz.prog.underlying 25 = some (.struct #[⟨"Tokens", 22, 0, false, "", "", 0⟩, ⟨"Start", 9, 1, false, "", "", 24⟩, ⟨"Expect", 3, 2, false, "", "", 40⟩, ⟨"Rules", 23, 3, false, "", "", 48⟩]) := by kernel_rfl

theorem four_array {cs : Array Value} (h : cs.size = 4) : ∃ a0 a1 a2 a3, cs = #[a0, a1, a2, a3] := by
  match cs, h with
  | ⟨[a0, a1, a2, a3]⟩, _ => exact ⟨a0, a1, a2, a3, rfl⟩

set_option maxRecDepth 20000 in
/-- A grammar among the arguments. -/
theorem open_gram {H : Type} {enc : TypeId × Value → H} {W : World} {b0 : Nat} {v : Value} {d : DataW H} {ps : List MemPlace} (hval : Value.okWide Tryz.prog W .any b0 25 v) (hd : DataW.Trod enc Tryz.prog W 0 (fun _ => true) true 25 v d ps) : ∃ h G, v = gv h G ∧ RawG W h G := by
  obtain ⟨cs, rfl, hsz⟩ := okWide_struct gram_fields hval
  rw [c25] at hsz
  obtain ⟨fuel, hf⟩ := hd
  obtain ⟨xs, n, _, _, hl, hlen, hfs⟩ := DataW.trod_struct gram_fields hf
  obtain ⟨a0, a1, a2, a3, rfl⟩ := four_array hsz
  match xs, hlen with
  | [y0, y1, y2, y3], _ =>
    have g0 := hfs 0 _ rfl
    have g1 := hfs 1 _ rfl
    have g2 := hfs 2 _ rfl
    have g3 := hfs 3 _ rfl
    simp [Value.cells, c22, c9, c3', c23] at g0 g1 g2 g3
    obtain ⟨ta, tn, tc, ts, e0, htn, htl, htok⟩ := open_toks g0
    obtain ⟨s, hs, -⟩ := DataW.trod_string Tryz.underlying9 g1
    obtain ⟨e, he, -⟩ := DataW.trod_int Tryz.underlying3 g2
    obtain ⟨ra, rn, rc, rs, e3, hrn, hrl, hrul⟩ := open_ruls g3
    simp only [List.cons.injEq, and_true] at e0 hs he e3
    subst e0 hs he e3 htn hrn
    exact ⟨⟨ta, tc, ra, rc⟩, ⟨ts, s, e, rs⟩, rfl, htl, hrl, htok, hrul⟩
end Go.Proofs.YtebehlmidoencaaGreatDoor

/-
  The walk of Cut: out of any grammar one that is not too great, in memory of its own.
-/
namespace Go.Proofs.YtebehlmidoencaaGreatDoor
open Go.RowKit

set_option maxRecDepth 20000

def cutT (t : Tk) : Tk := ⟨cutS t.n 15, t.l, t.a⟩
def cutR (r : Ru) : Ru := ⟨cutS r.l 15, (r.r.take 22).map (fun x => cutS x 15), cutS r.p 15⟩
def cutG (G : Gm) : Gm := ⟨(G.ts.take 42).map cutT, cutS G.s 15, G.e, (G.rs.take 105).map cutR⟩

theorem cut_small (G : Gm) : Small (cutG G) := by
  have h := fun s : ByteArray => cutS_size s 15
  refine ⟨?_, ?_, by have := h G.s; simp only [cutG]; omega, ?_, ?_⟩
  · simp only [cutG, List.length_map, List.length_take]; omega
  · simp only [cutG, List.length_map, List.length_take]; omega
  · intro t ht
    simp only [cutG] at ht
    obtain ⟨u, -, rfl⟩ := List.mem_map.1 ht
    have := h u.n
    simp only [cutT]; omega
  · intro r hr
    simp only [cutG] at hr
    obtain ⟨u, -, rfl⟩ := List.mem_map.1 hr
    refine ⟨by have := h u.l; simp only [cutR]; omega, by have := h u.p; simp only [cutR]; omega, by simp only [cutR, List.length_map, List.length_take]; omega, ?_⟩
    intro x hx
    simp only [cutR] at hx
    obtain ⟨y, -, rfl⟩ := List.mem_map.1 hx
    have := h y
    omega

/-- The inner loop's memory: the rule's box, its symbols. -/
structure RC (w wr : World) (L P : ByteArray) (l : List ByteArray) (xa : Option Addr) (m xc : Nat) : Prop where
  box : wr.heap[w.heap.size]? = some (.cells #[.string L, .slice xa m xc, .string P] 46 (0, 0))
  own : OwnS wr (w.heap.size + 1) (.slice xa m xc) l
  len : m = l.length
  bel : Below w.heap.size w wr

theorem RC.new (w : World) (L P : ByteArray) : RC w (w.alloc (.cells #[.string L, .slice none 0 0, .string P] 46)) L P [] none 0 0 :=
  ⟨heap_alloc_new _ _, World.ownsRow_nil _ _ _ _, rfl, below_alloc _ _⟩

theorem RC.step {w wr wr' : World} {L P : ByteArray} {l : List ByteArray} {xa : Option Addr} {m xc : Nat} (h : RC w wr L P l xa m xc) (hb : Below wr.heap.size wr wr') : RC w wr' L P l xa m xc :=
  ⟨block_below hb h.box, h.own.below hb, h.len, below_step h.bel hb⟩

theorem RC.add {w wr : World} {L P : ByteArray} {l : List ByteArray} {xa : Option Addr} {m xc : Nat} (h : RC w wr L P l xa m xc) (hl : l.length ≤ 1000) (s : ByteArray) :
    ∃ ao n c w', (Builtin.append_ #[28, 28] 28 #[.slice xa m xc, .slice (some ⟨wr.heap.size, 0, none⟩) 1 1]).run Tryz.prog (wr.alloc (.cells #[.string s] 9)) = .ok (.slice ao n c) w' ∧ w'.heap[w.heap.size]? = some (.cells #[.string L, .slice xa m xc, .string P] 46 (0, 0)) ∧ RC w (w'.setCell ⟨w.heap.size, 1, none⟩ (.slice ao n c)) L P (l ++ [s]) ao n c := by
  have hlt : w.heap.size < wr.heap.size := (Array.getElem?_eq_some_iff.1 h.box).1
  obtain ⟨ao, n, c, w', hr, hn, ho, hb⟩ := (h.own.below (below_alloc wr (.cells #[.string s] 9))).addRow (new_row wr [s] (by simp)) (by simp; omega) (by simp; omega) rfl
  have hbox : w'.heap[w.heap.size]? = some (.cells #[.string L, .slice xa m xc, .string P] 46 (0, 0)) := by
    rw [hb.block _ (by omega), Below.heap_alloc _ _ _ hlt]
    exact h.box
  refine ⟨ao, n, c, w', hr, hbox, ?_, ?_, hn, ?_⟩
  · rw [setCell_eq_setRow w' w.heap.size 1 _ 46 (0, 0) _ hbox]
    exact setRow_heap _ _ _ _ 46 _ hbox
  · refine ownsRow_of_block ho (fun i hi => Below.heap_setCell _ _ _ _ (fun e => ?_))
    simp only at e
    have := (World.ownsRow.lt ho i hi).1
    omega
  · have h1 : Below w.heap.size w w' := (below_step h.bel (below_alloc wr _)).trans (hb.mono (by omega))
    exact h1.setCell (p := ⟨w.heap.size, 1, none⟩) (Nat.le_refl _) _

/-- append as one step of a region that draws, its run told. -/
theorem step_append_told {ops : Array Oper} {o : Oper} {a : Act} {w w' : World} {K : Act → World → Prop} {Q : Exit → Act → World → Prop} {E : Prop} {u v r : Value} {t : TypeId}
    (hg : o.guard = none) (s x : Operand) (hop : o.op = Op.call { callee := Callee.builtin Builtin.append, args := #[s, x], argTypes := #[t, t] }) (ht : o.type = t)
    (hs : a.eval s = u) (hx : a.eval x = v) (hrun : (Builtin.append_ #[t, t] t #[u, v]).run Tryz.prog w = .ok r w')
    (hK : K (a.put o.dst r) w') :
    if Region.wanted o (yielded ops a.tmps) = true then Oper.wp Tryz.prog o a w K Q else E := by
  have hw : Region.wanted o (yielded ops a.tmps) = true := by simp [Region.wanted, hg]
  rw [if_pos hw]
  unfold Oper.wp
  simp [execOp, hop, resolve, invoke, builtin, hs, hx, ht, hrun, Result.andThen]
  exact hK

/-- A call as one step of a region that draws, its answer told. -/
theorem step_call_told {ops : Array Oper} {o : Oper} {a : Act} {w : World} {K : Act → World → Prop} {Q : Exit → Act → World → Prop} {E : Prop} (hg : o.guard = none)
    (f : FuncId) (args : Array Value) (v : Value) (hrun : (execOp a.eval o).run Tryz.prog w = .ok (.enter f args) w)
    (hc : Calls Tryz.prog f args w fun e w' => e = .returned v ∧ w' = w) (hK : K (a.put o.dst v) w) :
    if Region.wanted o (yielded ops a.tmps) = true then Oper.wp Tryz.prog o a w K Q else E := by
  have hw : Region.wanted o (yielded ops a.tmps) = true := by simp [Region.wanted, hg]
  rw [if_pos hw]
  unfold Oper.wp
  rw [hrun, Oper.upon_enter]
  refine hc.mono fun e w'' hh => ?_
  obtain ⟨rfl, rfl⟩ := hh
  exact hK

theorem below_drew' (w : World) : Below w.heap.size w w.drew := ⟨rfl, rfl, rfl, Nat.le_refl _, fun _ _ => rfl⟩

set_option maxHeartbeats 8000000 in
set_option maxRecDepth 20000 in
theorem cutG_calls (G : Gm) (h : Hd) (w : World) (hG : RawG w h G) : Calls Tryz.prog 9 #[gv h G] w fun e w' => ∃ h' qs, e = .returned (gv h' (cutG G)) ∧ OwnG w' w.heap.size h' (cutG G) qs ∧ Below w.heap.size w w' := by
  obtain ⟨ts, st, ex, rs⟩ := G
  obtain ⟨ta, tc, ra, rc⟩ := h
  unfold gv
  simp only
  have HG : Hid (RawG w ⟨ta, tc, ra, rc⟩ ⟨ts, st, ex, rs⟩) := hG
  clear hG
  have HR : Hid (RawG ((w.alloc (.cells #[.slice ta ts.length tc, .string st, .int .i64 ex, .slice ra rs.length rc] 25)).alloc (.cells #[.slice none 0 0, .string ⟨#[]⟩, .int .i64 0, .slice none 0 0] 25)) ⟨ta, tc, ra, rc⟩ ⟨ts, st, ex, rs⟩) := HG.out.below (below_step (below_alloc _ _) (below_alloc _ _))
  have HB : Hid (Below w.heap.size w ((w.alloc (.cells #[.slice ta ts.length tc, .string st, .int .i64 ex, .slice ra rs.length rc] 25)).alloc (.cells #[.slice none 0 0, .string ⟨#[]⟩, .int .i64 0, .slice none 0 0] 25))) := below_step (below_alloc _ _) (below_alloc _ _)
  have hb0 : ((w.alloc (.cells #[.slice ta ts.length tc, .string st, .int .i64 ex, .slice ra rs.length rc] 25)).alloc (.cells #[.slice none 0 0, .string ⟨#[]⟩, .int .i64 0, .slice none 0 0] 25)).heap[w.heap.size]? = some (.cells #[.slice ta ts.length tc, .string st, .int .i64 ex, .slice ra rs.length rc] 25 (0, 0)) := block_below (below_alloc _ _) (heap_alloc_new _ _)
  have hb1 : ((w.alloc (.cells #[.slice ta ts.length tc, .string st, .int .i64 ex, .slice ra rs.length rc] 25)).alloc (.cells #[.slice none 0 0, .string ⟨#[]⟩, .int .i64 0, .slice none 0 0] 25)).heap[w.heap.size + 1]? = some (.cells #[.slice none 0 0, .string ⟨#[]⟩, .int .i64 0, .slice none 0 0] 25 (0, 0)) := by
    have := heap_alloc_new (w.alloc (.cells #[.slice ta ts.length tc, .string st, .int .i64 ex, .slice ra rs.length rc] 25)) (.cells #[.slice none 0 0, .string ⟨#[]⟩, .int .i64 0, .slice none 0 0] 25)
    rwa [size_alloc1] at this
  have hs2 : ((w.alloc (.cells #[.slice ta ts.length tc, .string st, .int .i64 ex, .slice ra rs.length rc] 25)).alloc (.cells #[.slice none 0 0, .string ⟨#[]⟩, .int .i64 0, .slice none 0 0] 25)).heap.size = w.heap.size + 1 + 1 := by rw [size_alloc1, size_alloc1]
  have HL : Hid (ts.length ≤ tc ∧ tc ≤ 9223372036854775807 ∧ rs.length ≤ rc ∧ rc ≤ 9223372036854775807) := ⟨HG.out.tl.1, HG.out.tl.2, HG.out.rl.1, HG.out.rl.2⟩
  clear HG
  generalize etn : ts.length = tn at *
  generalize ern : rs.length = rn at *
  have HT : Hid (ts.length = tn ∧ rs.length = rn) := ⟨etn, ern⟩
  clear etn ern
  go_enter Tryz.func9, Tryz.ntmps9
  go_upto_region 1 with fail
  generalize (w.alloc (.cells #[.slice ta tn tc, .string st, .int .i64 ex, .slice ra rn rc] 25)).alloc (.cells #[.slice none 0 0, .string ⟨#[]⟩, .int .i64 0, .slice none 0 0] 25) = W at HR HB hb0 hb1 hs2 ⊢
  obtain ⟨nb, hnb⟩ : ∃ nb, nb = w.heap.size := ⟨_, rfl⟩
  have HN : Hid (nb = w.heap.size ∧ W.heap.size = nb + 1 + 1) := ⟨hnb, by rw [hnb]; exact hs2⟩
  rw [← hnb] at hb0 hb1 ⊢
  clear hs2
  have HX : Hid (W.heap[nb]? = some (.cells #[.slice ta tn tc, .string st, .int .i64 ex, .slice ra rn rc] 25 (0, 0)) ∧ W.heap[nb + 1]? = some (.cells #[.slice none 0 0, .string ⟨#[]⟩, .int .i64 0, .slice none 0 0] 25 (0, 0))) := ⟨hb0, hb1⟩
  have x1 : W.cell? ⟨nb, 1, none⟩ = some (.string st) := by rw [cell_block hb0]; rfl
  have x2 : W.cell? ⟨nb, 2, none⟩ = some (.int .i64 ex) := by rw [cell_block hb0]; rfl
  clear hb0 hb1 hnb
  obtain ⟨gb, hgb⟩ : ∃ gb, gb = W.heap.size := ⟨_, rfl⟩
  have HGB : Hid (gb = W.heap.size) := hgb
  go_cut [3] (fun s wd => s = .pointer (some ⟨gb, 0, none⟩) ∧ Hid (GB W wd gb ⟨none, 0, none, 0⟩ ⟨[], cutS st 15, ex, []⟩ []))
  case first =>
    go_region_held (fun w' => w'.cell? ⟨nb, 1, none⟩ = some (.string st) ∧ w'.cell? ⟨nb, 2, none⟩ = some (.int .i64 ex)) (go_keep) (first | (go_at_call 19; refine (cut_calls st 15 _).mono ?_; rintro e w' ⟨rfl, rfl⟩))
    all_goals
      go_wp2_with fail
      go_meet
      refine ⟨by rw [hgb], ?_⟩
      rw [hgb]
      exact (gb_new W W (cutS st 15) ex (Below.refl _ _)).step (below_drew' _)
  case rest =>
    obtain ⟨rfl, J0⟩ := hcut
    obtain ⟨w3, hw3⟩ : ∃ w3, w3 = wc := ⟨_, rfl⟩
    subst wc
    clear hgb x1 x2
    have hl1 := HL.out.1
    have hl2 := HL.out.2.1
    have hl3 := HL.out.2.2.1
    have hl4 := HL.out.2.2.2
    go_upto_block 0 with fail
    go_cut [4] (fun s4 wd => Hid (∃ h, GB W wd gb h ⟨(ts.take 42).map cutT, cutS st 15, ex, []⟩ []))
    case first =>
      go_wp2_with fail
      go_loopg [4] tn (fun kx s4 wr => ∃ i : Nat, s4 = .int .i64 i ∧ i ≤ tn ∧ i ≤ 42 ∧ tn - i ≤ kx ∧ Hid (∃ h, GB W wr gb h ⟨(ts.take i).map cutT, cutS st 15, ex, []⟩ []))
      case atStart => exact ⟨0, rfl, Nat.zero_le _, Nat.zero_le _, by omega, (⟨_, J0.out⟩ : ∃ h, GB W w3 gb h ⟨(ts.take 0).map cutT, cutS st 15, ex, []⟩ [])⟩
      case round =>
        obtain ⟨i, rfl, hi, hi42, hg, J⟩ := hrel
        clear J0
        obtain ⟨⟨a1, k1, a2, k2⟩, hG⟩ := J.out
        have x0 : wr.cell? ⟨nb, 0, none⟩ = some (.slice ta tn tc) := cell_below hG.bel (by rw [cell_block HX.out.1]; rfl)
        have eli : ((ts.take i).map cutT).length = i := by rw [List.length_map, List.length_take, HT.out.1]; omega
        by_cases hlt : i < tn
        · by_cases h42 : i < 42
          · have hlt' : (i : Int) < (tn : Int) := by omega
            have h42' : (i : Int) < 42 := by omega
            obtain ⟨t, ht⟩ : ∃ t, ts[i]? = some t := ⟨ts[i]'(by rw [HT.out.1]; exact hlt), List.getElem?_eq_getElem _⟩
            obtain ⟨b, o, hta, c0, c1, c2⟩ := (HR.out.below hG.bel).tok i t ht
            simp only at hta
            subst hta
            obtain ⟨tn', tl, tA⟩ := t
            simp only at c0 c1 c2
            have hG1 := hG.step (below_alloc wr (.cells #[.string (cutS tn' 15), .int .i64 tl, .int .i64 tA] 44))
            obtain ⟨e0, -, -, -, -⟩ := hG.cells
            simp only [eli] at e0
            have e0' := cell_alloc e0 (.cells #[.string (cutS tn' 15), .int .i64 tl, .int .i64 tA] 44)
            obtain ⟨ao, n, c, w5, hrun, hn, hbox, hG2⟩ := hG1.addTok (by simp only; rw [eli]; omega) ⟨cutS tn' 15, tl, tA⟩
            simp only [eli, size_alloc1] at hrun
            have d0 : w5.cell? ⟨gb, 0, none⟩ = some (.slice a1 i k1) := by rw [cell_block hbox]; show some (Value.slice a1 ((ts.take i).map cutT).length k1) = _; rw [eli]
            have f0 : w5.frozen? ⟨gb, 0, none⟩ = false := frozen_block hbox 0
            have HF : Hid (∃ h, GB W (w5.setCell ⟨gb, 0, none⟩ (.slice ao n c)) gb h ⟨(ts.take (i + 1)).map cutT, cutS st 15, ex, []⟩ []) := by
              have e : (ts.take (i + 1)).map cutT = (ts.take i).map cutT ++ [cutT ⟨tn', tl, tA⟩] := by rw [take_succ ht, List.map_append]; rfl
              rw [e]
              exact ⟨_, hG2⟩
            clear hG hG1 hG2 hbox J hn eli ht
            go_wp2_with fail
            refine (cut_calls tn' 15 _).mono ?_
            rintro e w' ⟨rfl, rfl⟩
            generalize cutS tn' 15 = nm at *
            go_wp2_with (at_builtin; refine Lib.wpList_append_run _ rfl _ _ _ _ rfl _ _ rfl rfl _ _ hrun ?_)
            go_roundg (tn - (i + 1))
            case measure => omega
            case rel => exact ⟨i + 1, by simp, by omega, by omega, Nat.le_refl _, HF⟩
          · have hlt' : (i : Int) < (tn : Int) := by omega
            have h42' : ¬ (i : Int) < 42 := by omega
            have HF : Hid (∃ h, GB W wr gb h ⟨(ts.take 42).map cutT, cutS st 15, ex, []⟩ []) := by
              have : i = 42 := by omega
              subst this
              exact J.out
            clear hG J eli
            go_wp2_with fail
            go_meet
            exact HF
        · have hlt' : ¬ (i : Int) < (tn : Int) := by omega
          have HF : Hid (∃ h, GB W wr gb h ⟨(ts.take 42).map cutT, cutS st 15, ex, []⟩ []) := by
            have e : ts.take 42 = ts.take i := by rw [List.take_of_length_le (by rw [HT.out.1]; omega), List.take_of_length_le (by rw [HT.out.1]; omega)]
            rw [e]
            exact J.out
          clear hG J eli
          go_wp2_with fail
          go_meet
          exact HF
    case rest =>
      obtain ⟨w4, hw4⟩ : ∃ w4, w4 = wc := ⟨_, rfl⟩
      subst wc
      obtain ⟨h4, hG4⟩ := hcut.out
      have HG4 : Hid (∃ h qs, GB W w4 gb h ⟨(ts.take 42).map cutT, cutS st 15, ex, []⟩ qs) := ⟨h4, [], hG4⟩
      clear hcut hG4 J0
      go_upto_block 2 with fail
      go_cut [6] (fun s6 wd => Hid (∃ h qs, GB W wd gb h (cutG ⟨ts, st, ex, rs⟩) qs))
      case first =>
        go_wp2_with fail
        go_loopg [6] rn (fun kx s6 wr => ∃ i : Nat, s6 = .int .i64 i ∧ i ≤ rn ∧ i ≤ 105 ∧ rn - i ≤ kx ∧ Hid (∃ h qs, GB W wr gb h ⟨(ts.take 42).map cutT, cutS st 15, ex, (rs.take i).map cutR⟩ qs))
        case atStart => exact ⟨0, rfl, Nat.zero_le _, Nat.zero_le _, by omega, HG4⟩
        case round =>
          obtain ⟨i, rfl, hi, hi105, hg, J⟩ := hrel
          clear HG4
          obtain ⟨⟨a1, k1, a2, k2⟩, qs, hG⟩ := J.out
          have x3 : wr.cell? ⟨nb, 3, none⟩ = some (.slice ra rn rc) := cell_below hG.bel (by rw [cell_block HX.out.1]; rfl)
          by_cases hlt : i < rn
          · by_cases h105 : i < 105
            · have hlt' : (i : Int) < (rn : Int) := by omega
              have h105' : (i : Int) < 105 := by omega
              obtain ⟨r, hr⟩ : ∃ r, rs[i]? = some r := ⟨rs[i]'(by rw [HT.out.2]; exact hlt), List.getElem?_eq_getElem _⟩
              obtain ⟨b, o, xa, xc, hra, c0, c1, c2, hxs⟩ := (HR.out.below hG.bel).rul i r hr
              simp only at hra
              subst hra
              obtain ⟨rl, rr, rp⟩ := r
              simp only at c0 c1 c2 hxs
              obtain ⟨wo, hwo⟩ : ∃ wo, wo = wr := ⟨_, rfl⟩
              subst wr
              have HXS : Hid (RawS wo xa rr.length xc rr) := hxs
              have HRR : Hid (rs[i]? = some ⟨rl, rr, rp⟩) := hr
              have HGO : Hid (GB W wo gb ⟨a1, k1, a2, k2⟩ ⟨(ts.take 42).map cutT, cutS st 15, ex, (rs.take i).map cutR⟩ qs) := hG
              have HCC : Hid (wo.cell? ⟨nb, 3, none⟩ = some (.slice (some ⟨b, o, none⟩) rn rc) ∧ wo.cell? ⟨b, o + i * 3 + 1, none⟩ = some (.slice xa rr.length xc)) := ⟨x3, c1⟩
              have hxl := hxs.le
              clear hxs hr hG J c1
              generalize exn : rr.length = xn at *
              have HXN : Hid (rr.length = xn) := exn
              clear exn
              go_upto_region 11 with fail
              go_cut [7] from 41 to 102 (fun s wd => s = .pointer (some ⟨wo.heap.size, 0, none⟩) ∧ Hid (RC wo wd (cutS rl 15) (cutS rp 15) [] none 0 0))
              case first =>
                go_region_held (fun w' => w'.cell? ⟨nb, 3, none⟩ = some (.slice (some ⟨b, o, none⟩) rn rc) ∧ w'.cell? ⟨b, o + i * 3, none⟩ = some (.string rl) ∧ w'.cell? ⟨b, o + i * 3 + 2, none⟩ = some (.string rp)) (go_keep)
                  (first | (go_at_call_of 19 (Value.string rl); refine (cut_calls rl 15 _).mono ?_; rintro e w' ⟨rfl, rfl⟩) | (go_at_call_of 19 (Value.string rp); refine (cut_calls rp 15 _).mono ?_; rintro e w' ⟨rfl, rfl⟩))
                all_goals
                  go_wp2_with fail
                  go_meet
                  exact ⟨rfl, (RC.new wo (cutS rl 15) (cutS rp 15)).step (below_drew' _)⟩
              case rest =>
                obtain ⟨rfl, R0⟩ := hcut
                obtain ⟨w5, hw5⟩ : ∃ w5, w5 = wc := ⟨_, rfl⟩
                subst wc
                clear c0 c2 x3
                obtain ⟨rb, hrb⟩ : ∃ rb, rb = wo.heap.size := ⟨_, rfl⟩
                have HRB : Hid (rb = wo.heap.size) := hrb
                rw [← hrb]
                clear hrb
                go_upto_block 4 with fail
                go_cut [8] from 41 to 102 (fun s8 wd => Hid (∃ ya yc, RC wo wd (cutS rl 15) (cutS rp 15) ((rr.take 22).map (fun x => cutS x 15)) ya (min xn 22) yc))
                case first =>
                  go_wp2_with fail
                  go_loopg [8] xn (fun kx s8 wr => ∃ k : Nat, s8 = .int .i64 k ∧ k ≤ xn ∧ k ≤ 22 ∧ xn - k ≤ kx ∧ Hid (∃ ya yc, RC wo wr (cutS rl 15) (cutS rp 15) ((rr.take k).map (fun x => cutS x 15)) ya k yc))
                  case atStart => exact ⟨0, rfl, Nat.zero_le _, Nat.zero_le _, by omega, (⟨_, _, R0.out⟩ : ∃ ya yc, RC wo w5 (cutS rl 15) (cutS rp 15) ((rr.take 0).map (fun x => cutS x 15)) ya 0 yc)⟩
                  case round =>
                    obtain ⟨k, rfl, hk, hk22, hg2, K⟩ := hrel
                    clear R0
                    obtain ⟨ya, yc, hR⟩ := K.out
                    have q3 := cell_below hR.bel HCC.out.1
                    have q1 := cell_below hR.bel HCC.out.2
                    by_cases hklt : k < xn
                    · by_cases h22 : k < 22
                      · have hklt' : (k : Int) < (xn : Int) := by omega
                        have h22' : (k : Int) < 22 := by omega
                        obtain ⟨s, hs⟩ : ∃ s, rr[k]? = some s := ⟨rr[k]'(by rw [HXN.out]; exact hklt), List.getElem?_eq_getElem _⟩
                        obtain ⟨b2, o2, hxa, qs2⟩ := (HXS.out.below hR.bel).get k s hs
                        subst hxa
                        have p1 : wr.cell? ⟨rb, 1, none⟩ = some (.slice ya k yc) := by rw [HRB.out, cell_block hR.box]; rfl
                        have elk : ((rr.take k).map (fun x => cutS x 15)).length = k := by rw [List.length_map, List.length_take, HXN.out]; omega
                        obtain ⟨ao, n, c, w6, hrun, hbox, hR2⟩ := (hR.step (below_drew' wr)).add (by rw [elk]; omega) (cutS s 15)
                        have hrun2 : (Builtin.append_ #[28, 28] 28 #[.slice ya k yc, .slice (some ⟨wr.heap.size, 0, none⟩) 1 1]).run Tryz.prog (wr.alloc (.cells #[.string (cutS s 15)] 9)).drew = .ok (.slice ao n c) w6 := hrun
                        have d1 : w6.cell? ⟨rb, 1, none⟩ = some (.slice ya k yc) := by rw [HRB.out, cell_block hbox]; rfl
                        have f1 : w6.frozen? ⟨rb, 1, none⟩ = false := by rw [HRB.out]; exact frozen_block hbox 1
                        have HF : Hid (∃ ya yc, RC wo (w6.setCell ⟨rb, 1, none⟩ (.slice ao n c)) (cutS rl 15) (cutS rp 15) ((rr.take (k + 1)).map (fun x => cutS x 15)) ya (k + 1) yc) := by
                          have e : (rr.take (k + 1)).map (fun x => cutS x 15) = (rr.take k).map (fun x => cutS x 15) ++ [cutS s 15] := by rw [take_succ hs, List.map_append]; rfl
                          have hn : n = k + 1 := by have := hR2.len; rw [List.length_append, elk] at this; exact this
                          subst hn
                          rw [e, HRB.out]
                          exact ⟨ao, c, hR2⟩
                        clear hR hbox hR2 hrun K elk hs
                        go_upto_block 5 with fail
                        go_cut [95] from 67 to 96 (fun s95 wd => Hid (∃ ya yc, RC wo wd (cutS rl 15) (cutS rp 15) ((rr.take (k + 1)).map (fun x => cutS x 15)) ya (k + 1) yc))
                        case first =>
                          go_wp2_with fail
                          have CC : Hid (∀ W : World, Calls Tryz.prog 19 #[.string s, .int .i64 15] W fun e w' => e = .returned (.string (cutS s 15)) ∧ w' = W) := fun W => cut_calls s 15 W
                          generalize cutS s 15 = cs at hrun2 CC
                          have p1' := cell_alloc p1 (.cells #[.string cs] 9)
                          go_region_law (first | (refine step_append_told rfl (.tmp 83) (.tmp 94) rfl rfl (by simp [Act.eval]) (by simp [Act.eval]) hrun2 ?_) | (refine step_call_told rfl 19 #[.string s, .int .i64 15] (.string cs) (by simp [Act.eval, go_sem]) (CC.out _) ?_))
                          all_goals (go_wp2_with fail; go_meet; exact HF)
                        case rest =>
                          go_wp2_with fail
                          go_roundg (xn - (k + 1))
                          case measure => omega
                          case rel => exact ⟨k + 1, by simp, by omega, by omega, Nat.le_refl _, hcut⟩
                      · have hklt' : (k : Int) < (xn : Int) := by omega
                        have h22' : ¬ (k : Int) < 22 := by omega
                        have HF : Hid (∃ ya yc, RC wo wr (cutS rl 15) (cutS rp 15) ((rr.take 22).map (fun x => cutS x 15)) ya (min xn 22) yc) := by
                          have : k = 22 := by omega
                          subst this
                          have e : min xn 22 = 22 := by omega
                          rw [e]
                          exact K.out
                        clear hR K
                        go_wp2_with fail
                        go_meet
                        exact HF
                    · have hklt' : ¬ (k : Int) < (xn : Int) := by omega
                      have HF : Hid (∃ ya yc, RC wo wr (cutS rl 15) (cutS rp 15) ((rr.take 22).map (fun x => cutS x 15)) ya (min xn 22) yc) := by
                        have e1 : rr.take 22 = rr.take k := by rw [List.take_of_length_le (by rw [HXN.out]; omega), List.take_of_length_le (by rw [HXN.out]; omega)]
                        have e : min xn 22 = k := by omega
                        rw [e1, e]
                        exact K.out
                      clear hR K
                      go_wp2_with fail
                      go_meet
                      exact HF
                case rest =>
                  obtain ⟨w7, hw7⟩ : ∃ w7, w7 = wc := ⟨_, rfl⟩
                  subst wc
                  obtain ⟨ya, yc, hR⟩ := hcut.out
                  have hG7 := HGO.out.step hR.bel
                  have eli : ((rs.take i).map cutR).length = i := by rw [List.length_map, List.length_take, HT.out.2]; omega
                  obtain ⟨-, -, -, y3, -⟩ := hG7.cells
                  simp only [eli] at y3
                  generalize emn : min xn 22 = mn at *
                  have p0 : w7.cell? ⟨rb, 0, none⟩ = some (.string (cutS rl 15)) := by rw [HRB.out, cell_block hR.box]; rfl
                  have p1 : w7.cell? ⟨rb, 1, none⟩ = some (.slice ya mn yc) := by rw [HRB.out, cell_block hR.box]; rfl
                  have p2 : w7.cell? ⟨rb, 2, none⟩ = some (.string (cutS rp 15)) := by rw [HRB.out, cell_block hR.box]; rfl
                  have hown : OwnS w7 W.heap.size (.slice ya mn yc) (cutR ⟨rl, rr, rp⟩).r := own_mono hR.own (by have := HGO.out.bel.size; omega)
                  obtain ⟨ao, n, c, w8, hrun, hn, hbox, hG8⟩ := hG7.addRule (by simp only; rw [eli]; omega) (cutR ⟨rl, rr, rp⟩) ya yc mn hown hR.len
                  simp only [eli] at hrun
                  have hrun2 : (Builtin.append_ #[23, 23] 23 #[.slice a2 i k2, .slice (some ⟨w7.heap.size, 0, none⟩) 1 1]).run Tryz.prog (w7.alloc (.cells #[.string (cutS rl 15), .slice ya mn yc, .string (cutS rp 15)] 46)) = .ok (.slice ao n c) w8 := hrun
                  have d3 : w8.cell? ⟨gb, 3, none⟩ = some (.slice a2 i k2) := by rw [cell_block hbox]; show some (Value.slice a2 ((rs.take i).map cutR).length k2) = _; rw [eli]
                  have f3 : w8.frozen? ⟨gb, 3, none⟩ = false := frozen_block hbox 3
                  have HF : Hid (∃ h qs, GB W (w8.setCell ⟨gb, 3, none⟩ (.slice ao n c)) gb h ⟨(ts.take 42).map cutT, cutS st 15, ex, (rs.take (i + 1)).map cutR⟩ qs) := by
                    have e : (rs.take (i + 1)).map cutR = (rs.take i).map cutR ++ [cutR ⟨rl, rr, rp⟩] := by rw [take_succ HRR.out, List.map_append]; rfl
                    rw [e]
                    exact ⟨_, _, hG8⟩
                  clear hG7 hG8 hbox hn hR hcut R0 hown hrun eli emn
                  generalize cutS rl 15 = cl at *
                  generalize cutS rp 15 = cp at *
                  go_wp2_with (at_builtin; refine Lib.wpList_append_run _ rfl _ _ _ _ rfl _ _ rfl rfl _ _ hrun2 ?_)
                  go_roundg (rn - (i + 1))
                  case measure => omega
                  case rel => exact ⟨i + 1, by simp, by omega, by omega, Nat.le_refl _, HF⟩
            · have hlt' : (i : Int) < (rn : Int) := by omega
              have h105' : ¬ (i : Int) < 105 := by omega
              have HF : Hid (∃ h qs, GB W wr gb h (cutG ⟨ts, st, ex, rs⟩) qs) := by
                have : i = 105 := by omega
                subst this
                exact J.out
              clear hG J
              go_wp2_with fail
              go_meet
              exact HF
          · have hlt' : ¬ (i : Int) < (rn : Int) := by omega
            have HF : Hid (∃ h qs, GB W wr gb h (cutG ⟨ts, st, ex, rs⟩) qs) := by
              have e : rs.take 105 = rs.take i := by rw [List.take_of_length_le (by rw [HT.out.2]; omega), List.take_of_length_le (by rw [HT.out.2]; omega)]
              unfold cutG
              simp only
              rw [e]
              exact J.out
            clear hG J
            go_wp2_with fail
            go_meet
            exact HF
      case rest =>
        obtain ⟨w9, hw9⟩ : ∃ w9, w9 = wc := ⟨_, rfl⟩
        subst wc
        obtain ⟨⟨a1, k1, a2, k2⟩, qs, hG⟩ := hcut.out
        obtain ⟨y0, y1, y2, y3, -⟩ := hG.cells
        have hb1 : w9.heap[nb + 1]? = some (.cells #[.slice none 0 0, .string ⟨#[]⟩, .int .i64 0, .slice none 0 0] 25 (0, 0)) := block_below hG.bel HX.out.2
        have z0 : w9.cell? ⟨nb + 1, 0, none⟩ = some (.slice none 0 0) := by rw [cell_block hb1]; rfl
        have z1 : w9.cell? ⟨nb + 1, 1, none⟩ = some (.string ⟨#[]⟩) := by rw [cell_block hb1]; rfl
        have z2 : w9.cell? ⟨nb + 1, 2, none⟩ = some (.int .i64 0) := by rw [cell_block hb1]; rfl
        have z3 : w9.cell? ⟨nb + 1, 3, none⟩ = some (.slice none 0 0) := by rw [cell_block hb1]; rfl
        have fz : ∀ j, w9.frozen? ⟨nb + 1, j, none⟩ = false := frozen_block hb1
        have fz0 := fz 0
        have fz1 := fz 1
        have fz2 := fz 2
        have fz3 := fz 3
        clear fz
        have HF : Hid (OwnG ((((w9.setCell ⟨nb + 1, 0, none⟩ (.slice a1 (cutG ⟨ts, st, ex, rs⟩).ts.length k1)).setCell ⟨nb + 1, 1, none⟩ (.string (cutG ⟨ts, st, ex, rs⟩).s)).setCell ⟨nb + 1, 2, none⟩ (.int .i64 (cutG ⟨ts, st, ex, rs⟩).e)).setCell ⟨nb + 1, 3, none⟩ (.slice a2 (cutG ⟨ts, st, ex, rs⟩).rs.length k2)) w.heap.size ⟨a1, k1, a2, k2⟩ (cutG ⟨ts, st, ex, rs⟩) qs ∧ Below w.heap.size w ((((w9.setCell ⟨nb + 1, 0, none⟩ (.slice a1 (cutG ⟨ts, st, ex, rs⟩).ts.length k1)).setCell ⟨nb + 1, 1, none⟩ (.string (cutG ⟨ts, st, ex, rs⟩).s)).setCell ⟨nb + 1, 2, none⟩ (.int .i64 (cutG ⟨ts, st, ex, rs⟩).e)).setCell ⟨nb + 1, 3, none⟩ (.slice a2 (cutG ⟨ts, st, ex, rs⟩).rs.length k2))) := by
          have hlt : w.heap.size ≤ nb + 1 := by rw [HN.out.1]; omega
          have hW : nb + 1 < W.heap.size := by have := HN.out.2; omega
          have far : ∀ {W' : World} {u : Value} {j : Nat}, OwnG W' W.heap.size ⟨a1, k1, a2, k2⟩ (cutG ⟨ts, st, ex, rs⟩) qs → OwnG (W'.setCell ⟨nb + 1, j, none⟩ u) W.heap.size ⟨a1, k1, a2, k2⟩ (cutG ⟨ts, st, ex, rs⟩) qs := by
            intro W' u j o
            refine ⟨?_, ?_, o.map, fun q hq => ?_⟩
            · exact ownsRow_of_block o.tok (fun i hi => Below.heap_setCell _ _ _ _ (fun e => by simp only at e; have := (World.ownsRow.lt o.tok i hi).1; omega))
            · exact ownsRow_of_block o.rul (fun i hi => Below.heap_setCell _ _ _ _ (fun e => by simp only at e; have := (World.ownsRow.lt o.rul i hi).1; omega))
            · exact ownsRow_of_block (o.row q hq) (fun i hi => Below.heap_setCell _ _ _ _ (fun e => by simp only at e; have := (World.ownsRow.lt (o.row q hq) i hi).1; omega))
          have o9 := far (u := .slice a2 (cutG ⟨ts, st, ex, rs⟩).rs.length k2) (j := 3) (far (u := .int .i64 (cutG ⟨ts, st, ex, rs⟩).e) (j := 2) (far (u := .string (cutG ⟨ts, st, ex, rs⟩).s) (j := 1) (far (u := .slice a1 (cutG ⟨ts, st, ex, rs⟩).ts.length k1) (j := 0) hG.own)))
          have hbe : w.heap.size ≤ W.heap.size := HB.out.size
          refine ⟨⟨own_mono o9.tok hbe, own_mono o9.rul hbe, o9.map, fun q hq => own_mono (o9.row q hq) hbe⟩, ?_⟩
          exact ((((below_step HB.out hG.bel).setCell (p := ⟨nb + 1, 0, none⟩) hlt _).setCell (p := ⟨nb + 1, 1, none⟩) hlt _).setCell (p := ⟨nb + 1, 2, none⟩) hlt _).setCell (p := ⟨nb + 1, 3, none⟩) hlt _
        clear hG hcut hb1 HG4
        generalize ectn : (cutG ⟨ts, st, ex, rs⟩).ts.length = ctn at y0 HF
        generalize ecrn : (cutG ⟨ts, st, ex, rs⟩).rs.length = crn at y3 HF
        generalize ecs : (cutG ⟨ts, st, ex, rs⟩).s = cst at y1 HF
        generalize ece : (cutG ⟨ts, st, ex, rs⟩).e = cex at y2 HF
        have HE : Hid ((cutG ⟨ts, st, ex, rs⟩).ts.length = ctn ∧ (cutG ⟨ts, st, ex, rs⟩).rs.length = crn ∧ (cutG ⟨ts, st, ex, rs⟩).s = cst ∧ (cutG ⟨ts, st, ex, rs⟩).e = cex) := ⟨ectn, ecrn, ecs, ece⟩
        clear ectn ecrn ecs ece
        go_wp2_with fail
        refine bodyPost_ret (v := .agg #[.slice a1 ctn k1, .string cst, .int .i64 cex, .slice a2 crn k2]) (by simp [results, Tryz.results9, go_sem, *]) rfl ?_
        obtain ⟨e1, e2, e3, e4⟩ := HE.out
        refine ⟨⟨a1, k1, a2, k2⟩, ?_, ⟨qs, HF.out.1⟩, HF.out.2⟩
        simp only [e1, e2, e3, e4]

end Go.Proofs.YtebehlmidoencaaGreatDoor

/-
  The walks of well's tokens, lefts, startOf, tooLong.
-/
namespace Go.Proofs.YtebehlmidoencaaGreatDoor
open Go.RowKit

set_option maxRecDepth 20000

theorem row_drop {w : World} {b o n cap k : Nat} {l : List ByteArray} (h : Row w 1 (some ⟨b, o, none⟩) n cap (strC l)) (hk : k ≤ n) : Row w 1 (some ⟨b, o + k, none⟩) (n - k) (cap - k) (strC (l.drop k)) := by
  have hl := h.len
  have h1 := h.le
  have h2 := h.max
  have hln : l.length = n := by unfold strC at hl; rw [List.length_map] at hl; omega
  refine ⟨by unfold strC; rw [List.length_map, List.length_drop]; omega, by omega, by omega, .inr ⟨b, o + k, rfl, fun j u hu => ?_⟩⟩
  rcases h.lies with ⟨e, -⟩ | ⟨b', o', e, hc⟩
  · cases e
  · cases e
    rw [Nat.add_assoc]
    refine hc (k + j) u ?_
    unfold strC at hu ⊢
    rw [List.getElem?_map] at hu ⊢
    rw [List.getElem?_drop] at hu
    exact hu

set_option maxHeartbeats 2000000 in
theorem tokens_calls (h : SHd) (S : Sp) (w : World) (hr : Row w 1 h.na S.nm.length h.nc (strC S.nm)) (ht : S.tk ≤ S.nm.length) :
    Calls Tryz.prog 56 #[sv h S] w fun e w' => e = .returned (.slice h.na S.tk h.nc) ∧ Row w' 1 h.na S.tk h.nc (strC (S.nm.take S.tk)) ∧ Below w.heap.size w w' := by
  have hle := row_lens hr
  have HR : Hid (∀ w', Below w.heap.size w w' → Row w' 1 h.na S.tk h.nc (strC (S.nm.take S.tk))) := fun w' hb => by
    have := (hr.below hb).take S.tk ht
    rw [Nat.mul_one] at this
    unfold strC at this ⊢
    rwa [← List.map_take] at this
  unfold sv sC
  clear hr
  generalize S.nm.length = n at *
  generalize S.lv.length = ln
  generalize S.az.length = an
  generalize S.rs.length = rn
  have h1 : (S.tk : Int) ≤ (h.nc : Int) := by omega
  go_enter Tryz.func56, Tryz.ntmps56
  go_wp2_with fail
  go_ret
  exact ⟨rfl, HR.out _ (below_alloc _ _), below_alloc _ _⟩

set_option maxHeartbeats 2000000 in
theorem wlefts_calls (h : SHd) (S : Sp) (w : World) (hr : Row w 1 h.na S.nm.length h.nc (strC S.nm)) (ht : S.tk + 1 ≤ S.nm.length) :
    Calls Tryz.prog 52 #[sv h S] w fun e w' => ∃ ao c, e = .returned (.slice ao (S.nm.length - (S.tk + 1)) c) ∧ Row w' 1 ao (S.nm.length - (S.tk + 1)) c (strC (S.nm.drop (S.tk + 1))) ∧ Below w.heap.size w w' := by
  have hle := row_lens hr
  obtain ⟨b, o, hao, -⟩ := hr.at (by omega)
  rw [hao] at hr
  have HR : Hid (∀ w', Below w.heap.size w w' → Row w' 1 (some ⟨b, o + (S.tk + 1), none⟩) (S.nm.length - (S.tk + 1)) (h.nc - (S.tk + 1)) (strC (S.nm.drop (S.tk + 1)))) := fun w' hb => row_drop (hr.below hb) ht
  have HR0 : Hid (h.nc = S.tk + 1 → ∀ w', Row w' 1 (some ⟨b, o, none⟩) (S.nm.length - (S.tk + 1)) 0 (strC (S.nm.drop (S.tk + 1)))) := fun e w' => by
    have e1 : S.nm.length = S.tk + 1 := by omega
    have e2 : S.nm.drop (S.tk + 1) = [] := List.drop_of_length_le (by omega)
    rw [e2, e1, Nat.sub_self]
    exact ⟨rfl, Nat.le_refl _, Nat.zero_le _, .inr ⟨b, o, rfl, fun j u hu => by cases hu⟩⟩
  unfold sv sC
  rw [hao]
  clear hr hao
  obtain ⟨n, HN⟩ : ∃ n, Hid (S.nm.length = n) := ⟨_, rfl⟩
  rw [HN.out] at HR HR0 hle ht ⊢
  generalize S.lv.length = ln
  generalize S.az.length = an
  generalize S.rs.length = rn
  have h1 : (S.tk : Int) + 1 ≤ (n : Int) := by omega
  have h2 : (n : Int) ≤ (h.nc : Int) := by omega
  go_enter Tryz.func52, Tryz.ntmps52
  by_cases hc : h.nc = S.tk + 1
  · have HC : Hid (∀ w', Row w' 1 (some ⟨b, o, none⟩) (n - (S.tk + 1)) 0 (strC (S.nm.drop (S.tk + 1)))) := HR0.out hc
    clear HR HR0
    go_wp2_with fail
    go_ret
    exact ⟨_, _, rfl, HC.out _, below_alloc _ _⟩
  · clear HR0
    go_wp2_with fail
    go_ret
    exact ⟨_, _, rfl, HR.out _ (below_alloc _ _), below_alloc _ _⟩

set_option maxHeartbeats 2000000 in
theorem startOf_calls (G : Gm) (h : Hd) (w : World) (hG : IsG w h G) (hs : G.rs ≠ []) : Calls Tryz.prog 25 #[gv h G] w fun e w' => e = .returned (.string (startB G)) ∧ Below w.heap.size w w' := by
  obtain ⟨ts, st, ex, rs⟩ := G
  obtain ⟨ta, tc, ra, rc⟩ := h
  simp only at hs
  obtain ⟨r, hr⟩ : ∃ r, rs[0]? = some r := by
    cases rs with
    | nil => exact absurd rfl hs
    | cons a l => exact ⟨a, rfl⟩
  have hrl := rules_le hG.rul
  obtain ⟨b, o, xa, xc, hra, c0, -, -, -⟩ := hG.rul.at hr
  simp only at hra hrl c0
  subst hra
  rw [Nat.zero_mul, Nat.add_zero] at c0
  have hlen : 0 < rs.length := (List.getElem?_eq_some_iff.1 hr).1
  have c0' := cell_alloc c0
  unfold gv
  simp only
  by_cases he : st = e0
  · have hb := (toList_nil st).2 he
    have HF : Hid (startB ⟨ts, st, ex, rs⟩ = r.l) := by
      unfold startB
      simp only
      rw [if_pos he, hr]
      rfl
    rw [HF.out]
    generalize r.l = rl at c0' ⊢
    clear hG hr he c0 hs HF
    generalize rs.length = rn at *
    generalize ts.length = tn at *
    have hlen' : (0 : Int) < (rn : Int) := by omega
    go_enter Tryz.func25, Tryz.ntmps25
    go_wp2_with fail
    go_ret
    exact ⟨rfl, below_alloc _ _⟩
  · have hb : (st.toList == []) = false := by
      cases hq : (st.toList == [])
      · rfl
      · exact absurd ((toList_nil st).1 hq) he
    have HF : Hid (startB ⟨ts, st, ex, rs⟩ = st) := by
      show _ = _
      unfold startB
      simp only
      rw [if_neg he]
    rw [HF.out]
    clear hG hr he c0 hs HF c0'
    generalize rs.length = rn at *
    generalize ts.length = tn at *
    go_enter Tryz.func25, Tryz.ntmps25
    go_wp2_with fail
    go_ret
    exact ⟨rfl, below_alloc _ _⟩

set_option maxHeartbeats 2000000 in
theorem long1_calls (l p : ByteArray) (xa : Option Addr) (n xc : Nat) (w : World) : Calls Tryz.prog 54 #[.agg #[.string l, .slice xa n xc, .string p]] w fun e w' => e = .returned (.bool (decide ((6 : Int) < (n : Int)))) ∧ Below w.heap.size w w' := by
  go_enter Tryz.func54, Tryz.ntmps54
  go_wp2_with fail
  go_ret
  exact ⟨rfl, below_alloc _ _⟩

set_option maxHeartbeats 2000000 in
theorem longIndex_calls (rs : List Ru) (ao : Option Addr) (cap : Nat) (w : World) (hr : RulesAt w ao rs.length cap rs) (hl : rs.length ≤ 10000) (hs : ∀ r ∈ rs, r.r.length ≤ 1000) :
    Calls Tryz.prog 67 #[.slice ao rs.length cap, .func (.func 54) #[] #[]] w fun e w' => ∃ z : Int, e = .returned (.int .i64 z) ∧ (0 ≤ z ↔ ∃ r ∈ rs, 6 < r.r.length) ∧ Below w.heap.size w w' := by
  have hle := rules_le hr
  have HR : Hid (RulesAt w ao rs.length cap rs ∧ ∀ r ∈ rs, r.r.length ≤ 1000) := ⟨hr, hs⟩
  clear hr hs
  obtain ⟨n, HN⟩ : ∃ n, Hid (rs.length = n) := ⟨_, rfl⟩
  rw [HN.out] at hle hl HR ⊢
  go_enter Tryz.func67, Tryz.ntmps67
  go_wp2_with fail
  go_loopg [8] n (fun kx s8 wr => ∃ k : Nat, s8 = .int .i64 k ∧ k ≤ n ∧ n - k ≤ kx ∧ Hid (Below w.heap.size w wr ∧ ∀ (i : Nat) (r : Ru), i < k → rs[i]? = some r → ¬ 6 < r.r.length))
  case atStart => exact ⟨0, rfl, Nat.zero_le _, by omega, (⟨Below.refl _ _, fun i y hi => absurd hi (Nat.not_lt_zero _)⟩ : Below w.heap.size w w ∧ ∀ (i : Nat) (r : Ru), i < 0 → rs[i]? = some r → ¬ 6 < r.r.length)⟩
  case round =>
    obtain ⟨k, rfl, hk, hg, J⟩ := hrel
    by_cases hlt : k < n
    · have hlt' : (k : Int) < (n : Int) := by omega
      obtain ⟨r, hr⟩ : ∃ r, rs[k]? = some r := ⟨rs[k]'(by rw [HN.out]; exact hlt), List.getElem?_eq_getElem _⟩
      obtain ⟨b, o, xa, xc, hao, c0, c1, c2, hrow⟩ := (HR.out.1.below J.out.1).at hr
      subst hao
      have hrl := HR.out.2 r (List.mem_of_getElem? hr)
      have HX : Hid (rs[k]? = some r) := hr
      have HC : Hid (Calls Tryz.prog 54 #[.agg #[.string r.l, .slice xa r.r.length xc, .string r.p]] wr fun e w' => e = .returned (.bool (decide ((6 : Int) < (r.r.length : Int)))) ∧ Below wr.heap.size wr w') := long1_calls r.l r.p xa r.r.length xc wr
      clear hr hrow
      by_cases he : 6 < r.r.length
      · have hd : decide ((6 : Int) < (r.r.length : Int)) = true := by simp; omega
        rw [hd] at HC
        have HF : Hid (∃ r ∈ rs, 6 < r.r.length) := ⟨r, List.mem_of_getElem? HX.out, he⟩
        generalize r.r.length = rl at c1 HC hrl
        clear he hd
        go_wp2_with (go_at_call 54; refine HC.out.mono ?_; rintro e w1 ⟨rfl, hB⟩)
        go_ret
        exact ⟨(k : Int), rfl, ⟨fun _ => HF.out, fun _ => by omega⟩, below_step J.out.1 hB⟩
      · have hd : decide ((6 : Int) < (r.r.length : Int)) = false := by simp; omega
        rw [hd] at HC
        have HF : Hid (∀ (i : Nat) (r : Ru), i < k + 1 → rs[i]? = some r → ¬ 6 < r.r.length) := fun i q hi hq => by
          rcases Nat.lt_or_ge i k with h | h
          · exact J.out.2 i q h hq
          · have : i = k := by omega
            subst this
            rw [HX.out] at hq
            cases hq
            exact he
        generalize r.r.length = rl at c1 HC hrl
        clear he hd
        go_wp2_with (go_at_call 54; refine HC.out.mono ?_; rintro e w1 ⟨rfl, hB⟩)
        go_roundg (n - (k + 1))
        case measure => omega
        case rel => exact ⟨k + 1, by simp, by omega, Nat.le_refl _, (⟨below_step J.out.1 hB, HF.out⟩ : Below w.heap.size w w1 ∧ ∀ (i : Nat) (r : Ru), i < k + 1 → rs[i]? = some r → ¬ 6 < r.r.length)⟩
    · have hlt' : ¬ (k : Int) < (n : Int) := by omega
      have HF : Hid (¬ ∃ r ∈ rs, 6 < r.r.length) := by
        rintro ⟨r, hr, h6⟩
        obtain ⟨i, hi⟩ := List.getElem?_of_mem hr
        exact J.out.2 i r (by have := (List.getElem?_eq_some_iff.1 hi).1; rw [HN.out] at this; omega) hi h6
      go_wp2_with fail
      go_ret
      exact ⟨-1, rfl, ⟨fun h => by omega, fun h => absurd h HF.out⟩, J.out.1⟩

set_option maxHeartbeats 2000000 in
theorem longAny_calls (rs : List Ru) (ao : Option Addr) (cap : Nat) (w : World) (hr : RulesAt w ao rs.length cap rs) (hl : rs.length ≤ 10000) (hs : ∀ r ∈ rs, r.r.length ≤ 1000) (b : Bool) (hb : b = true ↔ ∃ r ∈ rs, 6 < r.r.length) :
    Calls Tryz.prog 53 #[.slice ao rs.length cap, .func (.func 54) #[] #[]] w fun e w' => e = .returned (.bool b) ∧ Below w.heap.size w w' := by
  have HC : Hid (Calls Tryz.prog 67 #[.slice ao rs.length cap, .func (.func 54) #[] #[]] w fun e w' => ∃ z : Int, e = .returned (.int .i64 z) ∧ (0 ≤ z ↔ ∃ r ∈ rs, 6 < r.r.length) ∧ Below w.heap.size w w') := longIndex_calls rs ao cap w hr hl hs
  have HB : Hid (b = true ↔ ∃ r ∈ rs, 6 < r.r.length) := hb
  clear hr hb hs
  go_enter Tryz.func53, Tryz.ntmps53
  go_wp2_with fail
  refine HC.out.mono ?_
  rintro e w1 ⟨z, rfl, hz, hB⟩
  have HE : Hid (b = true ↔ 0 ≤ z) := HB.out.trans hz.symm
  have HW : Hid (Below w.heap.size w w1) := hB
  clear hz hB HB HC
  cases b
  · have hz : ¬ 0 ≤ z := fun h => by have := HE.out.2 h; cases this
    go_wp2_with fail
    go_ret
    exact ⟨by simp [hz], HW.out⟩
  · have hz : 0 ≤ z := HE.out.1 rfl
    go_wp2_with fail
    go_ret
    exact ⟨by simp, HW.out⟩

set_option maxHeartbeats 4000000 in
theorem tooLong_calls (G : Gm) (h : Hd) (w : World) (hG : IsG w h G) (b : Bool) (hb : b = true ↔ LongP G) (m : Nat) (hm : (lfs G.rs).length = m) : Calls Tryz.prog 22 #[gv h G, .int .i64 (m : Int)] w fun e w' => e = .returned (.bool b) ∧ Below w.heap.size w w' := by
  obtain ⟨ts, st, ex, rs⟩ := G
  obtain ⟨ta, tc, ra, rc⟩ := h
  simp only at hm
  have hs1 : ts.length ≤ 100 := hG.small.nt
  have hs2 : rs.length ≤ 200 := hG.small.nr
  have hm2 : m ≤ 200 := by have := lfs_le rs; omega
  have hm1 : ts.length ≤ tc ∧ tc ≤ 9223372036854775807 := by have h1 := hG.tok.le; have h2 := hG.tok.max; simp only at h1 h2; unfold maxLen at h2; omega
  have hm3 := rules_le hG.rul
  simp only at hm3
  obtain ⟨b4, hb4⟩ := bool_of (∃ r ∈ rs, 6 < r.r.length)
  have HC : Hid (∀ V : World, Below w.heap.size w V → Calls Tryz.prog 53 #[.slice ra rs.length rc, .func (.func 54) #[] #[]] V fun e w' => e = .returned (.bool b4) ∧ Below V.heap.size V w') := fun V hV => longAny_calls rs ra rc V (hG.rul.below hV) (by omega) (fun r hr => Nat.le_trans (hG.small.rl r hr).2.2.1 (by omega)) b4 hb4
  have HP : Hid (b = true ↔ (12 < ts.length ∨ 30 < rs.length ∨ 10 < m ∨ b4 = true)) := by
    rw [← hm, hb4]
    exact hb
  unfold gv
  simp only
  clear hG hb hb4 hm
  generalize ts.length = tn at *
  generalize rs.length = rn at *
  have HW : Hid (∀ o, Below w.heap.size w (w.alloc o)) := fun o => below_alloc w o
  go_enter Tryz.func22, Tryz.ntmps22
  by_cases h1 : 12 < tn
  · have HF : Hid (b = true) := HP.out.2 (.inl h1)
    have h1' : (12 : Int) < (tn : Int) := by omega
    go_wp2_with fail
    go_ret
    exact ⟨by rw [HF.out]; rfl, HW.out _⟩
  have h1' : ¬ (12 : Int) < (tn : Int) := by omega
  by_cases h2 : 30 < rn
  · have HF : Hid (b = true) := HP.out.2 (.inr (.inl h2))
    have h2' : (30 : Int) < (rn : Int) := by omega
    go_wp2_with fail
    go_ret
    exact ⟨by rw [HF.out]; rfl, HW.out _⟩
  have h2' : ¬ (30 : Int) < (rn : Int) := by omega
  by_cases h3 : 10 < m
  · have HF : Hid (b = true) := HP.out.2 (.inr (.inr (.inl h3)))
    have h3' : (10 : Int) < (m : Int) := by omega
    go_wp2_with fail
    go_ret
    exact ⟨by rw [HF.out]; rfl, HW.out _⟩
  have h3' : ¬ (10 : Int) < (m : Int) := by omega
  have HF : Hid (b = b4) := by
    cases b <;> cases b4
    · rfl
    · have := HP.out.2 (.inr (.inr (.inr rfl))); cases this
    · rcases HP.out.1 rfl with h | h | h | h
      · omega
      · omega
      · omega
      · cases h
    · rfl
  go_wp2_with fail
  refine (HC.out _ (HW.out _)).mono ?_
  rintro e w1 ⟨rfl, hB⟩
  go_wp2_with fail
  go_ret
  exact ⟨by rw [HF.out]; rfl, below_step (HW.out _) hB⟩

end Go.Proofs.YtebehlmidoencaaGreatDoor

/-
  The walks of count, isSymbol, isOther, newMarks.
-/
namespace Go.Proofs.YtebehlmidoencaaGreatDoor
open Go.RowKit

set_option maxRecDepth 20000

/-- How many symbols there are, and no more than can be walked. -/
structure Szs (S : Sp) (n : Nat) : Prop where
  nm : S.nm.length = n
  nn : n = S.tk + 1 + S.nt
  tk : S.tk ≤ 100
  nt : S.nt ≤ 200

theorem WF.szs {S : Sp} (h : WF S) : Szs S (S.tk + 1 + S.nt) := ⟨h.nm, rfl, h.tk, h.nt⟩

set_option maxHeartbeats 2000000 in
theorem count_calls (h : SHd) (S : Sp) (w : World) (n : Nat) (hz : Szs S n) :
    Calls Tryz.prog 41 #[sv h S] w fun e w' => e = .returned (.int .i64 (n : Int)) ∧ Below w.heap.size w w' := by
  obtain ⟨hS, rfl, ht, hn⟩ := hz
  obtain ⟨tk, nt, st, ex, nm, lv, az, rs⟩ := S
  obtain ⟨na, nc, la, lc, aa, ac, ra, rc⟩ := h
  unfold sv sC
  simp only at *
  rw [hS]
  generalize lv.length = ln
  generalize az.length = an
  generalize rs.length = rn
  clear hS
  have h1 : ¬ (tk : Int) < 0 := by omega
  have h2 : ¬ (nt : Int) < 0 := by omega
  go_enter Tryz.func41, Tryz.ntmps41
  go_wp2_with fail
  go_ret
  exact ⟨by simp, below_alloc _ _⟩

set_option maxHeartbeats 2000000 in
theorem sym_calls (h : SHd) (S : Sp) (w : World) (n x : Nat) (hz : Szs S n) (hx : x < n) :
    Calls Tryz.prog 44 #[sv h S, .int .i64 (x : Int)] w fun e w' => e = .returned (.bool true) ∧ Below w.heap.size w w' := by
  have HC : Hid (∀ W : World, Calls Tryz.prog 41 #[sv h S] W fun e w' => e = .returned (.int .i64 (n : Int)) ∧ Below W.heap.size W w') := fun W => count_calls h S W n hz
  unfold sv sC at *
  have hx' : (x : Int) < (n : Int) := by omega
  have hx0 : (0 : Int) ≤ (x : Int) := by omega
  go_enter Tryz.func44, Tryz.ntmps44
  go_wp2_with fail
  refine (HC.out _).mono ?_
  rintro e w1 ⟨rfl, hB⟩
  go_wp2_with fail
  go_ret
  exact ⟨rfl, below_step (below_alloc _ _) hB⟩

set_option maxHeartbeats 2000000 in
theorem oth_calls (h : SHd) (S : Sp) (w : World) (n x : Nat) (hz : Szs S n) (hx : x < n) (ht : S.tk < x) :
    Calls Tryz.prog 42 #[sv h S, .int .i64 (x : Int)] w fun e w' => e = .returned (.bool true) ∧ Below w.heap.size w w' := by
  have HC : Hid (∀ W : World, Calls Tryz.prog 44 #[sv h S, .int .i64 (x : Int)] W fun e w' => e = .returned (.bool true) ∧ Below W.heap.size W w') := fun W => sym_calls h S W n x hz hx
  unfold sv sC at *
  have ht' : (S.tk : Int) < (x : Int) := by omega
  go_enter Tryz.func42, Tryz.ntmps42
  go_wp2_with fail
  refine (HC.out _).mono ?_
  rintro e w1 ⟨rfl, hB⟩
  go_wp2_with fail
  go_ret
  exact ⟨rfl, below_step (below_alloc _ _) hB⟩

set_option maxHeartbeats 2000000 in
theorem othno_calls (h : SHd) (S : Sp) (w : World) :
    Calls Tryz.prog 42 #[sv h S, .int .i64 (-1)] w fun e w' => e = .returned (.bool false) ∧ Below w.heap.size w w' := by
  unfold sv sC at *
  have ht' : ¬ (S.tk : Int) < -1 := by omega
  go_enter Tryz.func42, Tryz.ntmps42
  go_wp2_with fail
  go_ret
  exact ⟨rfl, below_alloc _ _⟩

theorem booC_new (n : Nat) : (madeCells (Value.bool false).cells (n * 1)).toList = booC (List.replicate n false) := by
  have e : (Value.bool false).cells = #[.bool false] := rfl
  rw [Nat.mul_one, e, toList_madeCells_one]
  unfold booC
  rw [List.map_replicate]

set_option maxHeartbeats 2000000 in
theorem newMarks_calls (w : World) (n : Nat) (hn : n ≤ 1000) :
    Calls Tryz.prog 40 #[.int .i64 (n : Int)] w fun e w' => ∃ mb fb, e = .returned (.pointer (some ⟨mb, 0, none⟩)) ∧ Mrk w' w.heap.size mb fb none 0 (List.replicate n false) [] ∧ Below w.heap.size w w' := by
  obtain ⟨i0, hi, hz0, hz1, hz2⟩ := info_parts i4
  obtain ⟨w1, hr, ho, hg⟩ := run_make_full (P := Tryz.prog) w w.heap.size 51 4 i0 _ 1 u51 hi hz0 hz1 .i64 .i64 n (by rw [hz2]; omega) (by unfold maxLen; omega) (Nat.le_refl _)
  rw [booC_new] at ho
  have HF : Hid (Mrk (w1.alloc (.cells #[.slice (some ⟨w.heap.size, 0, none⟩) n n, .slice none 0 0] 70)) w.heap.size w1.heap.size w.heap.size none 0 (List.replicate n false) [] ∧ Below w.heap.size w (w1.alloc (.cells #[.slice (some ⟨w.heap.size, 0, none⟩) n n, .slice none 0 0] 70))) := by
    have hb : Below w.heap.size w w1 := (Below.refl w.heap.size w).grown hg (Nat.le_refl _) (fun k hk => by cases hk)
    refine ⟨⟨?_, ?_, World.ownsRow_nil _ _ _ _, hb.size⟩, below_step hb (below_alloc _ _)⟩
    · rw [List.length_replicate]
      exact heap_alloc_new _ _
    · rw [List.length_replicate]
      exact ho.alloc _
  clear ho hg hi hz0 hz1 hz2
  go_enter Tryz.func40, Tryz.ntmps40
  go_wp2_with fail
  go_ret
  exact ⟨_, _, rfl, HF.out⟩

end Go.Proofs.YtebehlmidoencaaGreatDoor

/-
  The walk of spread, over whatever it is handed.
-/
namespace Go.Proofs.YtebehlmidoencaaGreatDoor
open Go.RowKit

set_option maxRecDepth 20000

/-- The last one is taken off. -/
def popW (W : World) (mb : Nat) (va : Option Addr) (m vc : Nat) : World := W.setCell ⟨mb, 1, none⟩ (.slice va m vc)

theorem list_snoc {α : Type} (l : List α) (h : l ≠ []) : ∃ a x, l = a ++ [x] := ⟨l.dropLast, l.getLast h, (List.dropLast_concat_getLast h).symm⟩

set_option maxHeartbeats 4000000 in
theorem spread_calls (F : FuncId) (cap : Array Value) (hE : ∀ (args : Array Value) (W : World), (callFunc F args).run Tryz.prog W = .ok (.enter F args) W) (base mb n : Nat) (hn : n ≤ 1000) (I : World → Option Addr → Nat → List Bool → List Nat → Prop)
    (hI : ∀ W va vc fd fr, I W va vc fd fr → MK n fd fr ∧ ∃ fb, Mrk W base mb fb va vc fd fr)
    (hL : ∀ W va vc fd fr x, I W va vc fd (fr ++ [x]) → Calls Tryz.prog F (#[.int .i64 (x : Int)] ++ cap) (popW W mb va fr.length vc) fun e W' => e = .returned (.tuple #[]) ∧ ∃ va' vc' fd' fr', I W' va' vc' fd' fr' ∧ lft n fd' fr' < lft n fd (fr ++ [x]))
    (W : World) (va : Option Addr) (vc : Nat) (fd : List Bool) (fr : List Nat) (h : I W va vc fd fr) :
    Calls Tryz.prog 45 #[.pointer (some ⟨mb, 0, none⟩), .func (.func F) #[] cap] W fun e W' => e = .returned (.tuple #[]) ∧ ∃ va' vc' fd', I W' va' vc' fd' [] := by
  have HL : Hid (∀ W va vc fd fr x, I W va vc fd (fr ++ [x]) → Calls Tryz.prog F (#[.int .i64 (x : Int)] ++ cap) (popW W mb va fr.length vc) fun e W' => e = .returned (.tuple #[]) ∧ ∃ va' vc' fd' fr', I W' va' vc' fd' fr' ∧ lft n fd' fr' < lft n fd (fr ++ [x])) := hL
  have HI : Hid (∀ W va vc fd fr, I W va vc fd fr → MK n fd fr ∧ ∃ fb, Mrk W base mb fb va vc fd fr) := hI
  have HH : Hid (I W va vc fd fr) := h
  clear hL hI h
  go_enter Tryz.func45, Tryz.ntmps45
  go_wp2_with fail
  go_loopg [] (lft n fd fr) (fun kx wr => Hid (∃ va' vc' fd' fr', I wr va' vc' fd' fr' ∧ lft n fd' fr' ≤ kx))
  case atStart => exact (⟨va, vc, fd, fr, HH.out, Nat.le_refl _⟩ : ∃ va' vc' fd' fr', I W va' vc' fd' fr' ∧ lft n fd' fr' ≤ lft n fd fr)
  case round =>
    clear HH
    obtain ⟨va1, vc1, fd1, fr1, h1, hk⟩ := hrel.out
    obtain ⟨hmk, fb, hm⟩ := HI.out _ _ _ _ _ h1
    have b1 : wr.cell? ⟨mb, 1, none⟩ = some (.slice va1 fr1.length vc1) := by rw [cell_block hm.box]; rfl
    have f1 : wr.frozen? ⟨mb, 1, none⟩ = false := frozen_block hm.box 1
    have hle := hmk.le
    have hcap := own_lens hm.frs
    by_cases h0 : fr1 = []
    · subst h0
      have HF : Hid (∃ va' vc' fd', I wr va' vc' fd' []) := ⟨_, _, _, h1⟩
      have b1 : wr.cell? ⟨mb, 1, none⟩ = some (.slice va1 0 vc1) := b1
      clear hm hmk h1 hk hrel
      go_wp2_with fail
      go_end0
      exact ⟨rfl, HF.out⟩
    · obtain ⟨fr2, x, rfl⟩ := list_snoc fr1 h0
      have el : (fr2 ++ [x]).length = fr2.length + 1 := by simp
      rw [el] at b1 hle hcap
      have hfs := hm.frs
      rw [el] at hfs
      obtain ⟨g, rfl⟩ : ∃ g, va1 = some ⟨g, 0, none⟩ := by
        obtain ⟨ao, c, e, -, -, h6⟩ := own_slice hfs
        cases e
        rcases h6 with ⟨-, h6, -⟩ | h6
        · omega
        · exact h6
      have c1 : wr.cell? ⟨g, fr2.length, none⟩ = some (.int .i64 (x : Int)) := by
        rw [hfs.cellAt fr2.length (by omega), natC_snoc, List.getElem?_append_right (by rw [natC_length]; exact Nat.le_refl _), natC_length, Nat.sub_self]
        rfl
      have HC : Hid (Calls Tryz.prog F (#[.int .i64 (x : Int)] ++ cap) (popW wr mb (some ⟨g, 0, none⟩) fr2.length vc1) fun e W' => e = .returned (.tuple #[]) ∧ ∃ va' vc' fd' fr', I W' va' vc' fd' fr' ∧ lft n fd' fr' < lft n fd1 (fr2 ++ [x])) := HL.out _ _ _ _ _ _ h1
      have HK : Hid (lft n fd1 (fr2 ++ [x]) ≤ gk) := hk
      unfold popW at HC
      generalize fr2.length = m at *
      clear hm hmk h1 hk hrel hfs el h0
      have m1 : (0 : Int) < (m : Int) + 1 := by omega
      go_wp2_with fail
      refine HC.out.mono ?_
      rintro e W' ⟨rfl, va', vc', fd', fr', hi, hlt⟩
      have HF : Hid (∃ va' vc' fd' fr', I W' va' vc' fd' fr' ∧ lft n fd' fr' ≤ gk - 1) := ⟨va', vc', fd', fr', hi, by have := HK.out; omega⟩
      have hgk : 1 ≤ gk := by have := HK.out; omega
      clear hi hlt HC
      go_wp2_with fail
      go_roundg (gk - 1)
      case measure => omega
      case rel => exact HF

end Go.Proofs.YtebehlmidoencaaGreatDoor

/-
  Rows of rows that a call owns; what Yields and Reached keep in memory.
-/
namespace Go.Proofs.YtebehlmidoencaaGreatDoor
open Go.RowKit

set_option maxRecDepth 20000

def grC (vs : List (Option Addr × Nat)) (wt : List (List Nat)) : List Value := (vs.zip wt).map fun q => .slice q.1.1 q.2.length q.1.2

/-- Rows of numbers, each a row of its own. -/
structure Grd (W : World) (base wb : Nat) (vs : List (Option Addr × Nat)) (wt : List (List Nat)) : Prop where
  len : vs.length = wt.length
  bod : W.ownsRow base 29 1 (.slice (some ⟨wb, 0, none⟩) wt.length wt.length) wt.length (grC vs wt)
  row : ∀ (x : Nat) (p : Option Addr × Nat) (l : List Nat), vs[x]? = some p → wt[x]? = some l → W.ownsRow base 3 1 (.slice p.1 l.length p.2) l.length (natC l)
  dis : ∀ (x y : Nat) (p q : Option Addr × Nat) (k : Nat), x ≠ y → vs[x]? = some p → vs[y]? = some q → blk p.1 = some k → blk q.1 ≠ some k

/-- The blocks of its rows. -/
def GR (vs : List (Option Addr × Nat)) (k : Nat) : Prop := ∃ (x : Nat) (p : Option Addr × Nat), vs[x]? = some p ∧ blk p.1 = some k

theorem own_blk {W : World} {base E k n c : Nat} {ao : Option Addr} {cs : List Value} (h : W.ownsRow base E k (.slice ao n c) n cs) {b : Nat} (hb : blk ao = some b) : (Value.slice ao n c).ownBlock = some b := by
  rcases h.2 with ⟨hv, -⟩ | ⟨g, cap, cur, hv, -⟩
  · cases hv; cases hb
  · cases hv; exact hb

theorem own_blt {W : World} {base E k n c : Nat} {ao : Option Addr} {cs : List Value} (h : W.ownsRow base E k (.slice ao n c) n cs) {b : Nat} (hb : blk ao = some b) : base ≤ b ∧ b < W.heap.size ∧ Loc W b E :=
  ⟨(World.ownsRow.lt h b (own_blk h hb)).1, (World.ownsRow.lt h b (own_blk h hb)).2, own_loc h (own_blk h hb)⟩

theorem Grd.lt {W : World} {base wb : Nat} {vs : List (Option Addr × Nat)} {wt : List (List Nat)} (h : Grd W base wb vs wt) {k : Nat} (hk : GR vs k) : base ≤ k ∧ k < W.heap.size ∧ Loc W k 3 := by
  obtain ⟨x, p, hp, hb⟩ := hk
  have hx : x < wt.length := by rw [← h.len]; exact (List.getElem?_eq_some_iff.1 hp).1
  exact own_blt (h.row x p wt[x] hp (List.getElem?_eq_getElem hx)) hb

theorem Grd.loc {W : World} {base wb : Nat} {vs : List (Option Addr × Nat)} {wt : List (List Nat)} (h : Grd W base wb vs wt) : base ≤ wb ∧ wb < W.heap.size ∧ Loc W wb 29 := own_blt h.bod rfl

/-- All blocks of the rows are as they were. -/
theorem Grd.keep {W W' : World} {base wb : Nat} {vs : List (Option Addr × Nat)} {wt : List (List Nat)} (h : Grd W base wb vs wt) (h1 : W'.heap[wb]? = W.heap[wb]?) (h2 : ∀ k, GR vs k → W'.heap[k]? = W.heap[k]?) : Grd W' base wb vs wt := by
  refine ⟨h.len, ?_, fun x p l hp hl => ?_, h.dis⟩
  · exact ownsRow_of_block h.bod (fun i hi => by cases hi; exact h1)
  · exact ownsRow_of_block (h.row x p l hp hl) (fun i hi => h2 i ⟨x, p, hp, blk_own hi⟩)

theorem Grd.kept {W W' : World} {F : Nat → Prop} {base wb : Nat} {vs : List (Option Addr × Nat)} {wt : List (List Nat)} (h : Grd W base wb vs wt) (k : Kept F W W') (h1 : ¬ F wb) (h2 : ∀ j, GR vs j → ¬ F j) : Grd W' base wb vs wt :=
  h.keep (k.block wb h.loc.2.1 h1) (fun j hj => k.block j (h.lt hj).2.1 (h2 j hj))

theorem Grd.below {W W' : World} {base wb : Nat} {vs : List (Option Addr × Nat)} {wt : List (List Nat)} (h : Grd W base wb vs wt) (k : Below W.heap.size W W') : Grd W' base wb vs wt :=
  h.keep (k.block wb h.loc.2.1) (fun j hj => k.block j (h.lt hj).2.1)

theorem Grd.at {W : World} {base wb : Nat} {vs : List (Option Addr × Nat)} {wt : List (List Nat)} (h : Grd W base wb vs wt) {x : Nat} {l : List Nat} (hl : wt[x]? = some l) : ∃ p, vs[x]? = some p ∧ W.cell? ⟨wb, x, none⟩ = some (.slice p.1 l.length p.2) ∧ W.frozen? ⟨wb, x, none⟩ = false := by
  have hx : x < wt.length := (List.getElem?_eq_some_iff.1 hl).1
  have hp : vs[x]? = some (vs[x]'(by rw [h.len]; exact hx)) := List.getElem?_eq_getElem _
  refine ⟨_, hp, ?_, h.bod.frozenAt x⟩
  rw [h.bod.cellAt x (by omega)]
  unfold grC
  have hz : (vs.zip wt)[x]? = some (vs[x]'(by rw [h.len]; exact hx), l) := by rw [List.getElem?_zip_eq_some]; exact ⟨hp, hl⟩
  rw [List.getElem?_map, hz]
  rfl

theorem zip_set_gr {α β : Type} : ∀ {l : List α} {m : List β} {i : Nat} {x : α} {y : β}, (l.set i x).zip (m.set i y) = (l.zip m).set i (x, y)
  | [], m, i, x, y => by simp
  | a :: l, [], i, x, y => by simp
  | a :: l, b :: m, 0, x, y => rfl
  | a :: l, b :: m, i + 1, x, y => by
    simp only [List.set_cons_succ, List.zip_cons_cons]
    rw [zip_set_gr]

theorem Kept.weaken {F G : Nat → Prop} {W W' : World} (h : Kept F W W') (hs : ∀ k, F k → G k) : Kept G W W' := ⟨h.os, h.tape, h.output, h.size, fun k hk hn => h.block k hk (fun e => hn (hs k e))⟩

/-- One number more in one of the rows. -/
theorem Grd.add {W : World} {base wb : Nat} {vs : List (Option Addr × Nat)} {wt : List (List Nat)} (h : Grd W base wb vs wt) (hB : base ≤ W.heap.size) {x i : Nat} {l : List Nat} {p : Option Addr × Nat} (hl : wt[x]? = some l) (hp : vs[x]? = some p) (hn : l.length < 100000) :
    ∃ g c W', (Builtin.append_ #[29, 29] 29 #[.slice p.1 l.length p.2, .slice (some ⟨W.heap.size, 0, none⟩) 1 1]).run Tryz.prog (W.alloc (.cells #[.int .i64 (i : Int)] 3)) = .ok (.slice (some ⟨g, 0, none⟩) (l.length + 1) c) W' ∧
      W'.cell? ⟨wb, x, none⟩ = some (.slice p.1 l.length p.2) ∧ W'.frozen? ⟨wb, x, none⟩ = false ∧ Kept (fun k => blk p.1 = some k) W W' ∧
      Grd (W'.setCell ⟨wb, x, none⟩ (.slice (some ⟨g, 0, none⟩) (l.length + 1) c)) base wb (vs.set x (some ⟨g, 0, none⟩, c)) (wt.set x (l ++ [i])) ∧ Kept (fun k => k = wb ∨ blk p.1 = some k) W (W'.setCell ⟨wb, x, none⟩ (.slice (some ⟨g, 0, none⟩) (l.length + 1) c)) ∧ (blk p.1 = some g ∨ W.heap.size ≤ g) := by
  obtain ⟨g, c, W', hr, ho, hk, hg⟩ := ap_gen (us := [.int .i64 (i : Int)]) u29 i3 rfl (by decide) (by decide) rfl (fun u hu => by rw [List.mem_singleton] at hu; subst hu; rfl) (h.row x p l hp hl) hB hn
  have hx : x < wt.length := (List.getElem?_eq_some_iff.1 hl).1
  have hxv : x < vs.length := by rw [h.len]; exact hx
  have k0 : Kept (fun k => blk p.1 = some k) W W' := ((Kept.refl _ W).alloc _).trans hk (fun k _ e => blk_own e)
  have hg' : blk p.1 = some g ∨ W.heap.size ≤ g := hg.imp blk_own id
  have hwb : ¬ blk p.1 = some wb := fun e => loc_ne (own_blt (h.row x p l hp hl) e).2.2 h.loc.2.2 (by decide) rfl
  have gb : W'.ownsRow base 29 1 (.slice (some ⟨wb, 0, none⟩) wt.length wt.length) wt.length (grC vs wt) := ownsRow_of_block h.bod (fun j hj => by cases hj; exact k0.block wb h.loc.2.1 hwb)
  have hgl : g ≠ wb := fun e => loc_ne (own_loc ho rfl) (own_loc gb rfl) (by decide) e
  obtain ⟨p', hp', c1, -⟩ := h.at hl
  rw [hp] at hp'
  cases hp'
  have c2 : W'.cell? ⟨wb, x, none⟩ = some (.slice p.1 l.length p.2) := by
    have : W'.heap[wb]? = W.heap[wb]? := k0.block wb h.loc.2.1 hwb
    unfold World.cell? at c1 ⊢
    rw [this]
    exact c1
  refine ⟨g, c, W', hr, c2, gb.frozenAt x, k0, ⟨?_, ?_, ?_, ?_⟩, ?_, hg'⟩
  · rw [List.length_set, List.length_set]; exact h.len
  · have s1 := (gb.stored x (.slice (some ⟨g, 0, none⟩) (l.length + 1) c)).1
    rw [List.length_set]
    have e : grC (vs.set x (some ⟨g, 0, none⟩, c)) (wt.set x (l ++ [i])) = (grC vs wt).set x (.slice (some ⟨g, 0, none⟩) (l.length + 1) c) := by
      unfold grC
      rw [zip_set_gr, List.map_set]
      simp
    rw [e]
    exact s1
  · intro y q m hq hm
    rw [List.getElem?_set] at hq hm
    by_cases hy : x = y
    · subst hy
      rw [if_pos rfl, if_pos hxv] at hq
      rw [if_pos rfl, if_pos hx] at hm
      cases hq
      cases hm
      rw [natC_snoc, List.length_append]
      exact ownsRow_of_block ho (fun j hj => by cases hj; exact Below.heap_setCell _ _ _ _ hgl)
    · rw [if_neg hy] at hq hm
      have hro := h.row y q m hq hm
      refine ownsRow_of_block hro (fun j hj => ?_)
      have hj' := blk_own hj
      rw [Below.heap_setCell _ _ _ _ (loc_ne (own_loc hro hj) h.loc.2.2 (by decide)), k0.block j (own_blt hro hj').2.1 (fun e => h.dis x y p q j hy hp hq e hj')]
  · intro y z q r k hyz hq hr hb
    rw [List.getElem?_set] at hq hr
    have old : ∀ (u : Nat) (s : Option Addr × Nat), vs[u]? = some s → x ≠ u → blk s.1 = some g → False := by
      intro u s hs hxu hb2
      rcases hg' with h1 | h1
      · exact h.dis x u p s g hxu hp hs h1 hb2
      · have := (h.lt ⟨u, s, hs, hb2⟩).2.1
        omega
    by_cases h1 : x = y
    · subst h1
      rw [if_pos rfl, if_pos hxv] at hq
      rw [if_neg hyz] at hr
      cases hq
      cases hb
      exact fun e => old z r hr hyz e
    · rw [if_neg h1] at hq
      by_cases h2 : x = z
      · subst h2
        rw [if_pos rfl, if_pos hxv] at hr
        cases hr
        intro e
        cases e
        exact old y q hq h1 hb
      · rw [if_neg h2] at hr
        exact h.dis y z q r k hyz hq hr hb
  · refine Kept.setCell (k0.weaken (fun k e => .inr e)) _ _ (fun _ => .inl rfl)

end Go.Proofs.YtebehlmidoencaaGreatDoor
