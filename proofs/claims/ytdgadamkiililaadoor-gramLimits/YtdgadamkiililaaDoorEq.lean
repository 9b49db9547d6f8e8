/-
  The walks of gram's Eq and of what it calls.
-/
import Derived.Test.YtdgadamkiililaaDoorMayG
import Derived.Laws.StructEq
namespace Go.Proofs.YtdgadamkiililaaDoor
open Go.RowKit

theorem list_eq_of {α : Type} {a b : List α} (hl : a.length = b.length) (h : ∀ (i : Nat) (x y : α), a[i]? = some x → b[i]? = some y → x = y) : a = b := by
  apply List.ext_getElem hl
  intro i h1 h2
  exact h i _ _ (List.getElem?_eq_getElem h1) (List.getElem?_eq_getElem h2)

set_option maxHeartbeats 2000000 in
set_option maxRecDepth 20000 in
theorem eqStr_calls (l m : List ByteArray) (a1 : Option Addr) (n1 k1 : Nat) (a2 : Option Addr) (n2 k2 : Nat) (w : World) (h1 : Row w 1 a1 n1 k1 (strC l)) (h2 : Row w 1 a2 n2 k2 (strC m)) (e1 : n1 = l.length) (e2 : n2 = m.length) (hn : n1 ≤ 1000) (r : Bool) (hp : r = true ↔ l = m) :
    Calls Tryd.prog 45 #[.slice a1 n1 k1, .slice a2 n2 k2] w fun e w' => e = .returned (.bool r) ∧ Below w.heap.size w w' := by
  have HE : Hid (n1 = l.length ∧ n2 = m.length) := ⟨e1, e2⟩
  have HP : Hid (r = true ↔ l = m) := hp
  have HR : Hid (Row w 1 a1 n1 k1 (strC l) ∧ Row w 1 a2 n2 k2 (strC m)) := ⟨h1, h2⟩
  have q1 : n1 ≤ k1 ∧ k1 ≤ 9223372036854775807 := by have := h1.le; have h := h1.max; unfold maxLen at h; omega
  have q2 : n2 ≤ k2 ∧ k2 ≤ 9223372036854775807 := by have := h2.le; have h := h2.max; unfold maxLen at h; omega
  clear e1 e2 hp h1 h2
  by_cases hne : n1 = n2
  · have hb : ((n1 : Int) != (n2 : Int)) = false := by simp [hne]
    go_enter Tryd.func45, Tryd.ntmps45
    go_wp2
    go_loopg [13] n1 (fun kx s13 wr => ∃ k : Nat, s13 = .int .i64 k ∧ k ≤ n1 ∧ n1 - k ≤ kx ∧ Hid (Below w.heap.size w wr ∧ ∀ (i : Nat) (x y : ByteArray), i < k → l[i]? = some x → m[i]? = some y → x = y))
    case atStart => exact ⟨0, rfl, Nat.zero_le _, by omega, (⟨Below.refl _ _, fun i x y h => absurd h (Nat.not_lt_zero _)⟩ : Below w.heap.size w _ ∧ ∀ (i : Nat) (x y : ByteArray), i < 0 → l[i]? = some x → m[i]? = some y → x = y)⟩
    case round =>
      obtain ⟨k, rfl, hk, hg, J⟩ := hrel
      by_cases hlt : k < n1
      · obtain ⟨x, hx⟩ : ∃ x, l[k]? = some x := ⟨l[k]'(by rw [← HE.out.1]; exact hlt), List.getElem?_eq_getElem _⟩
        obtain ⟨y, hy⟩ : ∃ y, m[k]? = some y := ⟨m[k]'(by rw [← HE.out.2]; omega), List.getElem?_eq_getElem _⟩
        obtain ⟨b1, o1, rfl, c1⟩ := str_at (HR.out.1.below J.out.1) hx
        obtain ⟨b2, o2, rfl, c2⟩ := str_at (HR.out.2.below J.out.1) hy
        have HX : Hid (l[k]? = some x ∧ m[k]? = some y) := ⟨hx, hy⟩
        clear hx hy
        have hlt2 : k < n2 := by omega
        go_upto_region 6 with fail
        have g1 := cell_onto c1
        have g2 := cell_onto c2
        have HO : Hid (∀ n os, Below w.heap.size w (onto wr n os)) := fun n os => below_step J.out.1 (onto_below wr n os)
        by_cases hxy : x = y
        · have e3 : (x.toList == y.toList) = true := toList_beq_eq hxy
          have HF : Hid (∀ (i : Nat) (x y : ByteArray), i < k + 1 → l[i]? = some x → m[i]? = some y → x = y) := fun i u v hi hu hv => by
            rcases Nat.lt_or_ge i k with h | h
            · exact J.out.2 i u v h hu hv
            · have : i = k := by omega
              subst this
              rw [HX.out.1] at hu
              rw [HX.out.2] at hv
              cases hu; cases hv
              exact hxy
          clear hxy J
          refine wp_region_onto (by kernel_rfl) ?_
          repeat (go_big_quiet_step (fail))
          refine wpQuiet_nil ?_
          intro _ hwq
          obtain ⟨⟨nq, osq⟩, hwe⟩ := hwq
          subst hwe
          simp only
          go_wp2_with fail
          go_roundg (n1 - (k + 1))
          case measure => omega
          case rel => exact ⟨k + 1, by simp, by omega, Nat.le_refl _, (⟨HO.out _ _, HF.out⟩ : Below w.heap.size w _ ∧ ∀ (i : Nat) (x y : ByteArray), i < k + 1 → l[i]? = some x → m[i]? = some y → x = y)⟩
        · have e3 : (x.toList == y.toList) = false := toList_beq_ne hxy
          have HF : Hid (r = false) := b_false HP.out (fun h => by have h5 := HX.out; rw [h] at h5; rw [h5.1] at h5; exact hxy (Option.some.inj h5.2))
          clear hxy J
          refine wp_region_onto (by kernel_rfl) ?_
          repeat (go_big_quiet_step (fail))
          refine wpQuiet_nil ?_
          intro _ hwq
          obtain ⟨⟨nq, osq⟩, hwe⟩ := hwq
          subst hwe
          simp only
          go_wp2_with fail
          go_ret
          exact ⟨by rw [HF.out]; rfl, HO.out _ _⟩
      · have HF : Hid (r = true) := b_true HP.out (list_eq_of (by rw [← HE.out.1, ← HE.out.2]; exact hne) (fun i x y hx hy => J.out.2 i x y (by have := (List.getElem?_eq_some_iff.1 hx).1; rw [← HE.out.1] at this; omega) hx hy))
        go_wp2
        go_ret
        exact ⟨by rw [HF.out]; rfl, J.out.1⟩
  · have hb : ((n1 : Int) != (n2 : Int)) = true := by simp; omega
    have HF : Hid (r = false) := b_false HP.out (fun h => hne (by rw [HE.out.1, HE.out.2, h]))
    clear hne
    go_enter Tryd.func45, Tryd.ntmps45
    go_wp2
    go_ret
    exact ⟨by rw [HF.out]; rfl, Below.refl _ _⟩

theorem tok_struct : Tryd.prog.underlying 35 = some (.struct (Tryd.prog.fieldsOf 35)) := by kernel_rfl
theorem tok_held : Tryd.prog.stoodInHeld 35 = false := by kernel_rfl
theorem tok_guard : Tryd.prog.eqGuardType Tryd.prog.depth 35 = false := by kernel_rfl

theorem tok_fs : (Tryd.prog.fieldsOf 35).toList = [ ⟨ "Name", 9, 0, false, "", "", 0⟩, ⟨ "Level", 3, 1, false, "", "", 16⟩, ⟨ "Assoc", 3, 2, false, "", "", 24⟩] := by kernel_rfl

theorem run_neq_tok (n m : ByteArray) (a b c d : Int) (W : World) : (binOp .neq 35 (.agg #[.string n, .int .i64 a, .int .i64 b]) (.agg #[.string m, .int .i64 c, .int .i64 d])).run Tryd.prog W = .ok (.bool (!((n.toList == m.toList) && (a == c) && (b == d)))) W := by
  rw [run_neq_struct, run_equalIn_agg _ _ _ _ _ tok_struct tok_held, tok_fs]
  simp [go_sem, Tryd.underlying9, Tryd.underlying3]
  by_cases h1 : n.toList = m.toList
  · by_cases h2 : a = c
    · by_cases h3 : b = d
      · simp [h1, h2, h3]
      · simp [h1, h2, h3]
    · simp [h1, h2]
  · simp [h1]

/-- Two tokens are one. -/
theorem tk_eq_iff (n m : ByteArray) (a b c d : Int) : ((⟨n, a, b⟩ : Tk) = ⟨m, c, d⟩) ↔ ((n.toList == m.toList) = true ∧ a = c ∧ b = d) := by
  rw [toList_beq]
  constructor
  · intro h; cases h; exact ⟨rfl, rfl, rfl⟩
  · rintro ⟨rfl, rfl, rfl⟩; rfl

set_option maxHeartbeats 2000000 in
set_option maxRecDepth 20000 in
theorem eqTok_calls (l m : List Tk) (a1 : Option Addr) (n1 k1 : Nat) (a2 : Option Addr) (n2 k2 : Nat) (w : World) (h1 : Row w 3 a1 n1 k1 (tokC l)) (h2 : Row w 3 a2 n2 k2 (tokC m)) (e1 : n1 = l.length) (e2 : n2 = m.length) (hn : n1 ≤ 1000) (r : Bool) (hp : r = true ↔ l = m) :
    Calls Tryd.prog 30 #[.slice a1 n1 k1, .slice a2 n2 k2] w fun e w' => e = .returned (.bool r) ∧ Below w.heap.size w w' := by
  have HE : Hid (n1 = l.length ∧ n2 = m.length) := ⟨e1, e2⟩
  have HP : Hid (r = true ↔ l = m) := hp
  have HR : Hid (Row w 3 a1 n1 k1 (tokC l) ∧ Row w 3 a2 n2 k2 (tokC m)) := ⟨h1, h2⟩
  have q1 : n1 ≤ k1 ∧ k1 ≤ 9223372036854775807 := by have := h1.le; have h := h1.max; unfold maxLen at h; omega
  have q2 : n2 ≤ k2 ∧ k2 ≤ 9223372036854775807 := by have := h2.le; have h := h2.max; unfold maxLen at h; omega
  clear e1 e2 hp h1 h2
  by_cases hne : n1 = n2
  · have hb : ((n1 : Int) != (n2 : Int)) = false := by simp [hne]
    go_enter Tryd.func30, Tryd.ntmps30
    go_wp2
    go_loopg [13] n1 (fun kx s13 wr => ∃ k : Nat, s13 = .int .i64 k ∧ k ≤ n1 ∧ n1 - k ≤ kx ∧ Hid (Below w.heap.size w wr ∧ ∀ (i : Nat) (x y : Tk), i < k → l[i]? = some x → m[i]? = some y → x = y))
    case atStart => exact ⟨0, rfl, Nat.zero_le _, by omega, (⟨Below.refl _ _, fun i x y h => absurd h (Nat.not_lt_zero _)⟩ : Below w.heap.size w _ ∧ ∀ (i : Nat) (x y : Tk), i < 0 → l[i]? = some x → m[i]? = some y → x = y)⟩
    case round =>
      obtain ⟨k, rfl, hk, hg, J⟩ := hrel
      by_cases hlt : k < n1
      · obtain ⟨x, hx⟩ : ∃ x, l[k]? = some x := ⟨l[k]'(by rw [← HE.out.1]; exact hlt), List.getElem?_eq_getElem _⟩
        obtain ⟨y, hy⟩ : ∃ y, m[k]? = some y := ⟨m[k]'(by rw [← HE.out.2]; omega), List.getElem?_eq_getElem _⟩
        obtain ⟨b1, o1, rfl, c1, d1, f1⟩ := tok_at (HR.out.1.below J.out.1) hx
        obtain ⟨b2, o2, rfl, c2, d2, f2⟩ := tok_at (HR.out.2.below J.out.1) hy
        have HX : Hid (l[k]? = some x ∧ m[k]? = some y) := ⟨hx, hy⟩
        clear hx hy
        have hlt2 : k < n2 := by omega
        obtain ⟨xn, xl, xa⟩ := x
        obtain ⟨yn, yl, ya⟩ := y
        simp only at c1 d1 f1 c2 d2 f2
        go_upto_region 6 with fail
        have g1 := cell_onto c1
        have g2 := cell_onto c2
        have g3 := cell_onto d1
        have g4 := cell_onto d2
        have g5 := cell_onto f1
        have g6 := cell_onto f2
        have hgd : ∀ (W : World) (x y : Operand), (eqGuard .neq 35 x y (.agg #[.string xn, .int .i64 xl, .int .i64 xa]) (.agg #[.string yn, .int .i64 yl, .int .i64 ya])).run Tryd.prog W = .ok () W := fun W x y => run_eqGuard_agg W .neq 35 x y _ _ tok_guard
        have HO : Hid (∀ n os, Below w.heap.size w (onto wr n os)) := fun n os => below_step J.out.1 (onto_below wr n os)
        clear c1 c2 d1 d2 f1 f2
        by_cases hxy : (⟨xn, xl, xa⟩ : Tk) = ⟨yn, yl, ya⟩
        · have e3 : ∀ W : World, (binOp .neq 35 (.agg #[.string xn, .int .i64 xl, .int .i64 xa]) (.agg #[.string yn, .int .i64 yl, .int .i64 ya])).run Tryd.prog W = .ok (.bool false) W := fun W => by
            rw [run_neq_tok]
            obtain ⟨h1, h2, h3⟩ := (tk_eq_iff _ _ _ _ _ _).1 hxy
            rw [h1, h2, h3]
            simp
          have HF : Hid (∀ (i : Nat) (x y : Tk), i < k + 1 → l[i]? = some x → m[i]? = some y → x = y) := fun i u v hi hu hv => by
            rcases Nat.lt_or_ge i k with h | h
            · exact J.out.2 i u v h hu hv
            · have : i = k := by omega
              subst this
              rw [HX.out.1] at hu
              rw [HX.out.2] at hv
              cases hu; cases hv
              exact hxy
          clear hxy J
          refine wp_region_onto (by kernel_rfl) ?_
          repeat (go_big_quiet_step (fail))
          refine wpQuiet_nil ?_
          intro _ hwq
          obtain ⟨⟨nq, osq⟩, hwe⟩ := hwq
          subst hwe
          simp only
          go_wp2_with fail
          go_roundg (n1 - (k + 1))
          case measure => omega
          case rel => exact ⟨k + 1, by simp, by omega, Nat.le_refl _, (⟨HO.out _ _, HF.out⟩ : Below w.heap.size w _ ∧ ∀ (i : Nat) (x y : Tk), i < k + 1 → l[i]? = some x → m[i]? = some y → x = y)⟩
        · have e3 : ∀ W : World, (binOp .neq 35 (.agg #[.string xn, .int .i64 xl, .int .i64 xa]) (.agg #[.string yn, .int .i64 yl, .int .i64 ya])).run Tryd.prog W = .ok (.bool true) W := fun W => by
            rw [run_neq_tok]
            have h0 : ((xn.toList == yn.toList) && (xl == yl) && (xa == ya)) = false := by
              cases hb : ((xn.toList == yn.toList) && (xl == yl) && (xa == ya))
              · rfl
              · rw [Bool.and_eq_true, Bool.and_eq_true] at hb
                exact absurd ((tk_eq_iff _ _ _ _ _ _).2 ⟨hb.1.1, by simpa using hb.1.2, by simpa using hb.2⟩) hxy
            rw [h0]
            rfl
          have HF : Hid (r = false) := b_false HP.out (fun h => by have h5 := HX.out; rw [h] at h5; rw [h5.1] at h5; exact hxy (Option.some.inj h5.2))
          clear hxy J
          refine wp_region_onto (by kernel_rfl) ?_
          repeat (go_big_quiet_step (fail))
          refine wpQuiet_nil ?_
          intro _ hwq
          obtain ⟨⟨nq, osq⟩, hwe⟩ := hwq
          subst hwe
          simp only
          go_wp2_with fail
          go_ret
          exact ⟨by rw [HF.out]; rfl, HO.out _ _⟩
      · have HF : Hid (r = true) := b_true HP.out (list_eq_of (by rw [← HE.out.1, ← HE.out.2]; exact hne) (fun i x y hx hy => J.out.2 i x y (by have := (List.getElem?_eq_some_iff.1 hx).1; rw [← HE.out.1] at this; omega) hx hy))
        go_wp2
        go_ret
        exact ⟨by rw [HF.out]; rfl, J.out.1⟩
  · have hb : ((n1 : Int) != (n2 : Int)) = true := by simp; omega
    have HF : Hid (r = false) := b_false HP.out (fun h => hne (by rw [HE.out.1, HE.out.2, h]))
    clear hne
    go_enter Tryd.func30, Tryd.ntmps30
    go_wp2
    go_ret
    exact ⟨by rw [HF.out]; rfl, Below.refl _ _⟩

set_option maxHeartbeats 2000000 in
set_option maxRecDepth 20000 in
theorem sameRule_calls (x y : Ru) (xa ya : Option Addr) (xc yc : Nat) (w : World) (h1 : Row w 1 xa x.r.length xc (strC x.r)) (h2 : Row w 1 ya y.r.length yc (strC y.r)) (hn : x.r.length ≤ 100) (r : Bool) (hp : r = true ↔ x = y) :
    Calls Tryd.prog 32 #[.agg #[.string x.l, .slice xa x.r.length xc, .string x.p], .agg #[.string y.l, .slice ya y.r.length yc, .string y.p]] w fun e w' => e = .returned (.bool r) ∧ Below w.heap.size w w' := by
  obtain ⟨xl, xr, xp⟩ := x
  obtain ⟨yl, yr, yp⟩ := y
  simp only at h1 h2 hn ⊢
  obtain ⟨q, hq⟩ := bool_of (xr = yr)
  have HQ : Hid (∀ W : World, Below w.heap.size w W → Calls Tryd.prog 45 #[.slice xa xr.length xc, .slice ya yr.length yc] W fun e w' => e = .returned (.bool q) ∧ Below W.heap.size W w') := fun W hW => eqStr_calls xr yr xa _ xc ya _ yc W (h1.below hW) (h2.below hW) rfl rfl (by omega) q hq
  have HP : Hid (r = ((xl.toList == yl.toList) && (xp.toList == yp.toList) && q)) := by
    show _ = _
    rw [Bool.eq_iff_iff, hp, Bool.and_eq_true, Bool.and_eq_true, toList_beq, toList_beq, hq]
    constructor
    · intro h; cases h; exact ⟨⟨rfl, rfl⟩, rfl⟩
    · rintro ⟨⟨rfl, rfl⟩, rfl⟩; rfl
  have q1 : xr.length ≤ xc ∧ xc ≤ 9223372036854775807 := by have := h1.le; have h := h1.max; unfold maxLen at h; omega
  have q2 : yr.length ≤ yc ∧ yc ≤ 9223372036854775807 := by have := h2.le; have h := h2.max; unfold maxLen at h; omega
  have HB : Hid (∀ o o' : Obj, Below w.heap.size w ((w.alloc o).alloc o')) := fun o o' => below_step (below_alloc _ _) (below_alloc _ _)
  generalize xr.length = n at *
  generalize yr.length = m at *
  clear h1 h2 hp hq
  cases e1 : (xl.toList == yl.toList)
  · have HF : Hid (r = false) := by have := HP.out; rwa [e1] at this
    clear HP
    go_enter Tryd.func32, Tryd.ntmps32
    go_wp2_with fail
    go_ret
    exact ⟨by rw [HF.out]; rfl, HB.out _ _⟩
  · cases e2 : (xp.toList == yp.toList)
    · have HF : Hid (r = false) := by have := HP.out; rwa [e1, e2] at this
      clear HP
      go_enter Tryd.func32, Tryd.ntmps32
      go_wp2_with fail
      go_ret
      exact ⟨by rw [HF.out]; rfl, HB.out _ _⟩
    · have HF : Hid (r = q) := by have := HP.out; rwa [e1, e2] at this
      clear HP
      go_enter Tryd.func32, Tryd.ntmps32
      go_wp2_with fail
      refine (HQ.out _ (HB.out _ _)).mono ?_
      rintro e w1 ⟨rfl, hB⟩
      have HB1 : Hid (Below w.heap.size w w1) := below_step (HB.out _ _) hB
      clear hB
      go_wp2_with fail
      go_ret
      exact ⟨by rw [HF.out]; rfl, HB1.out⟩

set_option maxHeartbeats 2000000 in
set_option maxRecDepth 20000 in
theorem eqRules_calls (l m : List Ru) (a1 : Option Addr) (n1 k1 : Nat) (a2 : Option Addr) (n2 k2 : Nat) (w : World) (h1 : RulesAt w a1 n1 k1 l) (h2 : RulesAt w a2 n2 k2 m) (e1 : n1 = l.length) (e2 : n2 = m.length) (hn : n1 ≤ 1000) (hs : ∀ x ∈ l, x.r.length ≤ 100) (r : Bool) (hp : r = true ↔ l = m) :
    Calls Tryd.prog 31 #[.slice a1 n1 k1, .slice a2 n2 k2, .func (.func 32) #[] #[]] w fun e w' => e = .returned (.bool r) ∧ Below w.heap.size w w' := by
  have HE : Hid (n1 = l.length ∧ n2 = m.length) := ⟨e1, e2⟩
  have HP : Hid (r = true ↔ l = m) := hp
  have HR : Hid (RulesAt w a1 n1 k1 l ∧ RulesAt w a2 n2 k2 m) := ⟨h1, h2⟩
  have HS : Hid (∀ x ∈ l, x.r.length ≤ 100) := hs
  have q1 := rules_le h1
  have q2 := rules_le h2
  clear e1 e2 hp h1 h2 hs
  by_cases hne : n1 = n2
  · have hb : ((n1 : Int) != (n2 : Int)) = false := by simp [hne]
    have HNE : Hid (n1 = n2) := hne
    clear hne
    go_enter Tryd.func31, Tryd.ntmps31
    go_wp2
    go_loopg [17] n1 (fun kx s17 wr => ∃ k : Nat, s17 = .int .i64 k ∧ k ≤ n1 ∧ n1 - k ≤ kx ∧ Hid (Below w.heap.size w wr ∧ ∀ (i : Nat) (x y : Ru), i < k → l[i]? = some x → m[i]? = some y → x = y))
    case atStart => exact ⟨0, rfl, Nat.zero_le _, by omega, (⟨Below.refl _ _, fun i x y h => absurd h (Nat.not_lt_zero _)⟩ : Below w.heap.size w _ ∧ ∀ (i : Nat) (x y : Ru), i < 0 → l[i]? = some x → m[i]? = some y → x = y)⟩
    case round =>
      obtain ⟨k, rfl, hk, hg, J⟩ := hrel
      by_cases hlt : k < n1
      · obtain ⟨x, hx⟩ : ∃ x, l[k]? = some x := ⟨l[k]'(by rw [← HE.out.1]; exact hlt), List.getElem?_eq_getElem _⟩
        obtain ⟨y, hy⟩ : ∃ y, m[k]? = some y := ⟨m[k]'(by rw [← HE.out.2, ← HNE.out]; exact hlt), List.getElem?_eq_getElem _⟩
        obtain ⟨b1, o1, xa, xc, rfl, c1, d1, f1, hr1⟩ := (HR.out.1.below J.out.1).at hx
        obtain ⟨b2, o2, ya, yc, rfl, c2, d2, f2, hr2⟩ := (HR.out.2.below J.out.1).at hy
        have HX : Hid (l[k]? = some x ∧ m[k]? = some y) := ⟨hx, hy⟩
        obtain ⟨q, hq⟩ := bool_of (x = y)
        have HC : Hid (∀ W : World, Below wr.heap.size wr W → Calls Tryd.prog 32 #[.agg #[.string x.l, .slice xa x.r.length xc, .string x.p], .agg #[.string y.l, .slice ya y.r.length yc, .string y.p]] W fun e w' => e = .returned (.bool q) ∧ Below W.heap.size W w') := fun W hW => sameRule_calls x y xa ya xc yc W (hr1.below hW) (hr2.below hW) (HS.out x (List.mem_of_getElem? HX.out.1)) q hq
        have HQ : Hid (q = true ↔ x = y) := hq
        clear hx hy hr1 hr2 hq
        have hlt2 : k < n2 := by rw [← HNE.out]; exact hlt
        have c2' := cell_alloc c2
        have d2' := cell_alloc d2
        have f2' := cell_alloc f2
        cases q
        · have HF : Hid (r = false) := b_false HP.out (fun h => by
            have h5 := HX.out
            rw [h] at h5
            rw [h5.1] at h5
            have := HQ.out.2 (Option.some.inj h5.2)
            cases this)
          go_wp2_with fail
          refine (HC.out _ (below_step (below_alloc _ _) (below_alloc _ _))).mono ?_
          rintro e w1 ⟨rfl, hB⟩
          have HB1 : Hid (Below w.heap.size w w1) := below_step (below_step J.out.1 (below_step (below_alloc _ _) (below_alloc _ _))) hB
          clear hB HC J
          go_wp2_with fail
          go_ret
          exact ⟨by rw [HF.out]; rfl, HB1.out⟩
        · have HF : Hid (∀ (i : Nat) (x y : Ru), i < k + 1 → l[i]? = some x → m[i]? = some y → x = y) := fun i u v hi hu hv => by
            rcases Nat.lt_or_ge i k with h | h
            · exact J.out.2 i u v h hu hv
            · have : i = k := by omega
              subst this
              rw [HX.out.1] at hu
              rw [HX.out.2] at hv
              cases hu; cases hv
              exact HQ.out.1 rfl
          go_wp2_with fail
          refine (HC.out _ (below_step (below_alloc _ _) (below_alloc _ _))).mono ?_
          rintro e w1 ⟨rfl, hB⟩
          have HB1 : Hid (Below w.heap.size w w1) := below_step (below_step J.out.1 (below_step (below_alloc _ _) (below_alloc _ _))) hB
          clear hB HC J
          go_wp2_with fail
          go_roundg (n1 - (k + 1))
          case measure => omega
          case rel => exact ⟨k + 1, by simp, by omega, Nat.le_refl _, (⟨HB1.out, HF.out⟩ : Below w.heap.size w _ ∧ ∀ (i : Nat) (x y : Ru), i < k + 1 → l[i]? = some x → m[i]? = some y → x = y)⟩
      · have HF : Hid (r = true) := b_true HP.out (list_eq_of (by rw [← HE.out.1, ← HE.out.2]; exact HNE.out) (fun i x y hx hy => J.out.2 i x y (by have := (List.getElem?_eq_some_iff.1 hx).1; rw [← HE.out.1] at this; omega) hx hy))
        go_wp2
        go_ret
        exact ⟨by rw [HF.out]; rfl, J.out.1⟩
  · have hb : ((n1 : Int) != (n2 : Int)) = true := by simp; omega
    have HF : Hid (r = false) := b_false HP.out (fun h => hne (by rw [HE.out.1, HE.out.2, h]))
    clear hne
    go_enter Tryd.func31, Tryd.ntmps31
    go_wp2
    go_ret
    exact ⟨by rw [HF.out]; rfl, Below.refl _ _⟩

/-- Eq of two grammars in memory. -/
def EqCalls (F : Nat) : Prop := ∀ (G K : Gm) (h k : Hd) (w : World) (r : Bool), IsG w h G → IsG w k K → (r = true ↔ G = K) → Calls Tryd.prog F #[gv h G, gv k K] w fun e w' => e = .returned (.bool r) ∧ Below w.heap.size w w'

set_option maxHeartbeats 2000000 in
set_option maxRecDepth 20000 in
theorem eq_calls : EqCalls 14 := by
  intro G K h k w r hG hK hp
  obtain ⟨ts, st, ex, rs⟩ := G
  obtain ⟨ta, tc, ra, rc⟩ := h
  obtain ⟨us, su, ey, ss⟩ := K
  obtain ⟨ua, uc, sa, sc⟩ := k
  have hm1 : ts.length ≤ tc ∧ tc ≤ 9223372036854775807 := by have h1 := hG.tok.le; have h2 := hG.tok.max; simp only at h1 h2; unfold maxLen at h2; omega
  have hm2 : us.length ≤ uc ∧ uc ≤ 9223372036854775807 := by have h1 := hK.tok.le; have h2 := hK.tok.max; simp only at h1 h2; unfold maxLen at h2; omega
  have hm3 := rules_le hG.rul
  have hm4 := rules_le hK.rul
  simp only at hm3 hm4
  have hs1 : ts.length ≤ 100 := hG.small.nt
  have hs2 : rs.length ≤ 200 := hG.small.nr
  unfold gv
  simp only
  obtain ⟨q1, hq1⟩ := bool_of (ts = us)
  obtain ⟨q2, hq2⟩ := bool_of (rs = ss)
  have H1 : Hid (∀ W : World, Below w.heap.size w W → Calls Tryd.prog 30 #[.slice ta ts.length tc, .slice ua us.length uc] W fun e w' => e = .returned (.bool q1) ∧ Below W.heap.size W w') := fun W hW => eqTok_calls ts us ta _ tc ua _ uc W (hG.tok.below hW) (hK.tok.below hW) rfl rfl (by simp only; omega) q1 hq1
  have H2 : Hid (∀ W : World, Below w.heap.size w W → Calls Tryd.prog 31 #[.slice ra rs.length rc, .slice sa ss.length sc, .func (.func 32) #[] #[]] W fun e w' => e = .returned (.bool q2) ∧ Below W.heap.size W w') := fun W hW => eqRules_calls rs ss ra _ rc sa _ sc W (hG.rul.below hW) (hK.rul.below hW) rfl rfl (by simp only; omega) (fun x hx => (hG.small.rl x hx).2.2.1) q2 hq2
  have HP : Hid (r = ((st.toList == su.toList) && (ex == ey) && q1 && q2)) := by
    show _ = _
    rw [Bool.eq_iff_iff, hp, Bool.and_eq_true, Bool.and_eq_true, Bool.and_eq_true, toList_beq, hq1, hq2, beq_iff_eq]
    constructor
    · intro h; cases h; exact ⟨⟨⟨rfl, rfl⟩, rfl⟩, rfl⟩
    · rintro ⟨⟨⟨rfl, rfl⟩, rfl⟩, rfl⟩; rfl
  have HB : Hid (∀ o o' : Obj, Below w.heap.size w ((w.alloc o).alloc o')) := fun o o' => below_step (below_alloc _ _) (below_alloc _ _)
  clear hG hK hp hq1 hq2
  generalize ts.length = tn at *
  generalize us.length = un at *
  generalize rs.length = rn at *
  generalize ss.length = sn at *
  cases e1 : (st.toList == su.toList)
  · have HF : Hid (r = false) := by have := HP.out; rwa [e1] at this
    clear HP
    go_enter Tryd.func14, Tryd.ntmps14
    go_wp2_with fail
    go_ret
    exact ⟨by rw [HF.out]; rfl, HB.out _ _⟩
  · cases e2 : (ex == ey)
    · have HF : Hid (r = false) := by have := HP.out; rwa [e1, e2] at this
      clear HP
      go_enter Tryd.func14, Tryd.ntmps14
      go_wp2_with fail
      go_ret
      exact ⟨by rw [HF.out]; rfl, HB.out _ _⟩
    · have HF : Hid (r = (q1 && q2)) := by have := HP.out; rwa [e1, e2] at this
      clear HP
      go_enter Tryd.func14, Tryd.ntmps14
      go_upto_region 1 with fail
      have c0 : ((w.alloc (.cells #[.slice ta tn tc, .string st, .int .i64 ex, .slice ra rn rc] 25)).alloc (.cells #[.slice ua un uc, .string su, .int .i64 ey, .slice sa sn sc] 25)).cell? ⟨w.heap.size, 3, none⟩ = some (.slice ra rn rc) := cell_alloc (by rw [World.cell?_alloc_mark]; rfl) _
      have c1 : ((w.alloc (.cells #[.slice ta tn tc, .string st, .int .i64 ex, .slice ra rn rc] 25)).alloc (.cells #[.slice ua un uc, .string su, .int .i64 ey, .slice sa sn sc] 25)).cell? ⟨w.heap.size + 1, 3, none⟩ = some (.slice sa sn sc) := by
        have := World.cell?_alloc_mark (w.alloc (.cells #[.slice ta tn tc, .string st, .int .i64 ex, .slice ra rn rc] 25)) #[.slice ua un uc, .string su, .int .i64 ey, .slice sa sn sc] 25 (0, 0) 3
        rw [size_alloc1] at this
        rw [this]; rfl
      have HBx : Hid (Below w.heap.size w ((w.alloc (.cells #[.slice ta tn tc, .string st, .int .i64 ex, .slice ra rn rc] 25)).alloc (.cells #[.slice ua un uc, .string su, .int .i64 ey, .slice sa sn sc] 25))) := HB.out _ _
      go_wp2_with fail
      refine (H1.out _ HBx.out).mono ?_
      rintro e w1 ⟨rfl, hB⟩
      have c0 := cell_below hB c0
      have c1 := cell_below hB c1
      have HB1 : Hid (Below w.heap.size w w1) := below_step HBx.out hB
      clear hB HBx HB
      cases q1
      · have HF2 : Hid (r = false) := HF.out
        clear HF
        go_wp2_with fail
        go_ret
        exact ⟨by rw [HF2.out]; rfl, HB1.out⟩
      · have HF2 : Hid (r = q2) := HF.out
        clear HF
        go_wp2_with fail
        refine (H2.out _ HB1.out).mono ?_
        rintro e w2 ⟨rfl, hB⟩
        have HB2 : Hid (Below w.heap.size w w2) := below_step HB1.out hB
        clear hB
        go_wp2_with fail
        go_ret
        exact ⟨by rw [HF2.out]; rfl, HB2.out⟩

end Go.Proofs.YtdgadamkiililaaDoor
