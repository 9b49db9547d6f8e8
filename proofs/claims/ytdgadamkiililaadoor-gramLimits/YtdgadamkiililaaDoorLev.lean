/-
  The walks of hasName and of what it calls, of mayLevel and gap.
-/
import Derived.Test.YtdgadamkiililaaDoorMem
namespace Go.Proofs.YtdgadamkiililaaDoor
open Go.RowKit

theorem below_alloc (w : World) (o : Obj) : Below w.heap.size w (w.alloc o) := (Below.refl _ _).alloc (Nat.le_refl _) _
theorem cell_alloc {w : World} {a : Addr} {v : Value} (h : w.cell? a = some v) (o : Obj) : (w.alloc o).cell? a = some v := cell_below (below_alloc w o) h

set_option maxHeartbeats 1000000 in
theorem has1_calls (t : Tk) (nb : Nat) (s : ByteArray) (w : World) (hc : w.cell? ⟨nb, 0, none⟩ = some (.string s)) :
    Calls Tryd.prog 50 #[.agg #[.string t.n, .int .i64 t.l, .int .i64 t.a], .pointer (some ⟨nb, 0, none⟩)] w fun e w' => e = .returned (.bool (t.n.toList == s.toList)) ∧ Below w.heap.size w w' := by
  have hc := cell_alloc hc
  go_enter Tryd.func50, Tryd.ntmps50
  go_wp2
  go_ret
  exact ⟨rfl, (Below.refl _ _).alloc (Nat.le_refl _) _⟩

/-- Is one of that name there? -/
def hasN (ts : List Tk) (s : ByteArray) : Prop := ∃ t ∈ ts, t.n = s

set_option maxHeartbeats 2000000 in
set_option maxRecDepth 20000 in
theorem indexFunc_calls (ts : List Tk) (ao : Option Addr) (n cap nb : Nat) (s : ByteArray) (w : World) (hr : Row w 3 ao n cap (tokC ts)) (hn : n = ts.length) (hnn : n ≤ 1000) (hc : w.cell? ⟨nb, 0, none⟩ = some (.string s)) :
    Calls Tryd.prog 61 #[.slice ao n cap, .func (.func 50) #[] #[.pointer (some ⟨nb, 0, none⟩)]] w fun e w' => ∃ r : Int, e = .returned (.int .i64 r) ∧ (0 ≤ r ↔ hasN ts s) ∧ Below w.heap.size w w' := by
  have HN : Hid (n = ts.length) := hn
  have HR : Hid (Row w 3 ao n cap (tokC ts) ∧ w.cell? ⟨nb, 0, none⟩ = some (.string s)) := ⟨hr, hc⟩
  have hle := hr.le
  have hmx : cap ≤ 9223372036854775807 := by have := hr.max; unfold maxLen at this; omega
  clear hr hc hn
  go_enter Tryd.func61, Tryd.ntmps61
  go_wp2
  go_loopg [8] n (fun kx s8 wr => ∃ k : Nat, s8 = .int .i64 k ∧ k ≤ n ∧ n - k ≤ kx ∧ Hid (Below w.heap.size w wr ∧ ∀ i t, i < k → ts[i]? = some t → t.n ≠ s))
  case atStart => exact ⟨0, rfl, Nat.zero_le _, by omega, (⟨Below.refl _ _, fun i t hi => absurd hi (Nat.not_lt_zero _)⟩ : Below w.heap.size w w ∧ ∀ i t, i < 0 → ts[i]? = some t → t.n ≠ s)⟩
  case round =>
    obtain ⟨k, rfl, hk, hg, J⟩ := hrel
    by_cases hlt : k < n
    · obtain ⟨t, ht⟩ : ∃ t, ts[k]? = some t := ⟨ts[k]'(by rw [← HN.out]; exact hlt), List.getElem?_eq_getElem _⟩
      obtain ⟨b, o, rfl, c0, c1, c2⟩ := tok_at (HR.out.1.below J.out.1) ht
      have HT : Hid (ts[k]? = some t) := ht
      have HC : Hid (Calls Tryd.prog 50 #[.agg #[.string t.n, .int .i64 t.l, .int .i64 t.a], .pointer (some ⟨nb, 0, none⟩)] wr fun e w' => e = .returned (.bool (t.n.toList == s.toList)) ∧ Below wr.heap.size wr w') := has1_calls t nb s wr (cell_below J.out.1 HR.out.2)
      clear ht
      by_cases he : t.n = s
      · have hb := toList_beq_eq he
        rw [hb] at HC
        have HF : Hid (hasN ts s) := ⟨t, List.mem_of_getElem? HT.out, he⟩
        generalize t.n = tn at c0 HC
        clear hb he
        go_wp2_with (go_at_call 50; refine HC.out.mono ?_; rintro e w1 ⟨rfl, hB⟩)
        go_ret
        exact ⟨k, rfl, ⟨fun _ => HF.out, fun _ => by omega⟩, below_step J.out.1 hB⟩
      · have hb := toList_beq_ne he
        rw [hb] at HC
        have HF : Hid (∀ i t, i < k + 1 → ts[i]? = some t → t.n ≠ s) := fun i u hi hu => by
          rcases Nat.lt_or_ge i k with h | h
          · exact J.out.2 i u h hu
          · have : i = k := by omega
            subst this
            rw [HT.out] at hu
            cases hu
            exact he
        generalize t.n = tn at c0 HC
        clear hb he
        go_wp2_with (go_at_call 50; refine HC.out.mono ?_; rintro e w1 ⟨rfl, hB⟩)
        go_roundg (n - (k + 1))
        case measure => omega
        case rel => exact ⟨k + 1, by simp, by omega, Nat.le_refl _, (⟨below_step J.out.1 hB, HF.out⟩ : Below w.heap.size w w1 ∧ ∀ i t, i < k + 1 → ts[i]? = some t → t.n ≠ s)⟩
    · go_wp2
      go_ret
      refine ⟨-1, rfl, ⟨fun h => by omega, fun ⟨t, hm, he⟩ => ?_⟩, J.out.1⟩
      obtain ⟨i, hi⟩ := List.getElem?_of_mem hm
      have hl : i < ts.length := (List.getElem?_eq_some_iff.1 hi).1
      exact absurd he (J.out.2 i t (by rw [← HN.out] at hl; omega) hi)

set_option maxHeartbeats 2000000 in
set_option maxRecDepth 20000 in
theorem contains_calls (ts : List Tk) (ao : Option Addr) (n cap nb : Nat) (s : ByteArray) (w : World) (r : Bool) (hp : r = true ↔ hasN ts s) (hr : Row w 3 ao n cap (tokC ts)) (hn : n = ts.length) (hnn : n ≤ 1000) (hc : w.cell? ⟨nb, 0, none⟩ = some (.string s)) :
    Calls Tryd.prog 49 #[.slice ao n cap, .func (.func 50) #[] #[.pointer (some ⟨nb, 0, none⟩)]] w fun e w' => e = .returned (.bool r) ∧ Below w.heap.size w w' := by
  have H1 : Hid (Calls Tryd.prog 61 #[.slice ao n cap, .func (.func 50) #[] #[.pointer (some ⟨nb, 0, none⟩)]] w fun e w' => ∃ r : Int, e = .returned (.int .i64 r) ∧ (0 ≤ r ↔ hasN ts s) ∧ Below w.heap.size w w') :=
    indexFunc_calls ts ao n cap nb s _ hr hn hnn hc
  have HP : Hid (r = true ↔ hasN ts s) := hp
  clear hr hn hc hp
  go_enter Tryd.func49, Tryd.ntmps49
  go_wp2_with fail
  refine H1.out.mono ?_
  rintro e w1 ⟨x, rfl, hi, hB⟩
  have HI : Hid (r = decide (0 ≤ x) ∧ Below w.heap.size w w1) := ⟨by rw [Bool.eq_iff_iff, HP.out, ← hi]; simp, hB⟩
  clear hi hB
  go_wp2_with fail
  go_ret
  exact ⟨by rw [HI.out.1]; rfl, HI.out.2⟩

set_option maxHeartbeats 2000000 in
theorem hasName_calls (ts : List Tk) (ao : Option Addr) (n cap : Nat) (s : ByteArray) (w : World) (r : Bool) (hp : r = true ↔ hasN ts s) (hr : Row w 3 ao n cap (tokC ts)) (hn : n = ts.length) (hnn : n ≤ 1000) :
    Calls Tryd.prog 37 #[.slice ao n cap, .string s] w fun e w' => e = .returned (.bool r) ∧ Below w.heap.size w w' := by
  have H2 : Hid (Calls Tryd.prog 49 #[.slice ao n cap, .func (.func 50) #[] #[.pointer (some ⟨w.heap.size, 0, none⟩)]] (w.alloc (.cells #[.string s] 9)) fun e w' => e = .returned (.bool r) ∧ Below (w.alloc (.cells #[.string s] 9)).heap.size (w.alloc (.cells #[.string s] 9)) w') :=
    contains_calls ts ao n cap w.heap.size s _ r hp (hr.below (below_alloc _ _)) hn hnn (by rw [World.cell?_alloc_mark]; rfl)
  clear hr hn hp
  go_enter Tryd.func37, Tryd.ntmps37
  go_wp2_with fail
  refine H2.out.mono ?_
  rintro e w1 ⟨rfl, hB⟩
  have HI : Hid (Below w.heap.size w w1) := below_step (below_alloc _ _) hB
  clear hB
  go_wp2_with fail
  go_ret
  exact ⟨rfl, HI.out⟩

/-- A Bool for a proposition. -/
theorem bool_of (p : Prop) : ∃ b : Bool, (b = true ↔ p) := by
  rcases Classical.em p with h | h
  · exact ⟨true, by simp [h]⟩
  · exact ⟨false, by simp [h]⟩
theorem b_true {p : Prop} {b : Bool} (h : b = true ↔ p) (hp : p) : b = true := h.2 hp
theorem b_false {p : Prop} {b : Bool} (h : b = true ↔ p) (hp : ¬ p) : b = false := by
  cases b
  · rfl
  · exact absurd (h.1 rfl) hp

theorem mayLevel_calls (t : Tk) (w : World) :
    Calls Tryd.prog 51 #[.agg #[.string t.n, .int .i64 t.l, .int .i64 t.a]] w fun e w' => e = .returned (.bool ((levB t))) ∧ Below w.heap.size w w' := by
  obtain ⟨n, l, a⟩ := t
  have HB : Hid (∀ o : Obj, Below w.heap.size w (w.alloc o)) := fun o => (Below.refl _ _).alloc (Nat.le_refl _) _
  by_cases h0 : l = 0
  · have H : Hid ((levB ⟨n, l, a⟩) = (a == 0)) := by
      show _ = _
      rw [Bool.eq_iff_iff, levB_iff]
      unfold LevP
      simp [h0]
    have h0' : (l == 0) = true := by simpa using h0
    go_enter Tryd.func51, Tryd.ntmps51
    go_wp2
    go_ret
    exact ⟨by rw [H.out]; rfl, HB.out _⟩
  · have h0' : (l == 0) = false := by simpa using h0
    by_cases h1 : 1 ≤ l
    · by_cases h2 : l ≤ 8
      · by_cases h3 : 1 ≤ a
        · have H : Hid ((levB ⟨n, l, a⟩) = decide (a ≤ 3)) := by
            show _ = _
            rw [Bool.eq_iff_iff, levB_iff]
            unfold LevP
            simp [h0, h1, h2, h3]
          go_enter Tryd.func51, Tryd.ntmps51
          go_wp2
          go_ret
          exact ⟨by rw [H.out]; rfl, HB.out _⟩
        · have H : Hid ((levB ⟨n, l, a⟩) = false) := by
            show _ = _
            rw [Bool.eq_false_iff, Ne, levB_iff]
            unfold LevP
            simp [h0, h1, h2, h3]
          go_enter Tryd.func51, Tryd.ntmps51
          go_wp2
          go_ret
          exact ⟨by rw [H.out]; rfl, HB.out _⟩
      · have H : Hid ((levB ⟨n, l, a⟩) = false) := by
          show _ = _
          rw [Bool.eq_false_iff, Ne, levB_iff]
          unfold LevP
          simp [h0, h1, h2]
        go_enter Tryd.func51, Tryd.ntmps51
        go_wp2
        go_ret
        exact ⟨by rw [H.out]; rfl, HB.out _⟩
    · have H : Hid ((levB ⟨n, l, a⟩) = false) := by
        show _ = _
        rw [Bool.eq_false_iff, Ne, levB_iff]
        unfold LevP
        simp [h0, h1]
      go_enter Tryd.func51, Tryd.ntmps51
      go_wp2
      go_ret
      exact ⟨by rw [H.out]; rfl, HB.out _⟩

end Go.Proofs.YtdgadamkiililaaDoor
