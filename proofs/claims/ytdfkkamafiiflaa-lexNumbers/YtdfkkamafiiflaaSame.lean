/-
  The walk of same: whatever the text (of at most 2 to the 20 bytes), both scans tell the same.
-/
import Derived.Test.YtdfkkamafiiflaaRscan
namespace Go.Proofs.Ytdfkkamafiiflaa
open Go.RowKit

theorem own_slice {w : World} {base k n : Nat} {E : TypeId} {v : Value} {cs : List Value} (h : w.ownsRow base E k v n cs) :
    ∃ ao cap, v = .slice ao n cap ∧ n ≤ cap ∧ cap ≤ maxLen ∧ ((ao = none ∧ n = 0 ∧ cap = 0) ∨ ∃ g, ao = some ⟨g, 0, none⟩) := by
  rcases h.2 with ⟨rfl, rfl⟩ | ⟨g, cap, cur, rfl, hg, hh, hn, hm, hs, ht⟩
  · exact ⟨none, 0, rfl, Nat.le_refl _, Nat.zero_le _, .inl ⟨rfl, rfl, rfl⟩⟩
  · exact ⟨some ⟨g, 0, none⟩, cap, rfl, hn, hm, .inr ⟨g, rfl⟩⟩

theorem cellsW_at (s : ByteArray) : ∀ (ws : List (Nat × Nat × Nat)) (i : Nat) (x : Nat × Nat × Nat), ws[i]? = some x →
    (cellsW s ws)[i * 3]? = some (.int .i64 x.1) ∧ (cellsW s ws)[i * 3 + 1]? = some (.string (s.extract x.2.1 x.2.2)) ∧ (cellsW s ws)[i * 3 + 2]? = some (.int .i64 x.2.1)
  | [], i, x, h => by cases h
  | y :: r, 0, x, h => by
    cases h
    exact ⟨rfl, rfl, rfl⟩
  | y :: r, i + 1, x, h => by
    have := cellsW_at s r i x h
    have e : cellsW s (y :: r) = wcells s y ++ cellsW s r := rfl
    have hl : (wcells s y).length = 3 := rfl
    rw [e, List.getElem?_append_right (by omega), List.getElem?_append_right (by omega), List.getElem?_append_right (by omega), hl]
    rw [show (i + 1) * 3 - 3 = i * 3 by omega, show (i + 1) * 3 + 1 - 3 = i * 3 + 1 by omega, show (i + 1) * 3 + 2 - 3 = i * 3 + 2 by omega]
    exact this

/-- A word of a slice of words. -/
theorem IsW.at {w : World} {base : Nat} {s : ByteArray} {g n cap : Nat} {ws : List (Nat × Nat × Nat)} (h : IsW w base s (.slice (some ⟨g, 0, none⟩) n cap) ws) {i : Nat} {x : Nat × Nat × Nat} (hx : ws[i]? = some x) :
    w.cell? ⟨g, i * 3, none⟩ = some (.int .i64 x.1) ∧ w.cell? ⟨g, i * 3 + 1, none⟩ = some (.string (s.extract x.2.1 x.2.2)) ∧ w.cell? ⟨g, i * 3 + 2, none⟩ = some (.int .i64 x.2.1) := by
  obtain ⟨c0, c1, c2⟩ := cellsW_at s ws i x hx
  have hc := World.ownsRow.cells h (g := g) rfl
  refine ⟨?_, ?_, ?_⟩
  · have := hc _ _ c0; rwa [Addr.add_lit, Nat.zero_add] at this
  · have := hc _ _ c1; rwa [Addr.add_lit, Nat.zero_add] at this
  · have := hc _ _ c2; rwa [Addr.add_lit, Nat.zero_add] at this

theorem IsW.drewN {w : World} {base : Nat} {s : ByteArray} {v : Value} {ws : List (Nat × Nat × Nat)} (h : IsW w base s v ws) (n : Nat) : IsW (w.drewN n) base s v ws := ownsRow_of_block h (fun _ _ => rfl)

/-- Two scans' words in one world. -/
def TwoW (s : ByteArray) (ws : List (Nat × Nat × Nat)) (w0 wr : World) (v1 v2 : Value) : Prop := IsW wr w0.heap.size s v1 ws ∧ IsW wr w0.heap.size s v2 ws ∧ Below w0.heap.size w0 wr

theorem IsW.base {w : World} {base base' : Nat} {s : ByteArray} {v : Value} {ws : List (Nat × Nat × Nat)} (h : IsW w base s v ws) (hb : base' ≤ base) : IsW w base' s v ws := by
  refine ⟨h.1, ?_⟩
  rcases h.2 with hn | ⟨g, cap, cur, rfl, hg, r⟩
  · exact .inl hn
  · exact .inr ⟨g, cap, cur, rfl, by omega, r⟩

theorem twoW_drewN {s : ByteArray} {ws : List (Nat × Nat × Nat)} {w0 wr : World} {v1 v2 : Value} (h : Hid (TwoW s ws w0 wr v1 v2)) (n : Nat) : Hid (TwoW s ws w0 (wr.drewN n) v1 v2) := ⟨h.out.1.drewN n, h.out.2.1.drewN n, below_drewN h.out.2.2 n⟩

set_option maxHeartbeats 4000000 in
theorem same_calls (s : ByteArray) (w : World) (hs : s.size ≤ 1048576) : Calls Try.prog 11 #[.string s] w fun e w' => e = .returned (.bool true) ∧ Below w.heap.size w w' := by
  have H1 : Hid (Calls Try.prog 9 #[.string s] w fun e w' => Scanned s w w' e) := scan_calls s w hs
  have H2 : Hid (∀ W : World, Calls Try.prog 19 #[.string s] W fun e w' => Scanned s W w' e) := fun W => rscan_calls s W hs
  obtain ⟨R, HR⟩ : ∃ R, Hid (scan (by8 s) = R) := ⟨_, rfl⟩
  unfold Scanned at H1 H2
  rw [HR.out] at H1 H2
  obtain ⟨ws, bad⟩ := R
  simp only at H1 H2
  go_enter Try.func11, Try.ntmps11
  go_wp2_with fail
  refine H1.out.mono ?_
  rintro e w1 ⟨v1, rfl, hI1, hB1⟩
  have J1 : Hid (IsW w1 w.heap.size s v1 ws ∧ Below w.heap.size w w1) := ⟨hI1, hB1⟩
  clear hI1 hB1
  go_wp2_with fail
  refine (H2.out _).mono ?_
  rintro e w2 ⟨v2, rfl, hI2, hB2⟩
  have J2 : Hid (TwoW s ws w w2 v1 v2) := ⟨J1.out.1.below hB2, hI2.base J1.out.2.size, below_step J1.out.2 hB2⟩
  clear J1 hI2 hB2 H1 H2
  obtain ⟨a1, c1, rfl, hn1, hm1, hs1⟩ := own_slice J2.out.1
  obtain ⟨a2, c2, rfl, hn2, hm2, hs2⟩ := own_slice J2.out.2.1
  obtain ⟨n, HN⟩ : ∃ n, Hid (ws.length = n) := ⟨_, rfl⟩
  have HS1 : Hid ((a1 = none ∧ ws.length = 0 ∧ c1 = 0) ∨ ∃ g, a1 = some ⟨g, 0, none⟩) := hs1
  have HS2 : Hid ((a2 = none ∧ ws.length = 0 ∧ c2 = 0) ∨ ∃ g, a2 = some ⟨g, 0, none⟩) := hs2
  have hbb : (bad != bad) = false := by simp
  have hm1 : c1 ≤ 9223372036854775807 := by unfold maxLen at hm1; omega
  have hm2 : c2 ≤ 9223372036854775807 := by unfold maxLen at hm2; omega
  rw [HN.out] at hn1 hn2 J2 HS1 HS2 ⊢
  have hnn : ((n : Int) != (n : Int)) = false := by simp
  clear hs1 hs2
  go_wp2_with fail
  go_loopg [7] n (fun kx s7 wr => ∃ k : Nat, s7 = .int .i64 k ∧ k ≤ n ∧ n - k ≤ kx ∧ Hid (TwoW s ws w wr (.slice a1 n c1) (.slice a2 n c2)))
  case atStart => exact ⟨0, rfl, Nat.zero_le _, by omega, J2⟩
  case round =>
    obtain ⟨k, rfl, hk, hg, HI⟩ := hrel
    clear J2
    by_cases hlt : k < n
    · obtain ⟨g1, rfl⟩ : ∃ g, a1 = some ⟨g, 0, none⟩ := HS1.out.elim (fun h => absurd h.2.1 (by omega)) id
      obtain ⟨g2, rfl⟩ : ∃ g, a2 = some ⟨g, 0, none⟩ := HS2.out.elim (fun h => absurd h.2.1 (by omega)) id
      obtain ⟨x, hx⟩ : ∃ x, ws[k]? = some x := ⟨ws[k]'(by rw [HN.out]; exact hlt), List.getElem?_eq_getElem _⟩
      obtain ⟨p0, p1, p2⟩ := HI.out.1.at hx
      obtain ⟨q0, q1, q2⟩ := HI.out.2.1.at hx
      obtain ⟨x0, xb, xe⟩ := x
      simp only at p0 p1 p2 q0 q1 q2
      generalize s.extract xb xe = tx at p1 q1
      have e0 : ((x0 : Int) != (x0 : Int)) = false := by simp
      have e1 : (!(tx.toList == tx.toList)) = false := by simp
      have e2 : ((xb : Int) != (xb : Int)) = false := by simp
      clear hx HS1 HS2
      go_wp2_with fail
      go_quiet (fail)
      go_wp2
      go_roundg (n - (k + 1))
      case measure => omega
      case rel => exact ⟨k + 1, by simp, by omega, Nat.le_refl _, twoW_drewN HI _⟩
    · go_wp2
      go_ret
      exact ⟨rfl, HI.out.2.2⟩

end Go.Proofs.Ytdfkkamafiiflaa
