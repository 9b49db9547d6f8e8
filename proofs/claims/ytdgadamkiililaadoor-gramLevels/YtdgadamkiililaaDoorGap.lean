/-
  The walks of gap and levelsOf.
-/
import Derived.Test.YtdgadamkiililaaDoorLev
namespace Go.Proofs.YtdgadamkiililaaDoor
open Go.RowKit

/-- Nine kinds as an array's value, as cells. -/
def ar9 (l : List Int) : Array Value := (l.map (Value.int .i64)).toArray

theorem nine {l : List Int} (h : l.length = 9) : ∃ a b c d e f g i j, l = [a, b, c, d, e, f, g, i, j] := by
  match l, h with
  | [a, b, c, d, e, f, g, i, j], _ => exact ⟨a, b, c, d, e, f, g, i, j, rfl⟩

theorem ar9_at {l : List Int} (h : l.length = 9) {k : Nat} (hk : k < 9) : (ar9 l)[k]? = some (.int .i64 ((l[k]?).getD 0)) := by
  unfold ar9
  rw [List.getElem?_toArray, List.getElem?_map, List.getElem?_eq_getElem (by omega)]
  rfl

theorem cell_block {w : World} {b : Nat} {cs : Array Value} {T : TypeId} {fr : Nat × Nat} (hb : w.heap[b]? = some (.cells cs T fr)) (j : Nat) : w.cell? ⟨b, j, none⟩ = cs[j]? := by
  simp [World.cell?, hb]

theorem frozen_block {w : World} {b : Nat} {cs : Array Value} {T : TypeId} (hb : w.heap[b]? = some (.cells cs T (0, 0))) (j : Nat) : w.frozen? ⟨b, j, none⟩ = false := by
  simp [World.frozen?, hb]

set_option maxHeartbeats 2000000 in
set_option maxRecDepth 20000 in
theorem gap_calls (l : List Int) (hl : l.length = 9) (r : Bool) (hp : r = true ↔ ¬ NoGap l) (w : World) :
    Calls Tryd.prog 52 #[.agg (ar9 l)] w fun e w' => e = .returned (.bool r) ∧ Below w.heap.size w w' := by
  have HP : Hid (r = true ↔ ¬ NoGap l) := hp
  clear hp
  have hcell : Hid (∀ k, k < 9 → (w.alloc (.cells (ar9 l) 61)).cell? ⟨w.heap.size, k, none⟩ = some (.int .i64 ((l[k]?).getD 0))) := fun k hk => by
    rw [World.cell?_alloc_mark]; exact ar9_at hl hk
  have HB : Hid (Below w.heap.size w (w.alloc (.cells (ar9 l) 61))) := below_alloc _ _
  obtain ⟨a, b, c, d, e, f, g, i, j, HE⟩ : ∃ a b c d e f g i j, Hid (l = [a, b, c, d, e, f, g, i, j]) := nine hl
  have hA : ar9 l = #[.int .i64 a, .int .i64 b, .int .i64 c, .int .i64 d, .int .i64 e, .int .i64 f, .int .i64 g, .int .i64 i, .int .i64 j] := by rw [HE.out]; rfl
  have hcl := hcell
  rw [hA] at hcl HB ⊢
  clear hA hcell
  go_enter Tryd.func52, Tryd.ntmps52
  go_upto_region 1 with fail
  generalize w.alloc (.cells #[.int .i64 a, .int .i64 b, .int .i64 c, .int .i64 d, .int .i64 e, .int .i64 f, .int .i64 g, .int .i64 i, .int .i64 j] 61) = w1 at hcl HB ⊢
  go_wp2
  go_loop [3] (fun v => ∃ k : Nat, 2 ≤ k ∧ k ≤ 9 ∧ v = .int .i64 k ∧ Hid (∀ m, 2 ≤ m → m < k → (l[m]?).getD 0 ≠ 0 → (l[m - 1]?).getD 0 ≠ 0)) (fun v => 9 - (intOf v).toNat)
  case atStart => exact ⟨2, by omega, by omega, rfl, (fun m h1 h2 => by omega : ∀ m, 2 ≤ m → m < 2 → (l[m]?).getD 0 ≠ 0 → (l[m - 1]?).getD 0 ≠ 0)⟩
  case round =>
    obtain ⟨k, h2, h9, rfl, J⟩ := hrel
    by_cases hlt : k < 9
    · have c0 := hcl.out k hlt
      have c1 := hcl.out (k - 1) (by omega)
      have JN : Hid (¬ ((l[k]?).getD 0 ≠ 0 ∧ (l[k - 1]?).getD 0 = 0) → ∀ m, 2 ≤ m → m < k + 1 → (l[m]?).getD 0 ≠ 0 → (l[m - 1]?).getD 0 ≠ 0) := fun hno m hm1 hm2 hm3 h0 => by
        rcases Nat.lt_or_ge m k with h | h
        · exact J.out m hm1 h hm3 h0
        · have : m = k := by omega
          subst this
          exact hno ⟨hm3, h0⟩
      have JY : Hid ((l[k]?).getD 0 ≠ 0 ∧ (l[k - 1]?).getD 0 = 0 → ¬ NoGap l) := fun ⟨ha, hb⟩ hno => hno k h2 hlt ha hb
      have hkk : ((k - 1 : Nat) : Int) = (k : Int) - 1 := by omega
      generalize (l[k]?).getD 0 = x at c0 JN JY
      generalize (l[k - 1]?).getD 0 = y at c1 JN JY
      obtain ⟨k1, hk1⟩ : ∃ k1 : Nat, k = k1 + 1 := ⟨k - 1, by omega⟩
      subst hk1
      rw [show k1 + 1 - 1 = k1 by omega] at c1
      clear hkk
      by_cases hx : x = 0
      · have hx' : (x != 0) = false := by simpa using hx
        have JN2 : Hid (∀ m, 2 ≤ m → m < k1 + 1 + 1 → (l[m]?).getD 0 ≠ 0 → (l[m - 1]?).getD 0 ≠ 0) := JN.out (fun h => h.1 hx)
        clear JN JY hx
        go_wp2
        go_round
        case rel => exact ⟨k1 + 1 + 1, by omega, by omega, by simp, JN2⟩
        case measure => simp [intOf]; omega
      · have hx' : (x != 0) = true := by simpa using hx
        by_cases hy : y = 0
        · have hy' : (y == 0) = true := by simpa using hy
          have JY2 : Hid (r = true) := b_true HP.out (JY.out ⟨hx, hy⟩)
          clear JN JY hx hy
          go_wp2
          go_ret
          exact ⟨by rw [JY2.out]; rfl, HB.out⟩
        · have hy' : (y == 0) = false := by simpa using hy
          have JN2 : Hid (∀ m, 2 ≤ m → m < k1 + 1 + 1 → (l[m]?).getD 0 ≠ 0 → (l[m - 1]?).getD 0 ≠ 0) := JN.out (fun h => hy h.2)
          clear JN JY hx hy
          go_wp2
          go_round
          case rel => exact ⟨k1 + 1 + 1, by omega, by omega, by simp, JN2⟩
          case measure => simp [intOf]; omega
    · obtain rfl : k = 9 := by omega
      have JY2 : Hid (r = false) := b_false HP.out (fun h => absurd (fun k h1 h2 => J.out k h1 h2) h)
      go_wp2
      go_ret
      exact ⟨by rw [JY2.out]; rfl, HB.out⟩

end Go.Proofs.YtdgadamkiililaaDoor
