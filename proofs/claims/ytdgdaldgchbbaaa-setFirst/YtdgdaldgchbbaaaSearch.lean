/-
  slices.BinarySearchFunc over numbers: where one stands, and whether one like it is there.
-/
import Derived.Test.YtdgdaldgchbbaaaLeaf
import Derived.Shelf.Abstract
namespace Go.Proofs.Ytdgdaldgchbbaaa
open Go.RowKit Go.Shelf

/-- A function of the program that tells an order and leaves the world as it is. -/
structure CmpFn {α : Type} (enc : α → Value) (g : Nat) (cf : α → α → Int) : Prop where
  enters : ∀ args w, (callFunc g args).run Try.prog w = .ok (.enter g args) w
  gives : ∀ a b W, Calls Try.prog g #[enc a, enc b] W fun e w' => e = .returned (.int .i64 (cf a b)) ∧ w' = W
  ord : Ord cf

theorem cmp9 : CmpFn (Value.int .i64) 9 cmpI := ⟨enters_of Try.func9 (by kernel_rfl) rfl, compare_spec, cmpI_ord⟩
theorem cmp10 : CmpFn (Value.int .i64) 10 bakI := ⟨enters_of Try.func10 (by kernel_rfl) rfl, back_spec, bakI_ord⟩

theorem isIn_at {α : Type} {cf : α → α → Int} {x y : α} {xs : List α} {i : Nat} (hp : pos cf x xs = i) (hy : xs[i]? = some y) : isIn cf x xs = decide (cf y x = 0) := by
  unfold isIn
  rw [hp, hy]
theorem isIn_end {α : Type} {cf : α → α → Int} {x : α} {xs : List α} {i : Nat} (hp : pos cf x xs = i) (hi : xs.length ≤ i) : isIn cf x xs = false := by
  unfold isIn
  rw [hp, List.getElem?_eq_none hi]
theorem get_some {α : Type} {xs : List α} {d : α} {j : Nat} (hj : j < xs.length) : xs[j]? = some (xs[j]?.getD d) := by
  rw [List.getElem?_eq_getElem hj]; rfl

set_option maxHeartbeats 4000000 in
theorem search_spec {g : Nat} {cf : Int → Int → Int} (hf : CmpFn (Value.int .i64) g cf) {w : World} {ao : Option Addr} {n cap : Nat} {xs : List Int} (h : Seg (Value.int .i64) 0 w ao n cap xs) (hs : Sorted cf xs) (hn : n ≤ 1048576) (x : Int) :
    Calls Try.prog 44 #[.slice ao n cap, .int .i64 x, fnv g] w fun e w' => e = .returned (.tuple #[.int .i64 (pos cf x xs), .bool (isIn cf x xs)]) ∧ w' = w := by
  have eg := hf.enters
  have HC : Hid (∀ a b W, Calls Try.prog g #[.int .i64 a, .int .i64 b] W fun e w' => e = .returned (.int .i64 (cf a b)) ∧ w' = W) := hf.gives
  have HM : Hid (∀ i j, i ≤ j → j < n → cf (xs[j]?.getD 0) x < 0 → cf (xs[i]?.getD 0) x < 0) := fun i j hij hj hx =>
    hs.mono hf.ord x hij (get_some (by rw [h.size]; omega)) (get_some (by rw [h.size]; exact hj)) hx
  have HL : Hid (xs.length = n) := h.size
  have HS : Hid (Seg (Value.int .i64) 0 w ao n cap xs) := h
  generalize hpp : pos cf x xs = pp
  have HP : Hid (pos cf x xs = pp) := hpp
  generalize hqq : isIn cf x xs = qq
  have HQ : Hid (isIn cf x xs = qq) := hqq
  clear hpp hqq h hs hf
  unfold fnv
  go_enter Try.func44, Try.ntmps44
  go_wp2
  go_loopg [9, 10] n (fun kx s9 s10 wr => ∃ lo hi : Nat, s9 = .int .i64 lo ∧ s10 = .int .i64 hi ∧ lo ≤ hi ∧ hi ≤ n ∧ hi - lo ≤ kx ∧ wr = w ∧
    Hid ((∀ t, t < lo → cf (xs[t]?.getD 0) x < 0) ∧ (∀ t, hi ≤ t → t < n → 0 ≤ cf (xs[t]?.getD 0) x)))
  case atStart => exact ⟨0, n, rfl, rfl, Nat.zero_le _, Nat.le_refl _, by omega, rfl, (⟨fun t ht => absurd ht (Nat.not_lt_zero _), fun t h1 h2 => by omega⟩ : (∀ t, t < 0 → cf (xs[t]?.getD 0) x < 0) ∧ (∀ t, n ≤ t → t < n → 0 ≤ cf (xs[t]?.getD 0) x))⟩
  case round =>
    obtain ⟨lo, hi, rfl, rfl, hlh, hin, hg, rfl, I⟩ := hrel
    by_cases hlt : lo < hi
    · obtain ⟨b, off, rfl, hb, hcell⟩ := HS.out.at (by omega)
      have cm := hcell ((lo + hi) / 2) (by omega)
      generalize hy : xs[(lo + hi) / 2]?.getD 0 = y at cm
      have Y : Hid (xs[(lo + hi) / 2]?.getD 0 = y) := hy
      clear hy hcell
      have hc := HC.out y x wr
      by_cases hyx : cf y x < 0
      · go_wp2_with (go_at_fn g; refine hc.mono ?_; rintro e w' ⟨rfl, rfl⟩)
        go_roundg (hi - ((lo + hi) / 2 + 1))
        case measure => omega
        case rel =>
          have I2 : Hid ((∀ t, t < (lo + hi) / 2 + 1 → cf (xs[t]?.getD 0) x < 0) ∧ (∀ t, hi ≤ t → t < n → 0 ≤ cf (xs[t]?.getD 0) x)) := ⟨fun t ht => HM.out t ((lo + hi) / 2) (by omega) (by omega) (by rw [Y.out]; exact hyx), I.out.2⟩
          exact ⟨(lo + hi) / 2 + 1, hi, by rw [show ((lo : Int) + (hi : Int)) / 2 + 1 = (((lo + hi) / 2 + 1 : Nat) : Int) by omega], rfl, by omega, hin, Nat.le_refl _, rfl, I2⟩
      · go_wp2_with (go_at_fn g; refine hc.mono ?_; rintro e w' ⟨rfl, rfl⟩)
        go_roundg ((lo + hi) / 2 - lo)
        case measure => omega
        case rel =>
          have I2 : Hid ((∀ t, t < lo → cf (xs[t]?.getD 0) x < 0) ∧ (∀ t, (lo + hi) / 2 ≤ t → t < n → 0 ≤ cf (xs[t]?.getD 0) x)) := ⟨I.out.1, fun t ht htn => Int.not_lt.1 fun hx => by have := HM.out ((lo + hi) / 2) t ht htn hx; rw [Y.out] at this; omega⟩
          exact ⟨lo, (lo + hi) / 2, rfl, by rw [show ((lo : Int) + (hi : Int)) / 2 = (((lo + hi) / 2 : Nat) : Int) by omega], by omega, by omega, Nat.le_refl _, rfl, I2⟩
    · obtain rfl : hi = lo := by omega
      have ep : pp = hi := by
        rw [← HP.out]
        refine pos_unique cf x xs hi (by rw [HL.out]; exact hin) (fun j y hj e => ?_) (fun y e => ?_)
        · have := I.out.1 j hj; rw [e] at this; exact this
        · have hlt : hi < n := by rw [← HL.out]; exact (List.getElem?_eq_some_iff.1 e).1
          have := I.out.2 hi (Nat.le_refl _) hlt; rw [e] at this; exact Int.not_lt.2 this
      subst ep
      by_cases hlast : pp < n
      · obtain ⟨b, off, rfl, hb, hcell⟩ := HS.out.at (by omega)
        have cl := hcell pp hlast
        generalize hy : xs[pp]?.getD 0 = y at cl
        have Y : Hid (xs[pp]?.getD 0 = y) := hy
        clear hy hcell
        have hc := HC.out y x wr
        have hq : qq = decide (cf y x = 0) := by
          rw [← HQ.out, ← Y.out]
          exact isIn_at HP.out (get_some (by rw [HL.out]; exact hlast))
        by_cases hyx : cf y x = 0
        · go_wp2_with (go_at_fn g; refine hc.mono ?_; rintro e w' ⟨rfl, rfl⟩)
          go_ret2
          exact ⟨by rw [hq]; simp [hyx], rfl⟩
        · go_wp2_with (go_at_fn g; refine hc.mono ?_; rintro e w' ⟨rfl, rfl⟩)
          go_ret2
          exact ⟨by rw [hq]; simp [hyx], rfl⟩
      · have hq : qq = false := by
          rw [← HQ.out]
          exact isIn_end HP.out (by rw [HL.out]; omega)
        go_wp2
        go_ret2
        exact ⟨by rw [hq]; simp, rfl⟩

end Go.Proofs.Ytdgdaldgchbbaaa
