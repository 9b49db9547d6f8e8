/-
  The walk of the reference's token; plain facts on levels.
-/
import Derived.Test.YtdgadamkiililaaDoorMayG
namespace Go.Proofs.YtdgadamkiililaaDoor
open Go.RowKit

set_option maxHeartbeats 2000000 in
theorem rtoken_calls (G : Gm) (h : Hd) (w : World) (hG : IsG w h G) (s : ByteArray) (k : Nat) (t : Tk) (ht : G.ts[k]? = some t) (hs : t.n = s) :
    Calls Tryd.prog 23 #[gv h G, .string s] w fun e w' => ∃ m : Nat, e = .returned (.int .i64 m) ∧ (m = k ↔ ¬ hasN (G.ts.take k) s) ∧ Below w.heap.size w w' := by
  obtain ⟨ts, st, ex, rs⟩ := G
  obtain ⟨ta, tc, ra, rc⟩ := h
  simp only at ht
  have HT : Hid (ts[k]? = some t ∧ t.n = s) := ⟨ht, hs⟩
  have hkl : k < ts.length := (List.getElem?_eq_some_iff.1 ht).1
  have hm1 : ts.length ≤ tc ∧ tc ≤ 9223372036854775807 := by have h1 := hG.tok.le; have h2 := hG.tok.max; simp only at h1 h2; unfold maxLen at h2; omega
  have hs1 : ts.length ≤ 100 := hG.small.nt
  have HR : Hid (Row w 3 ta ts.length tc (tokC ts)) := hG.tok
  unfold gv
  simp only
  clear hG ht hs
  obtain ⟨n, HN⟩ : ∃ n, Hid (ts.length = n) := ⟨_, rfl⟩
  rw [HN.out] at HR hm1 hs1 hkl ⊢
  generalize rs.length = rn
  go_enter Tryd.func23, Tryd.ntmps23
  go_upto_region 1 with fail
  have c0 : (w.alloc (.cells #[.slice ta n tc, .string st, .int .i64 ex, .slice ra rn rc] 25)).cell? ⟨w.heap.size, 0, none⟩ = some (.slice ta n tc) := by rw [World.cell?_alloc_mark]; rfl
  have HB : Hid (Below w.heap.size w (w.alloc (.cells #[.slice ta n tc, .string st, .int .i64 ex, .slice ra rn rc] 25)) ∧ Row (w.alloc (.cells #[.slice ta n tc, .string st, .int .i64 ex, .slice ra rn rc] 25)) 3 ta n tc (tokC ts)) := ⟨below_alloc _ _, HR.out.below (below_alloc _ _)⟩
  generalize w.alloc (.cells #[.slice ta n tc, .string st, .int .i64 ex, .slice ra rn rc] 25) = wq at c0 HB ⊢
  generalize w.heap.size = gb at c0 ⊢
  clear HR
  go_wp2
  go_loop [5] (fun v => ∃ i : Nat, i ≤ k ∧ v = .int .i64 i ∧ Hid (∀ j u, j < i → ts[j]? = some u → u.n ≠ s)) (fun v => n - (intOf v).toNat)
  case atStart => exact ⟨0, Nat.zero_le _, rfl, (fun j u h => absurd h (Nat.not_lt_zero _) : ∀ j u, j < 0 → ts[j]? = some u → u.n ≠ s)⟩
  case round =>
    obtain ⟨i, hi, rfl, J⟩ := hrel
    have hlt : i < n := by omega
    obtain ⟨u, hu⟩ : ∃ u, ts[i]? = some u := ⟨ts[i]'(by rw [HN.out]; exact hlt), List.getElem?_eq_getElem _⟩
    obtain ⟨b, o, rfl, p0, -, -⟩ := tok_at HB.out.2 hu
    have HU : Hid (ts[i]? = some u) := hu
    clear hu
    by_cases he : u.n = s
    · have hb := toList_beq_eq he
      have HF : Hid (i = k ↔ ¬ hasN (ts.take k) s) := by
        constructor
        · rintro rfl ⟨v, hv, hv2⟩
          obtain ⟨j, hj⟩ := List.getElem?_of_mem hv
          rw [List.getElem?_take] at hj
          split at hj
          · exact J.out j v (by assumption) hj hv2
          · cases hj
        · intro hno
          rcases Nat.lt_or_ge i k with h | h
          · exact absurd ⟨u, List.mem_of_getElem? (i := i) (by rw [List.getElem?_take, if_pos h]; exact HU.out), he⟩ hno
          · omega
      generalize u.n = un at p0 hb
      clear he
      go_wp2
      go_ret
      exact ⟨i, rfl, HF.out, HB.out.1⟩
    · have hb := toList_beq_ne he
      have hik : i < k := by
        rcases Nat.lt_or_ge i k with h | h
        · exact h
        · have : i = k := by omega
          subst this
          have := HU.out
          rw [HT.out.1] at this
          cases this
          exact absurd HT.out.2 he
      have HF : Hid (∀ j u, j < i + 1 → ts[j]? = some u → u.n ≠ s) := fun j v hj hv => by
        rcases Nat.lt_or_ge j i with h | h
        · exact J.out j v h hv
        · have : j = i := by omega
          subst this
          rw [HU.out] at hv
          cases hv
          exact he
      generalize u.n = un at p0 hb
      clear he
      go_wp2
      go_round
      case rel => exact ⟨i + 1, by omega, by simp, HF⟩
      case measure => simp [intOf]; omega

/-- The greatest level that is there. -/
def TopL (l : List Int) (m : Nat) : Prop := m < 9 ∧ (∀ j, m < j → j < 9 → (l[j]?).getD 0 = 0) ∧ (m = 0 ∨ (l[m]?).getD 0 ≠ 0)

theorem topL_zero : TopL zero9 0 := by
  refine ⟨by omega, fun j h1 h2 => ?_, .inl rfl⟩
  match j, h2 with
  | 0, _ => rfl
  | 1, _ => rfl
  | 2, _ => rfl
  | 3, _ => rfl
  | 4, _ => rfl
  | 5, _ => rfl
  | 6, _ => rfl
  | 7, _ => rfl
  | 8, _ => rfl

theorem getD_set (l : List Int) (m j : Nat) (a : Int) (h : m < l.length) : ((l.set m a)[j]?).getD 0 = if j = m then a else (l[j]?).getD 0 := by
  rw [List.getElem?_set]
  by_cases hj : m = j
  · subst hj; simp [h]
  · rw [if_neg hj, if_neg (by omega)]

theorem topL_set {l : List Int} {m q : Nat} {a : Int} (h : TopL l m) (hl : l.length = 9) (hq : q < 9) (ha : (q = 0 ∧ a = 0) ∨ (1 ≤ q ∧ a ≠ 0)) : TopL (l.set q a) (max m q) := by
  obtain ⟨h1, h2, h3⟩ := h
  refine ⟨by omega, fun j hj1 hj2 => ?_, ?_⟩
  · rw [getD_set l q j a (by omega), if_neg (by omega)]
    exact h2 j (by omega) hj2
  · by_cases hmq : m ≤ q
    · rw [Nat.max_eq_right hmq]
      rcases ha with ⟨h0, -⟩ | ⟨hq1, hane⟩
      · exact .inl h0
      · right; rw [getD_set l q q a (by omega), if_pos rfl]; exact hane
    · rw [Nat.max_eq_left (by omega)]
      rcases h3 with h3 | h3
      · exact .inl h3
      · right; rw [getD_set l q m a (by omega), if_neg (by omega)]; exact h3

theorem noGap_iff {l : List Int} {m : Nat} (h : TopL l m) : NoGap l ↔ ∀ i, 1 ≤ i → i ≤ m → (l[i]?).getD 0 ≠ 0 := by
  obtain ⟨h1, h2, h3⟩ := h
  constructor
  · intro hg i hi1 hi2
    rcases h3 with h3 | h3
    · omega
    · have : ∀ d i, i + d = m → 1 ≤ i → (l[i]?).getD 0 ≠ 0 := by
        intro d
        induction d with
        | zero => intro i hi _; rw [show i = m by omega]; exact h3
        | succ d ih =>
          intro i hi h0
          have := hg (i + 1) (by omega) (by omega) (ih (i + 1) (by omega) (by omega))
          rwa [Nat.add_sub_cancel] at this
      exact this (m - i) i (by omega) hi1
  · intro ha k hk1 hk2 hk3
    rcases Nat.lt_or_ge m k with h | h
    · exact absurd (h2 k h hk2) hk3
    · exact ha (k - 1) (by omega) (by omega)

end Go.Proofs.YtdgadamkiililaaDoor
