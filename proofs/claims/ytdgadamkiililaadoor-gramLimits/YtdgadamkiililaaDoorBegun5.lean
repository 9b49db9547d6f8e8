/-
  The walk of the look that each law of this layer opens with: it holds.
-/
import Derived.Test.YtdgadamkiililaaDoorSums
import Derived.Test.YtdgadamkiililaaDoorRmay
namespace Go.Proofs.YtdgadamkiililaaDoor
open Go.RowKit

theorem begun18_calls (w : World) : Calls Tryd.prog 18 #[] w fun e w' => e = .returned (.bool true) ∧ Below w.heap.size w w' := by
  have H : Hid (Calls Tryd.prog 35 #[] w fun e w' => e = .returned (.bool true) ∧ Below w.heap.size w w') := begun_calls w
  go_enter Tryd.func18, Tryd.ntmps18
  go_wp2_with fail
  refine H.out.mono ?_
  rintro e w1 ⟨rfl, hB⟩
  go_wp2_with fail
  go_ret
  exact ⟨rfl, hB⟩

theorem nm1 : NameP bN ∧ NameP bP ∧ NameP bM ∧ NameP bE := by
  refine ⟨?_, ?_, ?_, ?_⟩ <;> (unfold NameP; kernel_rfl)

theorem sums_lev : levF sumsG.ts = some [0, 1, 1, 0, 0, 0, 0, 0, 0] := by
  unfold levF sumsG zero9
  simp only [List.foldl]
  have h1 : LevP ⟨bN, 0, 0⟩ := .inl ⟨rfl, rfl⟩
  have h2 : LevP ⟨bP, 1, 1⟩ := .inr ⟨by decide, by decide, by decide, by decide⟩
  have h3 : LevP ⟨bM, 2, 1⟩ := .inr ⟨by decide, by decide, by decide, by decide⟩
  simp [levS, h1, h2, h3, at9]

theorem sums_may : MayP sumsG := by
  obtain ⟨hN, hP, hM, hE⟩ := nm1
  refine ⟨by decide, by decide, by decide, by decide, .inl rfl, ⟨?_, _, sums_lev, ?_⟩, ?_⟩
  · intro i t ht
    match i, ht with
    | 0, ht => cases ht; exact ⟨hN, fun j u hj => absurd hj (Nat.not_lt_zero _)⟩
    | 1, ht =>
      cases ht
      refine ⟨hP, fun j u hj hu => ?_⟩
      obtain rfl : j = 0 := by omega
      cases hu
      intro e
      have := congrArg by8 e
      exact absurd this (by decide)
    | 2, ht =>
      cases ht
      refine ⟨hM, fun j u hj hu => ?_⟩
      match j, hj, hu with
      | 0, _, hu => cases hu; intro e; have := congrArg by8 e; exact absurd this (by decide)
      | 1, _, hu => cases hu; intro e; have := congrArg by8 e; exact absurd this (by decide)
    | i + 3, ht => cases ht
  · intro k h1 h2 h3
    match k, h2, h3 with
    | 0, _, _ => omega
    | 1, _, _ => omega
    | 2, _, _ => decide
    | 3, _, h3 => exact absurd rfl h3
    | 4, _, h3 => exact absurd rfl h3
    | 5, _, h3 => exact absurd rfl h3
    | 6, _, h3 => exact absurd rfl h3
    | 7, _, h3 => exact absurd rfl h3
    | 8, _, h3 => exact absurd rfl h3
  · intro r hr
    simp only [sumsG, List.mem_cons, List.not_mem_nil, or_false] at hr
    rcases hr with rfl | rfl | rfl
    · refine ⟨hE, by decide, .inl rfl, fun x hx => ?_⟩
      simp only [List.mem_cons, List.not_mem_nil, or_false] at hx
      rcases hx with rfl | rfl | rfl
      · exact hE
      · exact hP
      · exact hE
    · refine ⟨hE, by decide, .inl rfl, fun x hx => ?_⟩
      simp only [List.mem_cons, List.not_mem_nil, or_false] at hx
      rcases hx with rfl | rfl | rfl
      · exact hE
      · exact hM
      · exact hE
    · refine ⟨hE, by decide, .inl rfl, fun x hx => ?_⟩
      rw [List.mem_singleton] at hx
      subst hx
      exact hN

/-- The text of that grammar. -/
def sumsT : ByteArray := ⟨(tx (linesG sumsG [0, 1, 1, 0, 0, 0, 0, 0, 0])).toArray⟩
theorem sums_text : TextP sumsG sumsT := ⟨fun _ l hl => by rw [sums_lev] at hl; cases hl; rfl, fun h => absurd sums_may h⟩

/-- A grammar whose Start is no name. -/
def badG : Gm := ⟨[], ⟨#[49]⟩, 0, []⟩
theorem bad_not : ¬ MayP badG := fun h => by
  rcases h.st with h1 | h1
  · have := congrArg by8 h1; exact absurd this (by decide)
  · unfold NameP at h1
    have h2 : nameOk (by8 badG.s) = false := by kernel_rfl
    rw [h2] at h1; cases h1
theorem bad_small : Small badG := ⟨by decide, by decide, by decide, fun t h => (by cases h), fun r h => (by cases h)⟩
theorem bad_isG (w : World) : IsG w ⟨none, 0, none, 0⟩ badG := ⟨⟨rfl, Nat.le_refl _, Nat.zero_le _, .inl ⟨rfl, rfl, rfl⟩⟩, ⟨[], rfl, ⟨rfl, Nat.le_refl _, Nat.zero_le _, .inl ⟨rfl, rfl, rfl⟩⟩, fun q h => (by cases h)⟩, bad_small⟩

/-- That grammar with another Prec. -/
def sumsK : Gm := ⟨sumsG.ts, sumsG.s, sumsG.e, sumsG.rs.set 0 ⟨bE, [bE, bP, bE], bM⟩⟩
theorem sumsK_ne : sumsG ≠ sumsK := fun h => by
  have h1 : (sumsG.rs.map fun r => by8 r.p) = sumsK.rs.map fun r => by8 r.p := by rw [h]
  exact absurd h1 (by decide)
theorem sumsK_small : Small sumsK := by
  obtain ⟨h1, h2, h3, h4, h5⟩ := sums_small
  refine ⟨h1, by decide, h3, h4, fun r hr => ?_⟩
  rcases List.mem_or_eq_of_mem_set hr with h | h
  · exact h5 r h
  · subst h
    have := h5 ⟨bE, [bE, bP, bE], e0⟩ (by simp [sumsG])
    exact ⟨this.1, by decide, this.2.2.1, this.2.2.2⟩

set_option maxHeartbeats 4000000 in
set_option maxRecDepth 20000 in
theorem begun5_calls (w : World) (hp : Pow w) : Calls Tryd.prog 8 #[] w fun e w' => e = .returned (.bool true) ∧ Below w.heap.size w w' := by
  have HP : Hid (Pow w) := hp
  have H1 : Hid (∀ W : World, Calls Tryd.prog 16 #[] W fun e w' => ∃ h qs, e = .returned (gv h sumsG) ∧ OwnG w' W.heap.size h sumsG qs ∧ Below W.heap.size W w') := fun W => sums_calls W
  clear hp
  go_enter Tryd.func8, Tryd.ntmps8
  go_wp2_with fail
  refine (H1.out _).mono ?_
  rintro e w1 ⟨⟨ta, tc, ra, rc⟩, qs, rfl, ho, hB1⟩
  have J1 : Hid (IsG w1 ⟨ta, tc, ra, rc⟩ sumsG ∧ Below w.heap.size w w1) := ⟨ho.isG sums_small, hB1⟩
  clear ho hB1
  have eg : gv ⟨ta, tc, ra, rc⟩ sumsG = .agg #[.slice ta 3 tc, .string ⟨#[]⟩, .int .i64 0, .slice ra 3 rc] := rfl
  rw [eg]
  go_wp2_with fail
  refine (H1.out _).mono ?_
  rintro e w2 ⟨⟨ua, uc, sa, sc⟩, ps, rfl, ho2, hB2⟩
  have ek : gv ⟨ua, uc, sa, sc⟩ sumsG = .agg #[.slice ua 3 uc, .string ⟨#[]⟩, .int .i64 0, .slice sa 3 sc] := rfl
  rw [ek]
  have hbw2 : Below (w1.alloc (.cells #[.slice ta 3 tc, .string ⟨#[]⟩, .int .i64 0, .slice ra 3 rc] 25)).heap.size (w1.alloc (.cells #[.slice ta 3 tc, .string ⟨#[]⟩, .int .i64 0, .slice ra 3 rc] 25)) w2 := hB2
  obtain ⟨g5, rfl⟩ : ∃ g5, sa = some ⟨g5, 0, none⟩ := by
    obtain ⟨a, c, e, -, -, h⟩ := own_slice ho2.rul
    cases e
    rcases h with h | h
    · exact absurd h.2.1 (by decide)
    · exact h
  have hps : ∃ q, ps[0]? = some q := by
    have := congrArg List.length ho2.map
    rw [List.length_map] at this
    exact ⟨ps[0]'(by rw [this]; decide), List.getElem?_eq_getElem _⟩
  obtain ⟨q, hq⟩ := hps
  have hq1 : q.1 = ⟨bE, [bE, bP, bE], e0⟩ := by
    have := congrArg (fun l => l[0]?) ho2.map
    simp only [List.getElem?_map, hq] at this
    exact Option.some.inj this
  have hgl := World.ownsRow.lt ho2.rul g5 rfl
  have ho3 := ho2.below (below_alloc w2 (.cells #[.slice ua 3 uc, .string ⟨#[]⟩, .int .i64 0, .slice (some ⟨g5, 0, none⟩) 3 sc] 25))
  have hsc : 3 ≤ sc ∧ sc ≤ 9223372036854775807 := by
    have h1 := (Row.of_own ho2.rul).le
    have h2 := (Row.of_own ho2.rul).max
    unfold maxLen at h2
    have h3 : sumsG.rs.length = 3 := rfl
    simp only at h1 h2
    omega
  have ho4 := ho3.setRule (g := g5) rfl (i := 0) (j := 2) hq (by omega) ⟨bE, [bE, bP, bE], bM⟩ (.string bM) (by rw [hq1]) (by rw [hq1]; rfl)
  have hcz := own_cell (j := 2) (u := .string e0) ho3.rul (by
    unfold rulC
    have h3 := three_at (fun q : Ru × Option Addr × Nat => ([.string q.1.l, .slice q.2.1 q.1.r.length q.2.2, .string q.1.p] : List Value)) (fun _ => rfl) ps 0 q 2 hq (by omega)
    rw [Nat.zero_mul, Nat.zero_add] at h3
    rw [h3, hq1]; rfl)
  have hbx : Below (w1.heap.size + 1) (w1.alloc (.cells #[.slice ta 3 tc, .string ⟨#[]⟩, .int .i64 0, .slice ra 3 rc] 25)) ((w2.alloc (.cells #[.slice ua 3 uc, .string ⟨#[]⟩, .int .i64 0, .slice (some ⟨g5, 0, none⟩) 3 sc] 25)).setCell ⟨g5, 2, none⟩ (.string bM)) := by
    have h1 := below_step hbw2 (below_alloc w2 (.cells #[.slice ua 3 uc, .string ⟨#[]⟩, .int .i64 0, .slice (some ⟨g5, 0, none⟩) 3 sc] 25))
    rw [size_alloc1] at h1
    refine h1.setCell (p := ⟨g5, 2, none⟩) ?_ _
    have := hgl.1
    rw [size_alloc1] at this
    exact this
  go_upto_region 3 with fail
  have d3 : (w2.alloc (.cells #[.slice ua 3 uc, .string ⟨#[]⟩, .int .i64 0, .slice (some ⟨g5, 0, none⟩) 3 sc] 25)).cell? ⟨w2.heap.size, 3, none⟩ = some (.slice (some ⟨g5, 0, none⟩) 3 sc) := by rw [World.cell?_alloc_mark]; rfl
  have c2 : (w2.alloc (.cells #[.slice ua 3 uc, .string ⟨#[]⟩, .int .i64 0, .slice (some ⟨g5, 0, none⟩) 3 sc] 25)).cell? ⟨g5, 2, none⟩ = some (.string e0) := hcz.1
  have f2 : (w2.alloc (.cells #[.slice ua 3 uc, .string ⟨#[]⟩, .int .i64 0, .slice (some ⟨g5, 0, none⟩) 3 sc] 25)).frozen? ⟨g5, 2, none⟩ = false := hcz.2
  have HK : Hid (∀ j v, (w2.alloc (.cells #[.slice ua 3 uc, .string ⟨#[]⟩, .int .i64 0, .slice (some ⟨g5, 0, none⟩) 3 sc] 25)).cell? ⟨w2.heap.size, j, none⟩ = some v → ((w2.alloc (.cells #[.slice ua 3 uc, .string ⟨#[]⟩, .int .i64 0, .slice (some ⟨g5, 0, none⟩) 3 sc] 25)).setCell ⟨g5, 2, none⟩ (.string bM)).cell? ⟨w2.heap.size, j, none⟩ = some v) := fun j v h => cell_set_ne h (by have := hgl.2; simp only; omega)
  have k0 := HK.out 0 (.slice ua 3 uc) (by rw [World.cell?_alloc_mark]; rfl)
  have k1 := HK.out 1 (.string ⟨#[]⟩) (by rw [World.cell?_alloc_mark]; rfl)
  have k2 := HK.out 2 (.int .i64 0) (by rw [World.cell?_alloc_mark]; rfl)
  have k3 := HK.out 3 _ d3
  have HGC : Hid (∀ j v, (w1.alloc (.cells #[.slice ta 3 tc, .string ⟨#[]⟩, .int .i64 0, .slice ra 3 rc] 25)).cell? ⟨w1.heap.size, j, none⟩ = some v → ((w2.alloc (.cells #[.slice ua 3 uc, .string ⟨#[]⟩, .int .i64 0, .slice (some ⟨g5, 0, none⟩) 3 sc] 25)).setCell ⟨g5, 2, none⟩ (.string bM)).cell? ⟨w1.heap.size, j, none⟩ = some v) := fun j v h => by
    rw [← h]
    unfold World.cell?
    rw [hbx.block w1.heap.size (by omega)]
  have m0 := HGC.out 0 (.slice ta 3 tc) (by rw [World.cell?_alloc_mark]; rfl)
  have m1 := HGC.out 1 (.string ⟨#[]⟩) (by rw [World.cell?_alloc_mark]; rfl)
  have m2 := HGC.out 2 (.int .i64 0) (by rw [World.cell?_alloc_mark]; rfl)
  have m3 := HGC.out 3 (.slice ra 3 rc) (by rw [World.cell?_alloc_mark]; rfl)
  have hW4 : Below w1.heap.size w1 ((w2.alloc (.cells #[.slice ua 3 uc, .string ⟨#[]⟩, .int .i64 0, .slice (some ⟨g5, 0, none⟩) 3 sc] 25)).setCell ⟨g5, 2, none⟩ (.string bM)) := (below_alloc w1 _).trans (hbx.mono (by omega))
  have J4 : Hid (IsG ((w2.alloc (.cells #[.slice ua 3 uc, .string ⟨#[]⟩, .int .i64 0, .slice (some ⟨g5, 0, none⟩) 3 sc] 25)).setCell ⟨g5, 2, none⟩ (.string bM)) ⟨ta, tc, ra, rc⟩ sumsG ∧ IsG ((w2.alloc (.cells #[.slice ua 3 uc, .string ⟨#[]⟩, .int .i64 0, .slice (some ⟨g5, 0, none⟩) 3 sc] 25)).setCell ⟨g5, 2, none⟩ (.string bM)) ⟨ua, uc, some ⟨g5, 0, none⟩, sc⟩ sumsK ∧ Below w.heap.size w ((w2.alloc (.cells #[.slice ua 3 uc, .string ⟨#[]⟩, .int .i64 0, .slice (some ⟨g5, 0, none⟩) 3 sc] 25)).setCell ⟨g5, 2, none⟩ (.string bM)) ∧ Pow ((w2.alloc (.cells #[.slice ua 3 uc, .string ⟨#[]⟩, .int .i64 0, .slice (some ⟨g5, 0, none⟩) 3 sc] 25)).setCell ⟨g5, 2, none⟩ (.string bM))) :=
    ⟨J1.out.1.below hW4, ho4.isG sumsK_small, below_step J1.out.2 hW4, HP.out.below (below_step J1.out.2 hW4)⟩
  clear hB2 hbw2 ho2 ho3 ho4 hcz hbx hW4 HK HGC hq hq1 hgl J1 H1 HP ek eg
  go_upto_region 4 with fail
  clear d3 c2 f2
  have ebM : (.string bM : Value) = .string ⟨#[77]⟩ := rfl
  rw [ebM] at k0 k1 k2 k3 m0 m1 m2 m3 J4
  generalize (w2.alloc (.cells #[.slice ua 3 uc, .string ⟨#[]⟩, .int .i64 0, .slice (some ⟨g5, 0, none⟩) 3 sc] 25)).setCell ⟨g5, 2, none⟩ (.string ⟨#[77]⟩) = w4 at k0 k1 k2 k3 m0 m1 m2 m3 J4 ⊢
  generalize w1.heap.size = gb at m0 m1 m2 m3 ⊢
  generalize w2.heap.size = hb at k0 k1 k2 k3 ⊢
  have HK0 : Hid (∀ W : World, Below w4.heap.size w4 W → W.cell? ⟨hb, 0, none⟩ = some (.slice ua 3 uc) ∧ W.cell? ⟨hb, 1, none⟩ = some (.string ⟨#[]⟩) ∧ W.cell? ⟨hb, 2, none⟩ = some (.int .i64 0) ∧ W.cell? ⟨hb, 3, none⟩ = some (.slice (some ⟨g5, 0, none⟩) 3 sc)) := fun W hW => ⟨cell_below hW k0, cell_below hW k1, cell_below hW k2, cell_below hW k3⟩
  have HM0 : Hid (∀ W : World, Below w4.heap.size w4 W → W.cell? ⟨gb, 0, none⟩ = some (.slice ta 3 tc) ∧ W.cell? ⟨gb, 1, none⟩ = some (.string ⟨#[]⟩) ∧ W.cell? ⟨gb, 2, none⟩ = some (.int .i64 0) ∧ W.cell? ⟨gb, 3, none⟩ = some (.slice ra 3 rc)) := fun W hW => ⟨cell_below hW m0, cell_below hW m1, cell_below hW m2, cell_below hW m3⟩
  have T1 : Hid (Calls Tryd.prog 12 #[.agg #[.slice ta 3 tc, .string ⟨#[]⟩, .int .i64 0, .slice ra 3 rc]] w4 fun e w' => e = .returned (.string sumsT) ∧ Below w4.heap.size w4 w') := text_calls sumsG ⟨ta, tc, ra, rc⟩ w4 sumsT J4.out.1 J4.out.2.2.2 sums_text
  have M1 : Hid (∀ W : World, Below w4.heap.size w4 W → Calls Tryd.prog 10 #[.agg #[.slice ta 3 tc, .string ⟨#[]⟩, .int .i64 0, .slice ra 3 rc]] W fun e w' => e = .returned (.bool true) ∧ Below W.heap.size W w') := fun W hW => may_calls sumsG ⟨ta, tc, ra, rc⟩ W true (J4.out.1.below hW) ⟨fun _ => sums_may, fun _ => rfl⟩
  have M2 : Hid (∀ W : World, Calls Tryd.prog 10 #[.agg #[.slice none 0 0, .string ⟨#[49]⟩, .int .i64 0, .slice none 0 0]] W fun e w' => e = .returned (.bool false) ∧ Below W.heap.size W w') := fun W => may_calls badG ⟨none, 0, none, 0⟩ W false (bad_isG W) ⟨fun h => (by cases h), fun h => absurd h bad_not⟩
  have E1 : Hid (∀ W : World, Below w4.heap.size w4 W → Calls Tryd.prog 14 #[.agg #[.slice ta 3 tc, .string ⟨#[]⟩, .int .i64 0, .slice ra 3 rc], .agg #[.slice ta 3 tc, .string ⟨#[]⟩, .int .i64 0, .slice ra 3 rc]] W fun e w' => e = .returned (.bool true) ∧ Below W.heap.size W w') := fun W hW => eq_calls sumsG sumsG ⟨ta, tc, ra, rc⟩ ⟨ta, tc, ra, rc⟩ W true (J4.out.1.below hW) (J4.out.1.below hW) ⟨fun _ => rfl, fun _ => rfl⟩
  have E2 : Hid (∀ W : World, Below w4.heap.size w4 W → Calls Tryd.prog 14 #[.agg #[.slice ta 3 tc, .string ⟨#[]⟩, .int .i64 0, .slice ra 3 rc], .agg #[.slice ua 3 uc, .string ⟨#[]⟩, .int .i64 0, .slice (some ⟨g5, 0, none⟩) 3 sc]] W fun e w' => e = .returned (.bool false) ∧ Below W.heap.size W w') := fun W hW => eq_calls sumsG sumsK ⟨ta, tc, ra, rc⟩ ⟨ua, uc, some ⟨g5, 0, none⟩, sc⟩ W false (J4.out.1.below hW) (J4.out.2.1.below hW) ⟨fun h => (by cases h), fun h => absurd h sumsK_ne⟩
  have hsT : (sumsT.toList == [37, 116, 111, 107, 101, 110, 32, 78, 32, 80, 32, 77, 10, 37, 108, 101, 102, 116, 32, 80, 10, 37, 108, 101, 102, 116, 32, 77, 10, 37, 37, 10, 101, 32, 58, 32, 101, 32, 80, 32, 101, 32, 59, 10, 101, 32, 58, 32, 101, 32, 77, 32, 101, 32, 59, 10, 101, 32, 58, 32, 78, 32, 59, 10]) = true := by rw [by8_toList]; kernel_rfl
  have HW : Hid (Below w.heap.size w w4) := J4.out.2.2.1
  generalize sumsT = sT at T1 hsT
  clear J4 k0 k1 k2 k3
  go_wp2_with fail
  refine T1.out.mono ?_
  rintro e w5 ⟨rfl, hB5⟩
  have HB5 : Hid (Below w4.heap.size w4 w5) := hB5
  clear hB5 m0 m1 m2 m3
  go_wp2_with fail
  refine (begun18_calls _).mono ?_
  rintro e w6 ⟨rfl, hB6⟩
  have HB6 : Hid (Below w4.heap.size w4 w6) := below_step HB5.out hB6
  clear hB6 HB5
  obtain ⟨m0, m1, m2, m3⟩ := HM0.out _ HB6.out
  go_wp2_with fail
  refine (M1.out _ HB6.out).mono ?_
  rintro e w7 ⟨rfl, hB7⟩
  have HB7 : Hid (Below w4.heap.size w4 w7) := below_step HB6.out hB7
  clear hB7 HB6 m0 m1 m2 m3
  go_wp2_with fail
  refine (M2.out _).mono ?_
  rintro e w8 ⟨rfl, hB8⟩
  have HB8 : Hid (Below w4.heap.size w4 w8) := below_step HB7.out hB8
  clear hB8 HB7
  obtain ⟨m0, m1, m2, m3⟩ := HM0.out _ HB8.out
  go_wp2_with fail
  refine (E1.out _ HB8.out).mono ?_
  rintro e w9 ⟨rfl, hB9⟩
  have HB9 : Hid (Below w4.heap.size w4 w9) := below_step HB8.out hB9
  clear hB9 HB8 m0 m1 m2 m3
  obtain ⟨m0, m1, m2, m3⟩ := HM0.out _ HB9.out
  obtain ⟨k0, k1, k2, k3⟩ := HK0.out _ HB9.out
  go_wp2_with fail
  refine (E2.out _ HB9.out).mono ?_
  rintro e w10 ⟨rfl, hB10⟩
  have HBF : Hid (Below w.heap.size w w10) := below_step HW.out (below_step HB9.out hB10)
  clear hB10 HB9 m0 m1 m2 m3 k0 k1 k2 k3
  go_wp2_with fail
  go_ret
  exact ⟨rfl, HBF.out⟩

end Go.Proofs.YtdgadamkiililaaDoor
