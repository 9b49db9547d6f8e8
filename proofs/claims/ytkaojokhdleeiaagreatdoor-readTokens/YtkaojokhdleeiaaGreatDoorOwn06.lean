/-
  Texts that the proof of the Read statements stands on, part Own06.
-/
import Derived.Test.YtkaojokhdleeiaaGreatDoorOwn05
import Derived.Deep.SlicePairs
import Derived.Deep.Strs
import Derived.Deep.RegionHeld
import Derived.Deep.RegionLaw
import Derived.Test.YtkaojokhdleeiaaGreatDoorOwn03
/-
  The walk of the look that each law of this layer opens with: it holds.
-/
namespace Go.Proofs.YtkaojokhdleeiaaGreatDoor
open Go.RowKit

set_option maxRecDepth 20000

theorem begun18_calls (w : World) : Calls Tryz.prog 48 #[] w fun e w' => e = .returned (.bool true) ∧ Below w.heap.size w w' := by
  have H : Hid (Calls Tryz.prog 78 #[] w fun e w' => e = .returned (.bool true) ∧ Below w.heap.size w w') := begun_calls w
  go_enter Tryz.func48, Tryz.ntmps48
  go_wp2_with fail
  refine H.out.mono ?_
  rintro e w1 ⟨rfl, hB⟩
  go_wp2_with fail
  go_ret
  exact ⟨rfl, hB⟩

theorem nm1 : NameP bN ∧ NameP bP ∧ NameP bM ∧ NameP bE := by
  refine ⟨?_, ?_, ?_, ?_⟩ <;> (unfold NameP; kernel_rfl)

theorem sums_lev : levF sumsG.ts = some [0, 1, 1, 0, 0, 0, 0, 0, 0] := by
  unfold levF sumsG zero9
  simp only [List.foldl]
  have h1 : LevP ⟨bN, 0, 0⟩ := .inl ⟨rfl, rfl⟩
  have h2 : LevP ⟨bP, 1, 1⟩ := .inr ⟨by decide, by decide, by decide, by decide⟩
  have h3 : LevP ⟨bM, 2, 1⟩ := .inr ⟨by decide, by decide, by decide, by decide⟩
  simp [levS, h1, h2, h3, at9]

theorem sums_may : MayP sumsG := by
  obtain ⟨hN, hP, hM, hE⟩ := nm1
  refine ⟨by decide, by decide, by decide, by decide, .inl rfl, ⟨?_, _, sums_lev, ?_⟩, ?_⟩
  · intro i t ht
    match i, ht with
    | 0, ht => cases ht; exact ⟨hN, fun j u hj => absurd hj (Nat.not_lt_zero _)⟩
    | 1, ht =>
      cases ht
      refine ⟨hP, fun j u hj hu => ?_⟩
      obtain rfl : j = 0 := by omega
      cases hu
      intro e
      have := congrArg by8 e
      exact absurd this (by decide)
    | 2, ht =>
      cases ht
      refine ⟨hM, fun j u hj hu => ?_⟩
      match j, hj, hu with
      | 0, _, hu => cases hu; intro e; have := congrArg by8 e; exact absurd this (by decide)
      | 1, _, hu => cases hu; intro e; have := congrArg by8 e; exact absurd this (by decide)
    | i + 3, ht => cases ht
  · intro k h1 h2 h3
    match k, h2, h3 with
    | 0, _, _ => omega
    | 1, _, _ => omega
    | 2, _, _ => decide
    | 3, _, h3 => exact absurd rfl h3
    | 4, _, h3 => exact absurd rfl h3
    | 5, _, h3 => exact absurd rfl h3
    | 6, _, h3 => exact absurd rfl h3
    | 7, _, h3 => exact absurd rfl h3
    | 8, _, h3 => exact absurd rfl h3
  · intro r hr
    simp only [sumsG, List.mem_cons, List.not_mem_nil, or_false] at hr
    rcases hr with rfl | rfl | rfl
    · refine ⟨hE, by decide, .inl rfl, fun x hx => ?_⟩
      simp only [List.mem_cons, List.not_mem_nil, or_false] at hx
      rcases hx with rfl | rfl | rfl
      · exact hE
      · exact hP
      · exact hE
    · refine ⟨hE, by decide, .inl rfl, fun x hx => ?_⟩
      simp only [List.mem_cons, List.not_mem_nil, or_false] at hx
      rcases hx with rfl | rfl | rfl
      · exact hE
      · exact hM
      · exact hE
    · refine ⟨hE, by decide, .inl rfl, fun x hx => ?_⟩
      rw [List.mem_singleton] at hx
      subst hx
      exact hN

/-- The text of that grammar. -/
def sumsT : ByteArray := ⟨(tx (linesG sumsG [0, 1, 1, 0, 0, 0, 0, 0, 0])).toArray⟩
theorem sums_text : TextP sumsG sumsT := ⟨fun _ l hl => by rw [sums_lev] at hl; cases hl; rfl, fun h => absurd sums_may h⟩

/-- A grammar whose Start is no name. -/
def badG : Gm := ⟨[], ⟨#[49]⟩, 0, []⟩
theorem bad_not : ¬ MayP badG := fun h => by
  rcases h.st with h1 | h1
  · have := congrArg by8 h1; exact absurd this (by decide)
  · unfold NameP at h1
    have h2 : nameOk (by8 badG.s) = false := by kernel_rfl
    rw [h2] at h1; cases h1
theorem bad_small : Small badG := ⟨by decide, by decide, by decide, fun t h => (by cases h), fun r h => (by cases h)⟩
theorem bad_isG (w : World) : IsG w ⟨none, 0, none, 0⟩ badG := ⟨⟨rfl, Nat.le_refl _, Nat.zero_le _, .inl ⟨rfl, rfl, rfl⟩⟩, ⟨[], rfl, ⟨rfl, Nat.le_refl _, Nat.zero_le _, .inl ⟨rfl, rfl, rfl⟩⟩, fun q h => (by cases h)⟩, bad_small⟩

/-- That grammar with another Prec. -/
def sumsK : Gm := ⟨sumsG.ts, sumsG.s, sumsG.e, sumsG.rs.set 0 ⟨bE, [bE, bP, bE], bM⟩⟩
theorem sumsK_ne : sumsG ≠ sumsK := fun h => by
  have h1 : (sumsG.rs.map fun r => by8 r.p) = sumsK.rs.map fun r => by8 r.p := by rw [h]
  exact absurd h1 (by decide)
theorem sumsK_small : Small sumsK := by
  obtain ⟨h1, h2, h3, h4, h5⟩ := sums_small
  refine ⟨h1, by decide, h3, h4, fun r hr => ?_⟩
  rcases List.mem_or_eq_of_mem_set hr with h | h
  · exact h5 r h
  · subst h
    have := h5 ⟨bE, [bE, bP, bE], e0⟩ (by simp [sumsG])
    exact ⟨this.1, by decide, this.2.2.1, this.2.2.2⟩

set_option maxHeartbeats 4000000 in
set_option maxRecDepth 20000 in
theorem begun5_calls (w : World) (hp : Pow w) : Calls Tryz.prog 30 #[] w fun e w' => e = .returned (.bool true) ∧ Below w.heap.size w w' := by
  have HP : Hid (Pow w) := hp
  have H1 : Hid (∀ W : World, Calls Tryz.prog 46 #[] W fun e w' => ∃ h qs, e = .returned (gv h sumsG) ∧ OwnG w' W.heap.size h sumsG qs ∧ Below W.heap.size W w') := fun W => sums_calls W
  clear hp
  go_enter Tryz.func30, Tryz.ntmps30
  go_wp2_with fail
  refine (H1.out _).mono ?_
  rintro e w1 ⟨⟨ta, tc, ra, rc⟩, qs, rfl, ho, hB1⟩
  have J1 : Hid (IsG w1 ⟨ta, tc, ra, rc⟩ sumsG ∧ Below w.heap.size w w1) := ⟨ho.isG sums_small, hB1⟩
  clear ho hB1
  have eg : gv ⟨ta, tc, ra, rc⟩ sumsG = .agg #[.slice ta 3 tc, .string ⟨#[]⟩, .int .i64 0, .slice ra 3 rc] := rfl
  rw [eg]
  go_wp2_with fail
  refine (H1.out _).mono ?_
  rintro e w2 ⟨⟨ua, uc, sa, sc⟩, ps, rfl, ho2, hB2⟩
  have ek : gv ⟨ua, uc, sa, sc⟩ sumsG = .agg #[.slice ua 3 uc, .string ⟨#[]⟩, .int .i64 0, .slice sa 3 sc] := rfl
  rw [ek]
  have hbw2 : Below (w1.alloc (.cells #[.slice ta 3 tc, .string ⟨#[]⟩, .int .i64 0, .slice ra 3 rc] 28)).heap.size (w1.alloc (.cells #[.slice ta 3 tc, .string ⟨#[]⟩, .int .i64 0, .slice ra 3 rc] 28)) w2 := hB2
  obtain ⟨g5, rfl⟩ : ∃ g5, sa = some ⟨g5, 0, none⟩ := by
    obtain ⟨a, c, e, -, -, h⟩ := own_slice ho2.rul
    cases e
    rcases h with h | h
    · exact absurd h.2.1 (by decide)
    · exact h
  have hps : ∃ q, ps[0]? = some q := by
    have := congrArg List.length ho2.map
    rw [List.length_map] at this
    exact ⟨ps[0]'(by rw [this]; decide), List.getElem?_eq_getElem _⟩
  obtain ⟨q, hq⟩ := hps
  have hq1 : q.1 = ⟨bE, [bE, bP, bE], e0⟩ := by
    have := congrArg (fun l => l[0]?) ho2.map
    simp only [List.getElem?_map, hq] at this
    exact Option.some.inj this
  have hgl := World.ownsRow.lt ho2.rul g5 rfl
  have ho3 := ho2.below (below_alloc w2 (.cells #[.slice ua 3 uc, .string ⟨#[]⟩, .int .i64 0, .slice (some ⟨g5, 0, none⟩) 3 sc] 28))
  have hsc : 3 ≤ sc ∧ sc ≤ 9223372036854775807 := by
    have h1 := (Row.of_own ho2.rul).le
    have h2 := (Row.of_own ho2.rul).max
    unfold maxLen at h2
    have h3 : sumsG.rs.length = 3 := rfl
    simp only at h1 h2
    omega
  have ho4 := ho3.setRule (g := g5) rfl (i := 0) (j := 2) hq (by omega) ⟨bE, [bE, bP, bE], bM⟩ (.string bM) (by rw [hq1]) (by rw [hq1]; rfl)
  have hcz := own_cell (j := 2) (u := .string e0) ho3.rul (by
    unfold rulC
    have h3 := three_at (fun q : Ru × Option Addr × Nat => ([.string q.1.l, .slice q.2.1 q.1.r.length q.2.2, .string q.1.p] : List Value)) (fun _ => rfl) ps 0 q 2 hq (by omega)
    rw [Nat.zero_mul, Nat.zero_add] at h3
    rw [h3, hq1]; rfl)
  have hbx : Below (w1.heap.size + 1) (w1.alloc (.cells #[.slice ta 3 tc, .string ⟨#[]⟩, .int .i64 0, .slice ra 3 rc] 28)) ((w2.alloc (.cells #[.slice ua 3 uc, .string ⟨#[]⟩, .int .i64 0, .slice (some ⟨g5, 0, none⟩) 3 sc] 28)).setCell ⟨g5, 2, none⟩ (.string bM)) := by
    have h1 := below_step hbw2 (below_alloc w2 (.cells #[.slice ua 3 uc, .string ⟨#[]⟩, .int .i64 0, .slice (some ⟨g5, 0, none⟩) 3 sc] 28))
    rw [size_alloc1] at h1
    refine h1.setCell (p := ⟨g5, 2, none⟩) ?_ _
    have := hgl.1
    rw [size_alloc1] at this
    exact this
  go_upto_region 3 with fail
  have d3 : (w2.alloc (.cells #[.slice ua 3 uc, .string ⟨#[]⟩, .int .i64 0, .slice (some ⟨g5, 0, none⟩) 3 sc] 28)).cell? ⟨w2.heap.size, 3, none⟩ = some (.slice (some ⟨g5, 0, none⟩) 3 sc) := by rw [World.cell?_alloc_mark]; rfl
  have c2 : (w2.alloc (.cells #[.slice ua 3 uc, .string ⟨#[]⟩, .int .i64 0, .slice (some ⟨g5, 0, none⟩) 3 sc] 28)).cell? ⟨g5, 2, none⟩ = some (.string e0) := hcz.1
  have f2 : (w2.alloc (.cells #[.slice ua 3 uc, .string ⟨#[]⟩, .int .i64 0, .slice (some ⟨g5, 0, none⟩) 3 sc] 28)).frozen? ⟨g5, 2, none⟩ = false := hcz.2
  have HK : Hid (∀ j v, (w2.alloc (.cells #[.slice ua 3 uc, .string ⟨#[]⟩, .int .i64 0, .slice (some ⟨g5, 0, none⟩) 3 sc] 28)).cell? ⟨w2.heap.size, j, none⟩ = some v → ((w2.alloc (.cells #[.slice ua 3 uc, .string ⟨#[]⟩, .int .i64 0, .slice (some ⟨g5, 0, none⟩) 3 sc] 28)).setCell ⟨g5, 2, none⟩ (.string bM)).cell? ⟨w2.heap.size, j, none⟩ = some v) := fun j v h => cell_set_ne h (by have := hgl.2; simp only; omega)
  have k0 := HK.out 0 (.slice ua 3 uc) (by rw [World.cell?_alloc_mark]; rfl)
  have k1 := HK.out 1 (.string ⟨#[]⟩) (by rw [World.cell?_alloc_mark]; rfl)
  have k2 := HK.out 2 (.int .i64 0) (by rw [World.cell?_alloc_mark]; rfl)
  have k3 := HK.out 3 _ d3
  have HGC : Hid (∀ j v, (w1.alloc (.cells #[.slice ta 3 tc, .string ⟨#[]⟩, .int .i64 0, .slice ra 3 rc] 28)).cell? ⟨w1.heap.size, j, none⟩ = some v → ((w2.alloc (.cells #[.slice ua 3 uc, .string ⟨#[]⟩, .int .i64 0, .slice (some ⟨g5, 0, none⟩) 3 sc] 28)).setCell ⟨g5, 2, none⟩ (.string bM)).cell? ⟨w1.heap.size, j, none⟩ = some v) := fun j v h => by
    rw [← h]
    unfold World.cell?
    rw [hbx.block w1.heap.size (by omega)]
  have m0 := HGC.out 0 (.slice ta 3 tc) (by rw [World.cell?_alloc_mark]; rfl)
  have m1 := HGC.out 1 (.string ⟨#[]⟩) (by rw [World.cell?_alloc_mark]; rfl)
  have m2 := HGC.out 2 (.int .i64 0) (by rw [World.cell?_alloc_mark]; rfl)
  have m3 := HGC.out 3 (.slice ra 3 rc) (by rw [World.cell?_alloc_mark]; rfl)
  have hW4 : Below w1.heap.size w1 ((w2.alloc (.cells #[.slice ua 3 uc, .string ⟨#[]⟩, .int .i64 0, .slice (some ⟨g5, 0, none⟩) 3 sc] 28)).setCell ⟨g5, 2, none⟩ (.string bM)) := (below_alloc w1 _).trans (hbx.mono (by omega))
  have J4 : Hid (IsG ((w2.alloc (.cells #[.slice ua 3 uc, .string ⟨#[]⟩, .int .i64 0, .slice (some ⟨g5, 0, none⟩) 3 sc] 28)).setCell ⟨g5, 2, none⟩ (.string bM)) ⟨ta, tc, ra, rc⟩ sumsG ∧ IsG ((w2.alloc (.cells #[.slice ua 3 uc, .string ⟨#[]⟩, .int .i64 0, .slice (some ⟨g5, 0, none⟩) 3 sc] 28)).setCell ⟨g5, 2, none⟩ (.string bM)) ⟨ua, uc, some ⟨g5, 0, none⟩, sc⟩ sumsK ∧ Below w.heap.size w ((w2.alloc (.cells #[.slice ua 3 uc, .string ⟨#[]⟩, .int .i64 0, .slice (some ⟨g5, 0, none⟩) 3 sc] 28)).setCell ⟨g5, 2, none⟩ (.string bM)) ∧ Pow ((w2.alloc (.cells #[.slice ua 3 uc, .string ⟨#[]⟩, .int .i64 0, .slice (some ⟨g5, 0, none⟩) 3 sc] 28)).setCell ⟨g5, 2, none⟩ (.string bM))) :=
    ⟨J1.out.1.below hW4, ho4.isG sumsK_small, below_step J1.out.2 hW4, HP.out.below (below_step J1.out.2 hW4)⟩
  clear hB2 hbw2 ho2 ho3 ho4 hcz hbx hW4 HK HGC hq hq1 hgl J1 H1 HP ek eg
  go_upto_region 4 with fail
  clear d3 c2 f2
  have ebM : (.string bM : Value) = .string ⟨#[77]⟩ := rfl
  rw [ebM] at k0 k1 k2 k3 m0 m1 m2 m3 J4
  generalize (w2.alloc (.cells #[.slice ua 3 uc, .string ⟨#[]⟩, .int .i64 0, .slice (some ⟨g5, 0, none⟩) 3 sc] 28)).setCell ⟨g5, 2, none⟩ (.string ⟨#[77]⟩) = w4 at k0 k1 k2 k3 m0 m1 m2 m3 J4 ⊢
  generalize w1.heap.size = gb at m0 m1 m2 m3 ⊢
  generalize w2.heap.size = hb at k0 k1 k2 k3 ⊢
  have HK0 : Hid (∀ W : World, Below w4.heap.size w4 W → W.cell? ⟨hb, 0, none⟩ = some (.slice ua 3 uc) ∧ W.cell? ⟨hb, 1, none⟩ = some (.string ⟨#[]⟩) ∧ W.cell? ⟨hb, 2, none⟩ = some (.int .i64 0) ∧ W.cell? ⟨hb, 3, none⟩ = some (.slice (some ⟨g5, 0, none⟩) 3 sc)) := fun W hW => ⟨cell_below hW k0, cell_below hW k1, cell_below hW k2, cell_below hW k3⟩
  have HM0 : Hid (∀ W : World, Below w4.heap.size w4 W → W.cell? ⟨gb, 0, none⟩ = some (.slice ta 3 tc) ∧ W.cell? ⟨gb, 1, none⟩ = some (.string ⟨#[]⟩) ∧ W.cell? ⟨gb, 2, none⟩ = some (.int .i64 0) ∧ W.cell? ⟨gb, 3, none⟩ = some (.slice ra 3 rc)) := fun W hW => ⟨cell_below hW m0, cell_below hW m1, cell_below hW m2, cell_below hW m3⟩
  have T1 : Hid (Calls Tryz.prog 47 #[.agg #[.slice ta 3 tc, .string ⟨#[]⟩, .int .i64 0, .slice ra 3 rc]] w4 fun e w' => e = .returned (.string sumsT) ∧ Below w4.heap.size w4 w') := text_calls sumsG ⟨ta, tc, ra, rc⟩ w4 sumsT J4.out.1 J4.out.2.2.2 sums_text
  have M1 : Hid (∀ W : World, Below w4.heap.size w4 W → Calls Tryz.prog 49 #[.agg #[.slice ta 3 tc, .string ⟨#[]⟩, .int .i64 0, .slice ra 3 rc]] W fun e w' => e = .returned (.bool true) ∧ Below W.heap.size W w') := fun W hW => may_calls sumsG ⟨ta, tc, ra, rc⟩ W true (J4.out.1.below hW) ⟨fun _ => sums_may, fun _ => rfl⟩
  have M2 : Hid (∀ W : World, Calls Tryz.prog 49 #[.agg #[.slice none 0 0, .string ⟨#[49]⟩, .int .i64 0, .slice none 0 0]] W fun e w' => e = .returned (.bool false) ∧ Below W.heap.size W w') := fun W => may_calls badG ⟨none, 0, none, 0⟩ W false (bad_isG W) ⟨fun h => (by cases h), fun h => absurd h bad_not⟩
  have E1 : Hid (∀ W : World, Below w4.heap.size w4 W → Calls Tryz.prog 50 #[.agg #[.slice ta 3 tc, .string ⟨#[]⟩, .int .i64 0, .slice ra 3 rc], .agg #[.slice ta 3 tc, .string ⟨#[]⟩, .int .i64 0, .slice ra 3 rc]] W fun e w' => e = .returned (.bool true) ∧ Below W.heap.size W w') := fun W hW => eq_calls sumsG sumsG ⟨ta, tc, ra, rc⟩ ⟨ta, tc, ra, rc⟩ W true (J4.out.1.below hW) (J4.out.1.below hW) ⟨fun _ => rfl, fun _ => rfl⟩
  have E2 : Hid (∀ W : World, Below w4.heap.size w4 W → Calls Tryz.prog 50 #[.agg #[.slice ta 3 tc, .string ⟨#[]⟩, .int .i64 0, .slice ra 3 rc], .agg #[.slice ua 3 uc, .string ⟨#[]⟩, .int .i64 0, .slice (some ⟨g5, 0, none⟩) 3 sc]] W fun e w' => e = .returned (.bool false) ∧ Below W.heap.size W w') := fun W hW => eq_calls sumsG sumsK ⟨ta, tc, ra, rc⟩ ⟨ua, uc, some ⟨g5, 0, none⟩, sc⟩ W false (J4.out.1.below hW) (J4.out.2.1.below hW) ⟨fun h => (by cases h), fun h => absurd h sumsK_ne⟩
  have hsT : (sumsT.toList == [37, 116, 111, 107, 101, 110, 32, 78, 32, 80, 32, 77, 10, 37, 108, 101, 102, 116, 32, 80, 10, 37, 108, 101, 102, 116, 32, 77, 10, 37, 37, 10, 101, 32, 58, 32, 101, 32, 80, 32, 101, 32, 59, 10, 101, 32, 58, 32, 101, 32, 77, 32, 101, 32, 59, 10, 101, 32, 58, 32, 78, 32, 59, 10]) = true := by rw [by8_toList]; kernel_rfl
  have HW : Hid (Below w.heap.size w w4) := J4.out.2.2.1
  generalize sumsT = sT at T1 hsT
  clear J4 k0 k1 k2 k3
  go_wp2_with fail
  refine T1.out.mono ?_
  rintro e w5 ⟨rfl, hB5⟩
  have HB5 : Hid (Below w4.heap.size w4 w5) := hB5
  clear hB5 m0 m1 m2 m3
  go_wp2_with fail
  refine (begun18_calls _).mono ?_
  rintro e w6 ⟨rfl, hB6⟩
  have HB6 : Hid (Below w4.heap.size w4 w6) := below_step HB5.out hB6
  clear hB6 HB5
  obtain ⟨m0, m1, m2, m3⟩ := HM0.out _ HB6.out
  go_wp2_with fail
  refine (M1.out _ HB6.out).mono ?_
  rintro e w7 ⟨rfl, hB7⟩
  have HB7 : Hid (Below w4.heap.size w4 w7) := below_step HB6.out hB7
  clear hB7 HB6 m0 m1 m2 m3
  go_wp2_with fail
  refine (M2.out _).mono ?_
  rintro e w8 ⟨rfl, hB8⟩
  have HB8 : Hid (Below w4.heap.size w4 w8) := below_step HB7.out hB8
  clear hB8 HB7
  obtain ⟨m0, m1, m2, m3⟩ := HM0.out _ HB8.out
  go_wp2_with fail
  refine (E1.out _ HB8.out).mono ?_
  rintro e w9 ⟨rfl, hB9⟩
  have HB9 : Hid (Below w4.heap.size w4 w9) := below_step HB8.out hB9
  clear hB9 HB8 m0 m1 m2 m3
  obtain ⟨m0, m1, m2, m3⟩ := HM0.out _ HB9.out
  obtain ⟨k0, k1, k2, k3⟩ := HK0.out _ HB9.out
  go_wp2_with fail
  refine (E2.out _ HB9.out).mono ?_
  rintro e w10 ⟨rfl, hB10⟩
  have HBF : Hid (Below w.heap.size w w10) := below_step HW.out (below_step HB9.out hB10)
  clear hB10 HB9 m0 m1 m2 m3 k0 k1 k2 k3
  go_wp2_with fail
  go_ret
  exact ⟨rfl, HBF.out⟩

end Go.Proofs.YtkaojokhdleeiaaGreatDoor

/-
  A grammar that grows in a box of the call's own.
-/
namespace Go.Proofs.YtkaojokhdleeiaaGreatDoor
open Go.RowKit

set_option maxRecDepth 20000

theorem Tryz.info50 : (Tryz.prog.info? 50).map (fun i => (i.zero, i.size, i.bytes)) = some (some (.agg #[.string ⟨#[]⟩, .int .i64 0, .int .i64 0]), 3, 32) := by kernel_rfl
theorem Tryz.info58 : (Tryz.prog.info? 58).map (fun i => (i.zero, i.size, i.bytes)) = some (some (.agg #[.string ⟨#[]⟩, .slice none 0 0, .string ⟨#[]⟩]), 3, 56) := by kernel_rfl

theorem own_ne_block {w : World} {base E k n : Nat} {v : Value} {cs : List Value} (h : w.ownsRow base E k v n cs) {b T : Nat} {cur : Array Value} {fr : Nat × Nat} (hb : w.heap[b]? = some (.cells cur T fr)) (hE : E ≠ T) : v.ownBlock ≠ some b := by
  intro hg
  rcases h.2 with ⟨rfl, -⟩ | ⟨g, c, cur', rfl, -, hh, -⟩
  · cases hg
  · simp only [Value.ownBlock, Option.some.injEq] at hg
    subst hg
    rw [hh] at hb
    simp only [Option.some.injEq, Obj.cells.injEq] at hb
    exact hE hb.2.1

theorem own_grown {w w' : World} {base base2 E E2 k k2 n n2 : Nat} {v v2 : Value} {cs cs2 : List Value} (h : w.ownsRow base E k v n cs) (h2 : w.ownsRow base2 E2 k2 v2 n2 cs2) (hE : E ≠ E2) (hg : w.grownBy w' v.ownBlock) : w'.ownsRow base2 E2 k2 v2 n2 cs2 :=
  ownsRow_of_block h2 (fun i hi => hg.block i (World.ownsRow.lt h2 i hi).2 (fun e => own_type h h2 hE (g := i) e.symm hi))

/-- The grammar's box. -/
def boxC (h : Hd) (G : Gm) : Array Value := #[.slice h.ta G.ts.length h.tc, .string G.s, .int .i64 G.e, .slice h.ra G.rs.length h.rc]

/-- A grammar that the call owns, in a box of its own. -/
structure GB (w wr : World) (gb : Nat) (h : Hd) (G : Gm) (qs : List (Ru × Option Addr × Nat)) : Prop where
  box : wr.heap[gb]? = some (.cells (boxC h G) 28 (0, 0))
  own : OwnG wr w.heap.size h G qs
  bel : Below w.heap.size w wr
  new : w.heap.size ≤ gb

theorem GB.step {w wr wr' : World} {gb : Nat} {h : Hd} {G : Gm} {qs : List (Ru × Option Addr × Nat)} (g : GB w wr gb h G qs) (hb : Below wr.heap.size wr wr') : GB w wr' gb h G qs :=
  ⟨block_below hb g.box, g.own.below hb, below_step g.bel hb, g.new⟩

theorem GB.cells {w wr : World} {gb : Nat} {h : Hd} {G : Gm} {qs : List (Ru × Option Addr × Nat)} (g : GB w wr gb h G qs) :
    wr.cell? ⟨gb, 0, none⟩ = some (.slice h.ta G.ts.length h.tc) ∧ wr.cell? ⟨gb, 1, none⟩ = some (.string G.s) ∧ wr.cell? ⟨gb, 2, none⟩ = some (.int .i64 G.e) ∧ wr.cell? ⟨gb, 3, none⟩ = some (.slice h.ra G.rs.length h.rc) ∧ ∀ j, wr.frozen? ⟨gb, j, none⟩ = false :=
  ⟨by rw [cell_block g.box]; rfl, by rw [cell_block g.box]; rfl, by rw [cell_block g.box]; rfl, by rw [cell_block g.box]; rfl, frozen_block g.box⟩

/-- A box that is stored into. -/
theorem OwnG.box {w : World} {base gb j : Nat} {h : Hd} {G : Gm} {qs : List (Ru × Option Addr × Nat)} {cur : Array Value} {T : Nat} {u : Value} (o : OwnG w base h G qs) (hb : w.heap[gb]? = some (.cells cur T (0, 0))) (h1 : T ≠ 50) (h2 : T ≠ 58) (h3 : T ≠ 9) : OwnG (w.setCell ⟨gb, j, none⟩ u) base h G qs := by
  refine ⟨?_, ?_, o.map, fun q hq => ?_⟩
  · exact ownsRow_of_block o.tok (fun i hi => Below.heap_setCell _ _ _ _ (fun e => by simp only at e; subst e; exact own_ne_block o.tok hb (Ne.symm h1) hi))
  · exact ownsRow_of_block o.rul (fun i hi => Below.heap_setCell _ _ _ _ (fun e => by simp only at e; subst e; exact own_ne_block o.rul hb (Ne.symm h2) hi))
  · exact ownsRow_of_block (o.row q hq) (fun i hi => Below.heap_setCell _ _ _ _ (fun e => by simp only at e; subst e; exact own_ne_block (o.row q hq) hb (Ne.symm h3) hi))

theorem tokC_append (a b : List Tk) : tokC (a ++ b) = tokC a ++ tokC b := by unfold tokC; rw [List.flatMap_append]
theorem rulC_append (a b : List (Ru × Option Addr × Nat)) : rulC (a ++ b) = rulC a ++ rulC b := by unfold rulC; rw [List.flatMap_append]

/-- One token more. -/
theorem GB.addTok {w W : World} {gb : Nat} {h : Hd} {G : Gm} {qs : List (Ru × Option Addr × Nat)} (g : GB w W gb h G qs) (hn : G.ts.length ≤ 1000) (t : Tk) :
    ∃ ao n c w', (Builtin.append_ #[25, 25] 25 #[.slice h.ta G.ts.length h.tc, .slice (some ⟨W.heap.size, 0, none⟩) 1 1]).run Tryz.prog (W.alloc (.cells #[.string t.n, .int .i64 t.l, .int .i64 t.a] 50)) = .ok (.slice ao n c) w' ∧ n = G.ts.length + 1 ∧ w'.heap[gb]? = some (.cells (boxC h G) 28 (0, 0)) ∧
      GB w (w'.setCell ⟨gb, 0, none⟩ (.slice ao n c)) gb ⟨ao, c, h.ra, h.rc⟩ ⟨G.ts ++ [t], G.s, G.e, G.rs⟩ qs := by
  obtain ⟨i0, hi, hz0, hz1, hz2⟩ := info_parts Tryz.info50
  have g1 := g.step (below_alloc W (.cells #[.string t.n, .int .i64 t.l, .int .i64 t.a] 50))
  have hnews : ∀ j u, (tokC [t])[j]? = some u → (W.alloc (.cells #[.string t.n, .int .i64 t.l, .int .i64 t.a] 50)).cell? ((⟨W.heap.size, 0, none⟩ : Addr).add j) = some u := by
    intro j u hu
    rw [Addr.add_lit, Nat.zero_add, World.cell?_alloc_mark, ← hu]
    exact List.getElem?_toArray (xs := tokC [t]) (i := j)
  obtain ⟨v', w', hr, h2, h3, -⟩ := run_append_own (P := Tryz.prog) (W.alloc (.cells #[.string t.n, .int .i64 t.l, .int .i64 t.a] 50)) w.heap.size 25 25 50 i0 _ 3 32 Tryz.underlying25 hi hz0 hz1 hz2 rfl (by decide) _ G.ts.length _ g1.own.tok ⟨W.heap.size, 0, none⟩ 1 1 (tokC [t]) rfl hnews
    (fun u hu => by simp [tokC] at hu; rcases hu with rfl | rfl | rfl <;> rfl) (by unfold maxLen; omega) (by omega) (by have := g1.bel.size; exact this)
  obtain ⟨ao, c, rfl, -⟩ := own_slice h2
  have hbox : w'.heap[gb]? = some (.cells (boxC h G) 28 (0, 0)) := by
    rw [h3.block gb (Array.getElem?_eq_some_iff.1 g1.box).1 (fun e => own_ne_block g1.own.tok g1.box (by decide) e.symm)]
    exact g1.box
  have ho : OwnG w' w.heap.size ⟨ao, c, h.ra, h.rc⟩ ⟨G.ts ++ [t], G.s, G.e, G.rs⟩ qs := by
    refine ⟨?_, own_grown g1.own.tok g1.own.rul (by decide) h3, g.own.map, fun q hq => own_grown g1.own.tok (g1.own.row q hq) (by decide) h3⟩
    simp only
    rw [tokC_append, List.length_append]
    exact h2
  refine ⟨ao, _, c, w', hr, rfl, hbox, ?_, ho.box hbox (by decide) (by decide) (by decide), ?_, g.new⟩
  · have : (boxC h G).setIfInBounds 0 (.slice ao (G.ts.length + 1) c) = boxC ⟨ao, c, h.ra, h.rc⟩ ⟨G.ts ++ [t], G.s, G.e, G.rs⟩ := by
      unfold boxC
      simp
    rw [setCell_eq_setRow w' gb 0 _ 28 (0, 0) _ hbox, this]
    exact setRow_heap _ _ _ _ 28 _ hbox
  · exact (g1.bel.grown h3 (g1.bel.size) (fun k hk => (World.ownsRow.lt g1.own.tok k hk).1)).setCell (p := ⟨gb, 0, none⟩) g.new _

/-- One rule more. -/
theorem GB.addRule {w W : World} {gb : Nat} {h : Hd} {G : Gm} {qs : List (Ru × Option Addr × Nat)} (g : GB w W gb h G qs) (hn : G.rs.length ≤ 1000) (r : Ru) (xa : Option Addr) (xc m : Nat) (hx : OwnS W w.heap.size (.slice xa m xc) r.r) (hm : m = r.r.length) :
    ∃ ao n c w', (Builtin.append_ #[26, 26] 26 #[.slice h.ra G.rs.length h.rc, .slice (some ⟨W.heap.size, 0, none⟩) 1 1]).run Tryz.prog (W.alloc (.cells #[.string r.l, .slice xa m xc, .string r.p] 58)) = .ok (.slice ao n c) w' ∧ n = G.rs.length + 1 ∧ w'.heap[gb]? = some (.cells (boxC h G) 28 (0, 0)) ∧
      GB w (w'.setCell ⟨gb, 3, none⟩ (.slice ao n c)) gb ⟨h.ta, h.tc, ao, c⟩ ⟨G.ts, G.s, G.e, G.rs ++ [r]⟩ (qs ++ [(r, xa, xc)]) := by
  subst hm
  obtain ⟨i0, hi, hz0, hz1, hz2⟩ := info_parts Tryz.info58
  have g1 := g.step (below_alloc W (.cells #[.string r.l, .slice xa r.r.length xc, .string r.p] 58))
  have hx1 := hx.below (below_alloc W (.cells #[.string r.l, .slice xa r.r.length xc, .string r.p] 58))
  have hnews : ∀ j u, (rulC [(r, xa, xc)])[j]? = some u → (W.alloc (.cells #[.string r.l, .slice xa r.r.length xc, .string r.p] 58)).cell? ((⟨W.heap.size, 0, none⟩ : Addr).add j) = some u := by
    intro j u hu
    rw [Addr.add_lit, Nat.zero_add, World.cell?_alloc_mark, ← hu]
    exact List.getElem?_toArray (xs := rulC [(r, xa, xc)]) (i := j)
  obtain ⟨v', w', hr, h2, h3, -⟩ := run_append_own (P := Tryz.prog) (W.alloc (.cells #[.string r.l, .slice xa r.r.length xc, .string r.p] 58)) w.heap.size 26 26 58 i0 _ 3 56 Tryz.underlying26 hi hz0 hz1 hz2 rfl (by decide) _ G.rs.length _ g1.own.rul ⟨W.heap.size, 0, none⟩ 1 1 (rulC [(r, xa, xc)]) rfl hnews
    (fun u hu => by simp [rulC] at hu; rcases hu with rfl | rfl | rfl <;> rfl) (by unfold maxLen; omega) (by omega) (by have := g1.bel.size; exact this)
  obtain ⟨ao, c, rfl, -⟩ := own_slice h2
  have hbox : w'.heap[gb]? = some (.cells (boxC h G) 28 (0, 0)) := by
    rw [h3.block gb (Array.getElem?_eq_some_iff.1 g1.box).1 (fun e => own_ne_block g1.own.rul g1.box (by decide) e.symm)]
    exact g1.box
  have ho : OwnG w' w.heap.size ⟨h.ta, h.tc, ao, c⟩ ⟨G.ts, G.s, G.e, G.rs ++ [r]⟩ (qs ++ [(r, xa, xc)]) := by
    refine ⟨own_grown g1.own.rul g1.own.tok (by decide) h3, ?_, ?_, fun q hq => ?_⟩
    · simp only
      rw [rulC_append, List.length_append]
      exact h2
    · simp only
      rw [List.map_append, g.own.map]
      rfl
    · rcases List.mem_append.1 hq with h4 | h4
      · exact own_grown g1.own.rul (g1.own.row q h4) (by decide) h3
      · rw [List.mem_singleton] at h4
        subst h4
        exact own_grown g1.own.rul hx1 (by decide) h3
  refine ⟨ao, _, c, w', hr, rfl, hbox, ?_, ho.box hbox (by decide) (by decide) (by decide), ?_, g.new⟩
  · have : (boxC h G).setIfInBounds 3 (.slice ao (G.rs.length + 1) c) = boxC ⟨h.ta, h.tc, ao, c⟩ ⟨G.ts, G.s, G.e, G.rs ++ [r]⟩ := by
      unfold boxC
      simp
    rw [setCell_eq_setRow w' gb 3 _ 28 (0, 0) _ hbox, this]
    exact setRow_heap _ _ _ _ 28 _ hbox
  · exact (g1.bel.grown h3 (g1.bel.size) (fun k hk => (World.ownsRow.lt g1.own.rul k hk).1)).setCell (p := ⟨gb, 3, none⟩) g.new _

/-- An empty grammar's box. -/
theorem gb_new (w W : World) (s : ByteArray) (e : Int) (hb : Below w.heap.size w W) : GB w (W.alloc (.cells #[.slice none 0 0, .string s, .int .i64 e, .slice none 0 0] 28)) W.heap.size ⟨none, 0, none, 0⟩ ⟨[], s, e, []⟩ [] :=
  ⟨heap_alloc_new _ _, ⟨World.ownsRow_nil _ _ _ _, World.ownsRow_nil _ _ _ _, rfl, fun q h => (by cases h)⟩, below_step hb (below_alloc _ _), hb.size⟩

end Go.Proofs.YtkaojokhdleeiaaGreatDoor

/-
  The walk of GramLimits.
-/
namespace Go.Proofs.YtkaojokhdleeiaaGreatDoor
open Go.RowKit

set_option maxRecDepth 20000

def bS : ByteArray := ⟨#[115]⟩
/-- The token of a number. -/
def tkN (i : Nat) : Tk := ⟨strOfNums [84, 97 + (i : Int) / 10, 48 + (i : Int) % 10], 0, 0⟩
def ruN (k : Nat) : Ru := ⟨bS, List.replicate k bS, e0⟩
/-- The grammar of so many tokens and rules. -/
def limG (t r k : Nat) (e : Int) : Gm := ⟨(List.range t).map tkN, e0, e, List.replicate r (ruN k)⟩

theorem tkN_all : ((List.range 46).all fun i => nameOk (by8 (tkN i).n) && decide ((tkN i).n.size ≤ 100) && ((List.range i).all fun j => !(by8 (tkN j).n == by8 (tkN i).n))) = true := by kernel_rfl
theorem tkN_ok {i : Nat} (h : i < 46) : NameP (tkN i).n ∧ (tkN i).n.size ≤ 100 ∧ ∀ j, j < i → (tkN j).n ≠ (tkN i).n := by
  have := List.all_eq_true.1 tkN_all i (List.mem_range.2 h)
  rw [Bool.and_eq_true, Bool.and_eq_true, decide_eq_true_eq] at this
  refine ⟨this.1.1, this.1.2, fun j hj e => ?_⟩
  have h2 := List.all_eq_true.1 this.2 j (List.mem_range.2 hj)
  rw [e] at h2
  simp at h2

theorem range_map_at {α : Type} (f : Nat → α) (n i : Nat) (x : α) (h : ((List.range n).map f)[i]? = some x) : i < n ∧ x = f i := by
  rw [List.getElem?_map] at h
  obtain ⟨y, hy, rfl⟩ := Option.map_eq_some_iff.1 h
  obtain ⟨h1, h2⟩ := List.getElem?_eq_some_iff.1 hy
  rw [List.length_range] at h1
  rw [List.getElem_range] at h2
  subst h2
  exact ⟨h1, rfl⟩

theorem lev_zero (n : Nat) : levF ((List.range n).map tkN) = some zero9 := by
  induction n with
  | zero => rfl
  | succ n ih =>
    rw [List.range_succ, List.map_append, List.map_singleton, levF_snoc, ih]
    have h1 : LevP (tkN n) := .inl ⟨rfl, rfl⟩
    unfold levS
    simp only
    rw [if_pos ⟨h1, .inl rfl⟩]
    rfl

theorem noGap_zero : NoGap zero9 := fun k _ h2 h3 => by
  exfalso
  apply h3
  match k, h2 with
  | 0, _ => rfl
  | 1, _ => rfl
  | 2, _ => rfl
  | 3, _ => rfl
  | 4, _ => rfl
  | 5, _ => rfl
  | 6, _ => rfl
  | 7, _ => rfl
  | 8, _ => rfl

theorem bS_ok : NameP bS := by unfold NameP; kernel_rfl

theorem lim_may (t r k : Nat) (e : Int) (ht : t ≤ 45) : MayP (limG t r k e) ↔ t ≤ 40 ∧ r ≤ 100 ∧ (k ≤ 20 ∨ r = 0) ∧ 0 ≤ e ∧ e ≤ 9999 := by
  constructor
  · intro h
    have h1 := h.nt
    have h2 := h.nr
    simp only [limG, List.length_map, List.length_range, List.length_replicate] at h1 h2
    refine ⟨h1, h2, ?_, h.e0, h.e1⟩
    rcases Nat.eq_zero_or_pos r with h0 | h0
    · exact .inr h0
    · left
      have := (h.rl (ruN k) (by simp only [limG]; exact List.mem_replicate.2 ⟨by omega, rfl⟩)).2.1
      simpa [ruN] using this
  · rintro ⟨h1, h2, h3, h4, h5⟩
    refine ⟨by simp [limG]; exact h1, by simp [limG]; exact h2, h4, h5, .inl rfl, ⟨?_, zero9, lev_zero t, noGap_zero⟩, ?_⟩
    · intro i x hx
      obtain ⟨hi, rfl⟩ := range_map_at tkN t i x hx
      obtain ⟨a, -, b⟩ := tkN_ok (i := i) (by omega)
      refine ⟨a, fun j u hj hu => ?_⟩
      obtain ⟨-, rfl⟩ := range_map_at tkN t j u hu
      exact b j hj
    · intro x hx
      simp only [limG] at hx
      obtain ⟨hr, rfl⟩ := List.mem_replicate.1 hx
      refine ⟨bS_ok, ?_, .inl rfl, fun y hy => ?_⟩
      · simp only [ruN, List.length_replicate]
        omega
      · simp only [ruN] at hy
        obtain ⟨-, rfl⟩ := List.mem_replicate.1 hy
        exact bS_ok

theorem lim_small (t r k : Nat) (e : Int) (ht : t ≤ 45) (hr : r ≤ 105) (hk : k ≤ 25) : Small (limG t r k e) := by
  have hs : bS.size ≤ 100 := by decide
  have h0 : e0.size ≤ 100 := by decide
  refine ⟨by simp [limG]; omega, by simp [limG]; omega, h0, fun x hx => ?_, fun x hx => ?_⟩
  · simp only [limG] at hx
    rw [List.mem_map] at hx
    obtain ⟨i, hi, rfl⟩ := hx
    exact (tkN_ok (by have := List.mem_range.1 hi; omega)).2.1
  · simp only [limG] at hx
    obtain ⟨-, rfl⟩ := List.mem_replicate.1 hx
    refine ⟨hs, h0, by simp [ruN]; omega, fun y hy => ?_⟩
    simp only [ruN] at hy
    obtain ⟨-, rfl⟩ := List.mem_replicate.1 hy
    exact hs

/-- A grammar's text is not empty. -/
theorem text_ne {G : Gm} {T : ByteArray} (h : TextP G T) (hm : MayP G) : T ≠ ⟨#[]⟩ := fun e => by
  obtain ⟨l, hl, -⟩ := hm.tk.2
  have := h.1 hm l hl
  rw [e] at this
  have h2 : (tx (linesG G l)).length = 0 := by rw [← this]; rfl
  unfold linesG headLn at h2
  rw [tx_append, tx_append] at h2
  simp [tx, lineT] at h2

theorem own_mono {w : World} {base base' E k n : Nat} {v : Value} {cs : List Value} (h : w.ownsRow base E k v n cs) (hb : base' ≤ base) : w.ownsRow base' E k v n cs := by
  refine ⟨h.1, ?_⟩
  rcases h.2 with hn | ⟨g, cap, cur, rfl, hg, r⟩
  · exact .inl hn
  · exact .inr ⟨g, cap, cur, rfl, by omega, r⟩

/-- The inner loop's memory: the rule's box, its symbols. -/
structure RB (w wr : World) (l : List ByteArray) (xa : Option Addr) (m xc : Nat) : Prop where
  box : wr.heap[w.heap.size]? = some (.cells #[.string bS, .slice xa m xc, .string e0] 58 (0, 0))
  own : OwnS wr (w.heap.size + 1) (.slice xa m xc) l
  len : m = l.length
  bel : Below w.heap.size w wr

theorem RB.new (w : World) : RB w (w.alloc (.cells #[.string bS, .slice none 0 0, .string e0] 58)) [] none 0 0 :=
  ⟨heap_alloc_new _ _, World.ownsRow_nil _ _ _ _, rfl, below_alloc _ _⟩

theorem RB.add {w wr : World} {l : List ByteArray} {xa : Option Addr} {m xc : Nat} (h : RB w wr l xa m xc) (hl : l.length ≤ 1000) (s : ByteArray) :
    ∃ ao n c w', (Builtin.append_ #[38, 38] 38 #[.slice xa m xc, .slice (some ⟨wr.heap.size, 0, none⟩) 1 1]).run Tryz.prog (wr.alloc (.cells #[.string s] 9)) = .ok (.slice ao n c) w' ∧ w'.heap[w.heap.size]? = some (.cells #[.string bS, .slice xa m xc, .string e0] 58 (0, 0)) ∧ RB w (w'.setCell ⟨w.heap.size, 1, none⟩ (.slice ao n c)) (l ++ [s]) ao n c := by
  have hlt : w.heap.size < wr.heap.size := (Array.getElem?_eq_some_iff.1 h.box).1
  obtain ⟨ao, n, c, w', hr, hn, ho, hb⟩ := (h.own.below (below_alloc wr (.cells #[.string s] 9))).addRow (new_row wr [s] (by simp)) (by simp; omega) (by simp; omega) rfl
  have hbox : w'.heap[w.heap.size]? = some (.cells #[.string bS, .slice xa m xc, .string e0] 58 (0, 0)) := by
    rw [hb.block _ (by omega), Below.heap_alloc _ _ _ hlt]
    exact h.box
  refine ⟨ao, n, c, w', hr, hbox, ?_, ?_, hn, ?_⟩
  · rw [setCell_eq_setRow w' w.heap.size 1 _ 58 (0, 0) _ hbox]
    exact setRow_heap _ _ _ _ 58 _ hbox
  · refine ownsRow_of_block ho (fun i hi => Below.heap_setCell _ _ _ _ (fun e => ?_))
    simp only at e
    have := (World.ownsRow.lt ho i hi).1
    omega
  · have h1 : Below w.heap.size w w' := (below_step h.bel (below_alloc wr _)).trans (hb.mono (by omega))
    exact h1.setCell (p := ⟨w.heap.size, 1, none⟩) (Nat.le_refl _) _

end Go.Proofs.YtkaojokhdleeiaaGreatDoor

/-
  Grammars of any size as they come in: what their cells hold.
-/
namespace Go.Proofs.YtkaojokhdleeiaaGreatDoor
open Go.RowKit Go.ChangeShapes Go.WideShapes

set_option maxRecDepth 20000


/-- Texts that a slice shows. -/
structure RawS (w : World) (ao : Option Addr) (n cap : Nat) (l : List ByteArray) : Prop where
  len : n = l.length
  le : n ≤ cap ∧ cap ≤ 9223372036854775807
  get : ∀ (i : Nat) (s : ByteArray), l[i]? = some s → ∃ b o, ao = some ⟨b, o, none⟩ ∧ w.cell? ⟨b, o + i, none⟩ = some (.string s)

/-- A grammar that came in. -/
structure RawG (w : World) (h : Hd) (G : Gm) : Prop where
  tl : G.ts.length ≤ h.tc ∧ h.tc ≤ 9223372036854775807
  rl : G.rs.length ≤ h.rc ∧ h.rc ≤ 9223372036854775807
  tok : ∀ (i : Nat) (t : Tk), G.ts[i]? = some t → ∃ b o, h.ta = some ⟨b, o, none⟩ ∧ w.cell? ⟨b, o + i * 3, none⟩ = some (.string t.n) ∧ w.cell? ⟨b, o + i * 3 + 1, none⟩ = some (.int .i64 t.l) ∧ w.cell? ⟨b, o + i * 3 + 2, none⟩ = some (.int .i64 t.a)
  rul : ∀ (i : Nat) (r : Ru), G.rs[i]? = some r → ∃ b o xa xc, h.ra = some ⟨b, o, none⟩ ∧ w.cell? ⟨b, o + i * 3, none⟩ = some (.string r.l) ∧ w.cell? ⟨b, o + i * 3 + 1, none⟩ = some (.slice xa r.r.length xc) ∧ w.cell? ⟨b, o + i * 3 + 2, none⟩ = some (.string r.p) ∧ RawS w xa r.r.length xc r.r

theorem RawS.below {w w' : World} {ao : Option Addr} {n cap : Nat} {l : List ByteArray} (h : RawS w ao n cap l) (hb : Below w.heap.size w w') : RawS w' ao n cap l :=
  ⟨h.len, h.le, fun i s hs => by obtain ⟨b, o, e, c⟩ := h.get i s hs; exact ⟨b, o, e, cell_below hb c⟩⟩

theorem RawG.below {w w' : World} {h : Hd} {G : Gm} (g : RawG w h G) (hb : Below w.heap.size w w') : RawG w' h G :=
  ⟨g.tl, g.rl, fun i t ht => by obtain ⟨b, o, e, c0, c1, c2⟩ := g.tok i t ht; exact ⟨b, o, e, cell_below hb c0, cell_below hb c1, cell_below hb c2⟩,
    fun i r hr => by obtain ⟨b, o, xa, xc, e, c0, c1, c2, c3⟩ := g.rul i r hr; exact ⟨b, o, xa, xc, e, cell_below hb c0, cell_below hb c1, cell_below hb c2, c3.below hb⟩⟩

theorem open_strs' {H : Type} {enc : TypeId × Value → H} {W : World} {fuel : Nat} {cs : List Value} {x : DataW H × List MemPlace} (h : DataW.trod enc Tryz.prog W 0 (fun _ => true) true fuel 38 cs = some x) :
    ∃ (ao : Option Addr) (n cap : Nat) (l : List ByteArray), cs = [.slice ao n cap] ∧ RawS W ao n cap l := by
  rcases Go.Deep.open_strs Tryz.underlying38 Tryz.underlying9 (by kernel_rfl) h with ⟨hcs, _⟩ | ⟨a, len, cap, m, Sx, hcs, _, hl, hm, hmm, _, hx⟩
  · exact ⟨none, 0, 0, [], hcs, rfl, ⟨Nat.le_refl _, by omega⟩, fun i s hs => by cases hs⟩
  · refine ⟨some a, len, cap, (List.range len).map Sx, hcs, by simp, ⟨hl, by unfold maxLen at hm; omega⟩, fun i s hs => ?_⟩
    obtain ⟨hi, rfl⟩ := range_map_at Sx len i s hs
    have hm' : m = cap := by simpa using hmm
    have hc := (hx i (by omega)).1
    have h0 := (hx 0 (by omega)).1
    obtain ⟨b, off, spot⟩ := a
    have hspot : spot = none := by simpa [Addr.add] using World.cell?_spot h0
    subst hspot
    rw [Addr.add_lit] at hc
    exact ⟨b, off, rfl, hc⟩

theorem rule_fields : Tryz.prog.underlying 58 = some (.struct #[⟨"Left", 9, 0, false, "", "", 0⟩, ⟨"Right", 38, 1, false, "", "", 16⟩, ⟨"Prec", 9, 2, false, "", "", 40⟩]) := by kernel_rfl
theorem tok_fields : Tryz.prog.underlying 50 = some (.struct #[⟨"Name", 9, 0, false, "", "", 0⟩, ⟨"Level", 3, 1, false, "", "", 16⟩, ⟨"Assoc", 3, 2, false, "", "", 24⟩]) := by kernel_rfl
theorem c9 : Tryz.prog.cellsOf 9 = 1 := by kernel_rfl
theorem c3' : Tryz.prog.cellsOf 3 = 1 := by kernel_rfl
theorem c37 : Tryz.prog.cellsOf 38 = 1 := by kernel_rfl
theorem c35 : Tryz.prog.cellsOf 50 = 3 := by kernel_rfl
theorem c39 : Tryz.prog.cellsOf 58 = 3 := by kernel_rfl
theorem c22 : Tryz.prog.cellsOf 25 = 1 := by kernel_rfl
theorem c23 : Tryz.prog.cellsOf 26 = 1 := by kernel_rfl
theorem c25 : Tryz.prog.cellsOf 28 = 4 := by kernel_rfl

/-- Three cells behind an address. -/
theorem three_cells {W : World} {a : Addr} {i : Nat} {cs : List Value} (h : W.cells? 0 (a.add (i * 3)) 3 = some cs) : ∃ v0 v1 v2, cs = [v0, v1, v2] ∧ W.cell? (a.add (i * 3)) = some v0 ∧ W.cell? (a.add (i * 3 + 1)) = some v1 ∧ W.cell? (a.add (i * 3 + 2)) = some v2 := by
  obtain ⟨_, hlen, hcell⟩ := World.cells?_some h
  match cs, hlen with
  | [v0, v1, v2], _ =>
    have e0 := hcell 0 (by omega)
    have e1 := hcell 1 (by omega)
    have e2 := hcell 2 (by omega)
    rw [Go.Deep.add_add] at e0 e1 e2
    exact ⟨v0, v1, v2, rfl, by simpa using e0, by simpa using e1, by simpa using e2⟩

theorem open_toks {H : Type} {enc : TypeId × Value → H} {W : World} {fuel : Nat} {cs : List Value} {x : DataW H × List MemPlace} (h : DataW.trod enc Tryz.prog W 0 (fun _ => true) true fuel 25 cs = some x) :
    ∃ (ao : Option Addr) (n cap : Nat) (ts : List Tk), cs = [.slice ao n cap] ∧ n = ts.length ∧ (n ≤ cap ∧ cap ≤ 9223372036854775807) ∧
      ∀ (i : Nat) (t : Tk), ts[i]? = some t → ∃ b o, ao = some ⟨b, o, none⟩ ∧ W.cell? ⟨b, o + i * 3, none⟩ = some (.string t.n) ∧ W.cell? ⟨b, o + i * 3 + 1, none⟩ = some (.int .i64 t.l) ∧ W.cell? ⟨b, o + i * 3 + 2, none⟩ = some (.int .i64 t.a) := by
  rcases Go.Deep.open_slice Tryz.underlying25 h with ⟨hcs, _⟩ | ⟨a, len, cap, m, n, D, Pl, hcs, _, hl, hm, hmm, _, hx⟩
  · exact ⟨none, 0, 0, [], hcs, rfl, ⟨Nat.le_refl _, by omega⟩, fun i s hs => by cases hs⟩
  · have hm' : m = cap := by simpa using hmm
    rw [c35] at hx
    have each : ∀ i, i < len → ∃ t : Tk, W.cell? (a.add (i * 3)) = some (.string t.n) ∧ W.cell? (a.add (i * 3 + 1)) = some (.int .i64 t.l) ∧ W.cell? (a.add (i * 3 + 2)) = some (.int .i64 t.a) := fun i hi => by
      obtain ⟨cs', h1, h2⟩ := hx i (by omega)
      obtain ⟨v0, v1, v2, rfl, e0, e1, e2⟩ := three_cells h1
      obtain ⟨y0, y1, y2, k, _, _, f0, f1, f2⟩ := Go.Deep.trod_struct3 tok_fields h2
      simp [c9, c3'] at f0 f1 f2
      obtain ⟨s, hs, -⟩ := DataW.trod_string Tryz.underlying9 f0
      obtain ⟨i1, g1, -⟩ := DataW.trod_int Tryz.underlying3 f1
      obtain ⟨i2, g2, -⟩ := DataW.trod_int Tryz.underlying3 f2
      simp only [List.cons.injEq, and_true] at hs g1 g2
      exact ⟨⟨s, i1, i2⟩, by rw [e0, hs], by rw [e1, g1], by rw [e2, g2]⟩
    haveI : Inhabited Tk := ⟨⟨⟨#[]⟩, 0, 0⟩⟩
    obtain ⟨f, hf⟩ := Go.Deep.choose_lt each
    refine ⟨some a, len, cap, (List.range len).map f, hcs, by simp, ⟨hl, by unfold maxLen at hm; omega⟩, fun i t ht => ?_⟩
    obtain ⟨hi, rfl⟩ := range_map_at f len i t ht
    obtain ⟨k0, k1, k2⟩ := hf i hi
    obtain ⟨b, off, spot⟩ := a
    have hspot : spot = none := by simpa [Addr.add] using World.cell?_spot (hf 0 (by omega)).1
    subst hspot
    rw [Addr.add_lit] at k0 k1 k2
    exact ⟨b, off, rfl, k0, k1, k2⟩

theorem open_ruls {H : Type} {enc : TypeId × Value → H} {W : World} {fuel : Nat} {cs : List Value} {x : DataW H × List MemPlace} (h : DataW.trod enc Tryz.prog W 0 (fun _ => true) true fuel 26 cs = some x) :
    ∃ (ao : Option Addr) (n cap : Nat) (rs : List Ru), cs = [.slice ao n cap] ∧ n = rs.length ∧ (n ≤ cap ∧ cap ≤ 9223372036854775807) ∧
      ∀ (i : Nat) (r : Ru), rs[i]? = some r → ∃ b o xa xc, ao = some ⟨b, o, none⟩ ∧ W.cell? ⟨b, o + i * 3, none⟩ = some (.string r.l) ∧ W.cell? ⟨b, o + i * 3 + 1, none⟩ = some (.slice xa r.r.length xc) ∧ W.cell? ⟨b, o + i * 3 + 2, none⟩ = some (.string r.p) ∧ RawS W xa r.r.length xc r.r := by
  rcases Go.Deep.open_slice Tryz.underlying26 h with ⟨hcs, _⟩ | ⟨a, len, cap, m, n, D, Pl, hcs, _, hl, hm, hmm, _, hx⟩
  · exact ⟨none, 0, 0, [], hcs, rfl, ⟨Nat.le_refl _, by omega⟩, fun i s hs => by cases hs⟩
  · have hm' : m = cap := by simpa using hmm
    rw [c39] at hx
    have each : ∀ i, i < len → ∃ r : Ru, ∃ xa xc, W.cell? (a.add (i * 3)) = some (.string r.l) ∧ W.cell? (a.add (i * 3 + 1)) = some (.slice xa r.r.length xc) ∧ W.cell? (a.add (i * 3 + 2)) = some (.string r.p) ∧ RawS W xa r.r.length xc r.r := fun i hi => by
      obtain ⟨cs', h1, h2⟩ := hx i (by omega)
      obtain ⟨v0, v1, v2, rfl, e0, e1, e2⟩ := three_cells h1
      obtain ⟨y0, y1, y2, k, _, _, f0, f1, f2⟩ := Go.Deep.trod_struct3 rule_fields h2
      simp [c9, c37] at f0 f1 f2
      obtain ⟨s, hs, -⟩ := DataW.trod_string Tryz.underlying9 f0
      obtain ⟨xa, xn, xc, l, g1, hl⟩ := open_strs' f1
      obtain ⟨p, hp, -⟩ := DataW.trod_string Tryz.underlying9 f2
      simp only [List.cons.injEq, and_true] at hs g1 hp
      have hln := hl.len
      subst hln
      exact ⟨⟨s, l, p⟩, xa, xc, by rw [e0, hs], by rw [e1, g1], by rw [e2, hp], hl⟩
    haveI : Inhabited Ru := ⟨⟨⟨#[]⟩, [], ⟨#[]⟩⟩⟩
    obtain ⟨f, hf⟩ := Go.Deep.choose_lt each
    refine ⟨some a, len, cap, (List.range len).map f, hcs, by simp, ⟨hl, by unfold maxLen at hm; omega⟩, fun i t ht => ?_⟩
    obtain ⟨hi, rfl⟩ := range_map_at f len i t ht
    obtain ⟨xa, xc, k0, k1, k2, k3⟩ := hf i hi
    obtain ⟨b, off, spot⟩ := a
    have hspot : spot = none := by
      obtain ⟨_, _, z0, -⟩ := hf 0 (by omega)
      simpa [Addr.add] using World.cell?_spot z0
    subst hspot
    rw [Addr.add_lit] at k0 k1 k2
    exact ⟨b, off, xa, xc, rfl, k0, k1, k2, k3⟩

theorem gram_fields : Tryz.prog.underlying 28 = some (.struct #[⟨"Tokens", 25, 0, false, "", "", 0⟩, ⟨"Start", 9, 1, false, "", "", 24⟩, ⟨"Expect", 3, 2, false, "", "", 40⟩, ⟨"Rules", 26, 3, false, "", "", 48⟩]) := by kernel_rfl

theorem four_array {cs : Array Value} (h : cs.size = 4) : ∃ a0 a1 a2 a3, cs = #[a0, a1, a2, a3] := by
  match cs, h with
  | ⟨[a0, a1, a2, a3]⟩, _ => exact ⟨a0, a1, a2, a3, rfl⟩

set_option maxRecDepth 20000 in
/-- A grammar among the arguments. -/
theorem open_gram {H : Type} {enc : TypeId × Value → H} {W : World} {b0 : Nat} {v : Value} {d : DataW H} {ps : List MemPlace} (hval : Value.okWide Tryz.prog W .any b0 28 v) (hd : DataW.Trod enc Tryz.prog W 0 (fun _ => true) true 28 v d ps) : ∃ h G, v = gv h G ∧ RawG W h G := by
  obtain ⟨cs, rfl, hsz⟩ := okWide_struct gram_fields hval
  rw [c25] at hsz
  obtain ⟨fuel, hf⟩ := hd
  obtain ⟨xs, n, _, _, hl, hlen, hfs⟩ := DataW.trod_struct gram_fields hf
  obtain ⟨a0, a1, a2, a3, rfl⟩ := four_array hsz
  match xs, hlen with
  | [y0, y1, y2, y3], _ =>
    have g0 := hfs 0 _ rfl
    have g1 := hfs 1 _ rfl
    have g2 := hfs 2 _ rfl
    have g3 := hfs 3 _ rfl
    simp [Value.cells, c22, c9, c3', c23] at g0 g1 g2 g3
    obtain ⟨ta, tn, tc, ts, e0, htn, htl, htok⟩ := open_toks g0
    obtain ⟨s, hs, -⟩ := DataW.trod_string Tryz.underlying9 g1
    obtain ⟨e, he, -⟩ := DataW.trod_int Tryz.underlying3 g2
    obtain ⟨ra, rn, rc, rs, e3, hrn, hrl, hrul⟩ := open_ruls g3
    simp only [List.cons.injEq, and_true] at e0 hs he e3
    subst e0 hs he e3 htn hrn
    exact ⟨⟨ta, tc, ra, rc⟩, ⟨ts, s, e, rs⟩, rfl, htl, hrl, htok, hrul⟩
end Go.Proofs.YtkaojokhdleeiaaGreatDoor

/-
  The walk of Cut: out of any grammar one that is not too great, in memory of its own.
-/
namespace Go.Proofs.YtkaojokhdleeiaaGreatDoor
open Go.RowKit

set_option maxRecDepth 20000

def cutT (t : Tk) : Tk := ⟨cutS t.n 15, t.l, t.a⟩
def cutR (r : Ru) : Ru := ⟨cutS r.l 15, (r.r.take 22).map (fun x => cutS x 15), cutS r.p 15⟩
def cutG (G : Gm) : Gm := ⟨(G.ts.take 42).map cutT, cutS G.s 15, G.e, (G.rs.take 105).map cutR⟩

theorem cut_small (G : Gm) : Small (cutG G) := by
  have h := fun s : ByteArray => cutS_size s 15
  refine ⟨?_, ?_, by have := h G.s; simp only [cutG]; omega, ?_, ?_⟩
  · simp only [cutG, List.length_map, List.length_take]; omega
  · simp only [cutG, List.length_map, List.length_take]; omega
  · intro t ht
    simp only [cutG] at ht
    obtain ⟨u, -, rfl⟩ := List.mem_map.1 ht
    have := h u.n
    simp only [cutT]; omega
  · intro r hr
    simp only [cutG] at hr
    obtain ⟨u, -, rfl⟩ := List.mem_map.1 hr
    refine ⟨by have := h u.l; simp only [cutR]; omega, by have := h u.p; simp only [cutR]; omega, by simp only [cutR, List.length_map, List.length_take]; omega, ?_⟩
    intro x hx
    simp only [cutR] at hx
    obtain ⟨y, -, rfl⟩ := List.mem_map.1 hx
    have := h y
    omega

/-- The inner loop's memory: the rule's box, its symbols. -/
structure RC (w wr : World) (L P : ByteArray) (l : List ByteArray) (xa : Option Addr) (m xc : Nat) : Prop where
  box : wr.heap[w.heap.size]? = some (.cells #[.string L, .slice xa m xc, .string P] 58 (0, 0))
  own : OwnS wr (w.heap.size + 1) (.slice xa m xc) l
  len : m = l.length
  bel : Below w.heap.size w wr

theorem RC.new (w : World) (L P : ByteArray) : RC w (w.alloc (.cells #[.string L, .slice none 0 0, .string P] 58)) L P [] none 0 0 :=
  ⟨heap_alloc_new _ _, World.ownsRow_nil _ _ _ _, rfl, below_alloc _ _⟩

theorem RC.step {w wr wr' : World} {L P : ByteArray} {l : List ByteArray} {xa : Option Addr} {m xc : Nat} (h : RC w wr L P l xa m xc) (hb : Below wr.heap.size wr wr') : RC w wr' L P l xa m xc :=
  ⟨block_below hb h.box, h.own.below hb, h.len, below_step h.bel hb⟩

theorem RC.add {w wr : World} {L P : ByteArray} {l : List ByteArray} {xa : Option Addr} {m xc : Nat} (h : RC w wr L P l xa m xc) (hl : l.length ≤ 1000) (s : ByteArray) :
    ∃ ao n c w', (Builtin.append_ #[38, 38] 38 #[.slice xa m xc, .slice (some ⟨wr.heap.size, 0, none⟩) 1 1]).run Tryz.prog (wr.alloc (.cells #[.string s] 9)) = .ok (.slice ao n c) w' ∧ w'.heap[w.heap.size]? = some (.cells #[.string L, .slice xa m xc, .string P] 58 (0, 0)) ∧ RC w (w'.setCell ⟨w.heap.size, 1, none⟩ (.slice ao n c)) L P (l ++ [s]) ao n c := by
  have hlt : w.heap.size < wr.heap.size := (Array.getElem?_eq_some_iff.1 h.box).1
  obtain ⟨ao, n, c, w', hr, hn, ho, hb⟩ := (h.own.below (below_alloc wr (.cells #[.string s] 9))).addRow (new_row wr [s] (by simp)) (by simp; omega) (by simp; omega) rfl
  have hbox : w'.heap[w.heap.size]? = some (.cells #[.string L, .slice xa m xc, .string P] 58 (0, 0)) := by
    rw [hb.block _ (by omega), Below.heap_alloc _ _ _ hlt]
    exact h.box
  refine ⟨ao, n, c, w', hr, hbox, ?_, ?_, hn, ?_⟩
  · rw [setCell_eq_setRow w' w.heap.size 1 _ 58 (0, 0) _ hbox]
    exact setRow_heap _ _ _ _ 58 _ hbox
  · refine ownsRow_of_block ho (fun i hi => Below.heap_setCell _ _ _ _ (fun e => ?_))
    simp only at e
    have := (World.ownsRow.lt ho i hi).1
    omega
  · have h1 : Below w.heap.size w w' := (below_step h.bel (below_alloc wr _)).trans (hb.mono (by omega))
    exact h1.setCell (p := ⟨w.heap.size, 1, none⟩) (Nat.le_refl _) _

/-- append as one step of a region that draws, its run told. -/
theorem step_append_told {ops : Array Oper} {o : Oper} {a : Act} {w w' : World} {K : Act → World → Prop} {Q : Exit → Act → World → Prop} {E : Prop} {u v r : Value} {t : TypeId}
    (hg : o.guard = none) (s x : Operand) (hop : o.op = Op.call { callee := Callee.builtin Builtin.append, args := #[s, x], argTypes := #[t, t] }) (ht : o.type = t)
    (hs : a.eval s = u) (hx : a.eval x = v) (hrun : (Builtin.append_ #[t, t] t #[u, v]).run Tryz.prog w = .ok r w')
    (hK : K (a.put o.dst r) w') :
    if Region.wanted o (yielded ops a.tmps) = true then Oper.wp Tryz.prog o a w K Q else E := by
  have hw : Region.wanted o (yielded ops a.tmps) = true := by simp [Region.wanted, hg]
  rw [if_pos hw]
  unfold Oper.wp
  simp [execOp, hop, resolve, invoke, builtin, hs, hx, ht, hrun, Result.andThen]
  exact hK

/-- A call as one step of a region that draws, its answer told. -/
theorem step_call_told {ops : Array Oper} {o : Oper} {a : Act} {w : World} {K : Act → World → Prop} {Q : Exit → Act → World → Prop} {E : Prop} (hg : o.guard = none)
    (f : FuncId) (args : Array Value) (v : Value) (hrun : (execOp a.eval o).run Tryz.prog w = .ok (.enter f args) w)
    (hc : Calls Tryz.prog f args w fun e w' => e = .returned v ∧ w' = w) (hK : K (a.put o.dst v) w) :
    if Region.wanted o (yielded ops a.tmps) = true then Oper.wp Tryz.prog o a w K Q else E := by
  have hw : Region.wanted o (yielded ops a.tmps) = true := by simp [Region.wanted, hg]
  rw [if_pos hw]
  unfold Oper.wp
  rw [hrun, Oper.upon_enter]
  refine hc.mono fun e w'' hh => ?_
  obtain ⟨rfl, rfl⟩ := hh
  exact hK

theorem below_drew' (w : World) : Below w.heap.size w w.drew := ⟨rfl, rfl, rfl, Nat.le_refl _, fun _ _ => rfl⟩

set_option maxHeartbeats 8000000 in
set_option maxRecDepth 20000 in
theorem cutG_calls (G : Gm) (h : Hd) (w : World) (hG : RawG w h G) : Calls Tryz.prog 13 #[gv h G] w fun e w' => ∃ h' qs, e = .returned (gv h' (cutG G)) ∧ OwnG w' w.heap.size h' (cutG G) qs ∧ Below w.heap.size w w' := by
  obtain ⟨ts, st, ex, rs⟩ := G
  obtain ⟨ta, tc, ra, rc⟩ := h
  unfold gv
  simp only
  have HG : Hid (RawG w ⟨ta, tc, ra, rc⟩ ⟨ts, st, ex, rs⟩) := hG
  clear hG
  have HR : Hid (RawG ((w.alloc (.cells #[.slice ta ts.length tc, .string st, .int .i64 ex, .slice ra rs.length rc] 28)).alloc (.cells #[.slice none 0 0, .string ⟨#[]⟩, .int .i64 0, .slice none 0 0] 28)) ⟨ta, tc, ra, rc⟩ ⟨ts, st, ex, rs⟩) := HG.out.below (below_step (below_alloc _ _) (below_alloc _ _))
  have HB : Hid (Below w.heap.size w ((w.alloc (.cells #[.slice ta ts.length tc, .string st, .int .i64 ex, .slice ra rs.length rc] 28)).alloc (.cells #[.slice none 0 0, .string ⟨#[]⟩, .int .i64 0, .slice none 0 0] 28))) := below_step (below_alloc _ _) (below_alloc _ _)
  have hb0 : ((w.alloc (.cells #[.slice ta ts.length tc, .string st, .int .i64 ex, .slice ra rs.length rc] 28)).alloc (.cells #[.slice none 0 0, .string ⟨#[]⟩, .int .i64 0, .slice none 0 0] 28)).heap[w.heap.size]? = some (.cells #[.slice ta ts.length tc, .string st, .int .i64 ex, .slice ra rs.length rc] 28 (0, 0)) := block_below (below_alloc _ _) (heap_alloc_new _ _)
  have hb1 : ((w.alloc (.cells #[.slice ta ts.length tc, .string st, .int .i64 ex, .slice ra rs.length rc] 28)).alloc (.cells #[.slice none 0 0, .string ⟨#[]⟩, .int .i64 0, .slice none 0 0] 28)).heap[w.heap.size + 1]? = some (.cells #[.slice none 0 0, .string ⟨#[]⟩, .int .i64 0, .slice none 0 0] 28 (0, 0)) := by
    have := heap_alloc_new (w.alloc (.cells #[.slice ta ts.length tc, .string st, .int .i64 ex, .slice ra rs.length rc] 28)) (.cells #[.slice none 0 0, .string ⟨#[]⟩, .int .i64 0, .slice none 0 0] 28)
    rwa [size_alloc1] at this
  have hs2 : ((w.alloc (.cells #[.slice ta ts.length tc, .string st, .int .i64 ex, .slice ra rs.length rc] 28)).alloc (.cells #[.slice none 0 0, .string ⟨#[]⟩, .int .i64 0, .slice none 0 0] 28)).heap.size = w.heap.size + 1 + 1 := by rw [size_alloc1, size_alloc1]
  have HL : Hid (ts.length ≤ tc ∧ tc ≤ 9223372036854775807 ∧ rs.length ≤ rc ∧ rc ≤ 9223372036854775807) := ⟨HG.out.tl.1, HG.out.tl.2, HG.out.rl.1, HG.out.rl.2⟩
  clear HG
  generalize etn : ts.length = tn at *
  generalize ern : rs.length = rn at *
  have HT : Hid (ts.length = tn ∧ rs.length = rn) := ⟨etn, ern⟩
  clear etn ern
  go_enter Tryz.func13, Tryz.ntmps13
  go_upto_region 1 with fail
  generalize (w.alloc (.cells #[.slice ta tn tc, .string st, .int .i64 ex, .slice ra rn rc] 28)).alloc (.cells #[.slice none 0 0, .string ⟨#[]⟩, .int .i64 0, .slice none 0 0] 28) = W at HR HB hb0 hb1 hs2 ⊢
  obtain ⟨nb, hnb⟩ : ∃ nb, nb = w.heap.size := ⟨_, rfl⟩
  have HN : Hid (nb = w.heap.size ∧ W.heap.size = nb + 1 + 1) := ⟨hnb, by rw [hnb]; exact hs2⟩
  rw [← hnb] at hb0 hb1 ⊢
  clear hs2
  have HX : Hid (W.heap[nb]? = some (.cells #[.slice ta tn tc, .string st, .int .i64 ex, .slice ra rn rc] 28 (0, 0)) ∧ W.heap[nb + 1]? = some (.cells #[.slice none 0 0, .string ⟨#[]⟩, .int .i64 0, .slice none 0 0] 28 (0, 0))) := ⟨hb0, hb1⟩
  have x1 : W.cell? ⟨nb, 1, none⟩ = some (.string st) := by rw [cell_block hb0]; rfl
  have x2 : W.cell? ⟨nb, 2, none⟩ = some (.int .i64 ex) := by rw [cell_block hb0]; rfl
  clear hb0 hb1 hnb
  obtain ⟨gb, hgb⟩ : ∃ gb, gb = W.heap.size := ⟨_, rfl⟩
  have HGB : Hid (gb = W.heap.size) := hgb
  go_cut [3] (fun s wd => s = .pointer (some ⟨gb, 0, none⟩) ∧ Hid (GB W wd gb ⟨none, 0, none, 0⟩ ⟨[], cutS st 15, ex, []⟩ []))
  case first =>
    go_region_held (fun w' => w'.cell? ⟨nb, 1, none⟩ = some (.string st) ∧ w'.cell? ⟨nb, 2, none⟩ = some (.int .i64 ex)) (go_keep) (first | (go_at_call 11; refine (cut_calls st 15 _).mono ?_; rintro e w' ⟨rfl, rfl⟩))
    all_goals
      go_wp2_with fail
      go_meet
      refine ⟨by rw [hgb], ?_⟩
      rw [hgb]
      exact (gb_new W W (cutS st 15) ex (Below.refl _ _)).step (below_drew' _)
  case rest =>
    obtain ⟨rfl, J0⟩ := hcut
    obtain ⟨w3, hw3⟩ : ∃ w3, w3 = wc := ⟨_, rfl⟩
    subst wc
    clear hgb x1 x2
    have hl1 := HL.out.1
    have hl2 := HL.out.2.1
    have hl3 := HL.out.2.2.1
    have hl4 := HL.out.2.2.2
    go_upto_block 0 with fail
    go_cut [4] (fun s4 wd => Hid (∃ h, GB W wd gb h ⟨(ts.take 42).map cutT, cutS st 15, ex, []⟩ []))
    case first =>
      go_wp2_with fail
      go_loopg [4] tn (fun kx s4 wr => ∃ i : Nat, s4 = .int .i64 i ∧ i ≤ tn ∧ i ≤ 42 ∧ tn - i ≤ kx ∧ Hid (∃ h, GB W wr gb h ⟨(ts.take i).map cutT, cutS st 15, ex, []⟩ []))
      case atStart => exact ⟨0, rfl, Nat.zero_le _, Nat.zero_le _, by omega, (⟨_, J0.out⟩ : ∃ h, GB W w3 gb h ⟨(ts.take 0).map cutT, cutS st 15, ex, []⟩ [])⟩
      case round =>
        obtain ⟨i, rfl, hi, hi42, hg, J⟩ := hrel
        clear J0
        obtain ⟨⟨a1, k1, a2, k2⟩, hG⟩ := J.out
        have x0 : wr.cell? ⟨nb, 0, none⟩ = some (.slice ta tn tc) := cell_below hG.bel (by rw [cell_block HX.out.1]; rfl)
        have eli : ((ts.take i).map cutT).length = i := by rw [List.length_map, List.length_take, HT.out.1]; omega
        by_cases hlt : i < tn
        · by_cases h42 : i < 42
          · have hlt' : (i : Int) < (tn : Int) := by omega
            have h42' : (i : Int) < 42 := by omega
            obtain ⟨t, ht⟩ : ∃ t, ts[i]? = some t := ⟨ts[i]'(by rw [HT.out.1]; exact hlt), List.getElem?_eq_getElem _⟩
            obtain ⟨b, o, hta, c0, c1, c2⟩ := (HR.out.below hG.bel).tok i t ht
            simp only at hta
            subst hta
            obtain ⟨tn', tl, tA⟩ := t
            simp only at c0 c1 c2
            have hG1 := hG.step (below_alloc wr (.cells #[.string (cutS tn' 15), .int .i64 tl, .int .i64 tA] 50))
            obtain ⟨e0, -, -, -, -⟩ := hG.cells
            simp only [eli] at e0
            have e0' := cell_alloc e0 (.cells #[.string (cutS tn' 15), .int .i64 tl, .int .i64 tA] 50)
            obtain ⟨ao, n, c, w5, hrun, hn, hbox, hG2⟩ := hG1.addTok (by simp only; rw [eli]; omega) ⟨cutS tn' 15, tl, tA⟩
            simp only [eli, size_alloc1] at hrun
            have d0 : w5.cell? ⟨gb, 0, none⟩ = some (.slice a1 i k1) := by rw [cell_block hbox]; show some (Value.slice a1 ((ts.take i).map cutT).length k1) = _; rw [eli]
            have f0 : w5.frozen? ⟨gb, 0, none⟩ = false := frozen_block hbox 0
            have HF : Hid (∃ h, GB W (w5.setCell ⟨gb, 0, none⟩ (.slice ao n c)) gb h ⟨(ts.take (i + 1)).map cutT, cutS st 15, ex, []⟩ []) := by
              have e : (ts.take (i + 1)).map cutT = (ts.take i).map cutT ++ [cutT ⟨tn', tl, tA⟩] := by rw [take_succ ht, List.map_append]; rfl
              rw [e]
              exact ⟨_, hG2⟩
            clear hG hG1 hG2 hbox J hn eli ht
            go_wp2_with fail
            refine (cut_calls tn' 15 _).mono ?_
            rintro e w' ⟨rfl, rfl⟩
            generalize cutS tn' 15 = nm at *
            go_wp2_with (at_builtin; refine Lib.wpList_append_run _ rfl _ _ _ _ rfl _ _ rfl rfl _ _ hrun ?_)
            go_roundg (tn - (i + 1))
            case measure => omega
            case rel => exact ⟨i + 1, by simp, by omega, by omega, Nat.le_refl _, HF⟩
          · have hlt' : (i : Int) < (tn : Int) := by omega
            have h42' : ¬ (i : Int) < 42 := by omega
            have HF : Hid (∃ h, GB W wr gb h ⟨(ts.take 42).map cutT, cutS st 15, ex, []⟩ []) := by
              have : i = 42 := by omega
              subst this
              exact J.out
            clear hG J eli
            go_wp2_with fail
            go_meet
            exact HF
        · have hlt' : ¬ (i : Int) < (tn : Int) := by omega
          have HF : Hid (∃ h, GB W wr gb h ⟨(ts.take 42).map cutT, cutS st 15, ex, []⟩ []) := by
            have e : ts.take 42 = ts.take i := by rw [List.take_of_length_le (by rw [HT.out.1]; omega), List.take_of_length_le (by rw [HT.out.1]; omega)]
            rw [e]
            exact J.out
          clear hG J eli
          go_wp2_with fail
          go_meet
          exact HF
    case rest =>
      obtain ⟨w4, hw4⟩ : ∃ w4, w4 = wc := ⟨_, rfl⟩
      subst wc
      obtain ⟨h4, hG4⟩ := hcut.out
      have HG4 : Hid (∃ h qs, GB W w4 gb h ⟨(ts.take 42).map cutT, cutS st 15, ex, []⟩ qs) := ⟨h4, [], hG4⟩
      clear hcut hG4 J0
      go_upto_block 2 with fail
      go_cut [6] (fun s6 wd => Hid (∃ h qs, GB W wd gb h (cutG ⟨ts, st, ex, rs⟩) qs))
      case first =>
        go_wp2_with fail
        go_loopg [6] rn (fun kx s6 wr => ∃ i : Nat, s6 = .int .i64 i ∧ i ≤ rn ∧ i ≤ 105 ∧ rn - i ≤ kx ∧ Hid (∃ h qs, GB W wr gb h ⟨(ts.take 42).map cutT, cutS st 15, ex, (rs.take i).map cutR⟩ qs))
        case atStart => exact ⟨0, rfl, Nat.zero_le _, Nat.zero_le _, by omega, HG4⟩
        case round =>
          obtain ⟨i, rfl, hi, hi105, hg, J⟩ := hrel
          clear HG4
          obtain ⟨⟨a1, k1, a2, k2⟩, qs, hG⟩ := J.out
          have x3 : wr.cell? ⟨nb, 3, none⟩ = some (.slice ra rn rc) := cell_below hG.bel (by rw [cell_block HX.out.1]; rfl)
          by_cases hlt : i < rn
          · by_cases h105 : i < 105
            · have hlt' : (i : Int) < (rn : Int) := by omega
              have h105' : (i : Int) < 105 := by omega
              obtain ⟨r, hr⟩ : ∃ r, rs[i]? = some r := ⟨rs[i]'(by rw [HT.out.2]; exact hlt), List.getElem?_eq_getElem _⟩
              obtain ⟨b, o, xa, xc, hra, c0, c1, c2, hxs⟩ := (HR.out.below hG.bel).rul i r hr
              simp only at hra
              subst hra
              obtain ⟨rl, rr, rp⟩ := r
              simp only at c0 c1 c2 hxs
              obtain ⟨wo, hwo⟩ : ∃ wo, wo = wr := ⟨_, rfl⟩
              subst wr
              have HXS : Hid (RawS wo xa rr.length xc rr) := hxs
              have HRR : Hid (rs[i]? = some ⟨rl, rr, rp⟩) := hr
              have HGO : Hid (GB W wo gb ⟨a1, k1, a2, k2⟩ ⟨(ts.take 42).map cutT, cutS st 15, ex, (rs.take i).map cutR⟩ qs) := hG
              have HCC : Hid (wo.cell? ⟨nb, 3, none⟩ = some (.slice (some ⟨b, o, none⟩) rn rc) ∧ wo.cell? ⟨b, o + i * 3 + 1, none⟩ = some (.slice xa rr.length xc)) := ⟨x3, c1⟩
              have hxl := hxs.le
              clear hxs hr hG J c1
              generalize exn : rr.length = xn at *
              have HXN : Hid (rr.length = xn) := exn
              clear exn
              go_upto_region 11 with fail
              go_cut [7] from 41 to 102 (fun s wd => s = .pointer (some ⟨wo.heap.size, 0, none⟩) ∧ Hid (RC wo wd (cutS rl 15) (cutS rp 15) [] none 0 0))
              case first =>
                go_region_held (fun w' => w'.cell? ⟨nb, 3, none⟩ = some (.slice (some ⟨b, o, none⟩) rn rc) ∧ w'.cell? ⟨b, o + i * 3, none⟩ = some (.string rl) ∧ w'.cell? ⟨b, o + i * 3 + 2, none⟩ = some (.string rp)) (go_keep)
                  (first | (go_at_call_of 11 (Value.string rl); refine (cut_calls rl 15 _).mono ?_; rintro e w' ⟨rfl, rfl⟩) | (go_at_call_of 11 (Value.string rp); refine (cut_calls rp 15 _).mono ?_; rintro e w' ⟨rfl, rfl⟩))
                all_goals
                  go_wp2_with fail
                  go_meet
                  exact ⟨rfl, (RC.new wo (cutS rl 15) (cutS rp 15)).step (below_drew' _)⟩
              case rest =>
                obtain ⟨rfl, R0⟩ := hcut
                obtain ⟨w5, hw5⟩ : ∃ w5, w5 = wc := ⟨_, rfl⟩
                subst wc
                clear c0 c2 x3
                obtain ⟨rb, hrb⟩ : ∃ rb, rb = wo.heap.size := ⟨_, rfl⟩
                have HRB : Hid (rb = wo.heap.size) := hrb
                rw [← hrb]
                clear hrb
                go_upto_block 4 with fail
                go_cut [8] from 41 to 102 (fun s8 wd => Hid (∃ ya yc, RC wo wd (cutS rl 15) (cutS rp 15) ((rr.take 22).map (fun x => cutS x 15)) ya (min xn 22) yc))
                case first =>
                  go_wp2_with fail
                  go_loopg [8] xn (fun kx s8 wr => ∃ k : Nat, s8 = .int .i64 k ∧ k ≤ xn ∧ k ≤ 22 ∧ xn - k ≤ kx ∧ Hid (∃ ya yc, RC wo wr (cutS rl 15) (cutS rp 15) ((rr.take k).map (fun x => cutS x 15)) ya k yc))
                  case atStart => exact ⟨0, rfl, Nat.zero_le _, Nat.zero_le _, by omega, (⟨_, _, R0.out⟩ : ∃ ya yc, RC wo w5 (cutS rl 15) (cutS rp 15) ((rr.take 0).map (fun x => cutS x 15)) ya 0 yc)⟩
                  case round =>
                    obtain ⟨k, rfl, hk, hk22, hg2, K⟩ := hrel
                    clear R0
                    obtain ⟨ya, yc, hR⟩ := K.out
                    have q3 := cell_below hR.bel HCC.out.1
                    have q1 := cell_below hR.bel HCC.out.2
                    by_cases hklt : k < xn
                    · by_cases h22 : k < 22
                      · have hklt' : (k : Int) < (xn : Int) := by omega
                        have h22' : (k : Int) < 22 := by omega
                        obtain ⟨s, hs⟩ : ∃ s, rr[k]? = some s := ⟨rr[k]'(by rw [HXN.out]; exact hklt), List.getElem?_eq_getElem _⟩
                        obtain ⟨b2, o2, hxa, qs2⟩ := (HXS.out.below hR.bel).get k s hs
                        subst hxa
                        have p1 : wr.cell? ⟨rb, 1, none⟩ = some (.slice ya k yc) := by rw [HRB.out, cell_block hR.box]; rfl
                        have elk : ((rr.take k).map (fun x => cutS x 15)).length = k := by rw [List.length_map, List.length_take, HXN.out]; omega
                        obtain ⟨ao, n, c, w6, hrun, hbox, hR2⟩ := (hR.step (below_drew' wr)).add (by rw [elk]; omega) (cutS s 15)
                        have hrun2 : (Builtin.append_ #[38, 38] 38 #[.slice ya k yc, .slice (some ⟨wr.heap.size, 0, none⟩) 1 1]).run Tryz.prog (wr.alloc (.cells #[.string (cutS s 15)] 9)).drew = .ok (.slice ao n c) w6 := hrun
                        have d1 : w6.cell? ⟨rb, 1, none⟩ = some (.slice ya k yc) := by rw [HRB.out, cell_block hbox]; rfl
                        have f1 : w6.frozen? ⟨rb, 1, none⟩ = false := by rw [HRB.out]; exact frozen_block hbox 1
                        have HF : Hid (∃ ya yc, RC wo (w6.setCell ⟨rb, 1, none⟩ (.slice ao n c)) (cutS rl 15) (cutS rp 15) ((rr.take (k + 1)).map (fun x => cutS x 15)) ya (k + 1) yc) := by
                          have e : (rr.take (k + 1)).map (fun x => cutS x 15) = (rr.take k).map (fun x => cutS x 15) ++ [cutS s 15] := by rw [take_succ hs, List.map_append]; rfl
                          have hn : n = k + 1 := by have := hR2.len; rw [List.length_append, elk] at this; exact this
                          subst hn
                          rw [e, HRB.out]
                          exact ⟨ao, c, hR2⟩
                        clear hR hbox hR2 hrun K elk hs
                        go_upto_block 5 with fail
                        go_cut [95] from 67 to 96 (fun s95 wd => Hid (∃ ya yc, RC wo wd (cutS rl 15) (cutS rp 15) ((rr.take (k + 1)).map (fun x => cutS x 15)) ya (k + 1) yc))
                        case first =>
                          go_wp2_with fail
                          have CC : Hid (∀ W : World, Calls Tryz.prog 11 #[.string s, .int .i64 15] W fun e w' => e = .returned (.string (cutS s 15)) ∧ w' = W) := fun W => cut_calls s 15 W
                          generalize cutS s 15 = cs at hrun2 CC
                          have p1' := cell_alloc p1 (.cells #[.string cs] 9)
                          go_region_law (first | (refine step_append_told rfl (.tmp 83) (.tmp 94) rfl rfl (by simp [Act.eval]) (by simp [Act.eval]) hrun2 ?_) | (refine step_call_told rfl 11 #[.string s, .int .i64 15] (.string cs) (by simp [Act.eval, go_sem]) (CC.out _) ?_))
                          all_goals (go_wp2_with fail; go_meet; exact HF)
                        case rest =>
                          go_wp2_with fail
                          go_roundg (xn - (k + 1))
                          case measure => omega
                          case rel => exact ⟨k + 1, by simp, by omega, by omega, Nat.le_refl _, hcut⟩
                      · have hklt' : (k : Int) < (xn : Int) := by omega
                        have h22' : ¬ (k : Int) < 22 := by omega
                        have HF : Hid (∃ ya yc, RC wo wr (cutS rl 15) (cutS rp 15) ((rr.take 22).map (fun x => cutS x 15)) ya (min xn 22) yc) := by
                          have : k = 22 := by omega
                          subst this
                          have e : min xn 22 = 22 := by omega
                          rw [e]
                          exact K.out
                        clear hR K
                        go_wp2_with fail
                        go_meet
                        exact HF
                    · have hklt' : ¬ (k : Int) < (xn : Int) := by omega
                      have HF : Hid (∃ ya yc, RC wo wr (cutS rl 15) (cutS rp 15) ((rr.take 22).map (fun x => cutS x 15)) ya (min xn 22) yc) := by
                        have e1 : rr.take 22 = rr.take k := by rw [List.take_of_length_le (by rw [HXN.out]; omega), List.take_of_length_le (by rw [HXN.out]; omega)]
                        have e : min xn 22 = k := by omega
                        rw [e1, e]
                        exact K.out
                      clear hR K
                      go_wp2_with fail
                      go_meet
                      exact HF
                case rest =>
                  obtain ⟨w7, hw7⟩ : ∃ w7, w7 = wc := ⟨_, rfl⟩
                  subst wc
                  obtain ⟨ya, yc, hR⟩ := hcut.out
                  have hG7 := HGO.out.step hR.bel
                  have eli : ((rs.take i).map cutR).length = i := by rw [List.length_map, List.length_take, HT.out.2]; omega
                  obtain ⟨-, -, -, y3, -⟩ := hG7.cells
                  simp only [eli] at y3
                  generalize emn : min xn 22 = mn at *
                  have p0 : w7.cell? ⟨rb, 0, none⟩ = some (.string (cutS rl 15)) := by rw [HRB.out, cell_block hR.box]; rfl
                  have p1 : w7.cell? ⟨rb, 1, none⟩ = some (.slice ya mn yc) := by rw [HRB.out, cell_block hR.box]; rfl
                  have p2 : w7.cell? ⟨rb, 2, none⟩ = some (.string (cutS rp 15)) := by rw [HRB.out, cell_block hR.box]; rfl
                  have hown : OwnS w7 W.heap.size (.slice ya mn yc) (cutR ⟨rl, rr, rp⟩).r := own_mono hR.own (by have := HGO.out.bel.size; omega)
                  obtain ⟨ao, n, c, w8, hrun, hn, hbox, hG8⟩ := hG7.addRule (by simp only; rw [eli]; omega) (cutR ⟨rl, rr, rp⟩) ya yc mn hown hR.len
                  simp only [eli] at hrun
                  have hrun2 : (Builtin.append_ #[26, 26] 26 #[.slice a2 i k2, .slice (some ⟨w7.heap.size, 0, none⟩) 1 1]).run Tryz.prog (w7.alloc (.cells #[.string (cutS rl 15), .slice ya mn yc, .string (cutS rp 15)] 58)) = .ok (.slice ao n c) w8 := hrun
                  have d3 : w8.cell? ⟨gb, 3, none⟩ = some (.slice a2 i k2) := by rw [cell_block hbox]; show some (Value.slice a2 ((rs.take i).map cutR).length k2) = _; rw [eli]
                  have f3 : w8.frozen? ⟨gb, 3, none⟩ = false := frozen_block hbox 3
                  have HF : Hid (∃ h qs, GB W (w8.setCell ⟨gb, 3, none⟩ (.slice ao n c)) gb h ⟨(ts.take 42).map cutT, cutS st 15, ex, (rs.take (i + 1)).map cutR⟩ qs) := by
                    have e : (rs.take (i + 1)).map cutR = (rs.take i).map cutR ++ [cutR ⟨rl, rr, rp⟩] := by rw [take_succ HRR.out, List.map_append]; rfl
                    rw [e]
                    exact ⟨_, _, hG8⟩
                  clear hG7 hG8 hbox hn hR hcut R0 hown hrun eli emn
                  generalize cutS rl 15 = cl at *
                  generalize cutS rp 15 = cp at *
                  go_wp2_with (at_builtin; refine Lib.wpList_append_run _ rfl _ _ _ _ rfl _ _ rfl rfl _ _ hrun2 ?_)
                  go_roundg (rn - (i + 1))
                  case measure => omega
                  case rel => exact ⟨i + 1, by simp, by omega, by omega, Nat.le_refl _, HF⟩
            · have hlt' : (i : Int) < (rn : Int) := by omega
              have h105' : ¬ (i : Int) < 105 := by omega
              have HF : Hid (∃ h qs, GB W wr gb h (cutG ⟨ts, st, ex, rs⟩) qs) := by
                have : i = 105 := by omega
                subst this
                exact J.out
              clear hG J
              go_wp2_with fail
              go_meet
              exact HF
          · have hlt' : ¬ (i : Int) < (rn : Int) := by omega
            have HF : Hid (∃ h qs, GB W wr gb h (cutG ⟨ts, st, ex, rs⟩) qs) := by
              have e : rs.take 105 = rs.take i := by rw [List.take_of_length_le (by rw [HT.out.2]; omega), List.take_of_length_le (by rw [HT.out.2]; omega)]
              unfold cutG
              simp only
              rw [e]
              exact J.out
            clear hG J
            go_wp2_with fail
            go_meet
            exact HF
      case rest =>
        obtain ⟨w9, hw9⟩ : ∃ w9, w9 = wc := ⟨_, rfl⟩
        subst wc
        obtain ⟨⟨a1, k1, a2, k2⟩, qs, hG⟩ := hcut.out
        obtain ⟨y0, y1, y2, y3, -⟩ := hG.cells
        have hb1 : w9.heap[nb + 1]? = some (.cells #[.slice none 0 0, .string ⟨#[]⟩, .int .i64 0, .slice none 0 0] 28 (0, 0)) := block_below hG.bel HX.out.2
        have z0 : w9.cell? ⟨nb + 1, 0, none⟩ = some (.slice none 0 0) := by rw [cell_block hb1]; rfl
        have z1 : w9.cell? ⟨nb + 1, 1, none⟩ = some (.string ⟨#[]⟩) := by rw [cell_block hb1]; rfl
        have z2 : w9.cell? ⟨nb + 1, 2, none⟩ = some (.int .i64 0) := by rw [cell_block hb1]; rfl
        have z3 : w9.cell? ⟨nb + 1, 3, none⟩ = some (.slice none 0 0) := by rw [cell_block hb1]; rfl
        have fz : ∀ j, w9.frozen? ⟨nb + 1, j, none⟩ = false := frozen_block hb1
        have fz0 := fz 0
        have fz1 := fz 1
        have fz2 := fz 2
        have fz3 := fz 3
        clear fz
        have HF : Hid (OwnG ((((w9.setCell ⟨nb + 1, 0, none⟩ (.slice a1 (cutG ⟨ts, st, ex, rs⟩).ts.length k1)).setCell ⟨nb + 1, 1, none⟩ (.string (cutG ⟨ts, st, ex, rs⟩).s)).setCell ⟨nb + 1, 2, none⟩ (.int .i64 (cutG ⟨ts, st, ex, rs⟩).e)).setCell ⟨nb + 1, 3, none⟩ (.slice a2 (cutG ⟨ts, st, ex, rs⟩).rs.length k2)) w.heap.size ⟨a1, k1, a2, k2⟩ (cutG ⟨ts, st, ex, rs⟩) qs ∧ Below w.heap.size w ((((w9.setCell ⟨nb + 1, 0, none⟩ (.slice a1 (cutG ⟨ts, st, ex, rs⟩).ts.length k1)).setCell ⟨nb + 1, 1, none⟩ (.string (cutG ⟨ts, st, ex, rs⟩).s)).setCell ⟨nb + 1, 2, none⟩ (.int .i64 (cutG ⟨ts, st, ex, rs⟩).e)).setCell ⟨nb + 1, 3, none⟩ (.slice a2 (cutG ⟨ts, st, ex, rs⟩).rs.length k2))) := by
          have hlt : w.heap.size ≤ nb + 1 := by rw [HN.out.1]; omega
          have hW : nb + 1 < W.heap.size := by have := HN.out.2; omega
          have far : ∀ {W' : World} {u : Value} {j : Nat}, OwnG W' W.heap.size ⟨a1, k1, a2, k2⟩ (cutG ⟨ts, st, ex, rs⟩) qs → OwnG (W'.setCell ⟨nb + 1, j, none⟩ u) W.heap.size ⟨a1, k1, a2, k2⟩ (cutG ⟨ts, st, ex, rs⟩) qs := by
            intro W' u j o
            refine ⟨?_, ?_, o.map, fun q hq => ?_⟩
            · exact ownsRow_of_block o.tok (fun i hi => Below.heap_setCell _ _ _ _ (fun e => by simp only at e; have := (World.ownsRow.lt o.tok i hi).1; omega))
            · exact ownsRow_of_block o.rul (fun i hi => Below.heap_setCell _ _ _ _ (fun e => by simp only at e; have := (World.ownsRow.lt o.rul i hi).1; omega))
            · exact ownsRow_of_block (o.row q hq) (fun i hi => Below.heap_setCell _ _ _ _ (fun e => by simp only at e; have := (World.ownsRow.lt (o.row q hq) i hi).1; omega))
          have o9 := far (u := .slice a2 (cutG ⟨ts, st, ex, rs⟩).rs.length k2) (j := 3) (far (u := .int .i64 (cutG ⟨ts, st, ex, rs⟩).e) (j := 2) (far (u := .string (cutG ⟨ts, st, ex, rs⟩).s) (j := 1) (far (u := .slice a1 (cutG ⟨ts, st, ex, rs⟩).ts.length k1) (j := 0) hG.own)))
          have hbe : w.heap.size ≤ W.heap.size := HB.out.size
          refine ⟨⟨own_mono o9.tok hbe, own_mono o9.rul hbe, o9.map, fun q hq => own_mono (o9.row q hq) hbe⟩, ?_⟩
          exact ((((below_step HB.out hG.bel).setCell (p := ⟨nb + 1, 0, none⟩) hlt _).setCell (p := ⟨nb + 1, 1, none⟩) hlt _).setCell (p := ⟨nb + 1, 2, none⟩) hlt _).setCell (p := ⟨nb + 1, 3, none⟩) hlt _
        clear hG hcut hb1 HG4
        generalize ectn : (cutG ⟨ts, st, ex, rs⟩).ts.length = ctn at y0 HF
        generalize ecrn : (cutG ⟨ts, st, ex, rs⟩).rs.length = crn at y3 HF
        generalize ecs : (cutG ⟨ts, st, ex, rs⟩).s = cst at y1 HF
        generalize ece : (cutG ⟨ts, st, ex, rs⟩).e = cex at y2 HF
        have HE : Hid ((cutG ⟨ts, st, ex, rs⟩).ts.length = ctn ∧ (cutG ⟨ts, st, ex, rs⟩).rs.length = crn ∧ (cutG ⟨ts, st, ex, rs⟩).s = cst ∧ (cutG ⟨ts, st, ex, rs⟩).e = cex) := ⟨ectn, ecrn, ecs, ece⟩
        clear ectn ecrn ecs ece
        go_wp2_with fail
        refine bodyPost_ret (v := .agg #[.slice a1 ctn k1, .string cst, .int .i64 cex, .slice a2 crn k2]) (by simp [results, Tryz.results13, go_sem, *]) rfl ?_
        obtain ⟨e1, e2, e3, e4⟩ := HE.out
        refine ⟨⟨a1, k1, a2, k2⟩, ?_, ⟨qs, HF.out.1⟩, HF.out.2⟩
        simp only [e1, e2, e3, e4]

end Go.Proofs.YtkaojokhdleeiaaGreatDoor

/-
  The walk of read's token.
-/
namespace Go.Proofs.YtkaojokhdleeiaaGreatDoor
open Go.RowKit

set_option maxRecDepth 20000

/-- What token answers. -/
def TokA (w W : World) (rb : Nat) (qs : List (Ru × Option Addr × Nat)) (R : Except Flt (Nat × St)) (e : Ending) (W' : World) : Prop :=
  match R with
  | .ok (i, S1) => ∃ h' tb, e = .returned (.tuple #[.pointer (some ⟨tb, i * 4, none⟩), fv (0, 0)]) ∧ h'.ta = some ⟨tb, 0, none⟩ ∧ RD w W' rb h' S1 qs ∧ Keep W W'
  | .error f => e = .returned (.tuple #[.pointer none, fv f]) ∧ (∃ h' S1, RD w W' rb h' S1 qs) ∧ Keep W W'

theorem Keep.far {W W' : World} (k : Keep W W') {b : Nat} (hb : W.heap.size ≤ b) (j : Nat) (u : Value) : Keep W (W'.setCell ⟨b, j, none⟩ u) :=
  ⟨by have := k.size; simpa using this, fun b' c T h0 h1 h2 h3 h4 => by
    rw [Below.heap_setCell _ _ _ _ (fun e => by simp only at e; have := (Array.getElem?_eq_some_iff.1 h0).1; omega)]
    exact k.loc b' c T h0 h1 h2 h3 h4⟩

set_option maxHeartbeats 8000000 in
theorem rdToken_calls (x : Wd) (w W : World) (rb : Nat) (h : RHd) (S : St) (qs : List (Ru × Option Addr × Nat)) (r : RD w W rb h S qs) :
    Calls Tryz.prog 89 #[.pointer (some ⟨rb, 0, none⟩), wv x] W fun e W' => TokA w W rb qs (tokP x S) e W' := by
  obtain ⟨xk, xt, xa⟩ := x
  unfold wv
  simp only
  have hB : Below W.heap.size W ((W.alloc (.cells #[.int .i64 xk, .string xt, .int .i64 xa] 35)).alloc (.cells #[.int .i64 0, .int .i64 0] 46)) := below_step (below_alloc _ _) (below_alloc _ _)
  have hb0 : ((W.alloc (.cells #[.int .i64 xk, .string xt, .int .i64 xa] 35)).alloc (.cells #[.int .i64 0, .int .i64 0] 46)).heap[W.heap.size]? = some (.cells #[.int .i64 xk, .string xt, .int .i64 xa] 35 (0, 0)) := block_below (below_alloc _ _) (heap_alloc_new _ _)
  have hb1 : ((W.alloc (.cells #[.int .i64 xk, .string xt, .int .i64 xa] 35)).alloc (.cells #[.int .i64 0, .int .i64 0] 46)).heap[W.heap.size + 1]? = some (.cells #[.int .i64 0, .int .i64 0] 46 (0, 0)) := by
    have := heap_alloc_new (W.alloc (.cells #[.int .i64 xk, .string xt, .int .i64 xa] 35)) (.cells #[.int .i64 0, .int .i64 0] 46)
    rwa [size_alloc1] at this
  have hrb : rb < W.heap.size := (Array.getElem?_eq_some_iff.1 r.box).1
  have HR : Hid (RD w ((W.alloc (.cells #[.int .i64 xk, .string xt, .int .i64 xa] 35)).alloc (.cells #[.int .i64 0, .int .i64 0] 46)) rb h S qs) := r.step hB
  have HWW : Hid (w.heap.size ≤ W.heap.size) := r.bel.size
  obtain ⟨hle, hmx⟩ := r.tlen
  have hnn : S.ts.length ≤ 40 := r.ok.nt
  clear r
  obtain ⟨wb, wo, wl, ta, tc, ra, rc⟩ := h
  simp only at hle hmx
  have HL0 : Hid ((S.ts.length = 40) ∨ ¬ (S.ts.length = 40)) := Classical.em _
  generalize en : S.ts.length = n at *
  have HN : Hid (S.ts.length = n) := en
  clear en
  go_enter Tryz.func89, Tryz.ntmps89
  go_upto_region 1 with fail
  generalize (W.alloc (.cells #[.int .i64 xk, .string xt, .int .i64 xa] 35)).alloc (.cells #[.int .i64 0, .int .i64 0] 46) = W1 at hB hb0 hb1 HR ⊢
  obtain ⟨nb, hnb⟩ : ∃ nb, nb = W.heap.size := ⟨_, rfl⟩
  rw [← hnb] at hb0 hb1 ⊢
  have HNB : Hid (nb = W.heap.size ∧ rb < nb) := ⟨hnb, by rw [hnb]; exact hrb⟩
  have HB1 : Hid (Below W.heap.size W W1) := hB
  have HBX : Hid (W1.heap[nb]? = some (.cells #[.int .i64 xk, .string xt, .int .i64 xa] 35 (0, 0)) ∧ W1.heap[nb + 1]? = some (.cells #[.int .i64 0, .int .i64 0] 46 (0, 0))) := ⟨hb0, hb1⟩
  clear hb0 hb1 hrb hnb hB
  have HC : Hid (Calls Tryz.prog 105 #[.slice ta n tc, .func (.func 106) #[] #[.pointer (some ⟨nb, 0, none⟩)]] W1 fun e w' => e = .returned (.int .i64 (idxI (findN S.ts xt))) ∧ Below W1.heap.size W1 w') := by
    have := tknIndex_calls w W1 rb ⟨wb, wo, wl, ta, tc, ra, rc⟩ S qs HR.out nb xt (by rw [cell_block HBX.out.1]; rfl)
    simp only [HN.out] at this
    exact this
  have b1 : W1.cell? ⟨rb, 1, none⟩ = some (.slice ta n tc) := by
    rw [cell_block HR.out.box]
    unfold rdC
    simp only [HN.out]
    rfl
  go_wp2_with fail
  refine HC.out.mono ?_
  rintro e W2 ⟨rfl, hB⟩
  have HB2 : Hid (Below W1.heap.size W1 W2) := hB
  clear hB b1 HC
  have b1 : W2.cell? ⟨rb, 1, none⟩ = some (.slice ta n tc) := by
    rw [cell_block (block_below HB2.out HR.out.box)]
    unfold rdC
    simp only [HN.out]
    rfl
  have t2 := block_below HB2.out HBX.out.2
  have q3 : W2.cell? ⟨nb + 1, 0, none⟩ = some (.int .i64 0) := by rw [cell_block t2]; rfl
  have q4 : W2.cell? ⟨nb + 1, 1, none⟩ = some (.int .i64 0) := by rw [cell_block t2]; rfl
  have z3 : W2.frozen? ⟨nb + 1, 0, none⟩ = false := frozen_block t2 0
  have z4 : W2.frozen? ⟨nb + 1, 1, none⟩ = false := frozen_block t2 1
  have HL2 : Hid (Loc W2 (nb + 1) 46) := ⟨_, t2⟩
  clear t2
  cases hf : findN S.ts xt with
  | some i =>
    obtain ⟨t, ht, htn⟩ := findN_lt hf
    have hi : i < n := by rw [← HN.out]; exact (List.getElem?_eq_some_iff.1 ht).1
    obtain ⟨tb, bb, hta, -⟩ := (HR.out.step HB2.out).tokAt ht
    simp only at hta
    subst hta
    have hi' : (i : Int) < (n : Int) := by omega
    have HF : Hid (tokP ⟨xk, xt, xa⟩ S = .ok (i, S)) := by
      show _ = _
      unfold tokP
      simp only [hf]
    clear hf ht htn
    unfold idxI
    simp only
    go_wp2_with fail
    refine bodyPost_ret (v := .tuple #[.pointer (some ⟨tb, i * 4, none⟩), .agg #[.int .i64 0, .int .i64 0]]) (by simp [results, Tryz.results89, go_sem, *]) rfl ?_
    rw [HF.out]
    have hn : W.heap.size ≤ nb := Nat.le_of_eq HNB.out.1.symm
    have hk : Keep W W2 := keep_of_below (below_step HB1.out HB2.out)
    refine ⟨⟨wb, wo, wl, some ⟨tb, 0, none⟩, tc, ra, rc⟩, tb, rfl, rfl, ?_, (hk.far (by omega) _ _).far (by omega) _ _⟩
    exact ((HR.out.step HB2.out).far HL2.out (by decide) (by have := HWW.out; omega)).far (HL2.out.set _ _ _) (by decide) (by have := HWW.out; omega)
  | none =>
    unfold idxI
    simp only
    by_cases h40 : n = 40
    · have hq : ((n : Int) == 40) = true := by simp [h40]
      have HF : Hid (tokP ⟨xk, xt, xa⟩ S = .error (formF ⟨xk, xt, xa⟩)) := by
        show _ = _
        unfold tokP
        simp only [hf, HN.out, h40, if_true]
      have t1 := block_below HB2.out HBX.out.1
      have p0 : W2.cell? ⟨nb, 0, none⟩ = some (.int .i64 xk) := by rw [cell_block t1]; rfl
      have p1 : W2.cell? ⟨nb, 1, none⟩ = some (.string xt) := by rw [cell_block t1]; rfl
      have p2 : W2.cell? ⟨nb, 2, none⟩ = some (.int .i64 xa) := by rw [cell_block t1]; rfl
      clear hf t1 q3 q4 z3 z4 h40
      go_wp2_with fail
      refine (form_calls ⟨xk, xt, xa⟩ _).mono ?_
      rintro e W3 ⟨rfl, hB⟩
      have HB3 : Hid (Below W1.heap.size W1 W3) := below_step HB2.out hB
      clear hB b1 p0 p1 p2
      unfold fv formF
      simp only
      have t2 := block_below HB3.out HBX.out.2
      have q3 : W3.cell? ⟨nb + 1, 0, none⟩ = some (.int .i64 0) := by rw [cell_block t2]; rfl
      have q4 : W3.cell? ⟨nb + 1, 1, none⟩ = some (.int .i64 0) := by rw [cell_block t2]; rfl
      have z3 : W3.frozen? ⟨nb + 1, 0, none⟩ = false := frozen_block t2 0
      have z4 : W3.frozen? ⟨nb + 1, 1, none⟩ = false := frozen_block t2 1
      have HL3 : Hid (Loc W3 (nb + 1) 46) := ⟨_, t2⟩
      clear t2
      go_wp2_with fail
      refine bodyPost_ret (v := .tuple #[.pointer none, .agg #[.int .i64 1, .int .i64 xa]]) (by simp [results, Tryz.results89, go_sem, *]) rfl ?_
      rw [HF.out]
      have hn : W.heap.size ≤ nb := Nat.le_of_eq HNB.out.1.symm
      have hk : Keep W W3 := keep_of_below (below_step HB1.out HB3.out)
      refine ⟨rfl, ⟨⟨wb, wo, wl, ta, tc, ra, rc⟩, S, ?_⟩, (hk.far (by omega) _ _).far (by omega) _ _⟩
      exact ((HR.out.step HB3.out).far HL3.out (by decide) (by have := HWW.out; omega)).far (HL3.out.set _ _ _) (by decide) (by have := HWW.out; omega)
    · have hq : ((n : Int) == 40) = false := by simp; omega
      have h41 : S.ts.length < 40 := by rw [HN.out]; omega
      have HF : Hid (tokP ⟨xk, xt, xa⟩ S = .ok (n, ⟨S.ws, S.ts ++ [⟨xt, 0, 0⟩], S.ls ++ [false], S.lv, S.st, S.ed, S.ex, S.rs⟩)) := by
        show _ = _
        unfold tokP
        simp only [hf, HN.out]
        rw [if_neg h40]
      have p1 : W2.cell? ⟨nb, 1, none⟩ = some (.string xt) := by rw [cell_block (block_below HB2.out HBX.out.1)]; rfl
      obtain ⟨tb, m, c, W3, hrun, hm, hbox, hrd, hkp⟩ := ((HR.out.step HB2.out).step (below_drew' W2)).addTok xt h41
      simp only [HN.out] at hrun hm
      have hrun2 : (Builtin.append_ #[61, 61] 61 #[.slice ta n tc, .slice (some ⟨W2.heap.size, 0, none⟩) 1 1]).run Tryz.prog (W2.alloc (.cells #[.string xt, .int .i64 0, .int .i64 0, .bool false] 78)).drew = .ok (.slice (some ⟨tb, 0, none⟩) m c) W3 := hrun
      have d1 : W3.cell? ⟨rb, 1, none⟩ = some (.slice ta n tc) := by
        rw [cell_block hbox]
        unfold rdC
        simp only [HN.out]
        rfl
      have f1 : W3.frozen? ⟨rb, 1, none⟩ = false := frozen_block hbox 1
      have HD : Hid (RD w (W3.setCell ⟨rb, 1, none⟩ (.slice (some ⟨tb, 0, none⟩) m c)) rb ⟨wb, wo, wl, some ⟨tb, 0, none⟩, c, ra, rc⟩ ⟨S.ws, S.ts ++ [⟨xt, 0, 0⟩], S.ls ++ [false], S.lv, S.st, S.ed, S.ex, S.rs⟩ qs ∧ Keep W2 (W3.setCell ⟨rb, 1, none⟩ (.slice (some ⟨tb, 0, none⟩) m c))) := ⟨hrd, hkp.size, hkp.loc⟩
      subst hm
      have p1' := cell_alloc p1 (.cells #[.string xt, .int .i64 0, .int .i64 0, .bool false] 78)
      have b1' := cell_alloc b1 (.cells #[.string xt, .int .i64 0, .int .i64 0, .bool false] 78)
      clear hrun hrd hkp hbox q3 q4 z3 z4 hf h40
      go_upto_region 6 with fail
      go_cut [40] (fun s40 wd => Hid (RD w wd rb ⟨wb, wo, wl, some ⟨tb, 0, none⟩, c, ra, rc⟩ ⟨S.ws, S.ts ++ [⟨xt, 0, 0⟩], S.ls ++ [false], S.lv, S.st, S.ed, S.ex, S.rs⟩ qs ∧ Keep W2 wd))
      case first =>
        go_region_law (refine step_append_told rfl (.tmp 34) (.tmp 39) rfl rfl (by simp [Act.eval]) (by simp [Act.eval]) hrun2 ?_)
        all_goals (go_wp2_with fail; go_meet; exact HD)
      case rest =>
        obtain ⟨W4, hW4⟩ : ∃ W4, W4 = wc := ⟨_, rfl⟩
        subst wc
        have HD4 : Hid (RD w W4 rb ⟨wb, wo, wl, some ⟨tb, 0, none⟩, c, ra, rc⟩ ⟨S.ws, S.ts ++ [⟨xt, 0, 0⟩], S.ls ++ [false], S.lv, S.st, S.ed, S.ex, S.rs⟩ qs ∧ Keep W2 W4) := hcut
        clear hcut HD d1 f1 b1 b1' p1 p1' hrun2
        have t2 := HD4.out.2.loc _ _ _ (block_below HB2.out HBX.out.2) (by decide) (by decide) (by decide) (by decide)
        have q3 : W4.cell? ⟨nb + 1, 0, none⟩ = some (.int .i64 0) := by rw [cell_block t2]; rfl
        have q4 : W4.cell? ⟨nb + 1, 1, none⟩ = some (.int .i64 0) := by rw [cell_block t2]; rfl
        have z3 : W4.frozen? ⟨nb + 1, 0, none⟩ = false := frozen_block t2 0
        have z4 : W4.frozen? ⟨nb + 1, 1, none⟩ = false := frozen_block t2 1
        have HL4 : Hid (Loc W4 (nb + 1) 46) := ⟨_, t2⟩
        have b1 : W4.cell? ⟨rb, 1, none⟩ = some (.slice (some ⟨tb, 0, none⟩) (n + 1) c) := by
          rw [cell_block HD4.out.1.box]
          unfold rdC
          simp only [List.length_append, List.length_cons, List.length_nil, HN.out]
          rfl
        obtain ⟨hl2, hm2⟩ := HD4.out.1.tlen
        simp only [List.length_append, List.length_cons, List.length_nil, HN.out] at hl2 hm2
        have hw2 : (n : Int) < (n : Int) + 1 := by omega
        clear t2
        go_upto_region 7 with fail
        go_region
        all_goals
          go_wp2_with fail
          refine bodyPost_ret (v := .tuple #[.pointer (some ⟨tb, n * 4, none⟩), .agg #[.int .i64 0, .int .i64 0]]) (by simp [results, Tryz.results89, go_sem, *]) rfl ?_
          rw [HF.out]
          have hn : W.heap.size ≤ nb := Nat.le_of_eq HNB.out.1.symm
          have hk : Keep W W4 := (keep_of_below (below_step HB1.out HB2.out)).trans HD4.out.2
          have hk2 := (hk.far (b := nb + 1) (by omega) 0 (.int .i64 0)).far (b := nb + 1) (by omega) 1 (.int .i64 0)
          have hr2 := ((HD4.out.1.far (j := 0) (u := .int .i64 0) HL4.out (by decide) (by have := HWW.out; omega)).far (j := 1) (u := .int .i64 0) (HL4.out.set _ _ _) (by decide) (by have := HWW.out; omega)).step (below_drew' _)
          exact ⟨⟨wb, wo, wl, some ⟨tb, 0, none⟩, c, ra, rc⟩, tb, rfl, rfl, hr2, hk2.size, hk2.loc⟩

end Go.Proofs.YtkaojokhdleeiaaGreatDoor

/-
  The walk of read's list: a token is said in a %token.
-/
namespace Go.Proofs.YtkaojokhdleeiaaGreatDoor
open Go.RowKit

set_option maxRecDepth 20000

theorem set_self {α : Type} : ∀ {l : List α} {i : Nat} {x : α}, l[i]? = some x → l.set i x = l
  | [], _, _, h => by cases h
  | y :: r, 0, x, h => by cases h; rfl
  | y :: r, i + 1, x, h => by
    rw [List.set_cons_succ, set_self (l := r) (by simpa using h)]

theorem zip_set {α β : Type} : ∀ {l : List α} {m : List β} {i : Nat} {x : α} {y : β}, (l.set i x).zip (m.set i y) = (l.zip m).set i (x, y)
  | [], m, i, x, y => by simp
  | a :: l, [], i, x, y => by simp
  | a :: l, b :: m, 0, x, y => rfl
  | a :: l, b :: m, i + 1, x, y => by
    simp only [List.set_cons_succ, List.zip_cons_cons]
    rw [zip_set]

/-- A token's cell is stored into. -/
theorem RD.setTok {w W : World} {rb tb : Nat} {h : RHd} {S : St} {qs : List (Ru × Option Addr × Nat)} (r : RD w W rb h S qs) (hta : h.ta = some ⟨tb, 0, none⟩) {i j : Nat} {t t' : Tk} {b b' : Bool} (ht : S.ts[i]? = some t) (hb : S.ls[i]? = some b) (hj : j < 4) (u : Value)
    (hc : ([.string t.n, .int .i64 t.l, .int .i64 t.a, .bool b] : List Value).set j u = [.string t'.n, .int .i64 t'.l, .int .i64 t'.a, .bool b']) :
    RD w (W.setCell ⟨tb, i * 4 + j, none⟩ u) rb h ⟨S.ws, S.ts.set i t', S.ls.set i b', S.lv, S.st, S.ed, S.ex, S.rs⟩ qs ∧ Keep W (W.setCell ⟨tb, i * 4 + j, none⟩ u) := by
  have ho := r.tok
  rw [hta] at ho
  have hl : Loc W tb 78 := own_loc ho rfl
  have far : ∀ {E k n : Nat} {v : Value} {cs : List Value}, W.ownsRow w.heap.size E k v n cs → E ≠ 78 → (W.setCell ⟨tb, i * 4 + j, none⟩ u).ownsRow w.heap.size E k v n cs := by
    intro E k n v cs ho hE
    exact ownsRow_of_block ho (fun i hi => Below.heap_setCell _ _ _ _ (loc_ne (own_loc ho hi) hl hE))
  have hz : (S.ts.zip S.ls)[i]? = some (t, b) := by rw [List.getElem?_zip_eq_some]; exact ⟨ht, hb⟩
  refine ⟨⟨?_, r.wds, ?_, far r.rul (by decide), r.map, fun q hq => far (r.row q hq) (by decide), ?_, r.new, ?_⟩, (Keep.refl W).set hl (.inr (.inl rfl)) _ _⟩
  · rw [Below.heap_setCell _ _ _ _ (loc_ne ⟨_, r.box⟩ hl (by decide)), r.box]
    unfold rdC
    simp only [List.length_set]
  · have h1 := own_set (u := u) (j := i * 4 + j) ho
    have h2 : (rtC (S.ts.zip S.ls)).set (i * 4 + j) u = rtC ((S.ts.set i t').zip (S.ls.set i b')) := by
      rw [zip_set]
      exact four_set _ (fun _ => rfl) (t', b') j u (S.ts.zip S.ls) i (t, b) hz hj hc
    rw [h2] at h1
    simp only [List.length_set]
    rw [hta]
    exact h1
  · exact r.bel.setCell (p := ⟨tb, i * 4 + j, none⟩) (World.ownsRow.lt ho tb rfl).1 _
  · exact ⟨r.ok.ends, by simp only [List.length_set]; exact r.ok.nt, by simp only [List.length_set]; exact r.ok.nl, r.ok.lv, r.ok.nr⟩

/-- What a call that may end in a fault answers and leaves. -/
def fltOf (R : Except Flt St) : Flt := match R with | .ok _ => (0, 0) | .error f => f
def Did (w W : World) (rb : Nat) (qs : List (Ru × Option Addr × Nat)) (R : Except Flt St) (e : Ending) (W' : World) : Prop :=
  ∃ h' S', e = .returned (fv (fltOf R)) ∧ RD w W' rb h' S' qs ∧ Keep W W' ∧ ∀ S1, R = .ok S1 → S' = S1

/-- The end: the fault is laid into the result's box. -/
theorem did_fin {w W W' : World} {rb b : Nat} {h' : RHd} {S' : St} {qs : List (Ru × Option Addr × Nat)} {R : Except Flt St} {f1 f2 : Int} (r : RD w W' rb h' S' qs) (k : Keep W W') (hl : Loc W' b 46) (hb : W.heap.size ≤ b) (hw : w.heap.size ≤ W.heap.size) (hf : fltOf R = (f1, f2)) (hs : ∀ S1, R = .ok S1 → S' = S1) :
    Did w W rb qs R (.returned (.agg #[.int .i64 f1, .int .i64 f2])) ((W'.setCell ⟨b, 0, none⟩ (.int .i64 f1)).setCell ⟨b, 1, none⟩ (.int .i64 f2)) := by
  refine ⟨h', S', by rw [hf]; rfl, ?_, (k.far hb _ _).far hb _ _, hs⟩
  exact (r.far hl (by decide) (by omega)).far (hl.set _ _ _) (by decide) (by omega)

theorem box46 {W : World} {b : Nat} {a c : Value} (h : W.heap[b]? = some (.cells #[a, c] 46 (0, 0))) : W.cell? ⟨b, 0, none⟩ = some a ∧ W.cell? ⟨b, 1, none⟩ = some c ∧ W.frozen? ⟨b, 0, none⟩ = false ∧ W.frozen? ⟨b, 1, none⟩ = false :=
  ⟨by rw [cell_block h]; rfl, by rw [cell_block h]; rfl, frozen_block h 0, frozen_block h 1⟩

theorem box35 {W : World} {b : Nat} {a c d : Value} (h : W.heap[b]? = some (.cells #[a, c, d] 35 (0, 0))) : W.cell? ⟨b, 0, none⟩ = some a ∧ W.cell? ⟨b, 1, none⟩ = some c ∧ W.cell? ⟨b, 2, none⟩ = some d :=
  ⟨by rw [cell_block h]; rfl, by rw [cell_block h]; rfl, by rw [cell_block h]; rfl⟩

set_option maxHeartbeats 8000000 in
theorem rdList_calls (x : Wd) (w W : World) (rb : Nat) (h : RHd) (S : St) (qs : List (Ru × Option Addr × Nat)) (r : RD w W rb h S qs) :
    Calls Tryz.prog 66 #[.pointer (some ⟨rb, 0, none⟩), wv x] W fun e W' => Did w W rb qs (listP x S) e W' := by
  obtain ⟨xk, xt, xa⟩ := x
  have hB : Below W.heap.size W ((W.alloc (.cells #[.int .i64 xk, .string xt, .int .i64 xa] 35)).alloc (.cells #[.int .i64 0, .int .i64 0] 46)) := below_step (below_alloc _ _) (below_alloc _ _)
  have hb0 : ((W.alloc (.cells #[.int .i64 xk, .string xt, .int .i64 xa] 35)).alloc (.cells #[.int .i64 0, .int .i64 0] 46)).heap[W.heap.size]? = some (.cells #[.int .i64 xk, .string xt, .int .i64 xa] 35 (0, 0)) := block_below (below_alloc _ _) (heap_alloc_new _ _)
  have hb1 : ((W.alloc (.cells #[.int .i64 xk, .string xt, .int .i64 xa] 35)).alloc (.cells #[.int .i64 0, .int .i64 0] 46)).heap[W.heap.size + 1]? = some (.cells #[.int .i64 0, .int .i64 0] 46 (0, 0)) := by
    have := heap_alloc_new (W.alloc (.cells #[.int .i64 xk, .string xt, .int .i64 xa] 35)) (.cells #[.int .i64 0, .int .i64 0] 46)
    rwa [size_alloc1] at this
  have HR : Hid (RD w ((W.alloc (.cells #[.int .i64 xk, .string xt, .int .i64 xa] 35)).alloc (.cells #[.int .i64 0, .int .i64 0] 46)) rb h S qs) := r.step hB
  have HWW : Hid (w.heap.size ≤ W.heap.size) := r.bel.size
  have HOK : Hid (StOk S) := r.ok
  clear r
  unfold wv
  simp only
  go_enter Tryz.func66, Tryz.ntmps66
  go_upto_region 1 with fail
  generalize (W.alloc (.cells #[.int .i64 xk, .string xt, .int .i64 xa] 35)).alloc (.cells #[.int .i64 0, .int .i64 0] 46) = W1 at hB hb0 hb1 HR ⊢
  obtain ⟨nb, hnb⟩ : ∃ nb, nb = W.heap.size := ⟨_, rfl⟩
  rw [← hnb] at hb0 hb1 ⊢
  have HNB : Hid (W.heap.size ≤ nb) := Nat.le_of_eq hnb.symm
  have HB1 : Hid (Below W.heap.size W W1) := hB
  have HBX : Hid (W1.heap[nb]? = some (.cells #[.int .i64 xk, .string xt, .int .i64 xa] 35 (0, 0)) ∧ W1.heap[nb + 1]? = some (.cells #[.int .i64 0, .int .i64 0] 46 (0, 0))) := ⟨hb0, hb1⟩
  have p0 : W1.cell? ⟨nb, 0, none⟩ = some (.int .i64 xk) := by rw [cell_block hb0]; rfl
  have p1 : W1.cell? ⟨nb, 1, none⟩ = some (.string xt) := by rw [cell_block hb0]; rfl
  have p2 : W1.cell? ⟨nb, 2, none⟩ = some (.int .i64 xa) := by rw [cell_block hb0]; rfl
  clear hb0 hb1 hnb hB
  have HC : Hid (Calls Tryz.prog 89 #[.pointer (some ⟨rb, 0, none⟩), .agg #[.int .i64 xk, .string xt, .int .i64 xa]] W1 fun e W' => TokA w W1 rb qs (tokP ⟨xk, xt, xa⟩ S) e W') := rdToken_calls ⟨xk, xt, xa⟩ w W1 rb h S qs HR.out
  go_wp2_with fail
  refine HC.out.mono ?_
  intro e W2 hA
  clear HC p0 p1 p2
  cases hR : tokP ⟨xk, xt, xa⟩ S with
  | error f =>
    rw [hR] at hA
    obtain ⟨rfl, ⟨h', S', hrd⟩, hkp⟩ := hA
    obtain ⟨f1, f2⟩ := f
    have HF : Hid (listP ⟨xk, xt, xa⟩ S = .error (f1, f2)) := by
      show _ = _
      unfold listP
      rw [hR]
    have hf1 : (f1 == 0) = false := by
      unfold tokP at hR
      split at hR
      · cases hR
      · split at hR
        · cases hR
          rfl
        · cases hR
    have hf1' : (f1 != 0) = true := by simpa using hf1
    have HD : Hid (RD w W2 rb h' S' qs ∧ Keep W1 W2) := ⟨hrd, hkp⟩
    have t2 := hkp.loc _ _ _ HBX.out.2 (by decide) (by decide) (by decide) (by decide)
    have t3 := block_below (below_alloc W2 (.cells #[.int .i64 f1, .int .i64 f2] 46)) t2
    obtain ⟨q3, q4, z3, z4⟩ := box46 t3
    have HL : Hid (Loc (W2.alloc (.cells #[.int .i64 f1, .int .i64 f2] 46)) (nb + 1) 46) := ⟨_, t3⟩
    clear hrd hkp t2 t3 hf1 hR
    unfold fv
    simp only
    go_wp2_with fail
    refine bodyPost_ret (v := .agg #[.int .i64 f1, .int .i64 f2]) (by simp [results, Tryz.results66, go_sem, *]) rfl ?_
    exact did_fin (HD.out.1.step (below_alloc _ _)) (((keep_of_below HB1.out).trans HD.out.2).trans (keep_of_below (below_alloc _ _))) HL.out (Nat.le_succ_of_le HNB.out) HWW.out (by rw [HF.out]; rfl) (fun S1 h => by rw [HF.out] at h; cases h)
  | ok p =>
    obtain ⟨i, S1⟩ := p
    rw [hR] at hA
    obtain ⟨h', tb, rfl, hta, hrd, hkp⟩ := hA
    obtain ⟨-, hi, -, -⟩ := tokP_ok HOK.out hR
    obtain ⟨t, ht⟩ : ∃ t, S1.ts[i]? = some t := ⟨S1.ts[i], List.getElem?_eq_getElem hi⟩
    obtain ⟨tb', b, hta', hlb, -, -, -, c3, fz⟩ := hrd.tokAt ht
    rw [hta] at hta'
    cases hta'
    have HD : Hid (RD w W2 rb h' S1 qs ∧ Keep W1 W2 ∧ h'.ta = some ⟨tb, 0, none⟩ ∧ S1.ts[i]? = some t ∧ S1.ls[i]? = some b) := ⟨hrd, hkp, hta, ht, hlb⟩
    have t1 := hkp.loc _ _ _ HBX.out.1 (by decide) (by decide) (by decide) (by decide)
    have t2 := hkp.loc _ _ _ HBX.out.2 (by decide) (by decide) (by decide) (by decide)
    have HT : Hid (W2.heap[nb]? = some (.cells #[.int .i64 xk, .string xt, .int .i64 xa] 35 (0, 0)) ∧ W2.heap[nb + 1]? = some (.cells #[.int .i64 0, .int .i64 0] 46 (0, 0))) := ⟨t1, t2⟩
    have c3' := cell_alloc c3 (.cells #[.int .i64 0, .int .i64 0] 46)
    have z5 : (W2.alloc (.cells #[.int .i64 0, .int .i64 0] 46)).frozen? ⟨tb, i * 4 + 3, none⟩ = false := by
      obtain ⟨c, hc⟩ : Loc W2 tb 78 := own_loc (by have := hrd.tok; rw [hta] at this; exact this) rfl
      exact frozen_block (block_below (below_alloc _ _) hc) _
    have HLR : Hid (listP ⟨xk, xt, xa⟩ S = if b = true then .error (againF ⟨xk, xt, xa⟩) else .ok ⟨S1.ws, S1.ts, S1.ls.set i true, S1.lv, S1.st, S1.ed, S1.ex, S1.rs⟩) := by
      show _ = _
      unfold listP
      rw [hR]
      simp only [hlb, Option.getD_some]
    clear hrd hkp hta ht hlb hi hR fz t1 t2 c3
    unfold fv
    simp only
    cases b
    · have HF : Hid (listP ⟨xk, xt, xa⟩ S = .ok ⟨S1.ws, S1.ts, S1.ls.set i true, S1.lv, S1.st, S1.ed, S1.ex, S1.rs⟩) := by
        show _ = _
        have := HLR.out
        simpa using this
      clear HLR
      have hst := (HD.out.1.step (below_alloc W2 (.cells #[.int .i64 0, .int .i64 0] 46))).setTok (t' := t) (b' := true) (j := 3) HD.out.2.2.1 HD.out.2.2.2.1 HD.out.2.2.2.2 (by omega) (.bool true) rfl
      rw [set_self HD.out.2.2.2.1] at hst
      have t3 := block_below (below_alloc W2 (.cells #[.int .i64 0, .int .i64 0] 46)) HT.out.2
      have t4 := hst.2.loc _ _ _ t3 (by decide) (by decide) (by decide) (by decide)
      obtain ⟨q3, q4, z3, z4⟩ := box46 t4
      have HS : Hid (RD w ((W2.alloc (.cells #[.int .i64 0, .int .i64 0] 46)).setCell ⟨tb, i * 4 + 3, none⟩ (.bool true)) rb h' ⟨S1.ws, S1.ts, S1.ls.set i true, S1.lv, S1.st, S1.ed, S1.ex, S1.rs⟩ qs ∧ Keep (W2.alloc (.cells #[.int .i64 0, .int .i64 0] 46)) ((W2.alloc (.cells #[.int .i64 0, .int .i64 0] 46)).setCell ⟨tb, i * 4 + 3, none⟩ (.bool true)) ∧ Loc ((W2.alloc (.cells #[.int .i64 0, .int .i64 0] 46)).setCell ⟨tb, i * 4 + 3, none⟩ (.bool true)) (nb + 1) 46) := ⟨hst.1, hst.2, ⟨_, t4⟩⟩
      clear hst t3 t4
      go_wp2_with fail
      refine bodyPost_ret (v := .agg #[.int .i64 0, .int .i64 0]) (by simp [results, Tryz.results66, go_sem, *]) rfl ?_
      exact did_fin HS.out.1 ((((keep_of_below HB1.out).trans HD.out.2.1).trans (keep_of_below (below_alloc _ _))).trans HS.out.2.1) HS.out.2.2 (Nat.le_succ_of_le HNB.out) HWW.out (by rw [HF.out]; rfl) (fun S1 h => by rw [HF.out] at h; cases h; rfl)
    · have HF : Hid (listP ⟨xk, xt, xa⟩ S = .error (againF ⟨xk, xt, xa⟩)) := by
        show _ = _
        have := HLR.out
        simpa using this
      clear HLR
      obtain ⟨p0, p1, p2⟩ := box35 (block_below (below_alloc W2 (.cells #[.int .i64 0, .int .i64 0] 46)) HT.out.1)
      go_wp2_with fail
      refine (again_calls ⟨xk, xt, xa⟩ _).mono ?_
      rintro e W3 ⟨rfl, hB⟩
      have HB3 : Hid (Below W2.heap.size W2 W3) := below_step (below_alloc _ _) hB
      clear hB p0 p1 p2 c3' z5
      obtain ⟨q3, q4, z3, z4⟩ := box46 (block_below HB3.out HT.out.2)
      unfold fv againF
      simp only
      go_wp2_with fail
      refine bodyPost_ret (v := .agg #[.int .i64 7, .int .i64 xa]) (by simp [results, Tryz.results66, go_sem, *]) rfl ?_
      exact did_fin (HD.out.1.step HB3.out) (((keep_of_below HB1.out).trans HD.out.2.1).trans (keep_of_below HB3.out)) ⟨_, block_below HB3.out HT.out.2⟩ (Nat.le_succ_of_le HNB.out) HWW.out (by rw [HF.out]; rfl) (fun S1 h => by rw [HF.out] at h; cases h)

end Go.Proofs.YtkaojokhdleeiaaGreatDoor
