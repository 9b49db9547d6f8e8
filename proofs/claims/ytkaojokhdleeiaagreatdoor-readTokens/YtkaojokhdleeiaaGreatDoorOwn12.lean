/-
  Texts that the proof of the Read statements stands on, part Own12.
-/
import Derived.Test.YtkaojokhdleeiaaGreatDoorOwn11
import Derived.Test.YtkaojokhdleeiaaGreatDoorOwn10
import Derived.Test.YtkaojokhdleeiaaGreatDoorOwn06
import Derived.Test.YtkaojokhdleeiaaGreatDoorOwn04
import Derived.Test.YtkaojokhdleeiaaGreatDoorRows
import Derived.ProofKit
import Derived.LaidMore
import Derived.Lib.LaidTab
/-
  The walk of same: Read and the reference's Read tell the same of every text.
-/
namespace Go.Proofs.YtkaojokhdleeiaaGreatDoor
open Go.RowKit

set_option maxRecDepth 20000

/-- A grammar and a fault, as both Reads give them. -/
structure Told (s : ByteArray) (w w' : World) (h : Hd) (G : Gm) (f : Flt) : Prop where
  bel : Below w.heap.size w w'
  isg : IsG w' h G
  gram : G = match readS s with | .error _ => ⟨[], ⟨#[]⟩, 0, []⟩ | .ok S => gmOf S
  flt : f = fltOf (readS s)

theorem told_of {s : ByteArray} {w w' : World} {e : Ending} (h : ReadOut s w e w') : ∃ hd G f, e = .returned (.tuple #[gv hd G, fv f]) ∧ Told s w w' hd G f := by
  obtain ⟨hb, h⟩ := h
  cases hr : readS s with
  | error g =>
    rw [hr] at h
    refine ⟨_, _, _, h, hb, ?_, by rw [hr], by rw [hr]; rfl⟩
    exact ⟨⟨rfl, Nat.zero_le _, Nat.zero_le _, .inl ⟨rfl, rfl, rfl⟩⟩, ⟨[], rfl, ⟨rfl, Nat.zero_le _, Nat.zero_le _, .inl ⟨rfl, rfl, rfl⟩⟩, fun q hq => by cases hq⟩, ⟨by decide, by decide, by decide, fun t ht => (by cases ht), fun r hr => (by cases hr)⟩⟩
  | ok S =>
    rw [hr] at h
    obtain ⟨hd, qs, he, ho⟩ := h
    exact ⟨hd, gmOf S, (0, 0), he, hb, ho.isG (readS_small hr), by rw [hr], by rw [hr]; rfl⟩

set_option maxHeartbeats 4000000 in
theorem same_calls (s : ByteArray) (w : World) (hs : s.size ≤ 1048576) : Calls Tryz.prog 10 #[.string s] w fun e w' => e = .returned (.bool true) ∧ Below w.heap.size w w' := by
  have H1 : Hid (∀ W : World, Calls Tryz.prog 15 #[.string s] W fun e w' => ∃ hd G f, e = .returned (.tuple #[gv hd G, fv f]) ∧ Told s W w' hd G f) := fun W => (read_calls s W hs).mono fun e w' h => told_of h
  have H2 : Hid (∀ W : World, Calls Tryz.prog 18 #[.string s] W fun e w' => ∃ hd G f, e = .returned (.tuple #[gv hd G, fv f]) ∧ Told s W w' hd G f) := fun W => (rread_calls s W hs).mono fun e w' h => told_of h
  go_enter Tryz.func10, Tryz.ntmps10
  go_wp2_with fail
  refine (H1.out _).mono ?_
  rintro e V ⟨hd, G, ⟨f1, f2⟩, rfl, hT⟩
  have HT : Hid (Told s w V hd G (f1, f2)) := hT
  clear hT H1
  have eg : gv hd G = .agg #[.slice hd.ta G.ts.length hd.tc, .string G.s, .int .i64 G.e, .slice hd.ra G.rs.length hd.rc] := rfl
  have ef : fv (f1, f2) = .agg #[.int .i64 f1, .int .i64 f2] := rfl
  rw [eg, ef]
  have hB1 : Below V.heap.size V ((V.alloc (.cells #[.slice hd.ta G.ts.length hd.tc, .string G.s, .int .i64 G.e, .slice hd.ra G.rs.length hd.rc] 28)).alloc (.cells #[.int .i64 f1, .int .i64 f2] 46)) := below_step (below_alloc _ _) (below_alloc _ _)
  have hb1 : ((V.alloc (.cells #[.slice hd.ta G.ts.length hd.tc, .string G.s, .int .i64 G.e, .slice hd.ra G.rs.length hd.rc] 28)).alloc (.cells #[.int .i64 f1, .int .i64 f2] 46)).heap[V.heap.size]? = some (.cells #[.slice hd.ta G.ts.length hd.tc, .string G.s, .int .i64 G.e, .slice hd.ra G.rs.length hd.rc] 28 (0, 0)) := block_below (below_alloc _ _) (heap_alloc_new _ _)
  have hb2 : ((V.alloc (.cells #[.slice hd.ta G.ts.length hd.tc, .string G.s, .int .i64 G.e, .slice hd.ra G.rs.length hd.rc] 28)).alloc (.cells #[.int .i64 f1, .int .i64 f2] 46)).heap[V.heap.size + 1]? = some (.cells #[.int .i64 f1, .int .i64 f2] 46 (0, 0)) := by
    have := heap_alloc_new (V.alloc (.cells #[.slice hd.ta G.ts.length hd.tc, .string G.s, .int .i64 G.e, .slice hd.ra G.rs.length hd.rc] 28)) (.cells #[.int .i64 f1, .int .i64 f2] 46)
    rwa [size_alloc1] at this
  go_upto_region 2 with fail
  obtain ⟨ab, hab⟩ : ∃ ab, ab = V.heap.size := ⟨_, rfl⟩
  rw [← hab] at hb1 hb2 ⊢
  generalize (V.alloc (.cells #[.slice hd.ta G.ts.length hd.tc, .string G.s, .int .i64 G.e, .slice hd.ra G.rs.length hd.rc] 28)).alloc (.cells #[.int .i64 f1, .int .i64 f2] 46) = V1 at *
  have HV1 : Hid (Below V.heap.size V V1 ∧ V1.heap[ab]? = some (.cells #[.slice hd.ta G.ts.length hd.tc, .string G.s, .int .i64 G.e, .slice hd.ra G.rs.length hd.rc] 28 (0, 0)) ∧ V1.heap[ab + 1]? = some (.cells #[.int .i64 f1, .int .i64 f2] 46 (0, 0))) := ⟨hB1, hb1, hb2⟩
  clear hB1 hb1 hb2 hab eg ef
  go_wp2_with fail
  refine (H2.out _).mono ?_
  rintro e X ⟨hd2, K, ⟨g1, g2⟩, rfl, hT⟩
  have HEQ : Hid (G = K ∧ (f1, f2) = (g1, g2)) := ⟨HT.out.gram.trans hT.gram.symm, HT.out.flt.trans hT.flt.symm⟩
  have hfe := HEQ.out.2
  cases hfe
  have HX : Hid (Told s V1 X hd2 K (f1, f2)) := hT
  clear hT H2
  have eg : gv hd2 K = .agg #[.slice hd2.ta K.ts.length hd2.tc, .string K.s, .int .i64 K.e, .slice hd2.ra K.rs.length hd2.rc] := rfl
  have ef : fv (f1, f2) = .agg #[.int .i64 f1, .int .i64 f2] := rfl
  rw [eg, ef]
  have hB1 : Below X.heap.size X ((X.alloc (.cells #[.slice hd2.ta K.ts.length hd2.tc, .string K.s, .int .i64 K.e, .slice hd2.ra K.rs.length hd2.rc] 28)).alloc (.cells #[.int .i64 f1, .int .i64 f2] 46)) := below_step (below_alloc _ _) (below_alloc _ _)
  have hb3 : ((X.alloc (.cells #[.slice hd2.ta K.ts.length hd2.tc, .string K.s, .int .i64 K.e, .slice hd2.ra K.rs.length hd2.rc] 28)).alloc (.cells #[.int .i64 f1, .int .i64 f2] 46)).heap[X.heap.size]? = some (.cells #[.slice hd2.ta K.ts.length hd2.tc, .string K.s, .int .i64 K.e, .slice hd2.ra K.rs.length hd2.rc] 28 (0, 0)) := block_below (below_alloc _ _) (heap_alloc_new _ _)
  have hb4 : ((X.alloc (.cells #[.slice hd2.ta K.ts.length hd2.tc, .string K.s, .int .i64 K.e, .slice hd2.ra K.rs.length hd2.rc] 28)).alloc (.cells #[.int .i64 f1, .int .i64 f2] 46)).heap[X.heap.size + 1]? = some (.cells #[.int .i64 f1, .int .i64 f2] 46 (0, 0)) := by
    have := heap_alloc_new (X.alloc (.cells #[.slice hd2.ta K.ts.length hd2.tc, .string K.s, .int .i64 K.e, .slice hd2.ra K.rs.length hd2.rc] 28)) (.cells #[.int .i64 f1, .int .i64 f2] 46)
    rwa [size_alloc1] at this
  go_upto_region 3 with fail
  obtain ⟨bb, hbb⟩ : ∃ bb, bb = X.heap.size := ⟨_, rfl⟩
  rw [← hbb] at hb3 hb4 ⊢
  generalize (X.alloc (.cells #[.slice hd2.ta K.ts.length hd2.tc, .string K.s, .int .i64 K.e, .slice hd2.ra K.rs.length hd2.rc] 28)).alloc (.cells #[.int .i64 f1, .int .i64 f2] 46) = Y at *
  have hbY : Below V1.heap.size V1 Y := below_step HX.out.bel hB1
  obtain ⟨a0, a1, a2, a3, -, -, -, -⟩ := box_cells (block_below hbY HV1.out.2.1)
  obtain ⟨a4, a5, -, -⟩ := box46 (block_below hbY HV1.out.2.2)
  obtain ⟨c0, c1, c2, c3, -, -, -, -⟩ := box_cells hb3
  obtain ⟨c4, c5, -, -⟩ := box46 hb4
  have HE : Hid (Calls Tryz.prog 16 #[.agg #[.slice hd.ta G.ts.length hd.tc, .string G.s, .int .i64 G.e, .slice hd.ra G.rs.length hd.rc], .agg #[.slice hd2.ta K.ts.length hd2.tc, .string K.s, .int .i64 K.e, .slice hd2.ra K.rs.length hd2.rc]] Y fun e w' => e = .returned (.bool true) ∧ Below Y.heap.size Y w') := req_calls G K hd hd2 Y true (HT.out.isg.below (below_step HV1.out.1 hbY)) (HX.out.isg.below hB1) ⟨fun _ => HEQ.out.1, fun _ => rfl⟩
  have HBY : Hid (Below w.heap.size w Y) := below_step HT.out.bel (below_step HV1.out.1 hbY)
  clear hbY hB1 hb3 hb4 HX HT HV1 HEQ hbb eg ef
  go_wp2_with fail
  refine HE.out.mono ?_
  rintro e Z ⟨rfl, hB⟩
  have HZ : Hid (Below w.heap.size w Z) := below_step HBY.out hB
  clear hB
  go_wp2_with fail
  go_ret
  exact ⟨rfl, HZ.out⟩

end Go.Proofs.YtkaojokhdleeiaaGreatDoor

/-
  The walk of the look that each law of Read opens with.
-/
namespace Go.Proofs.YtkaojokhdleeiaaGreatDoor
open Go.RowKit

set_option maxRecDepth 20000

def tx1 : ByteArray := ⟨#[37, 108, 101, 102, 116, 32, 80, 32, 37, 108, 101, 102, 116, 32, 77, 32, 37, 116, 111, 107, 101, 110, 32, 78, 32, 37, 37, 32, 101, 58, 32, 101, 32, 80, 32, 101, 32, 124, 32, 101, 32, 77, 32, 101, 32, 124, 32, 78, 59]⟩
def tx2 : ByteArray := ⟨#[37, 116, 111, 107, 101, 110, 32, 65, 32, 65, 32, 37, 37]⟩
def tx3 : ByteArray := ⟨#[37, 37, 32, 101, 32, 58, 32, 124, 32]⟩

def isBad (R : Except Flt St) (k a : Int) : Bool := match R with | .error g => g.1 == k && g.2 == a | .ok _ => false
def isSum (R : Except Flt St) : Bool := match R with | .error _ => false | .ok S => S.ts.length == 3 && S.rs.length == 3 && (tkAt S.ts 0).n.toList == [80]

theorem isBad_eq {R : Except Flt St} {k a : Int} (h : isBad R k a = true) : R = .error (k, a) := by
  unfold isBad at h
  split at h
  · rename_i g
    simp only [Bool.and_eq_true, beq_iff_eq] at h
    obtain ⟨g1, g2⟩ := g
    simp only at h
    rw [h.1, h.2]
  · cases h

theorem isSum_eq {R : Except Flt St} (h : isSum R = true) : ∃ S, R = .ok S ∧ S.ts.length = 3 ∧ S.rs.length = 3 ∧ (tkAt S.ts 0).n.toList = [80] := by
  unfold isSum at h
  split at h
  · cases h
  · rename_i S
    simp only [Bool.and_eq_true, beq_iff_eq] at h
    exact ⟨S, rfl, h.1.1, h.1.2, h.2⟩

theorem tx1_reads : isSum (readS tx1) = true := by kernel_rfl
theorem tx2_reads : isBad (readS tx2) 7 9 = true := by kernel_rfl
theorem tx3_reads : isBad (readS tx3) 1 9 = true := by kernel_rfl

theorem begun5b_calls (w : World) (hp : Pow w) : Calls Tryz.prog 17 #[] w fun e w' => e = .returned (.bool true) ∧ Below w.heap.size w w' := by
  have H : Hid (Calls Tryz.prog 30 #[] w fun e w' => e = .returned (.bool true) ∧ Below w.heap.size w w') := begun5_calls w hp
  go_enter Tryz.func17, Tryz.ntmps17
  go_wp2_with fail
  refine H.out.mono ?_
  rintro e V ⟨rfl, hB⟩
  have HB : Hid (Below w.heap.size w V) := hB
  clear hB
  go_wp2_with fail
  go_ret
  exact ⟨rfl, HB.out⟩

theorem tx1_calls (w : World) : Calls Tryz.prog 15 #[.string tx1] w fun e w' => ∃ tb tc st ex ra rc nm, e = .returned (.tuple #[.agg #[.slice (some ⟨tb, 0, none⟩) 3 tc, .string st, .int .i64 ex, .slice ra 3 rc], .agg #[.int .i64 0, .int .i64 0]]) ∧ Below w.heap.size w w' ∧ w'.cell? ⟨tb, 0, none⟩ = some (.string nm) ∧ nm.toList = [80] ∧ 3 ≤ tc ∧ tc ≤ 9223372036854775807 := by
  obtain ⟨S, hS, h1, h2, h3⟩ := isSum_eq tx1_reads
  refine (read_calls tx1 w (by decide)).mono ?_
  rintro e w' ⟨hb, h⟩
  rw [hS] at h
  obtain ⟨⟨ta, tc, ra, rc⟩, qs, rfl, ho⟩ := h
  have hto := ho.tok
  obtain ⟨t, ht⟩ : ∃ t, S.ts[0]? = some t := ⟨S.ts[0]'(by omega), List.getElem?_eq_getElem _⟩
  obtain ⟨ao, c, e, q1, q2, q3⟩ := own_slice hto
  cases e
  obtain ⟨tb, rfl⟩ : ∃ tb, ta = some ⟨tb, 0, none⟩ := by
    rcases q3 with ⟨-, q3, -⟩ | q3
    · have : S.ts.length = 0 := q3
      omega
    · exact q3
  obtain ⟨b, o, he, p0, -, -⟩ := tok_at (Row.of_own hto) ht
  cases he
  refine ⟨tb, tc, S.st, S.ex, ra, rc, t.n, ?_, hb, ?_, ?_, ?_, ?_⟩
  · unfold gv gmOf fv
    simp only [h1, h2]
  · simpa using p0
  · unfold tkAt at h3
    rw [ht] at h3
    exact h3
  · have : S.ts.length ≤ tc := q1
    omega
  · unfold maxLen at q2
    exact q2

theorem bad_calls (s : ByteArray) (w : World) (hs : s.size ≤ 1048576) (k a : Int) (h : isBad (readS s) k a = true) : Calls Tryz.prog 15 #[.string s] w fun e w' => e = .returned (.tuple #[.agg #[.slice none 0 0, .string ⟨#[]⟩, .int .i64 0, .slice none 0 0], .agg #[.int .i64 k, .int .i64 a]]) ∧ Below w.heap.size w w' := by
  refine (read_calls s w hs).mono ?_
  rintro e w' ⟨hb, h1⟩
  rw [isBad_eq h] at h1
  exact ⟨h1, hb⟩

set_option maxHeartbeats 4000000 in
theorem begun6_calls (w : World) (hp : Pow w) : Calls Tryz.prog 9 #[] w fun e w' => e = .returned (.bool true) ∧ Below w.heap.size w w' := by
  have HP : Hid (Pow w) := hp
  have H1 : Hid (∀ W : World, Calls Tryz.prog 15 #[.string ⟨#[37, 108, 101, 102, 116, 32, 80, 32, 37, 108, 101, 102, 116, 32, 77, 32, 37, 116, 111, 107, 101, 110, 32, 78, 32, 37, 37, 32, 101, 58, 32, 101, 32, 80, 32, 101, 32, 124, 32, 101, 32, 77, 32, 101, 32, 124, 32, 78, 59]⟩] W fun e w' => ∃ tb tc st ex ra rc nm, e = .returned (.tuple #[.agg #[.slice (some ⟨tb, 0, none⟩) 3 tc, .string st, .int .i64 ex, .slice ra 3 rc], .agg #[.int .i64 0, .int .i64 0]]) ∧ Below W.heap.size W w' ∧ w'.cell? ⟨tb, 0, none⟩ = some (.string nm) ∧ nm.toList = [80] ∧ 3 ≤ tc ∧ tc ≤ 9223372036854775807) := fun W => tx1_calls W
  have H2 : Hid (∀ W : World, Calls Tryz.prog 15 #[.string ⟨#[37, 116, 111, 107, 101, 110, 32, 65, 32, 65, 32, 37, 37]⟩] W fun e w' => e = .returned (.tuple #[.agg #[.slice none 0 0, .string ⟨#[]⟩, .int .i64 0, .slice none 0 0], .agg #[.int .i64 7, .int .i64 9]]) ∧ Below W.heap.size W w') := fun W => bad_calls tx2 W (by decide) 7 9 tx2_reads
  have H3 : Hid (∀ W : World, Calls Tryz.prog 15 #[.string ⟨#[37, 37, 32, 101, 32, 58, 32, 124, 32]⟩] W fun e w' => e = .returned (.tuple #[.agg #[.slice none 0 0, .string ⟨#[]⟩, .int .i64 0, .slice none 0 0], .agg #[.int .i64 1, .int .i64 9]]) ∧ Below W.heap.size W w') := fun W => bad_calls tx3 W (by decide) 1 9 tx3_reads
  clear hp
  go_enter Tryz.func9, Tryz.ntmps9
  go_wp2_with fail
  refine (H1.out _).mono ?_
  rintro e V ⟨tb, tc, st, ex, ra, rc, nm, rfl, hBV, hc0, hnm, htc1, htc2⟩
  have hBa : Below V.heap.size V ((V.alloc (.cells #[.slice (some ⟨tb, 0, none⟩) 3 tc, .string st, .int .i64 ex, .slice ra 3 rc] 28)).alloc (.cells #[.int .i64 0, .int .i64 0] 46)) := below_step (below_alloc _ _) (below_alloc _ _)
  have hba1 : ((V.alloc (.cells #[.slice (some ⟨tb, 0, none⟩) 3 tc, .string st, .int .i64 ex, .slice ra 3 rc] 28)).alloc (.cells #[.int .i64 0, .int .i64 0] 46)).heap[V.heap.size]? = some (.cells #[.slice (some ⟨tb, 0, none⟩) 3 tc, .string st, .int .i64 ex, .slice ra 3 rc] 28 (0, 0)) := block_below (below_alloc _ _) (heap_alloc_new _ _)
  have hba2 : ((V.alloc (.cells #[.slice (some ⟨tb, 0, none⟩) 3 tc, .string st, .int .i64 ex, .slice ra 3 rc] 28)).alloc (.cells #[.int .i64 0, .int .i64 0] 46)).heap[V.heap.size + 1]? = some (.cells #[.int .i64 0, .int .i64 0] 46 (0, 0)) := by
    have := heap_alloc_new (V.alloc (.cells #[.slice (some ⟨tb, 0, none⟩) 3 tc, .string st, .int .i64 ex, .slice ra 3 rc] 28)) (.cells #[.int .i64 0, .int .i64 0] 46)
    rwa [size_alloc1] at this
  go_upto_region 2 with fail
  obtain ⟨pa, hpa⟩ : ∃ pa, pa = V.heap.size := ⟨_, rfl⟩
  rw [← hpa] at hba1 hba2 ⊢
  generalize (V.alloc (.cells #[.slice (some ⟨tb, 0, none⟩) 3 tc, .string st, .int .i64 ex, .slice ra 3 rc] 28)).alloc (.cells #[.int .i64 0, .int .i64 0] 46) = V1 at *
  have HV1 : Hid (Below w.heap.size w V1 ∧ V1.heap[pa]? = some (.cells #[.slice (some ⟨tb, 0, none⟩) 3 tc, .string st, .int .i64 ex, .slice ra 3 rc] 28 (0, 0)) ∧ V1.heap[pa + 1]? = some (.cells #[.int .i64 0, .int .i64 0] 46 (0, 0)) ∧ V1.cell? ⟨tb, 0, none⟩ = some (.string nm)) := ⟨below_step hBV hBa, hba1, hba2, cell_below hBa hc0⟩
  clear hBV hBa hba1 hba2 hc0 hpa
  go_wp2_with fail
  refine (H2.out _).mono ?_
  rintro e X ⟨rfl, hBX⟩
  have hBb : Below X.heap.size X ((X.alloc (.cells #[.slice none 0 0, .string ⟨#[]⟩, .int .i64 0, .slice none 0 0] 28)).alloc (.cells #[.int .i64 7, .int .i64 9] 46)) := below_step (below_alloc _ _) (below_alloc _ _)
  have hbb1 : ((X.alloc (.cells #[.slice none 0 0, .string ⟨#[]⟩, .int .i64 0, .slice none 0 0] 28)).alloc (.cells #[.int .i64 7, .int .i64 9] 46)).heap[X.heap.size]? = some (.cells #[.slice none 0 0, .string ⟨#[]⟩, .int .i64 0, .slice none 0 0] 28 (0, 0)) := block_below (below_alloc _ _) (heap_alloc_new _ _)
  have hbb2 : ((X.alloc (.cells #[.slice none 0 0, .string ⟨#[]⟩, .int .i64 0, .slice none 0 0] 28)).alloc (.cells #[.int .i64 7, .int .i64 9] 46)).heap[X.heap.size + 1]? = some (.cells #[.int .i64 7, .int .i64 9] 46 (0, 0)) := by
    have := heap_alloc_new (X.alloc (.cells #[.slice none 0 0, .string ⟨#[]⟩, .int .i64 0, .slice none 0 0] 28)) (.cells #[.int .i64 7, .int .i64 9] 46)
    rwa [size_alloc1] at this
  go_upto_region 3 with fail
  obtain ⟨pb, hpb⟩ : ∃ pb, pb = X.heap.size := ⟨_, rfl⟩
  rw [← hpb] at hbb1 hbb2 ⊢
  generalize (X.alloc (.cells #[.slice none 0 0, .string ⟨#[]⟩, .int .i64 0, .slice none 0 0] 28)).alloc (.cells #[.int .i64 7, .int .i64 9] 46) = X1 at *
  have HX1 : Hid (Below V1.heap.size V1 X1 ∧ X1.heap[pb + 1]? = some (.cells #[.int .i64 7, .int .i64 9] 46 (0, 0))) := ⟨below_step hBX hBb, hbb2⟩
  clear hBX hBb hbb1 hbb2 hpb
  go_wp2_with fail
  refine (H3.out _).mono ?_
  rintro e Y ⟨rfl, hBY⟩
  have hBc : Below Y.heap.size Y ((Y.alloc (.cells #[.slice none 0 0, .string ⟨#[]⟩, .int .i64 0, .slice none 0 0] 28)).alloc (.cells #[.int .i64 1, .int .i64 9] 46)) := below_step (below_alloc _ _) (below_alloc _ _)
  have hbc1 : ((Y.alloc (.cells #[.slice none 0 0, .string ⟨#[]⟩, .int .i64 0, .slice none 0 0] 28)).alloc (.cells #[.int .i64 1, .int .i64 9] 46)).heap[Y.heap.size]? = some (.cells #[.slice none 0 0, .string ⟨#[]⟩, .int .i64 0, .slice none 0 0] 28 (0, 0)) := block_below (below_alloc _ _) (heap_alloc_new _ _)
  have hbc2 : ((Y.alloc (.cells #[.slice none 0 0, .string ⟨#[]⟩, .int .i64 0, .slice none 0 0] 28)).alloc (.cells #[.int .i64 1, .int .i64 9] 46)).heap[Y.heap.size + 1]? = some (.cells #[.int .i64 1, .int .i64 9] 46 (0, 0)) := by
    have := heap_alloc_new (Y.alloc (.cells #[.slice none 0 0, .string ⟨#[]⟩, .int .i64 0, .slice none 0 0] 28)) (.cells #[.int .i64 1, .int .i64 9] 46)
    rwa [size_alloc1] at this
  go_upto_region 4 with fail
  obtain ⟨pc, hpc⟩ : ∃ pc, pc = Y.heap.size := ⟨_, rfl⟩
  rw [← hpc] at hbc1 hbc2 ⊢
  generalize (Y.alloc (.cells #[.slice none 0 0, .string ⟨#[]⟩, .int .i64 0, .slice none 0 0] 28)).alloc (.cells #[.int .i64 1, .int .i64 9] 46) = Y1 at *
  have HY1 : Hid (Below X1.heap.size X1 Y1 ∧ Y1.heap[pc + 1]? = some (.cells #[.int .i64 1, .int .i64 9] 46 (0, 0))) := ⟨below_step hBY hBc, hbc2⟩
  clear hBY hBc hbc1 hbc2 hpc
  have HB1 : Hid (Below V1.heap.size V1 Y1 ∧ Below w.heap.size w Y1) := ⟨below_step HX1.out.1 HY1.out.1, below_step HV1.out.1 (below_step HX1.out.1 HY1.out.1)⟩
  go_wp2_with fail
  refine (begun5b_calls Y1 (HP.out.below HB1.out.2)).mono ?_
  rintro e U ⟨rfl, hBU⟩
  have hVU := below_step HB1.out.1 hBU
  obtain ⟨a0, a1, a2, a3, -, -, -, -⟩ := box_cells (block_below hVU HV1.out.2.1)
  obtain ⟨a4, a5, -, -⟩ := box46 (block_below hVU HV1.out.2.2.1)
  have a6 := cell_below hVU HV1.out.2.2.2
  obtain ⟨b4, b5, -, -⟩ := box46 (block_below (below_step HY1.out.1 hBU) HX1.out.2)
  obtain ⟨d4, d5, -, -⟩ := box46 (block_below hBU HY1.out.2)
  have HU : Hid (Below w.heap.size w U) := below_step HB1.out.2 hBU
  have hnm2 : (nm.toList == [80]) = true := by rw [hnm]; rfl
  clear hVU hBU HV1 HX1 HY1 HB1 hnm
  go_wp2_with fail
  go_ret
  exact ⟨rfl, HU.out⟩

end Go.Proofs.YtkaojokhdleeiaaGreatDoor

/-
  What the rows' condition on the tables gives the walks, and a world that meets it.
-/
namespace Go.Proofs.YtkaojokhdleeiaaGreatDoor
open Go.RowKit

def laid5 : List (String × DataW Unit) := [("math/bits.deBruijn32tab", Rows.laid_math_bits_deBruijn32tab), ("math/bits.deBruijn64tab", Rows.laid_math_bits_deBruijn64tab), ("internal/strconv.uint64pow10", Rows.laid_internal_strconv_uint64pow10), ("strconv.ErrRange", Rows.laid_strconv_ErrRange), ("strconv.ErrSyntax", Rows.laid_strconv_ErrSyntax)]

theorem own : ownKnob Tryz.prog.godebug = none := by kernel_rfl
theorem laidOut : laidOutB Tryz.prog = true := by kernel_rfl
theorem gPow : Tryz.prog.globalNamed "internal/strconv.uint64pow10" = some 3 := by kernel_rfl
theorem tPow : (Tryz.prog.globals[3]?).map (·.type) = some 154 := by kernel_rfl
theorem cells139 : Tryz.prog.cellsOf 139 = 1 := by kernel_rfl
theorem cells154 : Tryz.prog.cellsOf 154 = 20 := by kernel_rfl

theorem door_met (os : Os) (args : Array Value) : laidMetH Tryz.prog laid5 ((World.doorLaid Tryz.prog 64 os).forCall (fun _ _ => 0) ⟨#[], args, []⟩).memory :=
  laidMetH_of_parts3 (fuel := 8) (laidMet_of_run' 8 (by kernel_rfl) (by kernel_rfl)) (by kernel_rfl) (by kernel_rfl)

def powZ : List Int := [1, 10, 100, 1000, 10000, 100000, 1000000, 10000000, 100000000, 1000000000, 10000000000, 100000000000, 1000000000000, 10000000000000, 100000000000000, 1000000000000000, 10000000000000000, 100000000000000000, 1000000000000000000, 10000000000000000000]

theorem pow_of_laid {W : World} (h : laidMetH Tryz.prog laid5 W) : Pow W := by
  rw [MakeChecks.laidMetH_plain _ _ _ (by kernel_rfl)] at h
  obtain ⟨ps, ⟨_, _, _, _, _, _, _, _, _, _, ⟨_, _, _, _, _, _, _, _, _, _, ⟨g', t', cs, fuel, p, q, hg', ht', hvar, hd, _, _⟩, _⟩, _⟩, _⟩ := h
  obtain rfl := Option.some.inj (gPow.symm.trans hg')
  obtain rfl := Option.some.inj (tPow.symm.trans ht')
  have hT : Lib.TabIs Tryz.prog W "internal/strconv.uint64pow10" .u64 powZ := by
    unfold Lib.TabIs
    rw [hvar, ← Lib.cells_of_tab (zs := powZ) Tryz.underlying154 Tryz.underlying139 cells139 cells154 hd]
  intro i hi
  rw [hT.cell gPow i hi]
  have hz : ∀ j, j < 20 → powZ.getD j 0 = ((10 ^ j : Nat) : Int) := by decide
  rw [hz i hi]

end Go.Proofs.YtkaojokhdleeiaaGreatDoor
