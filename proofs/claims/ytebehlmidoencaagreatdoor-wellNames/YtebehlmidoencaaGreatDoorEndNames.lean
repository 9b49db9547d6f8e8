/-
  WellNames: whatever the number and the name, in the grammar of sums with the name put in for a symbol, a Left, a Prec or the Start the program's Of and the reference's tell the same number and the same Spec, so the call returns true and leaves all that was there as it was; its conditions are those of the row: the five tables as the program lays them.
-/
import Derived.Test.YtebehlmidoencaaGreatDoorOwn13
import Derived.Test.YtebehlmidoencaaGreatDoorCards
import Derived.Test.YtebehlmidoencaaGreatDoorTie
import Derived.OpenShut
import Derived.ShutString
import Derived.ChangeOld
import Derived.Below
import Derived.SevenTiedAt
/-
  WellNames: whatever the number and the name, the call returns true and leaves all that was there as it was.
-/
namespace Go.Proofs.YtebehlmidoencaaGreatDoor.Names
open Go.RowKit

/-- A rule's right side is another one. -/
theorem setRight {w : World} {base g : Nat} {h : Hd} {G : Gm} {qs : List (Ru × Option Addr × Nat)} (o : OwnG w base h G qs) (hra : h.ra = some ⟨g, 0, none⟩) {i : Nat} {q : Ru × Option Addr × Nat} (hq : qs[i]? = some q) (l : List ByteArray) (xa : Option Addr) (n xc : Nat) (hn : n = l.length) (hl : OwnS w base (.slice xa n xc) l) :
    OwnG (w.setCell ⟨g, i * 3 + 1, none⟩ (.slice xa n xc)) base h ⟨G.ts, G.s, G.e, G.rs.set i ⟨q.1.l, l, q.1.p⟩⟩ (qs.set i (⟨q.1.l, l, q.1.p⟩, xa, xc)) := by
  subst hn
  have hrul := o.rul
  rw [hra] at hrul
  refine ⟨?_, ?_, ?_, ?_⟩
  · refine ownsRow_of_block o.tok (fun b hb => Below.heap_setCell _ _ _ _ (fun e => ?_))
    simp only at e
    subst e
    exact own_type hrul o.tok (by decide) (g := b) rfl hb
  · have h1 := own_set (u := .slice xa l.length xc) (j := i * 3 + 1) hrul
    have h2 : (rulC qs).set (i * 3 + 1) (.slice xa l.length xc) = rulC (qs.set i (⟨q.1.l, l, q.1.p⟩, xa, xc)) := three_set _ (fun _ => rfl) ((⟨q.1.l, l, q.1.p⟩, xa, xc) : Ru × Option Addr × Nat) 1 (.slice xa l.length xc) qs i q hq (by omega) rfl
    rw [h2] at h1
    simp only [List.length_set]
    rw [hra]
    exact h1
  · simp only
    rw [List.map_set, o.map]
  · intro q' hq'
    have hrow : OwnS w base (.slice q'.2.1 q'.1.r.length q'.2.2) q'.1.r := by
      rcases List.mem_or_eq_of_mem_set hq' with h1 | h1
      · exact o.row q' h1
      · subst h1
        exact hl
    refine ownsRow_of_block hrow (fun b hb => Below.heap_setCell _ _ _ _ (fun e => ?_))
    simp only at e
    subst e
    exact own_type hrul hrow (by decide) (g := b) rfl hb

theorem own_box25 {W : World} {base gb j : Nat} {h : Hd} {G : Gm} {qs : List (Ru × Option Addr × Nat)} {c : Array Value} {u : Value} (o : OwnG W base h G qs) (hb : W.heap[gb]? = some (.cells c 25 (0, 0))) (st : ByteArray) : OwnG (W.setCell ⟨gb, j, none⟩ u) base h ⟨G.ts, st, G.e, G.rs⟩ qs := by
  have hne : ∀ {E k n : Nat} {v : Value} {cs : List Value}, W.ownsRow base E k v n cs → E ≠ 25 → (W.setCell ⟨gb, j, none⟩ u).ownsRow base E k v n cs := fun ho hE => ownsRow_of_block ho (fun i hi => Below.heap_setCell _ _ _ _ (loc_ne (own_loc ho hi) ⟨_, hb⟩ hE))
  exact ⟨hne o.tok (by decide), hne o.rul (by decide), o.map, fun q hq => hne (o.row q hq) (by decide)⟩

theorem row_box25 {W : World} {base gb g j n c : Nat} {d : Array Value} {cs : List Value} {u : Value} (ho : W.ownsRow base 46 3 (.slice (some ⟨g, 0, none⟩) n c) n cs) (hb : W.heap[gb]? = some (.cells d 25 (0, 0))) : (W.setCell ⟨g, j, none⟩ u).heap[gb]? = some (.cells d 25 (0, 0)) := by
  rw [Below.heap_setCell _ _ _ _ (show gb ≠ g from loc_ne ⟨_, hb⟩ (own_loc ho rfl) (by decide))]
  exact hb

theorem small_of {s : ByteArray} (hs : s.size ≤ 12) (st : ByteArray) (hst : st = bE ∨ st = e0 ∨ st = s) (rs : List Ru) (hn : rs.length ≤ 3) (hr : ∀ r ∈ rs, (r.l = bE ∨ r.l = s) ∧ (r.p = e0 ∨ r.p = s) ∧ r.r.length ≤ 3 ∧ ∀ x ∈ r.r, x = bE ∨ x = bP ∨ x = bM ∨ x = bN ∨ x = s) : Small ⟨sumsG.ts, st, 0, rs⟩ := by
  have hE : bE.size ≤ 100 := by decide
  have hN : bN.size ≤ 100 := by decide
  have hP : bP.size ≤ 100 := by decide
  have hM : bM.size ≤ 100 := by decide
  have h0 : e0.size ≤ 100 := by decide
  have hss : s.size ≤ 100 := by omega
  refine ⟨sums_small.nt, by show rs.length ≤ 200; omega, ?_, sums_small.tk, fun r h => ?_⟩
  · rcases hst with rfl | rfl | rfl
    · exact hE
    · exact h0
    · exact hss
  · obtain ⟨h1, h2, h3, h4⟩ := hr r h
    refine ⟨?_, ?_, by omega, fun x hx => ?_⟩
    · rcases h1 with h1 | h1 <;> rw [h1] <;> assumption
    · rcases h2 with h2 | h2 <;> rw [h2] <;> assumption
    · rcases h4 x hx with h | h | h | h | h <;> rw [h] <;> assumption

set_option maxHeartbeats 8000000 in
set_option maxRecDepth 20000 in
theorem walk (a0 : Int) (s : ByteArray) (w : World) (hp : Pow w) : Calls Tryz.prog 7 #[.int .i64 a0, .string s] w fun e w' => e = .returned (.bool true) ∧ Below w.heap.size w w' := by
  have HP : Hid (Pow w) := hp
  clear hp
  have HSM : Hid (∀ V : World, Calls Tryz.prog 15 #[] V fun e w' => ∃ ta tc ra rc, e = .returned (.agg #[.slice ta 3 tc, .string ⟨#[]⟩, .int .i64 0, .slice ra 3 rc]) ∧ (∃ qs, OwnG w' V.heap.size ⟨ta, tc, ra, rc⟩ sumsG qs) ∧ Below V.heap.size V w') := fun V => (sums_calls V).mono (fun e w' ⟨⟨ta, tc, ra, rc⟩, qs, he, ho, hb⟩ => ⟨ta, tc, ra, rc, he, ⟨qs, ho⟩, hb⟩)
  go_enter Tryz.func7, Tryz.ntmps7
  go_wp2_with fail
  refine (begun7_calls w HP.out).mono ?_
  rintro e V1 ⟨rfl, hB⟩
  have HV1 : Hid (Below w.heap.size w V1) := hB
  clear hB
  go_wp2_with fail
  refine (HSM.out _).mono ?_
  rintro e V2 ⟨ta, tc, ra, rc, rfl, ⟨qs, ho⟩, hB⟩
  obtain ⟨g, rfl⟩ : ∃ g, ra = some ⟨g, 0, none⟩ := by
    obtain ⟨ao, c, e, -, -, h6⟩ := own_slice ho.rul
    cases e
    rcases h6 with ⟨-, h6, -⟩ | h6
    · exact absurd (show (3 : Nat) = 0 from h6) (by decide)
    · exact h6
  have hv : Below V2.heap.size V2 (V2.alloc (.cells #[.slice ta 3 tc, .string ⟨#[]⟩, .int .i64 0, .slice (some ⟨g, 0, none⟩) 3 rc] 25)) := below_alloc _ _
  have hx : (V2.alloc (.cells #[.slice ta 3 tc, .string ⟨#[]⟩, .int .i64 0, .slice (some ⟨g, 0, none⟩) 3 rc] 25)).heap[V2.heap.size]? = some (.cells #[.slice ta 3 tc, .string ⟨#[]⟩, .int .i64 0, .slice (some ⟨g, 0, none⟩) 3 rc] 25 (0, 0)) := heap_alloc_new _ _
  have H2 : Hid (OwnG (V2.alloc (.cells #[.slice ta 3 tc, .string ⟨#[]⟩, .int .i64 0, .slice (some ⟨g, 0, none⟩) 3 rc] 25)) V1.heap.size ⟨ta, tc, some ⟨g, 0, none⟩, rc⟩ sumsG qs ∧ (V2.alloc (.cells #[.slice ta 3 tc, .string ⟨#[]⟩, .int .i64 0, .slice (some ⟨g, 0, none⟩) 3 rc] 25)).heap[V2.heap.size]? = some (.cells #[.slice ta 3 tc, .string ⟨#[]⟩, .int .i64 0, .slice (some ⟨g, 0, none⟩) 3 rc] 25 (0, 0)) ∧ Below V1.heap.size V1 (V2.alloc (.cells #[.slice ta 3 tc, .string ⟨#[]⟩, .int .i64 0, .slice (some ⟨g, 0, none⟩) 3 rc] 25)) ∧ V1.heap.size ≤ V2.heap.size) := ⟨ho.below hv, hx, below_step hB hv, hB.size⟩
  clear ho hB hv hx HSM
  go_upto_region 5 with fail
  generalize V2.alloc (.cells #[.slice ta 3 tc, .string ⟨#[]⟩, .int .i64 0, .slice (some ⟨g, 0, none⟩) 3 rc] 25) = V3 at H2 ⊢
  generalize V2.heap.size = gb at H2 ⊢
  have H2B : Hid (Below w.heap.size w V3) := below_step HV1.out H2.out.2.2.1
  by_cases h12 : 12 < s.size
  · have h12' : (12 : Int) < (s.size : Int) := by omega
    go_wp2_with fail
    go_ret
    exact ⟨rfl, H2B.out⟩
  have h12' : ¬ (12 : Int) < (s.size : Int) := by omega
  have HNC : Hid (Calls Tryz.prog 16 #[.string s] V3 fun e w' => e = .returned (.bool (nameOk (by8 s))) ∧ w' = V3) := rname_calls s V3 (by omega)
  obtain ⟨bn, HBN⟩ : ∃ bn, Hid (nameOk (by8 s) = bn) := ⟨_, rfl⟩
  rw [HBN.out] at HNC
  go_wp2_with fail
  refine HNC.out.mono ?_
  rintro e V4 ⟨rfl, rfl⟩
  cases bn
  · go_wp2_with fail
    go_ret
    exact ⟨rfl, H2B.out⟩
  have HNM : Hid (NameP s) := HBN.out
  have HS12 : Hid (s.size ≤ 12) := Nat.le_of_not_lt h12
  clear HNC HBN
  clear h12 h12' H2B
  obtain ⟨z, hz⟩ : ∃ z, bits BinOp.and IntKind.i64 a0 3 = z := ⟨_, rfl⟩
  go_upto_block 0 with fail
  clear hz
  have hn3 : ∃ q0 q1 q2 : Ru × Option Addr × Nat, qs = [q0, q1, q2] ∧ q0.1 = ⟨bE, [bE, bP, bE], e0⟩ ∧ q1.1 = ⟨bE, [bE, bM, bE], e0⟩ ∧ q2.1 = ⟨bE, [bN], e0⟩ := by
    have hm := H2.out.1.map
    match qs, hm with
    | [], hm => simp [sumsG] at hm
    | [_], hm => simp [sumsG] at hm
    | [_, _], hm => simp [sumsG] at hm
    | [q0, q1, q2], hm =>
      simp only [List.map_cons, List.map_nil, sumsG, List.cons.injEq, and_true] at hm
      exact ⟨q0, q1, q2, rfl, hm.1, hm.2.1, hm.2.2⟩
    | _ :: _ :: _ :: _ :: _, hm => simp [sumsG] at hm
  obtain ⟨q0, q1, q2, rfl, e0', e1', e2'⟩ := hn3
  have HE : Hid (q0.1 = ⟨bE, [bE, bP, bE], e0⟩ ∧ q1.1 = ⟨bE, [bE, bM, bE], e0⟩ ∧ q2.1 = ⟨bE, [bN], e0⟩) := ⟨e0', e1', e2'⟩
  clear e0' e1' e2'
  go_cut [24] (fun s24 wd => Hid (∃ (G2 : Gm) (hd : Hd), IsG wd hd G2 ∧ wd.heap[gb]? = some (.cells #[.slice hd.ta G2.ts.length hd.tc, .string G2.s, .int .i64 G2.e, .slice hd.ra G2.rs.length hd.rc] 25 (0, 0)) ∧ Below w.heap.size w wd))
  case first =>
    obtain ⟨p0, p1, p2, p3⟩ := box4 H2.out.2.1
    have hrl := own_lens H2.out.1.rul
    have hc7 : V4.cell? ⟨g, 7, none⟩ = some (.slice q2.2.1 q2.1.r.length q2.2.2) ∧ V4.frozen? ⟨g, 7, none⟩ = false := own_cell H2.out.1.rul rfl
    have hc6 : V4.cell? ⟨g, 6, none⟩ = some (.string q2.1.l) ∧ V4.frozen? ⟨g, 6, none⟩ = false := own_cell H2.out.1.rul rfl
    have hc5 : V4.cell? ⟨g, 5, none⟩ = some (.string q1.1.p) ∧ V4.frozen? ⟨g, 5, none⟩ = false := own_cell H2.out.1.rul rfl
    have hrl3 : 3 ≤ rc ∧ rc ≤ 9223372036854775807 := hrl
    obtain ⟨c7, f7⟩ := hc7
    obtain ⟨c6, f6⟩ := hc6
    obtain ⟨c5, f5⟩ := hc5
    have hb1 : Below w.heap.size w V4 := below_step HV1.out H2.out.2.2.1
    by_cases z0 : z = 0
    · have HF : Hid (∃ (G2 : Gm) (hd : Hd), IsG ((V4.alloc (.cells #[.string ⟨#[78]⟩, .string s] 9)).setCell ⟨g, 7, none⟩ (.slice (some ⟨V4.heap.size, 0, none⟩) 2 2)) hd G2 ∧ ((V4.alloc (.cells #[.string ⟨#[78]⟩, .string s] 9)).setCell ⟨g, 7, none⟩ (.slice (some ⟨V4.heap.size, 0, none⟩) 2 2)).heap[gb]? = some (.cells #[.slice hd.ta G2.ts.length hd.tc, .string G2.s, .int .i64 G2.e, .slice hd.ra G2.rs.length hd.rc] 25 (0, 0)) ∧ Below w.heap.size w ((V4.alloc (.cells #[.string ⟨#[78]⟩, .string s] 9)).setCell ⟨g, 7, none⟩ (.slice (some ⟨V4.heap.size, 0, none⟩) 2 2))) := by
        have hv : Below V4.heap.size V4 (V4.alloc (.cells #[.string ⟨#[78]⟩, .string s] 9)) := below_alloc _ _
        have o1 := H2.out.1.below hv
        have ol : OwnS (V4.alloc (.cells #[.string ⟨#[78]⟩, .string s] 9)) V1.heap.size (.slice (some ⟨V4.heap.size, 0, none⟩) 2 2) [bN, s] := own_new V4 V1.heap.size 9 1 2 [.string bN, .string s] H2.out.2.2.1.size rfl (by omega)
        have o2 := setRight o1 rfl (i := 2) (q := q2) rfl [bN, s] (some ⟨V4.heap.size, 0, none⟩) 2 2 rfl ol
        refine ⟨⟨sumsG.ts, sumsG.s, sumsG.e, sumsG.rs.set 2 ⟨q2.1.l, [bN, s], q2.1.p⟩⟩, ⟨ta, tc, some ⟨g, 0, none⟩, rc⟩, o2.isG ?_, row_box25 o1.rul (block_below hv H2.out.2.1), ?_⟩
        · rw [HE.out.2.2]
          refine small_of (by have := HS12.out; omega) _ (.inr (.inl rfl)) _ (by simp [sumsG]) (fun r hr => ?_)
          simp only [sumsG, List.set, List.mem_cons, List.not_mem_nil, or_false] at hr
          rcases hr with rfl | rfl | rfl
          · exact ⟨.inl rfl, .inl rfl, by simp, fun x hx => by simp only [List.mem_cons, List.not_mem_nil, or_false] at hx; rcases hx with rfl | rfl | rfl <;> simp⟩
          · exact ⟨.inl rfl, .inl rfl, by simp, fun x hx => by simp only [List.mem_cons, List.not_mem_nil, or_false] at hx; rcases hx with rfl | rfl | rfl <;> simp⟩
          · exact ⟨.inl rfl, .inl rfl, by simp, fun x hx => by simp only [List.mem_cons, List.not_mem_nil, or_false] at hx; rcases hx with rfl | rfl <;> simp⟩
        · exact (below_step hb1 hv).setCell (p := ⟨g, 7, none⟩) (Nat.le_trans HV1.out.size (own_blt H2.out.1.rul rfl).1) _
      obtain ⟨c7', f7'⟩ : (V4.alloc (.cells #[.string ⟨#[78]⟩, .string s] 9)).cell? ⟨g, 7, none⟩ = some (.slice q2.2.1 q2.1.r.length q2.2.2) ∧ (V4.alloc (.cells #[.string ⟨#[78]⟩, .string s] 9)).frozen? ⟨g, 7, none⟩ = false := own_cell (H2.out.1.below (below_alloc _ _)).rul rfl
      have hzb : (z == 0) = true := by simp [z0]
      clear z0 hb1
      go_wp2_with fail
      go_meet
      exact HF
    have hzb0 : (z == 0) = false := by simp [z0]
    by_cases z1 : z = 1
    · have HF : Hid (∃ (G2 : Gm) (hd : Hd), IsG ((V4.setCell ⟨g, 6, none⟩ (.string s)).setCell ⟨gb, 1, none⟩ (.string ⟨#[101]⟩)) hd G2 ∧ ((V4.setCell ⟨g, 6, none⟩ (.string s)).setCell ⟨gb, 1, none⟩ (.string ⟨#[101]⟩)).heap[gb]? = some (.cells #[.slice hd.ta G2.ts.length hd.tc, .string G2.s, .int .i64 G2.e, .slice hd.ra G2.rs.length hd.rc] 25 (0, 0)) ∧ Below w.heap.size w ((V4.setCell ⟨g, 6, none⟩ (.string s)).setCell ⟨gb, 1, none⟩ (.string ⟨#[101]⟩))) := by
        have o2 := H2.out.1.setRule rfl (i := 2) (j := 0) (q := q2) rfl (by omega) ⟨s, q2.1.r, q2.1.p⟩ (.string s) rfl rfl
        have hx := row_box25 (j := 6) (u := .string s) H2.out.1.rul H2.out.2.1
        have o3 := own_box25 (j := 1) (u := .string ⟨#[101]⟩) o2 hx bE
        refine ⟨⟨sumsG.ts, bE, sumsG.e, sumsG.rs.set 2 ⟨s, q2.1.r, q2.1.p⟩⟩, ⟨ta, tc, some ⟨g, 0, none⟩, rc⟩, o3.isG ?_, ?_, ?_⟩
        · rw [HE.out.2.2]
          refine small_of (by have := HS12.out; omega) _ (.inl rfl) _ (by simp [sumsG]) (fun r hr => ?_)
          simp only [sumsG, List.set, List.mem_cons, List.not_mem_nil, or_false] at hr
          rcases hr with rfl | rfl | rfl
          · exact ⟨.inl rfl, .inl rfl, by simp, fun x hx => by simp only [List.mem_cons, List.not_mem_nil, or_false] at hx; rcases hx with rfl | rfl | rfl <;> simp⟩
          · exact ⟨.inl rfl, .inl rfl, by simp, fun x hx => by simp only [List.mem_cons, List.not_mem_nil, or_false] at hx; rcases hx with rfl | rfl | rfl <;> simp⟩
          · exact ⟨.inr rfl, .inl rfl, by simp, fun x hx => by simp only [List.mem_cons, List.not_mem_nil, or_false] at hx; subst hx; simp⟩
        · rw [setCell_heap _ hx]
          rfl
        · exact (hb1.setCell (p := ⟨g, 6, none⟩) (Nat.le_trans HV1.out.size (own_blt H2.out.1.rul rfl).1) _).setCell (p := ⟨gb, 1, none⟩) (Nat.le_trans HV1.out.size H2.out.2.2.2) _
      have hx := row_box25 (j := 6) (u := .string s) H2.out.1.rul H2.out.2.1
      have d1 : (V4.setCell ⟨g, 6, none⟩ (.string s)).cell? ⟨gb, 1, none⟩ = some (.string ⟨#[]⟩) := (box4 hx).2.1
      have g1 : (V4.setCell ⟨g, 6, none⟩ (.string s)).frozen? ⟨gb, 1, none⟩ = false := frozen_block hx 1
      have hzb : (z == 1) = true := by simp [z1]
      clear z0 z1 hb1 hx
      go_wp2_with fail
      go_meet
      exact HF
    have hzb1 : (z == 1) = false := by simp [z1]
    by_cases z2 : z = 2
    · have HF : Hid (∃ (G2 : Gm) (hd : Hd), IsG (V4.setCell ⟨g, 5, none⟩ (.string s)) hd G2 ∧ (V4.setCell ⟨g, 5, none⟩ (.string s)).heap[gb]? = some (.cells #[.slice hd.ta G2.ts.length hd.tc, .string G2.s, .int .i64 G2.e, .slice hd.ra G2.rs.length hd.rc] 25 (0, 0)) ∧ Below w.heap.size w (V4.setCell ⟨g, 5, none⟩ (.string s))) := by
        have o2 := H2.out.1.setRule rfl (i := 1) (j := 2) (q := q1) rfl (by omega) ⟨q1.1.l, q1.1.r, s⟩ (.string s) rfl rfl
        refine ⟨⟨sumsG.ts, sumsG.s, sumsG.e, sumsG.rs.set 1 ⟨q1.1.l, q1.1.r, s⟩⟩, ⟨ta, tc, some ⟨g, 0, none⟩, rc⟩, o2.isG ?_, row_box25 H2.out.1.rul H2.out.2.1, ?_⟩
        · rw [HE.out.2.1]
          refine small_of (by have := HS12.out; omega) _ (.inr (.inl rfl)) _ (by simp [sumsG]) (fun r hr => ?_)
          simp only [sumsG, List.set, List.mem_cons, List.not_mem_nil, or_false] at hr
          rcases hr with rfl | rfl | rfl
          · exact ⟨.inl rfl, .inl rfl, by simp, fun x hx => by simp only [List.mem_cons, List.not_mem_nil, or_false] at hx; rcases hx with rfl | rfl | rfl <;> simp⟩
          · exact ⟨.inl rfl, .inr rfl, by simp, fun x hx => by simp only [List.mem_cons, List.not_mem_nil, or_false] at hx; rcases hx with rfl | rfl | rfl <;> simp⟩
          · exact ⟨.inl rfl, .inl rfl, by simp, fun x hx => by simp only [List.mem_cons, List.not_mem_nil, or_false] at hx; subst hx; simp⟩
        · exact hb1.setCell (p := ⟨g, 5, none⟩) (Nat.le_trans HV1.out.size (own_blt H2.out.1.rul rfl).1) _
      have hzb : (z == 2) = true := by simp [z2]
      clear z0 z1 z2 hb1
      go_wp2_with fail
      go_meet
      exact HF
    have hzb2 : (z == 2) = false := by simp [z2]
    have HF : Hid (∃ (G2 : Gm) (hd : Hd), IsG (V4.setCell ⟨gb, 1, none⟩ (.string s)) hd G2 ∧ (V4.setCell ⟨gb, 1, none⟩ (.string s)).heap[gb]? = some (.cells #[.slice hd.ta G2.ts.length hd.tc, .string G2.s, .int .i64 G2.e, .slice hd.ra G2.rs.length hd.rc] 25 (0, 0)) ∧ Below w.heap.size w (V4.setCell ⟨gb, 1, none⟩ (.string s))) := by
      have o3 := own_box25 (j := 1) (u := .string s) H2.out.1 H2.out.2.1 s
      refine ⟨⟨sumsG.ts, s, sumsG.e, sumsG.rs⟩, ⟨ta, tc, some ⟨g, 0, none⟩, rc⟩, o3.isG ?_, ?_, ?_⟩
      · refine small_of (by have := HS12.out; omega) _ (.inr (.inr rfl)) _ (by decide) (fun r hr => ?_)
        simp only [sumsG, List.mem_cons, List.not_mem_nil, or_false] at hr
        rcases hr with rfl | rfl | rfl
        · exact ⟨.inl rfl, .inl rfl, by simp, fun x hx => by simp only [List.mem_cons, List.not_mem_nil, or_false] at hx; rcases hx with rfl | rfl | rfl <;> simp⟩
        · exact ⟨.inl rfl, .inl rfl, by simp, fun x hx => by simp only [List.mem_cons, List.not_mem_nil, or_false] at hx; rcases hx with rfl | rfl | rfl <;> simp⟩
        · exact ⟨.inl rfl, .inl rfl, by simp, fun x hx => by simp only [List.mem_cons, List.not_mem_nil, or_false] at hx; subst hx; simp⟩
      · rw [setCell_heap _ H2.out.2.1]
        rfl
      · exact hb1.setCell (p := ⟨gb, 1, none⟩) (Nat.le_trans HV1.out.size H2.out.2.2.2) _
    have f1 : V4.frozen? ⟨gb, 1, none⟩ = false := frozen_block H2.out.2.1 1
    clear z0 z1 z2 hb1
    go_wp2_with fail
    go_meet
    exact HF
  case rest =>
    obtain ⟨V5, hV5⟩ : ∃ V5, V5 = wc := ⟨_, rfl⟩
    subst wc
    clear H2 HV1 HNM HE
    obtain ⟨G', ⟨ta2, tc2, ra2, rc2⟩, hg, hx, hb⟩ := hcut.out
    obtain ⟨k, hk⟩ := ofR_ex G'
    have HK : Hid (OfR G' k) := hk
    obtain ⟨tn2, HTN2⟩ : ∃ tn2, Hid (G'.ts.length = tn2) := ⟨_, rfl⟩
    obtain ⟨rn2, HRN2⟩ : ∃ rn2, Hid (G'.rs.length = rn2) := ⟨_, rfl⟩
    simp only at hx
    rw [HTN2.out, HRN2.out] at hx
    have H3 : Hid (IsG V5 ⟨ta2, tc2, ra2, rc2⟩ G' ∧ V5.heap[gb]? = some (.cells #[.slice ta2 tn2 tc2, .string G'.s, .int .i64 G'.e, .slice ra2 rn2 rc2] 25 (0, 0)) ∧ Below w.heap.size w V5) := ⟨hg, hx, hb⟩
    have HSM : Hid (Small G') := hg.small
    clear hg hx hb hk hcut
    obtain ⟨p0, p1, p2, p3⟩ := box4 H3.out.2.1
    obtain ⟨S, HS⟩ : ∃ S, Hid (spK G' k = S) := ⟨_, rfl⟩
    have HEQ : Hid (∀ (h1 h2 : SHd) (V : World), IsSp V h1 S → IsSp V h2 S → Calls Tryz.prog 12 #[.agg (sC h1 S), .agg (sC h2 S)] V fun e w' => e = .returned (.bool true) ∧ Below V.heap.size V w') := fun h1 h2 V s1 s2 => by
      rw [← HS.out] at s1 s2 ⊢
      exact eq_uni G' HSM.out k h1 h2 V s1 s2
    have HOF : Hid (∀ V : World, IsG V ⟨ta2, tc2, ra2, rc2⟩ G' → Calls Tryz.prog 10 #[.agg #[.slice ta2 tn2 tc2, .string G'.s, .int .i64 G'.e, .slice ra2 rn2 rc2]] V fun e w' => ∃ h', e = .returned (.tuple #[.agg (sC h' S), .int .i64 k]) ∧ IsSp w' h' S ∧ Below V.heap.size V w') := fun V hV => by
      have := of_uni G' ⟨ta2, tc2, ra2, rc2⟩ V k hV HK.out
      unfold gv at this
      simp only at this
      rw [HTN2.out, HRN2.out, HS.out] at this
      exact this
    have HRF : Hid (∀ V : World, IsG V ⟨ta2, tc2, ra2, rc2⟩ G' → Calls Tryz.prog 11 #[.agg #[.slice ta2 tn2 tc2, .string G'.s, .int .i64 G'.e, .slice ra2 rn2 rc2]] V fun e w' => ∃ h', e = .returned (.tuple #[.agg (sC h' S), .int .i64 k]) ∧ IsSp w' h' S ∧ Below V.heap.size V w') := fun V hV => by
      have := rof_uni G' ⟨ta2, tc2, ra2, rc2⟩ V k hV HK.out
      unfold gv at this
      simp only at this
      rw [HTN2.out, HRN2.out, HS.out] at this
      exact this
    go_wp2_with fail
    refine (HOF.out _ H3.out.1).mono ?_
    rintro e V4 ⟨h1, rfl, hs1, hB4⟩
    have hv : Below V4.heap.size V4 (V4.alloc (.cells (sC h1 S) 32)) := below_alloc _ _
    have H4 : Hid (IsG (V4.alloc (.cells (sC h1 S) 32)) ⟨ta2, tc2, ra2, rc2⟩ G' ∧ (V4.alloc (.cells (sC h1 S) 32)).heap[gb]? = some (.cells #[.slice ta2 tn2 tc2, .string G'.s, .int .i64 G'.e, .slice ra2 rn2 rc2] 25 (0, 0)) ∧ Below w.heap.size w (V4.alloc (.cells (sC h1 S) 32)) ∧ IsSp (V4.alloc (.cells (sC h1 S) 32)) h1 S ∧ (V4.alloc (.cells (sC h1 S) 32)).heap[V4.heap.size]? = some (.cells (sC h1 S) 32 (0, 0))) := ⟨(H3.out.1.below hB4).below hv, block_below hv (block_below hB4 H3.out.2.1), below_step (below_step H3.out.2.2 hB4) hv, hs1.below hv, heap_alloc_new _ _⟩
    clear hs1 hB4 hv H3 p0 p1 p2 p3 HOF
    unfold sC at HEQ HRF
    unfold sC
    go_upto_region 17 with fail
    have e4 : V4.alloc (.cells #[.int .i64 (S.tk : Int), .int .i64 (S.nt : Int), .int .i64 (S.st : Int), .int .i64 S.ex, .slice h1.na S.nm.length h1.nc, .slice h1.la S.lv.length h1.lc, .slice h1.aa S.az.length h1.ac, .slice h1.ra S.rs.length h1.rc] 32) = V4.alloc (.cells (sC h1 S) 32) := rfl
    rw [e4]
    generalize V4.alloc (.cells (sC h1 S) 32) = V5 at H4 ⊢
    generalize V4.heap.size = b1 at H4 ⊢
    clear e4
    obtain ⟨p0, p1, p2, p3⟩ := box4 H4.out.2.1
    go_wp2_with fail
    refine (HRF.out _ H4.out.1).mono ?_
    rintro e V6 ⟨h2, rfl, hs2, hB6⟩
    have hv : Below V6.heap.size V6 (V6.alloc (.cells (sC h2 S) 32)) := below_alloc _ _
    have H6 : Hid (Below w.heap.size w (V6.alloc (.cells (sC h2 S) 32)) ∧ IsSp (V6.alloc (.cells (sC h2 S) 32)) h1 S ∧ (V6.alloc (.cells (sC h2 S) 32)).heap[b1]? = some (.cells (sC h1 S) 32 (0, 0)) ∧ IsSp (V6.alloc (.cells (sC h2 S) 32)) h2 S ∧ (V6.alloc (.cells (sC h2 S) 32)).heap[V6.heap.size]? = some (.cells (sC h2 S) 32 (0, 0))) := ⟨below_step (below_step H4.out.2.2.1 hB6) hv, (H4.out.2.2.2.1.below hB6).below hv, block_below hv (block_below hB6 H4.out.2.2.2.2), hs2.below hv, heap_alloc_new _ _⟩
    clear hs2 hB6 hv H4 p0 p1 p2 p3 HRF
    go_upto_region 18 with fail
    have e6 : V6.alloc (.cells #[.int .i64 (S.tk : Int), .int .i64 (S.nt : Int), .int .i64 (S.st : Int), .int .i64 S.ex, .slice h2.na S.nm.length h2.nc, .slice h2.la S.lv.length h2.lc, .slice h2.aa S.az.length h2.ac, .slice h2.ra S.rs.length h2.rc] 32) = V6.alloc (.cells (sC h2 S) 32) := rfl
    rw [e6]
    generalize V6.alloc (.cells (sC h2 S) 32) = V7 at H6 ⊢
    generalize V6.heap.size = b2 at H6 ⊢
    clear e6
    obtain ⟨c0, c1, c2, c3, c4, c5, c6, c7⟩ := sbox H6.out.2.2.1
    obtain ⟨d0, d1, d2, d3, d4, d5, d6, d7⟩ := sbox H6.out.2.2.2.2
    go_wp2_with fail
    refine (HEQ.out h1 h2 _ H6.out.2.1 H6.out.2.2.2.1).mono ?_
    rintro e V8 ⟨rfl, hB8⟩
    have HE : Hid (Below w.heap.size w V8) := below_step H6.out.1 hB8
    clear hB8 H6 c0 c1 c2 c3 c4 c5 c6 c7 d0 d1 d2 d3 d4 d5 d6 d7
    go_wp2_with fail
    go_ret
    exact ⟨rfl, HE.out⟩

end Go.Proofs.YtebehlmidoencaaGreatDoor.Names

/-
  WellNames: whatever the number and the name, in the grammar of sums with the name put in for a symbol, a Left, a Prec or the Start the program's Of and the reference's tell the same number and the same Spec, so the call returns true and leaves all that was there as it was; its conditions are those of the row: the five tables as the program lays them.
-/
namespace Go.Proofs.YtebehlmidoencaaGreatDoor.Names
open Go.ChangeShapes Go.WideShapes Go.ChangeAt Go.RowKit
open Go.ChangeMaps (open_string shut_string)

set_option maxRecDepth 100000 in
theorem lifted (os : Os) (started : os.Started) (H : Type) (enc : TypeId × Value → H) :
    ReturnsInHanded {} Tryz.checked os 7 .any (fun w args => (Rows.wellNamesSpec.pre enc Tryz.prog Tryz.f7 [] false w args ∧ laidMetH Tryz.prog laid5 w) ∧ sizedMet enc Tryz.prog Tryz.f7 (OpenSpec.ofChange Rows.wellNamesSpec) false w args) (Rows.wellNamesSpec.post enc Tryz.prog Tryz.f7 false true false false) := by
  refine returnsInHanded_of_change_and (C := Tryz.checked) (X := fun w _ => laidMetH Tryz.prog laid5 w) (fun _ _ _ hh h => h.of_heap hh) own started (by kernel_rfl) Tryz.func7
    (ChangeSpec.witness_shaped (enc := enc) (C := Tryz.checked) (os := os) (X := fun w _ => laidMetH Tryz.prog laid5 w) false (World.doorLaid Tryz.prog 97 os) #[.int .i64 0, .string ⟨#[]⟩] 8 rfl (World.shaped_of_RefB (by kernel_rfl) (by kernel_rfl)) (by kernel_rfl) (by kernel_rfl) (by kernel_rfl) (door_met os _)) ?_
  intro W base args ds gs before hval0 hW _ _ hL _
  have hval : ∀ (j : Nat) t v, Tryz.f7.params[j]? = some t → args[j]? = some v → Value.okWide Tryz.prog W .any base t v := hval0
  have hW' := hW
  obtain ⟨p, q, hA0, hV, rfl, _, _⟩ := hW
  have hA : DataW.TrodAll enc Tryz.prog W 0 (fun _ => true) true Tryz.f7.params.toList args.toList ds p := hA0
  rw [Tryz.params7] at hA hval
  obtain ⟨v0, vs0, d0, ds0, p0, q0, _, rfl, rfl, h0, r0⟩ := trodAll_cons hA
  obtain ⟨v1, vs1, d1, ds1, p1, q1, rfl, rfl, rfl, h1, r1⟩ := trodAll_cons r0
  obtain ⟨rfl, rfl, rfl⟩ := trodAll_nil r1
  obtain rfl : args = #[v0, v1] := by cases args; simp_all
  obtain ⟨rfl, rfl⟩ := trodVars_none hV
  obtain ⟨a0, rfl, rfl, rfl, w0⟩ := open_int Tryz.underlying3 (hval 0 3 v0 rfl rfl) h0
  obtain ⟨a1, rfl, rfl, rfl, w1⟩ := open_string Tryz.underlying9 (hval 1 9 v1 rfl rfl) h1
  clear hA0 hval0
  simp only [List.append_nil] at hW'
  refine (walk a0 a1 W (pow_of_laid hL)  ).mono fun e W' ⟨he, bel⟩ => ?_
  subst he
  exact ⟨_, rfl, _, _, _, [], _, [], hW', trodAll_mk1 (shut_bool Tryz.underlying4 _), (trodAll_cons_mk (shut_int Tryz.underlying3 w0) (trodAll_cons_mk (shut_string Tryz.underlying9 w1) trodAll_mk0)), rfl, bel.frame _, fun h => by cases h⟩

theorem over : Rows.wellNamesRow.holds Tryz.pinned (OpenSpec.ofChange Rows.wellNamesSpec) :=
  OpenClaim.holds_of_wide 7 Tryz.f7 rfl rfl rfl rfl rfl rfl rfl ⟨rfl, rfl, rfl, rfl, rfl⟩ rfl rfl rfl rfl rfl (by kernel_rfl) Tryz.func7 (by kernel_rfl)
    (of_decide_eq_true (by kernel_rfl)) (by unfold Func.isWrapper; first | (rw [if_pos (by decide +kernel)]; kernel_rfl) | (rw [if_neg (by decide +kernel)]; exact ⟨rfl, rfl⟩))
    (fun os started H enc _ => lifted os started H enc)

theorem card : Claim7.holds Tryz.pinned (.plain (OpenSpec.ofChange Rows.wellNamesSpec)) Rows.wellNamesCard :=
  Claim7.holds_tied_plain_at .later [] [.data, .data, .data, .sentinel, .sentinel] true (true, "08a893462700bd46a194e27f97dd7829a9dfa3398a209d6b1c2ae5fb9c9a65e3") true
    over (fun _ h => by cases h) (by kernel_rfl) (fun _ h => by cases h) wellNames_row_tie rfl ⟨rfl, rfl⟩ (by kernel_rfl) rfl
    (fun f fn hf hfn => by
      obtain rfl : f = 7 := Option.some.inj ((show Tryz.prog.funcNamed "donatus/donatuslaw7.WellNames" = some 7 by kernel_rfl).symm.trans hf) |>.symm
      obtain rfl : fn = Tryz.f7 := (Option.some.inj (Tryz.func7.symm.trans hfn)).symm
      exact ⟨by kernel_rfl, fun j t ht => by
        rw [Tryz.params7] at ht
        have hm : t ∈ [3, 9] := by simpa using Array.mem_of_getElem? ht
        have hall : ([3, 9].all fun u => !Tryz.prog.wantsStandIn u) = true := by kernel_rfl
        exact (show Tryz.prog.wantsStandIn t = false by simpa using List.all_eq_true.1 hall t hm)⟩)
    (by kernel_rfl)

end Go.Proofs.YtebehlmidoencaaGreatDoor.Names
namespace Go.Proofs.YtebehlmidoencaaGreatDoor
theorem wellNames_holds : Rows.WellNamesCardSaid := Names.card
#print axioms wellNames_holds
end Go.Proofs.YtebehlmidoencaaGreatDoor
