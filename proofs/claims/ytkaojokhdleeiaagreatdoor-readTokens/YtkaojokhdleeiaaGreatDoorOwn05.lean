/-
  Texts that the proof of the Read statements stands on, part Own05.
-/
import Derived.Test.YtkaojokhdleeiaaGreatDoorOwn04
import Derived.RegionTactic
import Derived.Laws.OwnMore
/-
  The walks of formatBase10 at three and four digits, of FormatInt and Itoa.
-/
namespace Go.Proofs.YtkaojokhdleeiaaGreatDoor
open Go.RowKit

set_option maxRecDepth 20000

/-- The bytes of an array from its second place on. -/
def Digs (w : World) (ab : Nat) (l : List Int) : Prop := ∀ j (hj : j < l.length), w.cell? ⟨ab, 1 + j, none⟩ = some (.int .u8 l[j])

theorem sm_even (k : Nat) (hk : k < 100) : ((Lib.sm (k * 2)).toNat : Int) = 48 + k / 10 ∧ ((Lib.sm (k * 2 + 1)).toNat : Int) = 48 + k % 10 := by
  have all : ((List.range 100).all fun k => (((Lib.sm (k * 2)).toNat : Int) == 48 + (k : Int) / 10) && (((Lib.sm (k * 2 + 1)).toNat : Int) == 48 + (k : Int) % 10)) = true := by kernel_rfl
  have := List.all_eq_true.1 all k (List.mem_range.2 hk)
  simpa using this

set_option maxHeartbeats 4000000 in
set_option maxRecDepth 100000 in
theorem fmt4_calls (x : Int) (ab : Nat) (w : World) (h1 : 1000 ≤ x) (h2 : x ≤ 9999) (hc : ∀ j, j < 24 → ∃ g : Int, w.cell? ⟨ab, j, none⟩ = some (.int .u8 g)) (hf : ∀ j, w.frozen? ⟨ab, j, none⟩ = false) :
    Calls Tryz.prog 127 #[.slice (some ⟨ab, 1, none⟩) 4 23, .int .u64 x] w fun e w' => e = .returned (.tuple #[]) ∧ Digs w' ab [48 + x / 1000, 48 + x / 100 % 10, 48 + x / 10 % 10, 48 + x % 10] ∧ Below ab w w' := by
  obtain ⟨g1, c1⟩ := hc 1 (by omega)
  obtain ⟨g2, c2⟩ := hc 2 (by omega)
  obtain ⟨g3, c3⟩ := hc 3 (by omega)
  obtain ⟨g4, c4⟩ := hc 4 (by omega)
  clear hc
  have mx := mixed
  go_enter Tryz.func127, Tryz.ntmps127
  go_name_bytes SM hSM
  have eSM : SM = Lib.smalls := by rw [← hSM]; decide +kernel
  subst eSM
  clear hSM
  go_wp2
  go_loop [1, 4] (fun u v => u = .int .u64 x ∧ v = .int .i64 4) (fun _ _ => 0)
  case atStart => exact ⟨rfl, rfl⟩
  case round =>
    obtain ⟨rfl, rfl⟩ := hrel
    go_upto_region 17 with fail
    go_name_slot 15 x0 hx0
    go_name_slot 14 x1 hx1
    have hxa : ∃ k : Nat, k < 100 ∧ x0 = ((k * 2 : Nat) : Int) ∧ (k : Int) = x % 100 := ⟨(x % 100).toNat, by omega, by omega, by omega⟩
    have hxb : ∃ k : Nat, k < 100 ∧ x1 = ((k * 2 : Nat) : Int) ∧ (k : Int) = x / 100 := ⟨(x / 100).toNat, by omega, by omega, by omega⟩
    obtain ⟨k0, hk0, he0, hv0⟩ := hxa
    obtain ⟨k1, hk1, he1, hv1⟩ := hxb
    have hX0a : ∀ w, (Instr.index 9 (.string Lib.smalls) (.int .u32 (x0 + 1))).run Tryz.prog w = .ok (.int .u8 ((Lib.sm (k0 * 2 + 1)).toNat : Int)) w := Lib.idx_smalls 9 Tryz.underlying9 .u32 _ _ (by omega) (by omega)
    have hX0b : ∀ w, (Instr.index 9 (.string Lib.smalls) (.int .u32 x0)).run Tryz.prog w = .ok (.int .u8 ((Lib.sm (k0 * 2)).toNat : Int)) w := Lib.idx_smalls 9 Tryz.underlying9 .u32 _ _ (by omega) (by omega)
    have hX1a : ∀ w, (Instr.index 9 (.string Lib.smalls) (.int .u32 (x1 + 1))).run Tryz.prog w = .ok (.int .u8 ((Lib.sm (k1 * 2 + 1)).toNat : Int)) w := Lib.idx_smalls 9 Tryz.underlying9 .u32 _ _ (by omega) (by omega)
    have hX1b : ∀ w, (Instr.index 9 (.string Lib.smalls) (.int .u32 x1)).run Tryz.prog w = .ok (.int .u8 ((Lib.sm (k1 * 2)).toNat : Int)) w := Lib.idx_smalls 9 Tryz.underlying9 .u32 _ _ (by omega) (by omega)
    have hb0 : 0 ≤ x0 ∧ x0 ≤ 198 := by omega
    have hb1 : 0 ≤ x1 ∧ x1 ≤ 198 := by omega
    obtain ⟨e1, e2⟩ := sm_even k0 hk0
    obtain ⟨e3, e4⟩ := sm_even k1 hk1
    have HE : Hid (((Lib.sm (k1 * 2)).toNat : Int) = 48 + x / 1000 ∧ ((Lib.sm (k1 * 2 + 1)).toNat : Int) = 48 + x / 100 % 10 ∧ ((Lib.sm (k0 * 2)).toNat : Int) = 48 + x / 10 % 10 ∧ ((Lib.sm (k0 * 2 + 1)).toNat : Int) = 48 + x % 10) := by
      refine ⟨?_, ?_, ?_, ?_⟩
      · rw [e3]; omega
      · rw [e4]; omega
      · rw [e1]; omega
      · rw [e2]; omega
    generalize ((Lib.sm (k0 * 2)).toNat : Int) = y0 at hX0b HE
    generalize ((Lib.sm (k0 * 2 + 1)).toNat : Int) = y1 at hX0a HE
    generalize ((Lib.sm (k1 * 2)).toNat : Int) = y2 at hX1b HE
    generalize ((Lib.sm (k1 * 2 + 1)).toNat : Int) = y3 at hX1a HE
    clear e1 e2 e3 e4 hx0 hx1 he0 he1 hv0 hv1 hk0 hk1
    go_region
    go_wp2
    go_region
    go_wp2
    go_end0
    refine ⟨rfl, ?_, (((((Below.refl ab w).setCell (p := ⟨ab, 4, none⟩) (Nat.le_refl _) _).setCell (p := ⟨ab, 3, none⟩) (Nat.le_refl _) _).setCell (p := ⟨ab, 2, none⟩) (Nat.le_refl _) _).setCell (p := ⟨ab, 1, none⟩) (Nat.le_refl _) _).drew.drew⟩
    rw [← HE.out.1, ← HE.out.2.1, ← HE.out.2.2.1, ← HE.out.2.2.2]
    intro j hj
    match j, hj with
    | 0, _ => simp [go_sem, c1]
    | 1, _ => simp [go_sem, c2]
    | 2, _ => simp [go_sem, c3]
    | 3, _ => simp [go_sem, c4]

set_option maxHeartbeats 4000000 in
set_option maxRecDepth 100000 in
theorem fmt3_calls (x : Int) (ab : Nat) (w : World) (h1 : 100 ≤ x) (h2 : x ≤ 999) (hc : ∀ j, j < 24 → ∃ g : Int, w.cell? ⟨ab, j, none⟩ = some (.int .u8 g)) (hf : ∀ j, w.frozen? ⟨ab, j, none⟩ = false) :
    Calls Tryz.prog 127 #[.slice (some ⟨ab, 1, none⟩) 3 23, .int .u64 x] w fun e w' => e = .returned (.tuple #[]) ∧ Digs w' ab [48 + x / 100, 48 + x / 10 % 10, 48 + x % 10] ∧ Below ab w w' := by
  obtain ⟨g1, c1⟩ := hc 1 (by omega)
  obtain ⟨g2, c2⟩ := hc 2 (by omega)
  obtain ⟨g3, c3⟩ := hc 3 (by omega)
  clear hc
  have mx := mixed
  go_enter Tryz.func127, Tryz.ntmps127
  go_name_bytes SM hSM
  have eSM : SM = Lib.smalls := by rw [← hSM]; decide +kernel
  subst eSM
  clear hSM
  go_wp2
  go_loop [1, 4] (fun u v => u = .int .u64 x ∧ v = .int .i64 3) (fun _ _ => 0)
  case atStart => exact ⟨rfl, rfl⟩
  case round =>
    obtain ⟨rfl, rfl⟩ := hrel
    go_upto_region 23 with fail
    go_name_slot 16 x0 hx0
    have hxa : ∃ k : Nat, k < 100 ∧ x0 = ((k * 2 : Nat) : Int) ∧ (k : Int) = x % 100 := ⟨(x % 100).toNat, by omega, by omega, by omega⟩
    obtain ⟨k0, hk0, he0, hv0⟩ := hxa
    have hX0a : ∀ w, (Instr.index 9 (.string Lib.smalls) (.int .u32 (x0 + 1))).run Tryz.prog w = .ok (.int .u8 ((Lib.sm (k0 * 2 + 1)).toNat : Int)) w := Lib.idx_smalls 9 Tryz.underlying9 .u32 _ _ (by omega) (by omega)
    have hX0b : ∀ w, (Instr.index 9 (.string Lib.smalls) (.int .u32 x0)).run Tryz.prog w = .ok (.int .u8 ((Lib.sm (k0 * 2)).toNat : Int)) w := Lib.idx_smalls 9 Tryz.underlying9 .u32 _ _ (by omega) (by omega)
    have hb0 : 0 ≤ x0 ∧ x0 ≤ 198 := by omega
    obtain ⟨e1, e2⟩ := sm_even k0 hk0
    have HE : Hid (((Lib.sm (k0 * 2)).toNat : Int) = 48 + x / 10 % 10 ∧ ((Lib.sm (k0 * 2 + 1)).toNat : Int) = 48 + x % 10) := by
      refine ⟨?_, ?_⟩
      · rw [e1]; omega
      · rw [e2]; omega
    generalize ((Lib.sm (k0 * 2)).toNat : Int) = y0 at hX0b HE
    generalize ((Lib.sm (k0 * 2 + 1)).toNat : Int) = y1 at hX0a HE
    clear e1 e2 hx0 he0 hv0 hk0
    go_region
    go_wp2
    go_end0
    refine ⟨rfl, ?_, ?_⟩
    · rw [← HE.out.1, ← HE.out.2]
      intro j hj
      match j, hj with
      | 0, _ => simp [go_sem, c1]
      | 1, _ => simp [go_sem, c2]
      | 2, _ => simp [go_sem, c3]
    · exact ((((Below.refl ab w).setCell (p := ⟨ab, 3, none⟩) (Nat.le_refl _) _).setCell (p := ⟨ab, 2, none⟩) (Nat.le_refl _) _).setCell (p := ⟨ab, 1, none⟩) (Nat.le_refl _) _).drew

theorem dg_all : ((List.range 10000).all fun n => decide (n < 100) || (dg 6 n [] == (if n < 1000 then [UInt8.ofNat (48 + n / 100), UInt8.ofNat (48 + n / 10 % 10), UInt8.ofNat (48 + n % 10)] else [UInt8.ofNat (48 + n / 1000), UInt8.ofNat (48 + n / 100 % 10), UInt8.ofNat (48 + n / 10 % 10), UInt8.ofNat (48 + n % 10)]))) = true := by kernel_rfl

set_option maxHeartbeats 4000000 in
set_option maxRecDepth 100000 in
theorem formatInt_calls (n : Nat) (w : World) (hn : n ≤ 9999) (hp : Pow w) : Calls Tryz.prog 114 #[.int .i64 n, .int .i64 10] w fun e w' => ∃ t, e = .returned (.string t) ∧ by8 t = dg 6 n [] ∧ Below w.heap.size w w' := by
  by_cases hs : n < 100
  · have HC : Hid (∀ W : World, Calls Tryz.prog 125 #[.int .i64 n] W fun e w' => ∃ t, e = .returned (.string t) ∧ by8 t = dg 6 n [] ∧ w' = W) := fun W => small_calls n W hs
    have hs' : (n : Int) < 100 := by omega
    go_enter Tryz.func114, Tryz.ntmps114
    go_wp2_with fail
    refine (HC.out _).mono ?_
    rintro e w1 ⟨t, rfl, ht, rfl⟩
    have HT : Hid (by8 t = dg 6 n []) := ht
    clear ht HC
    go_wp2_with fail
    go_ret
    exact ⟨t, rfl, HT.out, Below.refl _ _⟩
  · have HD := List.all_eq_true.1 dg_all n (List.mem_range.2 (by omega))
    rw [decide_eq_false hs, Bool.false_or, beq_iff_eq] at HD
    have H1 : Hid (∀ W : World, Pow W → Calls Tryz.prog 126 #[.int .u64 n] W fun e w' => e = .returned (.int .i64 (if n < 1000 then 3 else 4 : Nat)) ∧ w' = W) := fun W hW => numDigits_calls n W (by omega) hn hW
    have HP : Hid (Pow w) := hp
    have HDH : Hid (dg 6 n [] = (if n < 1000 then [UInt8.ofNat (48 + n / 100), UInt8.ofNat (48 + n / 10 % 10), UInt8.ofNat (48 + n % 10)] else [UInt8.ofNat (48 + n / 1000), UInt8.ofNat (48 + n / 100 % 10), UInt8.ofNat (48 + n / 10 % 10), UInt8.ofNat (48 + n % 10)])) := HD
    clear HD hp
    have hlo : ¬ (n : Int) < 100 := by omega
    obtain ⟨Z, hZ⟩ : ∃ Z : Array Value, Z = #[.int .u8 0, .int .u8 0, .int .u8 0, .int .u8 0, .int .u8 0, .int .u8 0, .int .u8 0, .int .u8 0, .int .u8 0, .int .u8 0, .int .u8 0, .int .u8 0, .int .u8 0, .int .u8 0, .int .u8 0, .int .u8 0, .int .u8 0, .int .u8 0, .int .u8 0, .int .u8 0, .int .u8 0, .int .u8 0, .int .u8 0, .int .u8 0] := ⟨_, rfl⟩
    have HZ : Hid (∀ j, j < 24 → ∃ g : Int, (w.alloc (.cells Z 138)).cell? ⟨w.heap.size, j, none⟩ = some (.int .u8 g)) := fun j hj => by
      refine ⟨0, ?_⟩
      rw [World.cell?_alloc_mark]
      have e : Z = (List.replicate 24 (Value.int .u8 0)).toArray := by rw [hZ]; rfl
      rw [e, List.getElem?_toArray, List.getElem?_replicate, if_pos hj]
    have HF : Hid (∀ j, (w.alloc (.cells Z 138)).frozen? ⟨w.heap.size, j, none⟩ = false) := fun j => frozen_block (heap_alloc_new _ _) j
    have HB : Hid (Below w.heap.size w (w.alloc (.cells Z 138)) ∧ Pow (w.alloc (.cells Z 138))) := ⟨below_alloc _ _, HP.out.below (below_alloc _ _)⟩
    go_enter Tryz.func114, Tryz.ntmps114
    go_wp2_with fail
    rw [← hZ]
    generalize w.alloc (.cells Z 138) = w1 at HZ HF HB ⊢
    obtain ⟨ab, HAB⟩ : ∃ ab, Hid (ab = w.heap.size) := ⟨_, rfl⟩
    rw [← HAB.out] at HZ HF ⊢
    refine (H1.out _ HB.out.2).mono ?_
    rintro e w2 ⟨rfl, rfl⟩
    clear H1 HP hZ
    by_cases hk : n < 1000
    · rw [if_pos hk]
      have HD2 : Hid (dg 6 n [] = [UInt8.ofNat (48 + n / 100), UInt8.ofNat (48 + n / 10 % 10), UInt8.ofNat (48 + n % 10)]) := by have := HDH.out; rwa [if_pos hk] at this
      have H3 : Hid (Calls Tryz.prog 127 #[.slice (some ⟨ab, 1, none⟩) 3 23, .int .u64 n] w2 fun e w' => e = .returned (.tuple #[]) ∧ Digs w' ab [48 + (n : Int) / 100, 48 + (n : Int) / 10 % 10, 48 + (n : Int) % 10] ∧ Below ab w2 w') := fmt3_calls n ab w2 (by omega) (by omega) HZ.out HF.out
      clear HDH HZ HF
      go_wp2_with fail
      refine H3.out.mono ?_
      rintro e w3 ⟨rfl, hD, hB⟩
      have hcv : (convert 41 9 (.slice (some ⟨ab, 1, none⟩) 3 23)).run Tryz.prog w3 = .ok (.string (strOfNums [48 + (n : Int) / 100, 48 + (n : Int) / 10 % 10, 48 + (n : Int) % 10])) w3 := run_convert_bytes_arg w3 41 5 Tryz.underlying41 Tryz.underlying5 ab 1 3 23 _ rfl (fun i hi => by
        have := hD i hi
        rw [this, List.getD_eq_getElem?_getD, List.getElem?_eq_getElem (by exact hi)]
        rfl) 9 Tryz.underlying9
      have HT : Hid (by8 (strOfNums [48 + (n : Int) / 100, 48 + (n : Int) / 10 % 10, 48 + (n : Int) % 10]) = dg 6 n []) := by
        show _ = _
        rw [HD2.out]
        have h : by8 (strOfNums [48 + (n : Int) / 100, 48 + (n : Int) / 10 % 10, 48 + (n : Int) % 10]) = [UInt8.ofNat (48 + (n : Int) / 100).toNat, UInt8.ofNat (48 + (n : Int) / 10 % 10).toNat, UInt8.ofNat (48 + (n : Int) % 10).toNat] := rfl
        rw [h]
        simp only [List.cons.injEq, and_true]
        refine ⟨?_, ?_, ?_⟩
        all_goals congr 1
      have HE : Hid (Below w.heap.size w w3) := (HB.out.1).trans (by rw [← HAB.out]; exact hB)
      generalize strOfNums [48 + (n : Int) / 100, 48 + (n : Int) / 10 % 10, 48 + (n : Int) % 10] = t at hcv HT
      clear hD hB H3 HD2
      go_wp2_with fail
      go_ret
      exact ⟨t, rfl, HT.out, HE.out⟩
    · rw [if_neg hk]
      have HD2 : Hid (dg 6 n [] = [UInt8.ofNat (48 + n / 1000), UInt8.ofNat (48 + n / 100 % 10), UInt8.ofNat (48 + n / 10 % 10), UInt8.ofNat (48 + n % 10)]) := by have := HDH.out; rwa [if_neg hk] at this
      have H3 : Hid (Calls Tryz.prog 127 #[.slice (some ⟨ab, 1, none⟩) 4 23, .int .u64 n] w2 fun e w' => e = .returned (.tuple #[]) ∧ Digs w' ab [48 + (n : Int) / 1000, 48 + (n : Int) / 100 % 10, 48 + (n : Int) / 10 % 10, 48 + (n : Int) % 10] ∧ Below ab w2 w') := fmt4_calls n ab w2 (by omega) (by omega) HZ.out HF.out
      clear HDH HZ HF
      go_wp2_with fail
      refine H3.out.mono ?_
      rintro e w3 ⟨rfl, hD, hB⟩
      have hcv : (convert 41 9 (.slice (some ⟨ab, 1, none⟩) 4 23)).run Tryz.prog w3 = .ok (.string (strOfNums [48 + (n : Int) / 1000, 48 + (n : Int) / 100 % 10, 48 + (n : Int) / 10 % 10, 48 + (n : Int) % 10])) w3 := run_convert_bytes_arg w3 41 5 Tryz.underlying41 Tryz.underlying5 ab 1 4 23 _ rfl (fun i hi => by
        have := hD i hi
        rw [this, List.getD_eq_getElem?_getD, List.getElem?_eq_getElem (by exact hi)]
        rfl) 9 Tryz.underlying9
      have HT : Hid (by8 (strOfNums [48 + (n : Int) / 1000, 48 + (n : Int) / 100 % 10, 48 + (n : Int) / 10 % 10, 48 + (n : Int) % 10]) = dg 6 n []) := by
        show _ = _
        rw [HD2.out]
        have h : by8 (strOfNums [48 + (n : Int) / 1000, 48 + (n : Int) / 100 % 10, 48 + (n : Int) / 10 % 10, 48 + (n : Int) % 10]) = [UInt8.ofNat (48 + (n : Int) / 1000).toNat, UInt8.ofNat (48 + (n : Int) / 100 % 10).toNat, UInt8.ofNat (48 + (n : Int) / 10 % 10).toNat, UInt8.ofNat (48 + (n : Int) % 10).toNat] := rfl
        rw [h]
        simp only [List.cons.injEq, and_true]
        refine ⟨?_, ?_, ?_, ?_⟩
        all_goals congr 1
      have HE : Hid (Below w.heap.size w w3) := (HB.out.1).trans (by rw [← HAB.out]; exact hB)
      generalize strOfNums [48 + (n : Int) / 1000, 48 + (n : Int) / 100 % 10, 48 + (n : Int) / 10 % 10, 48 + (n : Int) % 10] = t at hcv HT
      clear hD hB H3 HD2
      go_wp2_with fail
      go_ret
      exact ⟨t, rfl, HT.out, HE.out⟩

theorem itoa_calls (n : Nat) (w : World) (hn : n ≤ 9999) (hp : Pow w) : Calls Tryz.prog 75 #[.int .i64 n] w fun e w' => ∃ t, e = .returned (.string t) ∧ by8 t = dg 6 n [] ∧ Below w.heap.size w w' := by
  have H1 : Hid (Calls Tryz.prog 114 #[.int .i64 n, .int .i64 10] w fun e w' => ∃ t, e = .returned (.string t) ∧ by8 t = dg 6 n [] ∧ Below w.heap.size w w') := formatInt_calls n w hn hp
  have H2 : Hid (Calls Tryz.prog 99 #[.int .i64 n] w fun e w' => ∃ t, e = .returned (.string t) ∧ by8 t = dg 6 n [] ∧ Below w.heap.size w w') := by
    show Calls _ _ _ _ _
    go_enter Tryz.func99, Tryz.ntmps99
    go_wp2_with fail
    refine H1.out.mono ?_
    rintro e w1 ⟨t, rfl, ht, hb⟩
    have HE : Hid (by8 t = dg 6 n [] ∧ Below w.heap.size w w1) := ⟨ht, hb⟩
    clear ht hb
    go_wp2_with fail
    go_ret
    exact ⟨t, rfl, HE.out⟩
  go_enter Tryz.func75, Tryz.ntmps75
  go_wp2_with fail
  refine H2.out.mono ?_
  rintro e w1 ⟨t, rfl, ht, hb⟩
  have HE : Hid (by8 t = dg 6 n [] ∧ Below w.heap.size w w1) := ⟨ht, hb⟩
  clear ht hb
  go_wp2_with fail
  go_ret
  exact ⟨t, rfl, HE.out⟩

end Go.Proofs.YtkaojokhdleeiaaGreatDoor

/-
  Lines of words; the walks of assocKey, levelLine, putRule.
-/
namespace Go.Proofs.YtkaojokhdleeiaaGreatDoor
open Go.RowKit

set_option maxRecDepth 20000

theorem Tryz.info9 : (Tryz.prog.info? 9).map (fun i => (i.zero, i.size, i.bytes)) = some (some (.string ⟨#[]⟩), 1, 16) := by kernel_rfl

/-- Lines, one behind the other; lines that are not too long. -/
def tx (L : List (List (List UInt8))) : List UInt8 := L.flatMap lineT
def OkL (L : List (List (List UInt8))) : Prop := ∀ ws ∈ L, ws.length ≤ 1000 ∧ ∀ x ∈ ws, x.length ≤ 100

theorem tx_append (a b : List (List (List UInt8))) : tx (a ++ b) = tx a ++ tx b := by unfold tx; rw [List.flatMap_append]
theorem tx_one (x : List (List UInt8)) : tx [x] = lineT x := by unfold tx; simp

theorem lineT_length {ws : List (List UInt8)} (h : ws.length ≤ 1000) (h2 : ∀ x ∈ ws, x.length ≤ 100) : (lineT ws).length ≤ 102000 := by
  unfold lineT
  cases ws with
  | nil => simp [jn]
  | cons x r =>
    have h3 := sp_length r (fun y hy => h2 y (List.mem_cons_of_mem _ hy))
    have h4 := h2 x List.mem_cons_self
    unfold jn
    rw [List.length_append, List.length_append]
    rw [List.length_cons] at h
    simp only [List.length_cons, List.length_nil]
    omega

theorem tx_length {L : List (List (List UInt8))} (h : OkL L) : (tx L).length ≤ 102000 * L.length := by
  induction L with
  | nil => simp [tx]
  | cons x r ih =>
    have h1 := ih (fun y hy => h y (List.mem_cons_of_mem _ hy))
    have h2 := h x List.mem_cons_self
    have h3 := lineT_length h2.1 h2.2
    have e : tx (x :: r) = lineT x ++ tx r := rfl
    rw [e, List.length_append, List.length_cons]
    omega

theorem OkL.snoc {L : List (List (List UInt8))} {ws : List (List UInt8)} (h : OkL L) (h1 : ws.length ≤ 1000) (h2 : ∀ x ∈ ws, x.length ≤ 100) : OkL (L ++ [ws]) := fun y hy => by
  rcases List.mem_append.1 hy with h3 | h3
  · exact h y h3
  · rw [List.mem_singleton] at h3; subst h3; exact ⟨h1, h2⟩

/-- One line more into a builder. -/
theorem putLine_l (l : List ByteArray) (ao : Option Addr) (n cap b : Nat) (v : Value) (L : List (List (List UInt8))) (w : World) (hr : Row w 1 ao n cap (strC l)) (hn : n = l.length) (h1 : 1 ≤ n) (hnn : n ≤ 1000) (hs : ∀ x ∈ l, x.size ≤ 100) (hB : Bld w b v (tx L)) (hL : OkL L) (hl : L.length ≤ 400) :
    Calls Tryz.prog 74 #[.pointer (some ⟨b, 0, none⟩), .slice ao n cap] w fun e w' => ∃ v', e = .returned (.tuple #[]) ∧ Bld w' b v' (tx (L ++ [l.map by8])) ∧ OkL (L ++ [l.map by8]) ∧ Moved w b v w' v' := by
  refine (putLine_calls l ao n cap b v (tx L) w hr hn h1 hnn hs hB (by have := tx_length hL; omega)).mono ?_
  rintro e w' ⟨v', rfl, h2, h3⟩
  refine ⟨v', rfl, by rw [tx_append, tx_one]; exact h2, hL.snoc (by rw [List.length_map, ← hn]; exact hnn) (fun x hx => ?_), h3⟩
  rw [List.mem_map] at hx
  obtain ⟨y, hy, rfl⟩ := hx
  rw [by8_length]
  exact hs y hy

theorem strC_append (a b : List ByteArray) : strC (a ++ b) = strC a ++ strC b := by unfold strC; rw [List.map_append]
theorem strC_length (a : List ByteArray) : (strC a).length = a.length := by unfold strC; rw [List.length_map]
theorem strC_one (l : List ByteArray) : ∀ u ∈ strC l, u.oneCell' = true := by
  intro u hu
  unfold strC at hu
  rw [List.mem_map] at hu
  obtain ⟨s, -, rfl⟩ := hu
  rfl

/-- Texts that the call itself owns. -/
def OwnS (w : World) (base : Nat) (v : Value) (l : List ByteArray) : Prop := w.ownsRow base 9 1 v l.length (strC l)

/-- Texts behind owned ones. -/
theorem OwnS.addRow {w : World} {base : Nat} {v : Value} {l ys : List ByteArray} {xa : Option Addr} {m xc : Nat} (h : OwnS w base v l) (hr : Row w 1 xa m xc (strC ys)) (hb : base ≤ w.heap.size) (hn : l.length + ys.length ≤ 100000) (hm : m = ys.length) :
    ∃ ao n c w', (Builtin.append_ #[38, 38] 38 #[v, .slice xa m xc]).run Tryz.prog w = .ok (.slice ao n c) w' ∧ n = (l ++ ys).length ∧ OwnS w' base (.slice ao n c) (l ++ ys) ∧ Below base w w' := by
  obtain ⟨i0, hi, hz0, hz1, hz2⟩ := info_parts Tryz.info9
  rcases hr.lies with ⟨rfl, h0, h0c⟩ | ⟨b, o, rfl, hc⟩
  · have hys : ys = [] := List.eq_nil_of_length_eq_zero (by omega)
    subst hys h0 h0c
    have hrun := run_append_owned_none (P := Tryz.prog) (w := w) base 38 38 9 i0 1 Tryz.underlying38 hi v l.length (strC l) h
    obtain ⟨ao, c, rfl, -⟩ := own_slice h
    exact ⟨ao, l.length, c, w, hrun, by simp, by rw [List.append_nil]; exact h, Below.refl _ _⟩
  · subst hm
    obtain ⟨v', w', hr', h2, h3, -⟩ := run_append_own (P := Tryz.prog) w base 38 38 9 i0 _ 1 16 Tryz.underlying38 hi hz0 hz1 hz2 rfl (by decide) v l.length (strC l) h ⟨b, o, none⟩ ys.length xc (strC ys) (by rw [strC_length, Nat.mul_one])
      (fun j u hu => by rw [Addr.add_lit]; exact hc j u hu) (strC_one ys) (by unfold maxLen; omega) (by omega) hb
    have h2' : OwnS w' base v' (l ++ ys) := by unfold OwnS; rw [strC_append, List.length_append]; exact h2
    obtain ⟨ao, c, rfl, -⟩ := own_slice h2'
    exact ⟨ao, _, c, w', hr', rfl, h2', (Below.refl base w).grown h3 (by omega) (fun g hg => (World.ownsRow.lt h g hg).1)⟩

theorem OwnS.row {w : World} {base n : Nat} {ao : Option Addr} {c : Nat} {l : List ByteArray} (h : OwnS w base (.slice ao n c) l) (hn : n = l.length) : Row w 1 ao n c (strC l) := by subst hn; exact Row.of_own h

theorem OwnS.below {w w' : World} {base : Nat} {v : Value} {l : List ByteArray} (h : OwnS w base v l) (hb : Below w.heap.size w w') : OwnS w' base v l :=
  ownsRow_of_block h (fun i hi => hb.block i (World.ownsRow.lt h i hi).2)

/-- Texts that were just laid. -/
theorem new_row (w : World) (l : List ByteArray) (h : l.length ≤ 1000) : Row (w.alloc (.cells (strC l).toArray 9)) 1 (some ⟨w.heap.size, 0, none⟩) l.length l.length (strC l) := by
  refine ⟨by rw [strC_length, Nat.mul_one], Nat.le_refl _, by unfold maxLen; omega, .inr ⟨_, _, rfl, fun j u hu => ?_⟩⟩
  rw [World.cell?_alloc_mark, Nat.zero_add, List.getElem?_toArray]
  exact hu

theorem new_own (w : World) (l : List ByteArray) (h : l.length ≤ 1000) : OwnS (w.alloc (.cells (strC l).toArray 9)) w.heap.size (.slice (some ⟨w.heap.size, 0, none⟩) l.length l.length) l := by
  refine ⟨by rw [strC_length, Nat.mul_one], .inr ⟨w.heap.size, l.length, (strC l).toArray, rfl, Nat.le_refl _, heap_alloc_new _ _, Nat.le_refl _, by unfold maxLen; omega, by simp [strC_length], ?_⟩⟩
  rw [List.toList_toArray, List.take_of_length_le (by rw [strC_length]; omega)]

/-- A kind's key. -/
def keyA (a : Int) : ByteArray := if a = 1 then ⟨#[37, 108, 101, 102, 116]⟩ else if a = 2 then ⟨#[37, 114, 105, 103, 104, 116]⟩ else ⟨#[37, 110, 111, 110, 97, 115, 115, 111, 99]⟩
theorem keyA_size (a : Int) : (keyA a).size ≤ 100 := by
  unfold keyA
  split
  · exact (by decide : (⟨#[37, 108, 101, 102, 116]⟩ : ByteArray).size ≤ 100)
  · split
    · exact (by decide : (⟨#[37, 114, 105, 103, 104, 116]⟩ : ByteArray).size ≤ 100)
    · exact (by decide : (⟨#[37, 110, 111, 110, 97, 115, 115, 111, 99]⟩ : ByteArray).size ≤ 100)

theorem assocKey_calls (a : Int) (w : World) : Calls Tryz.prog 111 #[.int .i64 a] w fun e w' => e = .returned (.string (keyA a)) ∧ w' = w := by
  by_cases h1 : a = 1
  · subst h1
    go_enter Tryz.func111, Tryz.ntmps111
    go_wp2
    go_ret
    exact ⟨rfl, rfl⟩
  · by_cases h2 : a = 2
    · subst h2
      go_enter Tryz.func111, Tryz.ntmps111
      go_wp2
      go_ret
      exact ⟨rfl, rfl⟩
    · have e1 : (a == 1) = false := by simpa using h1
      have e2 : (a == 2) = false := by simpa using h2
      have HK : Hid (keyA a = ⟨#[37, 110, 111, 110, 97, 115, 115, 111, 99]⟩) := by show _ = _; unfold keyA; rw [if_neg h1, if_neg h2]
      go_enter Tryz.func111, Tryz.ntmps111
      go_wp2
      go_ret
      exact ⟨by rw [HK.out]; rfl, rfl⟩

/-- The names of a level. -/
def namesAt (ts : List Tk) (k : Int) : List ByteArray := (ts.filter fun t => t.l == k).map (·.n)

theorem namesAt_snoc (ts : List Tk) (t : Tk) (k : Int) : namesAt (ts ++ [t]) k = namesAt ts k ++ (if t.l == k then [t.n] else []) := by
  unfold namesAt
  rw [List.filter_append, List.map_append]
  congr 1
  cases h : (t.l == k) <;> simp [h]

theorem namesAt_length (ts : List Tk) (k : Int) : (namesAt ts k).length ≤ ts.length := by
  unfold namesAt
  rw [List.length_map]
  exact List.length_filter_le _ _

set_option maxHeartbeats 4000000 in
set_option maxRecDepth 20000 in
theorem levelLine_calls (ts : List Tk) (ao : Option Addr) (n cap : Nat) (k a : Int) (w : World) (hr : Row w 3 ao n cap (tokC ts)) (hn : n = ts.length) (hnn : n ≤ 100) :
    Calls Tryz.prog 95 #[.slice ao n cap, .int .i64 k, .int .i64 a] w fun e w' => ∃ xa m xc, e = .returned (.slice xa m xc) ∧ m = (keyA a :: namesAt ts k).length ∧ Row w' 1 xa m xc (strC (keyA a :: namesAt ts k)) ∧ Below w.heap.size w w' := by
  have HN : Hid (n = ts.length) := hn
  have HR : Hid (Row w 3 ao n cap (tokC ts)) := hr
  have hle := hr.le
  have hmx : cap ≤ 9223372036854775807 := by have := hr.max; unfold maxLen at this; omega
  have HK : Hid (∀ W : World, Calls Tryz.prog 111 #[.int .i64 a] W fun e w' => e = .returned (.string (keyA a)) ∧ w' = W) := fun W => assocKey_calls a W
  have HO : Hid (OwnS (w.alloc (.cells #[.string (keyA a)] 9)) w.heap.size (.slice (some ⟨w.heap.size, 0, none⟩) 1 1) [keyA a] ∧ Below w.heap.size w (w.alloc (.cells #[.string (keyA a)] 9))) := ⟨new_own w [keyA a] (by simp), below_alloc _ _⟩
  generalize keyA a = ka at HK HO ⊢
  clear hr hn
  go_enter Tryz.func95, Tryz.ntmps95
  go_wp2_with fail
  refine (HK.out _).mono ?_
  rintro e w9 ⟨rfl, hww⟩
  subst w9
  go_upto_region 2 with fail
  generalize hw1 : w.alloc (.cells #[.string ka] 9) = w1 at HO ⊢
  clear hw1
  go_wp2
  go_loopg [7, 15] n (fun kx s7 s15 wr => ∃ (i : Nat) (ml : Option Addr × Nat × Nat), s7 = .slice ml.1 ml.2.1 ml.2.2 ∧ s15 = .int .i64 i ∧ i ≤ n ∧ n - i ≤ kx ∧ Hid (∃ l : List ByteArray, l = ka :: namesAt (ts.take i) k ∧ ml.2.1 = l.length ∧ OwnS wr w.heap.size (.slice ml.1 ml.2.1 ml.2.2) l ∧ Below w.heap.size w wr))
  case atStart => exact ⟨0, (some ⟨w.heap.size, 0, none⟩, 1, 1), rfl, rfl, Nat.zero_le _, by omega, (⟨[ka], rfl, rfl, HO.out.1, HO.out.2⟩ : ∃ l : List ByteArray, l = ka :: namesAt (ts.take 0) k ∧ 1 = l.length ∧ OwnS w1 w.heap.size (.slice (some ⟨w.heap.size, 0, none⟩) 1 1) l ∧ Below w.heap.size w w1)⟩
  case round =>
    obtain ⟨i, ⟨la, ln, lc⟩, rfl, rfl, hi, hg, J⟩ := hrel
    simp only at J
    obtain ⟨l, hl, hln, hown, hbel⟩ := J.out
    have HL : Hid (l = ka :: namesAt (ts.take i) k ∧ ln = l.length ∧ OwnS wr w.heap.size (.slice la ln lc) l ∧ Below w.heap.size w wr) := ⟨hl, hln, hown, hbel⟩
    have hll : l.length ≤ 101 := by
      rw [hl, List.length_cons]
      have := namesAt_length (ts.take i) k
      rw [List.length_take, ← HN.out] at this
      omega
    clear J HO
    by_cases hlt : i < n
    · obtain ⟨t, ht⟩ : ∃ t, ts[i]? = some t := ⟨ts[i]'(by rw [← HN.out]; exact hlt), List.getElem?_eq_getElem _⟩
      obtain ⟨b, o, rfl, c0, c1, c2⟩ := tok_at (HR.out.below hbel) ht
      have HT : Hid (namesAt (ts.take (i + 1)) k = namesAt (ts.take i) k ++ (if t.l == k then [t.n] else [])) := by show _ = _; rw [take_succ ht, namesAt_snoc]
      obtain ⟨tn, tl, ta⟩ := t
      simp only at c0 c1 c2
      clear ht
      clear hl hln
      go_upto_region 5 with fail
      have HQ : Hid (OwnS (wr.alloc (.cells #[.string tn, .int .i64 tl, .int .i64 ta] 50)) w.heap.size (.slice la ln lc) l ∧ Below w.heap.size w (wr.alloc (.cells #[.string tn, .int .i64 tl, .int .i64 ta] 50))) := ⟨hown.below (below_alloc _ _), below_step hbel (below_alloc _ _)⟩
      have d0 : (wr.alloc (.cells #[.string tn, .int .i64 tl, .int .i64 ta] 50)).cell? ⟨wr.heap.size, 0, none⟩ = some (.string tn) := by rw [World.cell?_alloc_mark]; rfl
      have d1 : (wr.alloc (.cells #[.string tn, .int .i64 tl, .int .i64 ta] 50)).cell? ⟨wr.heap.size, 1, none⟩ = some (.int .i64 tl) := by rw [World.cell?_alloc_mark]; rfl
      generalize wr.alloc (.cells #[.string tn, .int .i64 tl, .int .i64 ta] 50) = wq at HQ d0 d1 ⊢
      generalize wr.heap.size = tb at d0 d1 ⊢
      clear c0 c1 c2 hown hbel
      by_cases htl : tl = k
      · have e1 : (tl == k) = true := by simpa using htl
        have hA := (HQ.out.1.below (below_alloc wq (.cells #[.string tn] 9))).addRow (new_row wq [tn] (by simp)) (by have := HQ.out.2.size; simp; omega) (by simp; omega) rfl
        obtain ⟨a2, n2, c2, w2, hr, hn2, ho2, hb2⟩ := hA
        have hr' : (Builtin.append_ #[38, 38] 38 #[.slice la ln lc, .slice (some ⟨wq.heap.size, 0, none⟩) 1 1]).run Tryz.prog (wq.alloc (.cells #[.string tn] 9)) = .ok (.slice a2 n2 c2) w2 := hr
        have HF : Hid (∃ l : List ByteArray, l = ka :: namesAt (ts.take (i + 1)) k ∧ n2 = l.length ∧ OwnS w2 w.heap.size (.slice a2 n2 c2) l ∧ Below w.heap.size w w2) := by
          refine ⟨l ++ [tn], ?_, hn2, ho2, ?_⟩
          · have e : namesAt (ts.take (i + 1)) k = namesAt (ts.take i) k ++ [tn] := by rw [HT.out]; simp [e1]
            rw [e, HL.out.1]; rfl
          · have h1 : Below w.heap.size w (wq.alloc (.cells #[.string tn] 9)) := below_step HQ.out.2 (below_alloc _ _)
            exact h1.trans hb2
        clear hr hn2 ho2 hb2 HT HL htl
        go_wp2_with (at_builtin; refine Lib.wpList_append_run _ rfl _ _ _ _ rfl _ _ rfl rfl _ _ hr' ?_)
        go_roundg (n - (i + 1))
        case measure => omega
        case rel => exact ⟨i + 1, (a2, n2, c2), rfl, by simp, by omega, Nat.le_refl _, HF⟩
      · have e1 : (tl == k) = false := by simpa using htl
        have HF : Hid (∃ l : List ByteArray, l = ka :: namesAt (ts.take (i + 1)) k ∧ ln = l.length ∧ OwnS wq w.heap.size (.slice la ln lc) l ∧ Below w.heap.size w wq) := by
          refine ⟨l, ?_, HL.out.2.1, HQ.out.1, HQ.out.2⟩
          have e : namesAt (ts.take (i + 1)) k = namesAt (ts.take i) k := by rw [HT.out]; simp [e1]
          rw [e]; exact HL.out.1
        clear HT HL htl
        go_wp2_with fail
        go_roundg (n - (i + 1))
        case measure => omega
        case rel => exact ⟨i + 1, (la, ln, lc), rfl, by simp, by omega, Nat.le_refl _, HF⟩
    · obtain rfl : i = n := by omega
      have HF : Hid (l = ka :: namesAt ts k ∧ ln = l.length ∧ Row wr 1 la ln lc (strC l) ∧ Below w.heap.size w wr) := by
        refine ⟨?_, hln, hown.row hln, hbel⟩
        rw [hl, HN.out, List.take_length]
      clear HL hl hln hown hbel
      go_wp2_with fail
      go_ret
      obtain ⟨h1, h2, h3, h4⟩ := HF.out
      exact ⟨la, ln, lc, rfl, by rw [h2, h1, List.length_cons], by rw [← h1]; exact h3, h4⟩

end Go.Proofs.YtkaojokhdleeiaaGreatDoor

/-
  The walks of putRule and putTokens.
-/
namespace Go.Proofs.YtkaojokhdleeiaaGreatDoor
open Go.RowKit

set_option maxRecDepth 20000

/-- A rule's words. -/
def ruleL (r : Ru) : List ByteArray := [r.l, ⟨#[58]⟩] ++ r.r ++ (if r.p = ⟨#[]⟩ then [] else [⟨#[37, 112, 114, 101, 99]⟩, r.p]) ++ [⟨#[59]⟩]

/-- What a call that writes one line leaves. -/
def Put (w : World) (b : Nat) (v : Value) (L M : List (List (List UInt8))) (w' : World) (e : Ending) : Prop := ∃ v', e = .returned (.tuple #[]) ∧ Bld w' b v' (tx (L ++ M)) ∧ OkL (L ++ M) ∧ Moved w b v w' v'

set_option maxHeartbeats 4000000 in
set_option maxRecDepth 20000 in
theorem putRule_calls (r : Ru) (xa : Option Addr) (xc b : Nat) (v : Value) (L : List (List (List UInt8))) (w : World) (hr : Row w 1 xa r.r.length xc (strC r.r)) (hs : r.l.size ≤ 100 ∧ r.p.size ≤ 100 ∧ r.r.length ≤ 100 ∧ ∀ x ∈ r.r, x.size ≤ 100) (hB : Bld w b v (tx L)) (hL : OkL L) (hl : L.length ≤ 400) :
    Calls Tryz.prog 76 #[.pointer (some ⟨b, 0, none⟩), .agg #[.string r.l, .slice xa r.r.length xc, .string r.p]] w fun e w' => Put w b v L [(ruleL r).map by8] w' e := by
  obtain ⟨nl, nr, np⟩ := r
  simp only at hr hs ⊢
  have hlen := hs.2.2.1
  have HS : Hid (nl.size ≤ 100 ∧ np.size ≤ 100 ∧ ∀ x ∈ nr, x.size ≤ 100) := ⟨hs.1, hs.2.1, hs.2.2.2⟩
  have HB : Hid (Bld w b v (tx L) ∧ OkL L ∧ L.length ≤ 400) := ⟨hB, hL, hl⟩
  obtain ⟨n, hn⟩ : ∃ n, nr.length = n := ⟨_, rfl⟩
  have HN : Hid (nr.length = n) := hn
  rw [hn] at hr hlen ⊢
  have hle := hr.le
  have hmx : xc ≤ 9223372036854775807 := by have := hr.max; unfold maxLen at this; omega
  have HR : Hid (Row w 1 xa n xc (strC nr)) := hr
  clear hs hB hL hl hn hr
  go_enter Tryz.func76, Tryz.ntmps76
  go_upto_region 1 with fail
  have d0 : (w.alloc (.cells #[.string nl, .slice xa n xc, .string np] 58)).cell? ⟨w.heap.size, 0, none⟩ = some (.string nl) := by rw [World.cell?_alloc_mark]; rfl
  have d1 : (w.alloc (.cells #[.string nl, .slice xa n xc, .string np] 58)).cell? ⟨w.heap.size, 1, none⟩ = some (.slice xa n xc) := by rw [World.cell?_alloc_mark]; rfl
  have d2 : (w.alloc (.cells #[.string nl, .slice xa n xc, .string np] 58)).cell? ⟨w.heap.size, 2, none⟩ = some (.string np) := by rw [World.cell?_alloc_mark]; rfl
  have HW : Hid (Below w.heap.size w (w.alloc (.cells #[.string nl, .slice xa n xc, .string np] 58))) := below_alloc _ _
  generalize w.alloc (.cells #[.string nl, .slice xa n xc, .string np] 58) = w1 at d0 d1 d2 HW ⊢
  obtain ⟨tb, htb⟩ : ∃ tb, tb = w.heap.size := ⟨_, rfl⟩
  rw [← htb] at d0 d1 d2 ⊢
  clear htb
  have hA := (new_own w1 [nl, ⟨#[58]⟩] (by simp)).addRow (HR.out.below (below_step HW.out (below_alloc w1 (.cells (strC [nl, ⟨#[58]⟩]).toArray 9)))) (by simp) (by rw [HN.out]; simp; omega) HN.out.symm
  obtain ⟨a2, n2, k2, w2, hr2, hn2, ho2, hb2⟩ := hA
  have hr2' : (Builtin.append_ #[38, 38] 38 #[.slice (some ⟨w1.heap.size, 0, none⟩) 2 2, .slice xa n xc]).run Tryz.prog (w1.alloc (.cells #[.string nl, .string ⟨#[58]⟩] 9)) = .ok (.slice a2 n2 k2) w2 := hr2
  have hbw : Below w1.heap.size w1 w2 := (below_alloc w1 _).trans hb2
  have H2 : Hid (OwnS w2 w1.heap.size (.slice a2 n2 k2) ([nl, ⟨#[58]⟩] ++ nr) ∧ n2 = ([nl, ⟨#[58]⟩] ++ nr).length ∧ Below w1.heap.size w1 w2) := ⟨ho2, hn2, hbw⟩
  have d1' := cell_alloc d1
  have e2 := cell_below hbw d2
  clear hr2 hn2 ho2 hb2 hbw
  go_upto_region 2 with (at_builtin; refine Lib.wpList_append_run _ rfl _ _ _ _ rfl _ _ rfl rfl _ _ hr2' ?_)
  clear hr2' d0 d1 d2 d1'
  obtain ⟨pe, hpe⟩ : ∃ pe : Bool, (np.toList == []) = pe := ⟨_, rfl⟩
  go_upto_if 13 with fail
  have HPE : Hid (pe = true ↔ np = ⟨#[]⟩) := by show _ ↔ _; rw [← hpe]; exact toList_nil np
  clear hpe
  go_cut [4] (fun s4 wd => ∃ ml : Option Addr × Nat × Nat, s4 = .slice ml.1 ml.2.1 ml.2.2 ∧ Hid (∃ l : List ByteArray, l = [nl, ⟨#[58]⟩] ++ nr ++ (if np = ⟨#[]⟩ then [] else [⟨#[37, 112, 114, 101, 99]⟩, np]) ∧ ml.2.1 = l.length ∧ OwnS wd w1.heap.size (.slice ml.1 ml.2.1 ml.2.2) l ∧ Below w1.heap.size w1 wd))
  case first =>
    by_cases hp : np = ⟨#[]⟩
    · have h1 : pe = true := HPE.out.2 hp
      subst h1
      have HF : Hid (∃ l : List ByteArray, l = [nl, ⟨#[58]⟩] ++ nr ++ (if np = ⟨#[]⟩ then [] else [⟨#[37, 112, 114, 101, 99]⟩, np]) ∧ n2 = l.length ∧ OwnS w2 w1.heap.size (.slice a2 n2 k2) l ∧ Below w1.heap.size w1 w2) := ⟨_, rfl, by rw [if_pos hp, List.append_nil]; exact H2.out.2.1, by rw [if_pos hp, List.append_nil]; exact H2.out.1, H2.out.2.2⟩
      clear hp
      go_wp2_with fail
      go_meet
      exact ⟨(a2, n2, k2), rfl, HF⟩
    · have h1 : pe = false := b_false HPE.out hp
      subst h1
      have hA := (H2.out.1.below (below_alloc w2 (.cells (strC [⟨#[37, 112, 114, 101, 99]⟩, np]).toArray 9))).addRow (new_row w2 [⟨#[37, 112, 114, 101, 99]⟩, np] (by simp)) (by have := H2.out.2.2.size; simp; omega) (by rw [List.length_append, HN.out]; simp; omega) rfl
      obtain ⟨a3, n3, k3, w3, hr3, hn3, ho3, hb3⟩ := hA
      have hr3' : (Builtin.append_ #[38, 38] 38 #[.slice a2 n2 k2, .slice (some ⟨w2.heap.size, 0, none⟩) 2 2]).run Tryz.prog (w2.alloc (.cells #[.string ⟨#[37, 112, 114, 101, 99]⟩, .string np] 9)) = .ok (.slice a3 n3 k3) w3 := hr3
      have HF : Hid (∃ l : List ByteArray, l = [nl, ⟨#[58]⟩] ++ nr ++ (if np = ⟨#[]⟩ then [] else [⟨#[37, 112, 114, 101, 99]⟩, np]) ∧ n3 = l.length ∧ OwnS w3 w1.heap.size (.slice a3 n3 k3) l ∧ Below w1.heap.size w1 w3) := ⟨_, rfl, by rw [if_neg hp]; exact hn3, by rw [if_neg hp]; exact ho3, (below_step H2.out.2.2 (below_alloc w2 _)).trans hb3⟩
      clear hp hr3 hn3 ho3 hb3
      go_wp2_with (at_builtin; refine Lib.wpList_append_run _ rfl _ _ _ _ rfl _ _ rfl rfl _ _ hr3' ?_)
      go_meet
      exact ⟨(a3, n3, k3), rfl, HF⟩
  case rest =>
    obtain ⟨⟨a4, n4, k4⟩, rfl, HF⟩ := hcut
    simp only at HF
    obtain ⟨l, hl, hn4, ho4, hb4⟩ := HF.out
    have hll : l.length ≤ 104 := by
      rw [hl, List.length_append, List.length_append, HN.out]
      simp only [List.length_cons, List.length_nil]
      split <;> simp <;> omega
    have hls : ∀ x ∈ l ++ [⟨#[59]⟩], x.size ≤ 100 := by
      intro x hx
      rw [hl] at hx
      simp only [List.mem_append, List.mem_cons, List.not_mem_nil, or_false] at hx
      have h58 : (⟨#[58]⟩ : ByteArray).size ≤ 100 := by decide
      have h59 : (⟨#[59]⟩ : ByteArray).size ≤ 100 := by decide
      have hpr : (⟨#[37, 112, 114, 101, 99]⟩ : ByteArray).size ≤ 100 := by decide
      rcases hx with ((( rfl | rfl) | hx) | hx) | rfl
      · exact HS.out.1
      · exact h58
      · exact HS.out.2.2 x hx
      · split at hx
        · cases hx
        · simp only [List.mem_cons, List.not_mem_nil, or_false] at hx
          rcases hx with rfl | rfl
          · exact hpr
          · exact HS.out.2.1
      · exact h59
    have hA := (ho4.below (below_alloc wc (.cells (strC [⟨#[59]⟩]).toArray 9))).addRow (new_row wc [⟨#[59]⟩] (by simp)) (by have := hb4.size; simp; omega) (by simp; omega) rfl
    obtain ⟨a5, n5, k5, w5, hr5, hn5, ho5, hb5⟩ := hA
    have hr5' : (Builtin.append_ #[38, 38] 38 #[.slice a4 n4 k4, .slice (some ⟨wc.heap.size, 0, none⟩) 1 1]).run Tryz.prog (wc.alloc (.cells #[.string ⟨#[59]⟩] 9)) = .ok (.slice a5 n5 k5) w5 := hr5
    have hb6 : Below w.heap.size w w5 := by
      have h1 : Below w1.heap.size w1 w5 := (below_step hb4 (below_alloc wc _)).trans hb5
      exact below_step HW.out h1
    have HC : Hid (Calls Tryz.prog 74 #[.pointer (some ⟨b, 0, none⟩), .slice a5 n5 k5] w5 fun e w' => ∃ v', e = .returned (.tuple #[]) ∧ Bld w' b v' (tx (L ++ [(ruleL ⟨nl, nr, np⟩).map by8])) ∧ OkL (L ++ [(ruleL ⟨nl, nr, np⟩).map by8]) ∧ Moved w5 b v w' v') := by
      have e : ruleL ⟨nl, nr, np⟩ = l ++ [⟨#[59]⟩] := by rw [hl]; rfl
      rw [e]
      exact putLine_l (l ++ [⟨#[59]⟩]) a5 n5 k5 b v L w5 (ho5.row hn5) hn5 (by rw [hn5, List.length_append]; simp) (by rw [hn5, List.length_append]; simp; omega) hls (HB.out.1.below hb6) HB.out.2.1 HB.out.2.2
    have HM : Hid (Moved w b v w5 v) := Moved.of_below hb6
    clear hr5 hn5 ho5 hb5 hb6 hls hll hl hn4 ho4 hb4 HF
    go_wp2_with (first | (at_builtin; refine Lib.wpList_append_run _ rfl _ _ _ _ rfl _ _ rfl rfl _ _ hr5' ?_))
    refine HC.out.mono ?_
    rintro e w6 ⟨v6, rfl, h1, h2, h3⟩
    have HE : Hid (Bld w6 b v6 (tx (L ++ [(ruleL ⟨nl, nr, np⟩).map by8])) ∧ OkL (L ++ [(ruleL ⟨nl, nr, np⟩).map by8]) ∧ Moved w b v w6 v6) := ⟨h1, h2, HM.out.trans h3⟩
    clear h1 h2 h3 HC
    go_wp2_with fail
    go_end0
    exact ⟨v6, rfl, HE.out⟩

/-- A row that no write into a builder reaches. -/
theorem rowF {w w' : World} {b : Nat} {v v' : Value} {k : Nat} {ao : Option Addr} {n cap : Nat} {cs : List Value} (h : Row w k ao n cap cs) (hm : Moved w b v w' v') (hf : ∀ a, ao = some a → ¬ Foot b v a.block) : Row w' k ao n cap cs := by
  refine ⟨h.len, h.le, h.max, h.lies.imp id ?_⟩
  rintro ⟨g, o, rfl, hc⟩
  refine ⟨g, o, rfl, fun j u hu => ?_⟩
  have h1 := hc j u hu
  have hl := World.block_lt_of_cell? w _ h1
  rw [← h1]
  unfold World.cell?
  rw [hm.1.block _ hl (hf ⟨g, o, none⟩ rfl)]

/-- The lines of tokens, their levels told. -/
def levLn (ts : List Tk) (l : List Int) (k : Nat) : List (List (List UInt8)) := if (l[k]?).getD 0 = 0 then [] else [(keyA ((l[k]?).getD 0) :: namesAt ts k).map by8]
def levLs (ts : List Tk) (l : List Int) (k : Nat) : List (List (List UInt8)) := (List.range k).flatMap fun i => levLn ts l (i + 1)
def tokLn (ts : List Tk) : List (List (List UInt8)) := if ts = [] then [] else [((⟨#[37, 116, 111, 107, 101, 110]⟩ : ByteArray) :: ts.map (·.n)).map by8]

theorem levLs_succ (ts : List Tk) (l : List Int) (k : Nat) : levLs ts l (k + 1) = levLs ts l k ++ levLn ts l (k + 1) := by
  unfold levLs
  rw [List.range_succ, List.flatMap_append]
  simp

theorem levLs_length (ts : List Tk) (l : List Int) (k : Nat) : (levLs ts l k).length ≤ k := by
  induction k with
  | zero => simp [levLs]
  | succ k ih =>
    rw [levLs_succ, List.length_append]
    unfold levLn
    split <;> simp <;> omega

/-- The lines of all levels below k are written; the levels' own block is as it was. -/
def LvB (ts : List Tk) (l : List Int) (L : List (List (List UInt8))) (w : World) (b : Nat) (v : Value) (wr : World) (lb k : Nat) : Prop :=
  ∃ v', Bld wr b v' (tx (L ++ tokLn ts ++ levLs ts l (k - 1))) ∧ OkL (L ++ tokLn ts ++ levLs ts l (k - 1)) ∧ Moved w b v wr v' ∧ wr.heap[lb]? = some (.cells (ar9 l) 113 (0, 0)) ∧ ¬ Foot b v' lb

set_option maxHeartbeats 4000000 in
set_option maxRecDepth 20000 in
theorem putTokens_calls (ts : List Tk) (l : List Int) (ao : Option Addr) (n cap b : Nat) (v : Value) (L : List (List (List UInt8))) (w : World) (hr : Row w 3 ao n cap (tokC ts)) (hn : n = ts.length) (hnn : n ≤ 100) (hs : ∀ t ∈ ts, t.n.size ≤ 100) (hlf : levF ts = some l) (hng : NoGap l) (hfr : 0 < n → ∀ a, ao = some a → ¬ Foot b v a.block) (hB : Bld w b v (tx L)) (hL : OkL L) (hl : L.length ≤ 300) :
    Calls Tryz.prog 73 #[.pointer (some ⟨b, 0, none⟩), .slice ao n cap] w fun e w' => Put w b v L (tokLn ts ++ levLs ts l 8) w' e := by
  have HN : Hid (n = ts.length) := hn
  have HR : Hid (Row w 3 ao n cap (tokC ts)) := hr
  have HS : Hid (∀ t ∈ ts, t.n.size ≤ 100) := hs
  have HB : Hid (Bld w b v (tx L) ∧ OkL L ∧ L.length ≤ 300) := ⟨hB, hL, hl⟩
  have HLF : Hid (levF ts = some l ∧ NoGap l) := ⟨hlf, hng⟩
  have HFR0 : Hid (0 < n → ∀ a, ao = some a → ¬ Foot b v a.block) := hfr
  have hle := hr.le
  have hmx : cap ≤ 9223372036854775807 := by have := hr.max; unfold maxLen at this; omega
  clear hr hn hs hB hL hl hlf hng hfr
  by_cases h0 : n = 0
  · have e0 : ((n : Int) == 0) = true := by simpa using h0
    have HF : Hid (tokLn ts ++ levLs ts l 8 = []) := by
      have e : ts = [] := List.eq_nil_of_length_eq_zero (by rw [← HN.out]; exact h0)
      subst e
      have e2 : l = zero9 := by have := HLF.out.1; cases this; rfl
      subst e2
      rfl
    have HE : Hid (Bld w b v (tx L) ∧ OkL L) := ⟨HB.out.1, HB.out.2.1⟩
    clear HB HLF h0
    go_enter Tryz.func73, Tryz.ntmps73
    go_wp2_with fail
    refine bodyPost_ret (results_none rfl _ _ _) rfl ?_
    exact ⟨v, rfl, by rw [HF.out, List.append_nil]; exact HE.out.1, by rw [HF.out, List.append_nil]; exact HE.out.2, Moved.refl _ _ _⟩
  · have e0 : ((n : Int) == 0) = false := by simpa using h0
    have HFR : Hid (∀ a, ao = some a → ¬ Foot b v a.block) := HFR0.out (by omega)
    clear HFR0
    have HTL : Hid (tokLn ts = [((⟨#[37, 116, 111, 107, 101, 110]⟩ : ByteArray) :: ts.map (·.n)).map by8]) := by
      show _ = _
      unfold tokLn
      rw [if_neg (fun e => h0 (by rw [HN.out, e]; rfl))]
    have HO : Hid (OwnS (w.alloc (.cells #[.string ⟨#[37, 116, 111, 107, 101, 110]⟩] 9)) w.heap.size (.slice (some ⟨w.heap.size, 0, none⟩) 1 1) [⟨#[37, 116, 111, 107, 101, 110]⟩] ∧ Below w.heap.size w (w.alloc (.cells #[.string ⟨#[37, 116, 111, 107, 101, 110]⟩] 9))) := ⟨new_own w [⟨#[37, 116, 111, 107, 101, 110]⟩] (by simp), below_alloc _ _⟩
    obtain ⟨ka, hka⟩ : ∃ ka : ByteArray, ka = ⟨#[37, 116, 111, 107, 101, 110]⟩ := ⟨_, rfl⟩
    have HKS : Hid (ka.size ≤ 100) := by show _ ≤ _; rw [hka]; decide
    rw [← hka] at HTL
    go_enter Tryz.func73, Tryz.ntmps73
    go_upto_region 2 with fail
    rw [← hka] at HO ⊢
    clear hka
    generalize hw1 : w.alloc (.cells #[.string ka] 9) = w1 at HO ⊢
    clear hw1
    go_upto_block 0 with fail
    go_cut [4] (fun s4 wd => ∃ ml : Option Addr × Nat × Nat, s4 = .slice ml.1 ml.2.1 ml.2.2 ∧ Hid (ml.2.1 = (ka :: ts.map (·.n)).length ∧ Row wd 1 ml.1 ml.2.1 ml.2.2 (strC (ka :: ts.map (·.n))) ∧ Below w.heap.size w wd))
    case first =>
      go_wp2_with fail
      go_loopg [4, 16] n (fun kx s4 s16 wr => ∃ (i : Nat) (ml : Option Addr × Nat × Nat), s4 = .slice ml.1 ml.2.1 ml.2.2 ∧ s16 = .int .i64 i ∧ i ≤ n ∧ n - i ≤ kx ∧ Hid (∃ q : List ByteArray, q = ka :: (ts.take i).map (·.n) ∧ ml.2.1 = q.length ∧ OwnS wr w.heap.size (.slice ml.1 ml.2.1 ml.2.2) q ∧ Below w.heap.size w wr))
      case atStart => exact ⟨0, (some ⟨w.heap.size, 0, none⟩, 1, 1), rfl, rfl, Nat.zero_le _, by omega, (⟨[ka], rfl, rfl, HO.out.1, HO.out.2⟩ : ∃ q : List ByteArray, q = ka :: (ts.take 0).map (·.n) ∧ 1 = q.length ∧ OwnS w1 w.heap.size (.slice (some ⟨w.heap.size, 0, none⟩) 1 1) q ∧ Below w.heap.size w w1)⟩
      case round =>
        obtain ⟨i, ⟨la, ln, lc⟩, rfl, rfl, hi, hg, J⟩ := hrel
        simp only at J
        obtain ⟨q, hq, hln, hown, hbel⟩ := J.out
        have hll : q.length ≤ 101 := by
          rw [hq, List.length_cons, List.length_map, List.length_take, ← HN.out]
          omega
        clear J HO
        by_cases hlt : i < n
        · obtain ⟨t, ht⟩ : ∃ t, ts[i]? = some t := ⟨ts[i]'(by rw [← HN.out]; exact hlt), List.getElem?_eq_getElem _⟩
          obtain ⟨tb0, o, rfl, c0, c1, c2⟩ := tok_at (HR.out.below hbel) ht
          have HT : Hid (ka :: (ts.take (i + 1)).map (·.n) = q ++ [t.n]) := by show _ = _; rw [take_succ ht, List.map_append, hq]; rfl
          have HLN : Hid (ln = q.length) := hln
          obtain ⟨tn, tl, ta⟩ := t
          simp only at c0 c1 c2 HT
          clear ht
          clear hq hln
          go_upto_region 5 with fail
          have HQ : Hid (OwnS (wr.alloc (.cells #[.string tn, .int .i64 tl, .int .i64 ta] 50)) w.heap.size (.slice la ln lc) q ∧ Below w.heap.size w (wr.alloc (.cells #[.string tn, .int .i64 tl, .int .i64 ta] 50))) := ⟨hown.below (below_alloc _ _), below_step hbel (below_alloc _ _)⟩
          have d0 : (wr.alloc (.cells #[.string tn, .int .i64 tl, .int .i64 ta] 50)).cell? ⟨wr.heap.size, 0, none⟩ = some (.string tn) := by rw [World.cell?_alloc_mark]; rfl
          generalize wr.alloc (.cells #[.string tn, .int .i64 tl, .int .i64 ta] 50) = wq at HQ d0 ⊢
          generalize wr.heap.size = tb at d0 ⊢
          clear c0 c1 c2 hown hbel
          have hA := (HQ.out.1.below (below_alloc wq (.cells #[.string tn] 9))).addRow (new_row wq [tn] (by simp)) (by have := HQ.out.2.size; simp; omega) (by simp; omega) rfl
          obtain ⟨a2, n2, c2, w2, hr, hn2, ho2, hb2⟩ := hA
          have hr' : (Builtin.append_ #[38, 38] 38 #[.slice la ln lc, .slice (some ⟨wq.heap.size, 0, none⟩) 1 1]).run Tryz.prog (wq.alloc (.cells #[.string tn] 9)) = .ok (.slice a2 n2 c2) w2 := hr
          have HF : Hid (∃ q : List ByteArray, q = ka :: (ts.take (i + 1)).map (·.n) ∧ n2 = q.length ∧ OwnS w2 w.heap.size (.slice a2 n2 c2) q ∧ Below w.heap.size w w2) :=
            ⟨q ++ [tn], HT.out.symm, hn2, ho2, (below_step HQ.out.2 (below_alloc _ _)).trans hb2⟩
          clear hr hn2 ho2 hb2 HT
          go_wp2_with (at_builtin; refine Lib.wpList_append_run _ rfl _ _ _ _ rfl _ _ rfl rfl _ _ hr' ?_)
          go_roundg (n - (i + 1))
          case measure => omega
          case rel => exact ⟨i + 1, (a2, n2, c2), rfl, by simp, by omega, Nat.le_refl _, HF⟩
        · obtain rfl : i = n := by omega
          have HF : Hid (ln = (ka :: ts.map (·.n)).length ∧ Row wr 1 la ln lc (strC (ka :: ts.map (·.n))) ∧ Below w.heap.size w wr) := by
            have e : q = ka :: ts.map (·.n) := by rw [hq, HN.out, List.take_length]
            rw [← e]
            exact ⟨hln, hown.row hln, hbel⟩
          clear hq hln hown hbel
          go_wp2_with fail
          go_meet
          exact ⟨(la, ln, lc), rfl, HF⟩
    case rest =>
      obtain ⟨⟨a4, n4, k4⟩, rfl, HF⟩ := hcut
      simp only at HF
      have HC : Hid (Calls Tryz.prog 74 #[.pointer (some ⟨b, 0, none⟩), .slice a4 n4 k4] wc fun e w' => ∃ v', e = .returned (.tuple #[]) ∧ Bld w' b v' (tx (L ++ tokLn ts)) ∧ OkL (L ++ tokLn ts) ∧ Moved wc b v w' v') := by
        rw [HTL.out]
        exact putLine_l (ka :: ts.map (·.n)) a4 n4 k4 b v L wc HF.out.2.1 HF.out.1 (by rw [HF.out.1]; simp) (by rw [HF.out.1, List.length_cons, List.length_map, ← HN.out]; omega) (fun x hx => by
          rw [List.mem_cons, List.mem_map] at hx
          rcases hx with rfl | ⟨t, ht, rfl⟩
          · exact HKS.out
          · exact HS.out t ht) (HB.out.1.below HF.out.2.2) HB.out.2.1 (by have := HB.out.2.2; omega)
      have HLL : Hid ((L ++ tokLn ts).length ≤ 301) := by show _ ≤ _; rw [HTL.out, List.length_append]; have := HB.out.2.2; simp; omega
      have HM0 : Hid (Moved w b v wc v) := Moved.of_below HF.out.2.2
      clear HF HO HB
      go_wp2_with fail
      refine HC.out.mono ?_
      rintro e w5 ⟨v5, rfl, h1, h2, h3⟩
      have H5 : Hid (Bld w5 b v5 (tx (L ++ tokLn ts)) ∧ OkL (L ++ tokLn ts) ∧ Moved w b v w5 v5) := ⟨h1, h2, HM0.out.trans h3⟩
      clear h1 h2 h3 HC HM0
      have HLO : Hid (∀ W : World, Below w.heap.size w W → Calls Tryz.prog 94 #[.slice ao n cap] W fun e w' => ∃ (l : List Int) (r : Int), e = .returned (.tuple #[.agg (ar9 l), .bool (decide (r = 1))]) ∧ LevOf ts l (decide (r = 1)) ∧ Below W.heap.size W w') := fun W hW => levelsOf_calls ts ao n cap W (HR.out.below hW) HN.out (by omega)
      have HBR : Hid (Row w5 3 ao n cap (tokC ts)) := rowF HR.out H5.out.2.2 HFR.out
      have HL5 : Hid (Calls Tryz.prog 94 #[.slice ao n cap] w5 fun e w' => ∃ (l : List Int) (r : Int), e = .returned (.tuple #[.agg (ar9 l), .bool (decide (r = 1))]) ∧ LevOf ts l (decide (r = 1)) ∧ Below w5.heap.size w5 w') := levelsOf_calls ts ao n cap w5 HBR.out HN.out (by omega)
      clear HLO
      go_wp2_with fail
      refine HL5.out.mono ?_
      rintro e w6 ⟨l', ri, rfl, hlo, hB6⟩
      have hri : decide (ri = 1) = true := hlo.2.1.2 ⟨l, HLF.out.1, HLF.out.2⟩
      have hll' : l' = l := by have := hlo.2.2 hri; rw [HLF.out.1] at this; cases this; rfl
      subst hll'
      have hl9 := hlo.1
      obtain ⟨xa, xb, xc, xd, xe, xf, xg, xi, xj, hx9⟩ := nine hl9
      have hA : ar9 l' = #[.int .i64 xa, .int .i64 xb, .int .i64 xc, .int .i64 xd, .int .i64 xe, .int .i64 xf, .int .i64 xg, .int .i64 xi, .int .i64 xj] := by rw [hx9]; rfl
      have HM6 : Hid (Bld w6 b v5 (tx (L ++ tokLn ts)) ∧ OkL (L ++ tokLn ts) ∧ Moved w b v w6 v5) := ⟨H5.out.1.below hB6, H5.out.2.1, H5.out.2.2.trans (Moved.of_below hB6)⟩
      have HB7 : Hid (Bld (w6.alloc (.cells (ar9 l') 113)) b v5 (tx (L ++ tokLn ts ++ levLs ts l' 0)) ∧ OkL (L ++ tokLn ts ++ levLs ts l' 0) ∧ Moved w b v (w6.alloc (.cells (ar9 l') 113)) v5 ∧ (w6.alloc (.cells (ar9 l') 113)).heap[w6.heap.size]? = some (.cells (ar9 l') 113 (0, 0)) ∧ ¬ Foot b v5 w6.heap.size) := by
        have e : L ++ tokLn ts ++ levLs ts l' 0 = L ++ tokLn ts := by simp [levLs]
        rw [e]
        exact ⟨HM6.out.1.below (below_alloc _ _), HM6.out.2.1, HM6.out.2.2.trans (Moved.of_below (below_alloc _ _)), heap_alloc_new _ _, fun hf => by have := HM6.out.1.lt _ hf; omega⟩
      rw [hri]
      clear hlo hB6 HL5 H5 HBR hri
      rw [hA]
      go_upto_region 9 with fail
      rw [← hA]
      clear hx9 hA HM6
      generalize w6.alloc (.cells (ar9 l') 113) = w7 at HB7 ⊢
      generalize w6.heap.size = lb at HB7 ⊢
      have HL9 : Hid (l'.length = 9) := hl9
      clear hl9
      have HSTART : Hid (LvB ts l' L w b v w7 lb 1) := ⟨v5, HB7.out⟩
      clear HB7
      go_wp2_with fail
      go_loopg [9] 9 (fun kx s9 wr => ∃ k : Nat, s9 = .int .i64 k ∧ 1 ≤ k ∧ k ≤ 9 ∧ 9 - k ≤ kx ∧ Hid (LvB ts l' L w b v wr lb k))
      case atStart => exact ⟨1, rfl, Nat.le_refl _, by omega, by omega, HSTART⟩
      case round =>
        obtain ⟨k, rfl, hk1, hk9, hg, J⟩ := hrel
        clear HSTART
        by_cases hlt : k < 9
        · obtain ⟨vk, jB, jO, jM, jH, jF⟩ := J.out
          have hx : wr.cell? ⟨lb, k, none⟩ = some (.int .i64 ((l'[k]?).getD 0)) := by rw [cell_block jH]; exact ar9_at HL9.out hlt
          have HLS : Hid (levLs ts l' k = levLs ts l' (k - 1) ++ levLn ts l' k) := by
            obtain ⟨q, rfl⟩ : ∃ q, k = q + 1 := ⟨k - 1, by omega⟩
            exact levLs_succ ts l' q
          have HJ : Hid (Bld wr b vk (tx (L ++ tokLn ts ++ levLs ts l' (k - 1))) ∧ OkL (L ++ tokLn ts ++ levLs ts l' (k - 1)) ∧ Moved w b v wr vk ∧ wr.heap[lb]? = some (.cells (ar9 l') 113 (0, 0)) ∧ ¬ Foot b vk lb) := ⟨jB, jO, jM, jH, jF⟩
          have HRk : Hid (Row wr 3 ao n cap (tokC ts)) := rowF HR.out jM HFR.out
          have HLN : Hid (levLn ts l' k = if (l'[k]?).getD 0 = 0 then [] else [(keyA ((l'[k]?).getD 0) :: namesAt ts k).map by8]) := rfl
          clear jB jO jM jH jF J
          generalize (l'[k]?).getD 0 = x at hx HLN
          by_cases hx0 : x = 0
          · have e1 : (x != 0) = false := by simpa using hx0
            have HF : Hid (LvB ts l' L w b v wr lb (k + 1)) := by
              refine ⟨vk, ?_⟩
              have e : levLs ts l' (k + 1 - 1) = levLs ts l' (k - 1) := by rw [Nat.add_sub_cancel, HLS.out, HLN.out, if_pos hx0, List.append_nil]
              rw [e]
              exact HJ.out
            clear HJ HLS HLN hx0
            go_wp2_with fail
            go_roundg (9 - (k + 1))
            case measure => omega
            case rel => exact ⟨k + 1, by simp, by omega, by omega, Nat.le_refl _, HF⟩
          · have e1 : (x != 0) = true := by simpa using hx0
            have HC : Hid (Calls Tryz.prog 95 #[.slice ao n cap, .int .i64 k, .int .i64 x] wr fun e w' => ∃ xa m xc, e = .returned (.slice xa m xc) ∧ m = (keyA x :: namesAt ts k).length ∧ Row w' 1 xa m xc (strC (keyA x :: namesAt ts k)) ∧ Below wr.heap.size wr w') := levelLine_calls ts ao n cap k x wr HRk.out HN.out hnn
            go_wp2_with fail
            refine HC.out.mono ?_
            rintro e w8 ⟨ya, ym, yc, rfl, hym, hrow, hB8⟩
            have HP : Hid (Calls Tryz.prog 74 #[.pointer (some ⟨b, 0, none⟩), .slice ya ym yc] w8 fun e w' => ∃ v', e = .returned (.tuple #[]) ∧ Bld w' b v' (tx (L ++ tokLn ts ++ levLs ts l' k)) ∧ OkL (L ++ tokLn ts ++ levLs ts l' k) ∧ Moved w8 b vk w' v') := by
              have e : L ++ tokLn ts ++ levLs ts l' k = (L ++ tokLn ts ++ levLs ts l' (k - 1)) ++ [(keyA x :: namesAt ts k).map by8] := by rw [HLS.out, HLN.out, if_neg hx0, ← List.append_assoc]
              rw [e]
              refine putLine_l (keyA x :: namesAt ts k) ya ym yc b vk _ w8 hrow hym (by rw [hym]; simp) (by rw [hym, List.length_cons]; have := namesAt_length ts (k : Int); rw [← HN.out] at this; omega) (fun z hz => ?_) (HJ.out.1.below hB8) HJ.out.2.1 (by have h1 := levLs_length ts l' (k - 1); have h2 := HLL.out; rw [List.length_append]; omega)
              rw [List.mem_cons] at hz
              rcases hz with rfl | hz
              · exact keyA_size x
              · unfold namesAt at hz
                rw [List.mem_map] at hz
                obtain ⟨t, ht, rfl⟩ := hz
                exact HS.out t (List.mem_filter.1 ht).1
            have HQ : Hid (Moved w b v w8 vk ∧ w8.heap[lb]? = some (.cells (ar9 l') 113 (0, 0)) ∧ lb < w8.heap.size) := by
              have h1 := block_below hB8 HJ.out.2.2.2.1
              exact ⟨HJ.out.2.2.1.trans (Moved.of_below hB8), h1, (Array.getElem?_eq_some_iff.1 h1).1⟩
            have HNF : Hid (¬ Foot b vk lb) := HJ.out.2.2.2.2
            clear hym hrow hB8 HC HJ HLS HLN HRk hx0
            go_wp2_with fail
            refine HP.out.mono ?_
            rintro e w9 ⟨v9, rfl, h1, h2, h3⟩
            have HF : Hid (LvB ts l' L w b v w9 lb (k + 1)) := by
              refine ⟨v9, by rw [Nat.add_sub_cancel]; exact h1, by rw [Nat.add_sub_cancel]; exact h2, HQ.out.1.trans h3, ?_, ?_⟩
              · rw [h3.1.block lb HQ.out.2.2 HNF.out]; exact HQ.out.2.1
              · rintro (rfl | hk)
                · exact HNF.out (.inl rfl)
                · rcases h3.2 lb hk with h4 | h4
                  · exact HNF.out (.inr h4)
                  · have := HQ.out.2.2; omega
            clear h1 h2 h3 HP HQ HNF
            go_wp2_with fail
            go_roundg (9 - (k + 1))
            case measure => omega
            case rel => exact ⟨k + 1, by simp, by omega, by omega, Nat.le_refl _, HF⟩
        · obtain rfl : k = 9 := by omega
          obtain ⟨vk, jB, jO, jM, -, -⟩ := J.out
          have HF : Hid (Bld wr b vk (tx (L ++ (tokLn ts ++ levLs ts l' 8))) ∧ OkL (L ++ (tokLn ts ++ levLs ts l' 8)) ∧ Moved w b v wr vk) := by
            rw [← List.append_assoc]
            exact ⟨jB, jO, jM⟩
          clear jB jO jM J
          go_wp2_with fail
          go_end0
          exact ⟨vk, rfl, HF.out⟩

end Go.Proofs.YtkaojokhdleeiaaGreatDoor

/-
  The walk of gram's Text.
-/
namespace Go.Proofs.YtkaojokhdleeiaaGreatDoor
open Go.RowKit

set_option maxRecDepth 20000

def startLn (s : ByteArray) : List (List (List UInt8)) := if s = ⟨#[]⟩ then [] else [([⟨#[37, 115, 116, 97, 114, 116]⟩, s] : List ByteArray).map by8]
def expLn (e : Int) : List (List (List UInt8)) := if e = 0 then [] else [[by8 ⟨#[37, 101, 120, 112, 101, 99, 116]⟩, dg 6 e.toNat []]]
def headLn (G : Gm) (l : List Int) : List (List (List UInt8)) := tokLn G.ts ++ levLs G.ts l 8 ++ startLn G.s ++ expLn G.e ++ [[by8 ⟨#[37, 37]⟩]]

/-- All lines of a grammar. -/
def linesG (G : Gm) (l : List Int) : List (List (List UInt8)) := headLn G l ++ G.rs.map fun r => (ruleL r).map by8

/-- What is the text of a grammar. -/
def TextP (G : Gm) (t : ByteArray) : Prop := (MayP G → ∀ l, levF G.ts = some l → by8 t = tx (linesG G l)) ∧ (¬ MayP G → t = ⟨#[]⟩)

theorem textP_ex (G : Gm) : ∃ t, TextP G t := by
  rcases Classical.em (MayP G) with h | h
  · obtain ⟨l, hl, -⟩ := h.tk.2
    exact ⟨⟨(tx (linesG G l)).toArray⟩, fun _ l' hl' => by rw [hl] at hl'; cases hl'; rfl, fun h' => absurd h h'⟩
  · exact ⟨⟨#[]⟩, fun h' => absurd h' h, fun _ => rfl⟩

/-- A builder in new memory, its lines told. -/
def NewL (w wr : World) (b : Nat) (L : List (List (List UInt8))) : Prop := ∃ v, Bld wr b v (tx L) ∧ OkL L ∧ Below w.heap.size w wr ∧ ∀ k, Foot b v k → w.heap.size ≤ k

theorem dg_len_all : ((List.range 10000).all fun n => decide ((dg 6 n []).length ≤ 100)) = true := by kernel_rfl
theorem dg_len (n : Nat) (h : n ≤ 9999) : (dg 6 n []).length ≤ 100 := by
  have := List.all_eq_true.1 dg_len_all n (List.mem_range.2 (by omega))
  simpa using this

theorem NewL.put {w wr wr' : World} {b : Nat} {v v' : Value} {L : List (List (List UInt8))} (hb : Below w.heap.size w wr) (hf : ∀ k, Foot b v k → w.heap.size ≤ k) (h1 : Bld wr' b v' (tx L)) (h2 : OkL L) (hm : Moved wr b v wr' v') : NewL w wr' b L := by
  obtain ⟨-, -, h4, -⟩ := NewB.step hb hf h1 hm
  refine ⟨v', h1, h2, h4, ?_⟩
  rintro k (rfl | hk)
  · exact hf k (.inl rfl)
  · rcases hm.2 k hk with h7 | h7
    · exact hf k (.inr h7)
    · exact Nat.le_trans hb.size h7

theorem NewL.below {w wr wr' : World} {b : Nat} {L : List (List (List UInt8))} (h : NewL w wr b L) (hb : Below wr.heap.size wr wr') : NewL w wr' b L := by
  obtain ⟨v, h1, h2, h3, h4⟩ := h
  exact ⟨v, h1.below hb, h2, below_step h3 hb, h4⟩

theorem NewL.bel {w wr : World} {b : Nat} {L : List (List (List UInt8))} (h : NewL w wr b L) : Below w.heap.size w wr := by
  obtain ⟨v, -, -, h3, -⟩ := h
  exact h3

/-- One line more into a builder in new memory. -/
theorem putLine_new (l : List ByteArray) (ao : Option Addr) (n cap b : Nat) (L : List (List (List UInt8))) (w W : World) (hr : Row W 1 ao n cap (strC l)) (hn : n = l.length) (h1 : 1 ≤ n) (hnn : n ≤ 1000) (hs : ∀ x ∈ l, x.size ≤ 100) (hB : NewL w W b L) (hl : L.length ≤ 400) :
    Calls Tryz.prog 74 #[.pointer (some ⟨b, 0, none⟩), .slice ao n cap] W fun e w' => e = .returned (.tuple #[]) ∧ NewL w w' b (L ++ [l.map by8]) := by
  obtain ⟨v, b1, b2, b3, b4⟩ := hB
  refine (putLine_l l ao n cap b v L W hr hn h1 hnn hs b1 b2 hl).mono ?_
  rintro e w' ⟨v', rfl, c1, c2, c3⟩
  exact ⟨rfl, NewL.put b3 b4 c1 c2 c3⟩

theorem putRule_new (r : Ru) (xa : Option Addr) (xc b : Nat) (L : List (List (List UInt8))) (w W : World) (hr : Row W 1 xa r.r.length xc (strC r.r)) (hs : r.l.size ≤ 100 ∧ r.p.size ≤ 100 ∧ r.r.length ≤ 100 ∧ ∀ x ∈ r.r, x.size ≤ 100) (hB : NewL w W b L) (hl : L.length ≤ 400) :
    Calls Tryz.prog 76 #[.pointer (some ⟨b, 0, none⟩), .agg #[.string r.l, .slice xa r.r.length xc, .string r.p]] W fun e w' => e = .returned (.tuple #[]) ∧ NewL w w' b (L ++ [(ruleL r).map by8]) := by
  obtain ⟨v, b1, b2, b3, b4⟩ := hB
  refine (putRule_calls r xa xc b v L W hr hs b1 b2 hl).mono ?_
  rintro e w' ⟨v', rfl, c1, c2, c3⟩
  exact ⟨rfl, NewL.put b3 b4 c1 c2 c3⟩

theorem newL_fresh (w : World) : NewL w (w.alloc (.cells #[.pointer none, .slice none 0 0] 92)) w.heap.size [] := by
  obtain ⟨h1, h2, h3⟩ := freshB_alloc w w (Below.refl _ _)
  exact ⟨.slice none 0 0, h1, fun _ h => (by cases h), h2, h3⟩

theorem putTokens_new (ts : List Tk) (l : List Int) (ao : Option Addr) (n cap b : Nat) (w W : World) (hr : Row w 3 ao n cap (tokC ts)) (hn : n = ts.length) (hnn : n ≤ 100) (hs : ∀ t ∈ ts, t.n.size ≤ 100) (hlf : levF ts = some l) (hng : NoGap l) (hB : NewL w W b []) :
    Calls Tryz.prog 73 #[.pointer (some ⟨b, 0, none⟩), .slice ao n cap] W fun e w' => e = .returned (.tuple #[]) ∧ NewL w w' b (tokLn ts ++ levLs ts l 8) := by
  obtain ⟨v, b1, b2, b3, b4⟩ := hB
  refine (putTokens_calls ts l ao n cap b v [] W (hr.below b3) hn hnn hs hlf hng (fun h0 a ha hf => ?_) b1 b2 (by simp)).mono ?_
  · obtain ⟨g, o, e, hc⟩ := hr.at h0
    rw [ha] at e
    cases e
    have h1 := b4 _ hf
    have h2 : (tokC ts)[0]? = some ((tokC ts)[0]'(by rw [hr.len]; omega)) := List.getElem?_eq_getElem _
    have h3 := World.block_lt_of_cell? w _ (hc 0 _ h2)
    simp only at h1 h3
    omega
  · rintro e w' ⟨v', rfl, c1, c2, c3⟩
    rw [List.nil_append] at c1 c2
    exact ⟨rfl, NewL.put b3 b4 c1 c2 c3⟩

/-- Text of a grammar in memory. -/
def TextCalls (F : Nat) : Prop := ∀ (G : Gm) (h : Hd) (w : World) (T : ByteArray), IsG w h G → Pow w → TextP G T → Calls Tryz.prog F #[gv h G] w fun e w' => e = .returned (.string T) ∧ Below w.heap.size w w'

set_option maxHeartbeats 4000000 in
set_option maxRecDepth 20000 in
theorem text_calls : TextCalls 47 := by
  intro G h w T hG hpow hT
  obtain ⟨r, hr⟩ := bool_of (MayP G)
  have HM : Hid (∀ W : World, Below w.heap.size w W → Calls Tryz.prog 49 #[gv h G] W fun e w' => e = .returned (.bool r) ∧ Below W.heap.size W w') := fun W hW => may_calls G h W r (hG.below hW) hr
  obtain ⟨ts, st, ex, rs⟩ := G
  obtain ⟨ta, tc, ra, rc⟩ := h
  have hm1 : ts.length ≤ tc ∧ tc ≤ 9223372036854775807 := by have h1 := hG.tok.le; have h2 := hG.tok.max; simp only at h1 h2; unfold maxLen at h2; omega
  have hm2 := rules_le hG.rul
  simp only at hm2
  have hs1 : ts.length ≤ 100 := hG.small.nt
  have hs2 : rs.length ≤ 200 := hG.small.nr
  have HG : Hid (IsG w ⟨ta, tc, ra, rc⟩ ⟨ts, st, ex, rs⟩) := hG
  have HP : Hid (Pow w) := hpow
  have HT : Hid (TextP ⟨ts, st, ex, rs⟩ T) := hT
  have HR : Hid (r = true ↔ MayP ⟨ts, st, ex, rs⟩) := hr
  unfold gv at HM ⊢
  simp only at HM ⊢
  clear hG hpow hT hr
  obtain ⟨tn, hTN⟩ : ∃ n, ts.length = n := ⟨_, rfl⟩
  have HTN : Hid (ts.length = tn) := hTN
  obtain ⟨rn, hRN⟩ : ∃ n, rs.length = n := ⟨_, rfl⟩
  have HRN : Hid (rs.length = rn) := hRN
  rw [hTN] at hm1 hs1 HM ⊢
  rw [hRN] at hm2 hs2 HM ⊢
  clear hTN hRN
  go_enter Tryz.func47, Tryz.ntmps47
  go_upto_region 1 with fail
  have c0 : (w.alloc (.cells #[.slice ta tn tc, .string st, .int .i64 ex, .slice ra rn rc] 28)).cell? ⟨w.heap.size, 0, none⟩ = some (.slice ta tn tc) := by rw [World.cell?_alloc_mark]; rfl
  have c1 : (w.alloc (.cells #[.slice ta tn tc, .string st, .int .i64 ex, .slice ra rn rc] 28)).cell? ⟨w.heap.size, 1, none⟩ = some (.string st) := by rw [World.cell?_alloc_mark]; rfl
  have c2 : (w.alloc (.cells #[.slice ta tn tc, .string st, .int .i64 ex, .slice ra rn rc] 28)).cell? ⟨w.heap.size, 2, none⟩ = some (.int .i64 ex) := by rw [World.cell?_alloc_mark]; rfl
  have c3 : (w.alloc (.cells #[.slice ta tn tc, .string st, .int .i64 ex, .slice ra rn rc] 28)).cell? ⟨w.heap.size, 3, none⟩ = some (.slice ra rn rc) := by rw [World.cell?_alloc_mark]; rfl
  have HB : Hid (Below w.heap.size w (w.alloc (.cells #[.slice ta tn tc, .string st, .int .i64 ex, .slice ra rn rc] 28))) := below_alloc _ _
  generalize w.alloc (.cells #[.slice ta tn tc, .string st, .int .i64 ex, .slice ra rn rc] 28) = wq at c0 c1 c2 c3 HB ⊢
  obtain ⟨gb, hgb⟩ : ∃ gb, gb = w.heap.size := ⟨_, rfl⟩
  rw [← hgb] at c0 c1 c2 c3 ⊢
  clear hgb
  go_wp2_with fail
  refine (HM.out _ HB.out).mono ?_
  rintro e w1 ⟨rfl, hB1⟩
  have C0 : Hid (∀ W : World, Below w1.heap.size w1 W → W.cell? ⟨gb, 0, none⟩ = some (.slice ta tn tc) ∧ W.cell? ⟨gb, 1, none⟩ = some (.string st) ∧ W.cell? ⟨gb, 2, none⟩ = some (.int .i64 ex) ∧ W.cell? ⟨gb, 3, none⟩ = some (.slice ra rn rc)) := fun W hW => ⟨cell_below (below_step hB1 hW) c0, cell_below (below_step hB1 hW) c1, cell_below (below_step hB1 hW) c2, cell_below (below_step hB1 hW) c3⟩
  have HB1 : Hid (Below w.heap.size w w1) := below_step HB.out hB1
  clear c0 c1 c2 c3 HB hB1 HM
  cases r
  · have HF : Hid (T = ⟨#[]⟩) := HT.out.2 (fun h => by have := HR.out.2 h; cases this)
    go_wp2_with fail
    go_ret
    exact ⟨by rw [HF.out]; rfl, HB1.out⟩
  · have hMay : MayP ⟨ts, st, ex, rs⟩ := HR.out.1 rfl
    obtain ⟨l, hl1, hl2⟩ := hMay.tk.2
    have HTX : Hid (by8 T = tx (linesG ⟨ts, st, ex, rs⟩ l)) := HT.out.1 hMay l hl1
    have HGW : Hid (IsG w1 ⟨ta, tc, ra, rc⟩ ⟨ts, st, ex, rs⟩ ∧ Pow w1) := ⟨HG.out.below HB1.out, HP.out.below HB1.out⟩
    have he0 : 0 ≤ ex := hMay.e0
    have he1 : ex ≤ 9999 := hMay.e1
    have HN0 : Hid (NewL w1 (w1.alloc (.cells #[.pointer none, .slice none 0 0] 92)) w1.heap.size []) := newL_fresh w1
    have HTK : Hid (∀ (W : World) (b : Nat), NewL w1 W b [] → Calls Tryz.prog 73 #[.pointer (some ⟨b, 0, none⟩), .slice ta tn tc] W fun e w' => e = .returned (.tuple #[]) ∧ NewL w1 w' b (tokLn ts ++ levLs ts l 8)) := fun W b hW => by
      have := putTokens_new ts l ta ts.length tc b w1 W HGW.out.1.tok rfl HGW.out.1.small.nt HGW.out.1.small.tk hl1 hl2 hW
      rwa [HTN.out] at this
    clear hMay hl1 hl2 HG HP HT HR
    go_upto_region 4 with fail
    generalize w1.alloc (.cells #[.pointer none, .slice none 0 0] 92) = w2 at HN0 ⊢
    obtain ⟨pb, hpb⟩ : ∃ pb, pb = w1.heap.size := ⟨_, rfl⟩
    rw [← hpb] at HN0 ⊢
    clear hpb
    obtain ⟨c0, -, -, -⟩ := C0.out w2 HN0.out.bel
    go_wp2_with fail
    refine (HTK.out _ _ HN0.out).mono ?_
    rintro e w3 ⟨rfl, hN3⟩
    have HN3 : Hid (NewL w1 w3 pb (tokLn ts ++ levLs ts l 8)) := hN3
    have HLN3 : Hid ((tokLn ts ++ levLs ts l 8).length ≤ 9) := by
      show _ ≤ _
      rw [List.length_append]
      have := levLs_length ts l 8
      have h2 : (tokLn ts).length ≤ 1 := by unfold tokLn; split <;> simp
      omega
    clear hN3 HTK HN0 c0
    obtain ⟨-, c1, -, -⟩ := C0.out w3 HN3.out.bel
    obtain ⟨se, hse⟩ : ∃ pe : Bool, (st.toList == []) = pe := ⟨_, rfl⟩
    go_upto_if 14 with fail
    have HSE : Hid (se = true ↔ st = ⟨#[]⟩) := by show _ ↔ _; rw [← hse]; exact toList_nil st
    clear hse
    go_cut [15] (fun s15 wd => Hid (NewL w1 wd pb (tokLn ts ++ levLs ts l 8 ++ startLn st)))
    case first =>
      by_cases hst : st = ⟨#[]⟩
      · have h1 : se = true := HSE.out.2 hst
        subst h1
        have HF : Hid (NewL w1 w3 pb (tokLn ts ++ levLs ts l 8 ++ startLn st)) := by
          have e : startLn st = [] := by unfold startLn; rw [if_pos hst]
          rw [e, List.append_nil]; exact HN3.out
        clear hst
        go_wp2_with fail
        go_meet
        exact HF
      · have h1 : se = false := b_false HSE.out hst
        subst h1
        have HC : Hid (Calls Tryz.prog 74 #[.pointer (some ⟨pb, 0, none⟩), .slice (some ⟨w3.heap.size, 0, none⟩) 2 2] (w3.alloc (.cells #[.string ⟨#[37, 115, 116, 97, 114, 116]⟩, .string st] 9)) fun e w' => e = .returned (.tuple #[]) ∧ NewL w1 w' pb (tokLn ts ++ levLs ts l 8 ++ startLn st)) := by
          have e : startLn st = [([⟨#[37, 115, 116, 97, 114, 116]⟩, st] : List ByteArray).map by8] := by unfold startLn; rw [if_neg hst]
          rw [e]
          exact putLine_new [⟨#[37, 115, 116, 97, 114, 116]⟩, st] _ 2 2 pb _ w1 _ (new_row w3 [⟨#[37, 115, 116, 97, 114, 116]⟩, st] (by simp)) rfl (by omega) (by omega) (fun x hx => by
            simp only [List.mem_cons, List.not_mem_nil, or_false] at hx
            rcases hx with rfl | rfl
            · exact (by decide : (⟨#[37, 115, 116, 97, 114, 116]⟩ : ByteArray).size ≤ 100)
            · exact HGW.out.1.small.st) (HN3.out.below (below_alloc _ _)) (by have := HLN3.out; omega)
        clear hst
        go_wp2_with fail
        refine HC.out.mono ?_
        rintro e w4 ⟨rfl, hN4⟩
        have HN4 : Hid (NewL w1 w4 pb (tokLn ts ++ levLs ts l 8 ++ startLn st)) := hN4
        clear hN4 HC
        go_wp2_with fail
        go_meet
        exact HN4
    case rest =>
      obtain ⟨w4, hw4⟩ : ∃ w4, w4 = wc := ⟨_, rfl⟩
      subst wc
      have HN4 : Hid (NewL w1 w4 pb (tokLn ts ++ levLs ts l 8 ++ startLn st)) := hcut
      have HLN4 : Hid ((tokLn ts ++ levLs ts l 8 ++ startLn st).length ≤ 10) := by
        show _ ≤ _
        rw [List.length_append]
        have h2 : (startLn st).length ≤ 1 := by unfold startLn; split <;> simp
        have := HLN3.out
        omega
      clear hcut HN3 HLN3 c1 HSE
      obtain ⟨-, -, c2, -⟩ := C0.out w4 HN4.out.bel
      go_upto_if 21 with fail
      go_cut [22] (fun s22 wd => Hid (NewL w1 wd pb (tokLn ts ++ levLs ts l 8 ++ startLn st ++ expLn ex)))
      case first =>
        by_cases hex : ex = 0
        · have h1 : (ex != 0) = false := by simpa using hex
          have HF : Hid (NewL w1 w4 pb (tokLn ts ++ levLs ts l 8 ++ startLn st ++ expLn ex)) := by
            have e : expLn ex = [] := by unfold expLn; rw [if_pos hex]
            rw [e, List.append_nil]; exact HN4.out
          clear hex
          go_wp2_with fail
          go_meet
          exact HF
        · have h1 : (ex != 0) = true := by simpa using hex
          have HC : Hid (Calls Tryz.prog 75 #[.int .i64 ex] w4 fun e w' => ∃ t, e = .returned (.string t) ∧ by8 t = dg 6 ex.toNat [] ∧ Below w4.heap.size w4 w') := by
            have := itoa_calls ex.toNat w4 (by omega) (HGW.out.2.below HN4.out.bel)
            rwa [show ((ex.toNat : Nat) : Int) = ex by omega] at this
          go_wp2_with fail
          refine HC.out.mono ?_
          rintro e w5 ⟨t, rfl, ht, hB5⟩
          have hts : t.size ≤ 100 := by
            rw [← by8_length, ht]
            exact dg_len _ (by omega)
          have HC2 : Hid (Calls Tryz.prog 74 #[.pointer (some ⟨pb, 0, none⟩), .slice (some ⟨w5.heap.size, 0, none⟩) 2 2] (w5.alloc (.cells #[.string ⟨#[37, 101, 120, 112, 101, 99, 116]⟩, .string t] 9)) fun e w' => e = .returned (.tuple #[]) ∧ NewL w1 w' pb (tokLn ts ++ levLs ts l 8 ++ startLn st ++ expLn ex)) := by
            have e : expLn ex = [([⟨#[37, 101, 120, 112, 101, 99, 116]⟩, t] : List ByteArray).map by8] := by unfold expLn; rw [if_neg hex, ← ht]; rfl
            rw [e]
            exact putLine_new [⟨#[37, 101, 120, 112, 101, 99, 116]⟩, t] _ 2 2 pb _ w1 _ (new_row w5 [⟨#[37, 101, 120, 112, 101, 99, 116]⟩, t] (by simp)) rfl (by omega) (by omega) (fun x hx => by
              simp only [List.mem_cons, List.not_mem_nil, or_false] at hx
              rcases hx with rfl | rfl
              · exact (by decide : (⟨#[37, 101, 120, 112, 101, 99, 116]⟩ : ByteArray).size ≤ 100)
              · exact hts) ((HN4.out.below hB5).below (below_alloc _ _)) (by have := HLN4.out; omega)
          clear hex ht hB5 HC
          go_wp2_with fail
          refine HC2.out.mono ?_
          rintro e w6 ⟨rfl, hN6⟩
          have HN6 : Hid (NewL w1 w6 pb (tokLn ts ++ levLs ts l 8 ++ startLn st ++ expLn ex)) := hN6
          clear hN6 HC2
          go_wp2_with fail
          go_meet
          exact HN6
      case rest =>
        obtain ⟨w6, hw6⟩ : ∃ w6, w6 = wc := ⟨_, rfl⟩
        subst wc
        have HN6 : Hid (NewL w1 w6 pb (tokLn ts ++ levLs ts l 8 ++ startLn st ++ expLn ex)) := hcut
        have HLN6 : Hid ((tokLn ts ++ levLs ts l 8 ++ startLn st ++ expLn ex).length ≤ 11) := by
          show _ ≤ _
          rw [List.length_append]
          have h2 : (expLn ex).length ≤ 1 := by unfold expLn; split <;> simp
          have := HLN4.out
          omega
        have HC : Hid (Calls Tryz.prog 74 #[.pointer (some ⟨pb, 0, none⟩), .slice (some ⟨w6.heap.size, 0, none⟩) 1 1] (w6.alloc (.cells #[.string ⟨#[37, 37]⟩] 9)) fun e w' => e = .returned (.tuple #[]) ∧ NewL w1 w' pb (headLn ⟨ts, st, ex, rs⟩ l)) :=
          putLine_new [⟨#[37, 37]⟩] _ 1 1 pb _ w1 _ (new_row w6 [⟨#[37, 37]⟩] (by simp)) rfl (by omega) (by omega) (fun x hx => by
            rw [List.mem_singleton] at hx
            subst hx
            exact (by decide : (⟨#[37, 37]⟩ : ByteArray).size ≤ 100)) (HN6.out.below (below_alloc _ _)) (by have := HLN6.out; simp only; omega)
        have HLH : Hid ((headLn ⟨ts, st, ex, rs⟩ l).length ≤ 12) := by
          show _ ≤ _
          unfold headLn
          rw [List.length_append]
          have := HLN6.out
          simp only [List.length_cons, List.length_nil]
          omega
        clear hcut HN4 HLN4 c2 HN6 HLN6
        go_wp2_with fail
        refine HC.out.mono ?_
        rintro e w7 ⟨rfl, hN7⟩
        have HN7 : Hid (NewL w1 w7 pb (headLn ⟨ts, st, ex, rs⟩ l)) := hN7
        clear hN7 HC
        obtain ⟨-, -, -, c3⟩ := C0.out w7 HN7.out.bel
        go_upto_block 0 with fail
        go_cut [32] (fun s32 wd => Hid (NewL w1 wd pb (linesG ⟨ts, st, ex, rs⟩ l)))
        case first =>
          go_wp2_with fail
          go_loopg [32] rn (fun kx s32 wr => ∃ k : Nat, s32 = .int .i64 k ∧ k ≤ rn ∧ rn - k ≤ kx ∧ Hid (NewL w1 wr pb (headLn ⟨ts, st, ex, rs⟩ l ++ (rs.take k).map fun r => (ruleL r).map by8)))
          case atStart => exact ⟨0, rfl, Nat.zero_le _, by omega, (by rw [List.take_zero, List.map_nil, List.append_nil]; exact HN7)⟩
          case round =>
            obtain ⟨k, rfl, hk, hg, J⟩ := hrel
            clear HN7 c3
            by_cases hlt : k < rn
            · obtain ⟨x, hx⟩ : ∃ x, rs[k]? = some x := ⟨rs[k]'(by rw [HRN.out]; exact hlt), List.getElem?_eq_getElem _⟩
              have hrul := HGW.out.1.rul.below J.out.bel
              simp only at hrul
              obtain ⟨rb, o, xa, xc, hra, p0, p1, p2, hrow⟩ := hrul.at hx
              subst hra
              have HSX : Hid (x.l.size ≤ 100 ∧ x.p.size ≤ 100 ∧ x.r.length ≤ 100 ∧ ∀ y ∈ x.r, y.size ≤ 100) := HGW.out.1.small.rl x (List.mem_of_getElem? hx)
              have HE : Hid ((headLn ⟨ts, st, ex, rs⟩ l ++ (rs.take k).map fun r => (ruleL r).map by8) ++ [(ruleL x).map by8] = headLn ⟨ts, st, ex, rs⟩ l ++ (rs.take (k + 1)).map fun r => (ruleL r).map by8) := by
                show _ = _
                rw [take_succ hx, List.map_append, ← List.append_assoc]
                rfl
              have HC : Hid (∀ W : World, Below wr.heap.size wr W → Calls Tryz.prog 76 #[.pointer (some ⟨pb, 0, none⟩), .agg #[.string x.l, .slice xa x.r.length xc, .string x.p]] W fun e w' => e = .returned (.tuple #[]) ∧ NewL w1 w' pb (headLn ⟨ts, st, ex, rs⟩ l ++ (rs.take (k + 1)).map fun r => (ruleL r).map by8)) := fun W hW => by
                have := putRule_new x xa xc pb _ w1 W (hrow.below hW) HSX.out (J.out.below hW) (by rw [List.length_append, List.length_map, List.length_take, HRN.out]; have := HLH.out; omega)
                rwa [HE.out] at this
              clear hx hrow hrul HE
              go_wp2_with fail
              refine (HC.out _ (below_alloc _ _)).mono ?_
              rintro e w8 ⟨rfl, hN8⟩
              have HN8 : Hid (NewL w1 w8 pb (headLn ⟨ts, st, ex, rs⟩ l ++ (rs.take (k + 1)).map fun r => (ruleL r).map by8)) := hN8
              clear hN8 HC J
              go_wp2_with fail
              go_roundg (rn - (k + 1))
              case measure => omega
              case rel => exact ⟨k + 1, by simp, by omega, Nat.le_refl _, HN8⟩
            · obtain rfl : k = rn := by omega
              have HF : Hid (NewL w1 wr pb (linesG ⟨ts, st, ex, rs⟩ l)) := by
                have := J.out
                rwa [← HRN.out, List.take_length] at this
              clear J
              go_wp2_with fail
              go_meet
              exact HF
        case rest =>
          obtain ⟨v, hB, hok, hbel, hfoot⟩ := hcut.out
          have hne : tx (linesG ⟨ts, st, ex, rs⟩ l) ≠ [] := by
            unfold linesG headLn
            rw [tx_append, tx_append]
            intro h
            have := congrArg List.length h
            simp [tx, lineT] at this
          have hlen : (tx (linesG ⟨ts, st, ex, rs⟩ l)).length ≤ 100000000 := by
            have h1 := tx_length hok
            have h2 : (linesG ⟨ts, st, ex, rs⟩ l).length ≤ 212 := by
              unfold linesG
              rw [List.length_append, List.length_map]
              have := HLH.out
              simp only
              rw [HRN.out]
              omega
            omega
          have HC : Hid (Calls Tryz.prog 77 #[.pointer (some ⟨pb, 0, none⟩)] wc fun e w' => e = .returned (.string T) ∧ Kept (Foot pb v) wc w') := by
            have := bstring_calls pb v _ wc hB hne hlen
            have e : (⟨(tx (linesG ⟨ts, st, ex, rs⟩ l)).toArray⟩ : ByteArray) = T := by rw [← HTX.out]; apply by8_inj; rfl
            rwa [e] at this
          have HK : Hid (∀ w', Kept (Foot pb v) wc w' → Below w.heap.size w w') := fun w' hk => HB1.out.trans ((hbel.trans (hk.below hbel.size (fun k hk hf => by have := hfoot k hf; omega))).mono HB1.out.size)
          clear hB hok hbel hfoot hne hlen hcut
          go_wp2_with fail
          refine HC.out.mono ?_
          rintro e w9 ⟨rfl, hK⟩
          have HF : Hid (Below w.heap.size w w9) := HK.out _ hK
          clear hK HC
          go_wp2_with fail
          go_ret
          exact ⟨rfl, HF.out⟩

end Go.Proofs.YtkaojokhdleeiaaGreatDoor

/-
  The walk of Sums; grammars in memory that the call itself owns.
-/
namespace Go.Proofs.YtkaojokhdleeiaaGreatDoor
open Go.RowKit

set_option maxRecDepth 20000

/-- A grammar in memory that the call owns. -/
structure OwnG (w : World) (base : Nat) (h : Hd) (G : Gm) (qs : List (Ru × Option Addr × Nat)) : Prop where
  tok : w.ownsRow base 50 3 (.slice h.ta G.ts.length h.tc) G.ts.length (tokC G.ts)
  rul : w.ownsRow base 58 3 (.slice h.ra G.rs.length h.rc) G.rs.length (rulC qs)
  map : qs.map (·.1) = G.rs
  row : ∀ q ∈ qs, OwnS w base (.slice q.2.1 q.1.r.length q.2.2) q.1.r

theorem OwnG.isG {w : World} {base : Nat} {h : Hd} {G : Gm} {qs : List (Ru × Option Addr × Nat)} (o : OwnG w base h G qs) (s : Small G) : IsG w h G := ⟨Row.of_own o.tok, ⟨qs, o.map, Row.of_own o.rul, fun q hq => (o.row q hq).row rfl⟩, s⟩

theorem OwnG.below {w w' : World} {base : Nat} {h : Hd} {G : Gm} {qs : List (Ru × Option Addr × Nat)} (o : OwnG w base h G qs) (hb : Below w.heap.size w w') : OwnG w' base h G qs :=
  ⟨ownsRow_of_block o.tok (fun i hi => hb.block i (World.ownsRow.lt o.tok i hi).2), ownsRow_of_block o.rul (fun i hi => hb.block i (World.ownsRow.lt o.rul i hi).2), o.map, fun q hq => (o.row q hq).below hb⟩

def bN : ByteArray := ⟨#[78]⟩
def bP : ByteArray := ⟨#[80]⟩
def bM : ByteArray := ⟨#[77]⟩
def bE : ByteArray := ⟨#[101]⟩
def e0 : ByteArray := ⟨#[]⟩
/-- The grammar of sums. -/
def sumsG : Gm := ⟨[⟨bN, 0, 0⟩, ⟨bP, 1, 1⟩, ⟨bM, 2, 1⟩], e0, 0, [⟨bE, [bE, bP, bE], e0⟩, ⟨bE, [bE, bM, bE], e0⟩, ⟨bE, [bN], e0⟩]⟩

theorem sums_small : Small sumsG := by
  have hN : bN.size ≤ 100 := by decide
  have hP : bP.size ≤ 100 := by decide
  have hM : bM.size ≤ 100 := by decide
  have hE : bE.size ≤ 100 := by decide
  have h0 : e0.size ≤ 100 := by decide
  refine ⟨by decide, by decide, h0, ?_, ?_⟩
  · intro t ht
    simp only [sumsG, List.mem_cons, List.not_mem_nil, or_false] at ht
    rcases ht with rfl | rfl | rfl
    · exact hN
    · exact hP
    · exact hM
  · intro r hr
    simp only [sumsG, List.mem_cons, List.not_mem_nil, or_false] at hr
    rcases hr with rfl | rfl | rfl
    all_goals
      refine ⟨hE, h0, by decide, ?_⟩
      intro x hx
      simp only [List.mem_cons, List.not_mem_nil, or_false] at hx
    · rcases hx with rfl | rfl | rfl
      · exact hE
      · exact hP
      · exact hE
    · rcases hx with rfl | rfl | rfl
      · exact hE
      · exact hM
      · exact hE
    · subst hx; exact hN

theorem own_new (w : World) (base E k n : Nat) (cs : List Value) (hb : base ≤ w.heap.size) (hl : cs.length = n * k) (hn : n ≤ 1000) : (w.alloc (.cells cs.toArray E)).ownsRow base E k (.slice (some ⟨w.heap.size, 0, none⟩) n n) n cs := by
  refine ⟨hl, .inr ⟨w.heap.size, n, cs.toArray, rfl, hb, heap_alloc_new _ _, Nat.le_refl _, by unfold maxLen; omega, by simp [hl], ?_⟩⟩
  rw [List.toList_toArray, List.take_of_length_le (by omega)]

/-- Where Sums lays its lists. -/
def sumsH (n : Nat) : Hd := ⟨some ⟨n + 1, 0, none⟩, 3, some ⟨n + 1 + 1 + 1 + 1 + 1, 0, none⟩, 3⟩
def sumsQ (n : Nat) : List (Ru × Option Addr × Nat) := [(⟨bE, [bE, bP, bE], e0⟩, some ⟨n + 1 + 1, 0, none⟩, 3), (⟨bE, [bE, bM, bE], e0⟩, some ⟨n + 1 + 1 + 1, 0, none⟩, 3), (⟨bE, [bN], e0⟩, some ⟨n + 1 + 1 + 1 + 1, 0, none⟩, 1)]
def sumsW (w : World) : World := (((((w.alloc (.cells #[.slice (some ⟨w.heap.size + 1, 0, none⟩) 3 3, .string e0, .int .i64 0, .slice (some ⟨w.heap.size + 1 + 1 + 1 + 1 + 1, 0, none⟩) 3 3] 28)).alloc (.cells (tokC sumsG.ts).toArray 50)).alloc (.cells (strC [bE, bP, bE]).toArray 9)).alloc (.cells (strC [bE, bM, bE]).toArray 9)).alloc (.cells (strC [bN]).toArray 9)).alloc (.cells (rulC (sumsQ w.heap.size)).toArray 58)

theorem sums_own (w : World) : OwnG (sumsW w) w.heap.size (sumsH w.heap.size) sumsG (sumsQ w.heap.size) ∧ Below w.heap.size w (sumsW w) := by
  unfold sumsW
  generalize hw0 : w.alloc (.cells #[.slice (some ⟨w.heap.size + 1, 0, none⟩) 3 3, .string e0, .int .i64 0, .slice (some ⟨w.heap.size + 1 + 1 + 1 + 1 + 1, 0, none⟩) 3 3] 28) = w0
  have s0 : w0.heap.size = w.heap.size + 1 := by rw [← hw0]; exact size_alloc1 _ _
  have b0 : Below w.heap.size w w0 := by rw [← hw0]; exact below_alloc _ _
  generalize hw1 : w0.alloc (.cells (tokC sumsG.ts).toArray 50) = w1
  have s1 : w1.heap.size = w.heap.size + 1 + 1 := by rw [← hw1, size_alloc1, s0]
  have b1 : Below w0.heap.size w0 w1 := by rw [← hw1]; exact below_alloc _ _
  have o1 : w1.ownsRow w.heap.size 50 3 (.slice (some ⟨w.heap.size + 1, 0, none⟩) 3 3) 3 (tokC sumsG.ts) := by
    rw [← hw1, ← s0]
    exact own_new w0 _ 50 3 3 _ (by omega) rfl (by omega)
  generalize hw2 : w1.alloc (.cells (strC [bE, bP, bE]).toArray 9) = w2
  have s2 : w2.heap.size = w.heap.size + 1 + 1 + 1 := by rw [← hw2, size_alloc1, s1]
  have b2 : Below w1.heap.size w1 w2 := by rw [← hw2]; exact below_alloc _ _
  have r2 : OwnS w2 w.heap.size (.slice (some ⟨w.heap.size + 1 + 1, 0, none⟩) 3 3) [bE, bP, bE] := by
    rw [← hw2, ← s1]
    exact own_new w1 _ 9 1 3 (strC [bE, bP, bE]) (by omega) rfl (by omega)
  generalize hw3 : w2.alloc (.cells (strC [bE, bM, bE]).toArray 9) = w3
  have s3 : w3.heap.size = w.heap.size + 1 + 1 + 1 + 1 := by rw [← hw3, size_alloc1, s2]
  have b3 : Below w2.heap.size w2 w3 := by rw [← hw3]; exact below_alloc _ _
  have r3 : OwnS w3 w.heap.size (.slice (some ⟨w.heap.size + 1 + 1 + 1, 0, none⟩) 3 3) [bE, bM, bE] := by
    rw [← hw3, ← s2]
    exact own_new w2 _ 9 1 3 (strC [bE, bM, bE]) (by omega) rfl (by omega)
  generalize hw4 : w3.alloc (.cells (strC [bN]).toArray 9) = w4
  have s4 : w4.heap.size = w.heap.size + 1 + 1 + 1 + 1 + 1 := by rw [← hw4, size_alloc1, s3]
  have b4 : Below w3.heap.size w3 w4 := by rw [← hw4]; exact below_alloc _ _
  have r4 : OwnS w4 w.heap.size (.slice (some ⟨w.heap.size + 1 + 1 + 1 + 1, 0, none⟩) 1 1) [bN] := by
    rw [← hw4, ← s3]
    exact own_new w3 _ 9 1 1 (strC [bN]) (by omega) rfl (by omega)
  have o5 : (w4.alloc (.cells (rulC (sumsQ w.heap.size)).toArray 58)).ownsRow w.heap.size 58 3 (.slice (some ⟨w.heap.size + 1 + 1 + 1 + 1 + 1, 0, none⟩) 3 3) 3 (rulC (sumsQ w.heap.size)) := by
    have := own_new w4 w.heap.size 58 3 3 (rulC (sumsQ w.heap.size)) (by omega) rfl (by omega)
    rwa [s4] at this
  have b5 : Below w4.heap.size w4 (w4.alloc (.cells (rulC (sumsQ w.heap.size)).toArray 58)) := below_alloc _ _
  generalize w4.alloc (.cells (rulC (sumsQ w.heap.size)).toArray 58) = w5 at o5 b5 ⊢
  have b14 : Below w1.heap.size w1 w5 := below_step (below_step (below_step b2 b3) b4) b5
  refine ⟨⟨ownsRow_of_block o1 (fun i hi => b14.block i (World.ownsRow.lt o1 i hi).2), o5, rfl, ?_⟩, below_step b0 (below_step b1 b14)⟩
  intro q hq
  simp only [sumsQ, List.mem_cons, List.not_mem_nil, or_false] at hq
  rcases hq with rfl | rfl | rfl
  · exact ((r2.below b3).below b4).below b5
  · exact (r3.below b4).below b5
  · exact r4.below b5

set_option maxHeartbeats 2000000 in
set_option maxRecDepth 20000 in
theorem sums_calls (w : World) : Calls Tryz.prog 46 #[] w fun e w' => ∃ h qs, e = .returned (gv h sumsG) ∧ OwnG w' w.heap.size h sumsG qs ∧ Below w.heap.size w w' := by
  have HS : Hid (OwnG (sumsW w) w.heap.size (sumsH w.heap.size) sumsG (sumsQ w.heap.size) ∧ Below w.heap.size w (sumsW w)) := sums_own w
  go_enter Tryz.func46, Tryz.ntmps46
  go_wp2
  refine bodyPost_ret (v := gv (sumsH w.heap.size) sumsG) (by simp [results, Tryz.results46, go_sem, gv, sumsH, sumsG, e0]) rfl ?_
  exact ⟨_, _, rfl, HS.out⟩

/-- A store into owned cells. -/
theorem own_set {w : World} {base E k g n cap j : Nat} {cs : List Value} {u : Value} (h : w.ownsRow base E k (.slice (some ⟨g, 0, none⟩) n cap) n cs) :
    (w.setCell ⟨g, j, none⟩ u).ownsRow base E k (.slice (some ⟨g, 0, none⟩) n cap) n (cs.set j u) := by
  refine ⟨by rw [List.length_set]; exact h.1, ?_⟩
  rcases h.2 with ⟨hv, -⟩ | ⟨g', cap', cur, hv, hb, hh, hn, hm, hs, ht⟩
  · cases hv
  · cases hv
    refine .inr ⟨g, cap, cur.setIfInBounds j u, rfl, hb, ?_, hn, hm, by simp [hs], ?_⟩
    · rw [setCell_eq_setRow w g j cur E (0, 0) _ hh]
      exact setRow_heap w g cur _ E _ hh
    · rw [Array.toList_setIfInBounds, List.take_set, ht]

theorem own_type {w : World} {base base' E E' k k' n n' : Nat} {v v' : Value} {cs cs' : List Value} (h : w.ownsRow base E k v n cs) (h' : w.ownsRow base' E' k' v' n' cs') (hE : E ≠ E') {g : Nat} (hg : v.ownBlock = some g) : v'.ownBlock ≠ some g := by
  intro hg'
  rcases h.2 with ⟨rfl, -⟩ | ⟨a, c, cur, rfl, -, hh, -⟩
  · cases hg
  · rcases h'.2 with ⟨rfl, -⟩ | ⟨a', c', cur', rfl, -, hh', -⟩
    · cases hg'
    · simp only [Value.ownBlock, Option.some.injEq] at hg hg'
      subst hg
      subst hg'
      rw [hh] at hh'
      simp only [Option.some.injEq, Obj.cells.injEq] at hh'
      exact hE hh'.2.1

theorem own_cell {w : World} {base E k g n cap j : Nat} {cs : List Value} {u : Value} (h : w.ownsRow base E k (.slice (some ⟨g, 0, none⟩) n cap) n cs) (hj : cs[j]? = some u) : w.cell? ⟨g, j, none⟩ = some u ∧ w.frozen? ⟨g, j, none⟩ = false := by
  have := World.ownsRow.cells h (g := g) rfl j u hj
  rw [Addr.add_lit, Nat.zero_add] at this
  refine ⟨this, ?_⟩
  rcases h.2 with ⟨hv, -⟩ | ⟨g', cap', cur, hv, hb, hh, -⟩
  · cases hv
  · cases hv
    exact frozen_block hh j

theorem three_set {α : Type} (f : α → List Value) (hf : ∀ x, (f x).length = 3) (y : α) (j : Nat) (u : Value) : ∀ (l : List α) (i : Nat) (x : α), l[i]? = some x → j < 3 → (f x).set j u = f y → (l.flatMap f).set (i * 3 + j) u = (l.set i y).flatMap f
  | [], i, x, h, _, _ => by cases h
  | z :: r, 0, x, h, hj, he => by
    cases h
    rw [List.set_cons_zero, List.flatMap_cons, List.flatMap_cons, Nat.zero_mul, Nat.zero_add, List.set_append_left _ _ (by rw [hf]; exact hj), he]
  | z :: r, i + 1, x, h, hj, he => by
    rw [List.set_cons_succ, List.flatMap_cons, List.flatMap_cons, List.set_append_right _ _ (by rw [hf]; omega), hf, show (i + 1) * 3 + j - 3 = i * 3 + j by omega]
    rw [three_set f hf y j u r i x h hj he]

/-- A rule of a grammar that the call owns is turned. -/
theorem OwnG.setRule {w : World} {base g : Nat} {h : Hd} {G : Gm} {qs : List (Ru × Option Addr × Nat)} (o : OwnG w base h G qs) (hra : h.ra = some ⟨g, 0, none⟩) {i j : Nat} {q : Ru × Option Addr × Nat} (hq : qs[i]? = some q) (hj : j < 3) (r' : Ru) (u : Value)
    (hr : r'.r = q.1.r) (hc : ([.string q.1.l, .slice q.2.1 q.1.r.length q.2.2, .string q.1.p] : List Value).set j u = [.string r'.l, .slice q.2.1 r'.r.length q.2.2, .string r'.p]) :
    OwnG (w.setCell ⟨g, i * 3 + j, none⟩ u) base h ⟨G.ts, G.s, G.e, G.rs.set i r'⟩ (qs.set i (r', q.2)) := by
  have hrul := o.rul
  rw [hra] at hrul
  refine ⟨?_, ?_, ?_, ?_⟩
  · refine ownsRow_of_block o.tok (fun b hb => Below.heap_setCell _ _ _ _ (fun e => ?_))
    simp only at e
    subst e
    exact own_type hrul o.tok (by decide) (g := b) rfl hb
  · have h1 := own_set (u := u) (j := i * 3 + j) hrul
    have h2 : (rulC qs).set (i * 3 + j) u = rulC (qs.set i (r', q.2)) := three_set _ (fun _ => rfl) (r', q.2) j u qs i q hq hj hc
    rw [h2] at h1
    simp only [List.length_set]
    rw [hra]
    exact h1
  · simp only
    rw [List.map_set, o.map]
  · intro q' hq'
    have hrow : OwnS w base (.slice q'.2.1 q'.1.r.length q'.2.2) q'.1.r := by
      rcases List.mem_or_eq_of_mem_set hq' with h1 | h1
      · exact o.row q' h1
      · subst h1
        simp only
        rw [hr]
        exact o.row q (List.mem_of_getElem? hq)
    refine ownsRow_of_block hrow (fun b hb => Below.heap_setCell _ _ _ _ (fun e => ?_))
    simp only at e
    subst e
    exact own_type hrul hrow (by decide) (g := b) rfl hb

/-- A token of a grammar that the call owns gets another name. -/
theorem OwnG.setTok {w : World} {base g : Nat} {h : Hd} {G : Gm} {qs : List (Ru × Option Addr × Nat)} (o : OwnG w base h G qs) (hta : h.ta = some ⟨g, 0, none⟩) {i : Nat} {t : Tk} (ht : G.ts[i]? = some t) (s : ByteArray) :
    OwnG (w.setCell ⟨g, i * 3, none⟩ (.string s)) base h ⟨G.ts.set i ⟨s, t.l, t.a⟩, G.s, G.e, G.rs⟩ qs := by
  have htok := o.tok
  rw [hta] at htok
  refine ⟨?_, ?_, o.map, ?_⟩
  · have h1 := own_set (u := .string s) (j := i * 3) htok
    have h2 : (tokC G.ts).set (i * 3 + 0) (.string s) = tokC (G.ts.set i ⟨s, t.l, t.a⟩) := three_set _ (fun _ => rfl) (⟨s, t.l, t.a⟩ : Tk) 0 (.string s) G.ts i t ht (by omega) rfl
    rw [Nat.add_zero] at h2
    rw [h2] at h1
    simp only [List.length_set]
    rw [hta]
    exact h1
  · refine ownsRow_of_block o.rul (fun b hb => Below.heap_setCell _ _ _ _ (fun e => ?_))
    simp only at e
    subst e
    exact own_type htok o.rul (by decide) (g := b) rfl hb
  · intro q' hq'
    refine ownsRow_of_block (o.row q' hq') (fun b hb => Below.heap_setCell _ _ _ _ (fun e => ?_))
    simp only at e
    subst e
    exact own_type htok (o.row q' hq') (by decide) (g := b) rfl hb

end Go.Proofs.YtkaojokhdleeiaaGreatDoor

/-
  The walk of the reference's token; plain facts on levels.
-/
namespace Go.Proofs.YtkaojokhdleeiaaGreatDoor
open Go.RowKit

set_option maxRecDepth 20000

set_option maxHeartbeats 2000000 in
theorem rtoken_calls (G : Gm) (h : Hd) (w : World) (hG : IsG w h G) (s : ByteArray) (k : Nat) (t : Tk) (ht : G.ts[k]? = some t) (hs : t.n = s) :
    Calls Tryz.prog 37 #[gv h G, .string s] w fun e w' => ∃ m : Nat, e = .returned (.int .i64 m) ∧ (m = k ↔ ¬ hasN (G.ts.take k) s) ∧ Below w.heap.size w w' := by
  obtain ⟨ts, st, ex, rs⟩ := G
  obtain ⟨ta, tc, ra, rc⟩ := h
  simp only at ht
  have HT : Hid (ts[k]? = some t ∧ t.n = s) := ⟨ht, hs⟩
  have hkl : k < ts.length := (List.getElem?_eq_some_iff.1 ht).1
  have hm1 : ts.length ≤ tc ∧ tc ≤ 9223372036854775807 := by have h1 := hG.tok.le; have h2 := hG.tok.max; simp only at h1 h2; unfold maxLen at h2; omega
  have hs1 : ts.length ≤ 100 := hG.small.nt
  have HR : Hid (Row w 3 ta ts.length tc (tokC ts)) := hG.tok
  unfold gv
  simp only
  clear hG ht hs
  obtain ⟨n, HN⟩ : ∃ n, Hid (ts.length = n) := ⟨_, rfl⟩
  rw [HN.out] at HR hm1 hs1 hkl ⊢
  generalize rs.length = rn
  go_enter Tryz.func37, Tryz.ntmps37
  go_upto_region 1 with fail
  have c0 : (w.alloc (.cells #[.slice ta n tc, .string st, .int .i64 ex, .slice ra rn rc] 28)).cell? ⟨w.heap.size, 0, none⟩ = some (.slice ta n tc) := by rw [World.cell?_alloc_mark]; rfl
  have HB : Hid (Below w.heap.size w (w.alloc (.cells #[.slice ta n tc, .string st, .int .i64 ex, .slice ra rn rc] 28)) ∧ Row (w.alloc (.cells #[.slice ta n tc, .string st, .int .i64 ex, .slice ra rn rc] 28)) 3 ta n tc (tokC ts)) := ⟨below_alloc _ _, HR.out.below (below_alloc _ _)⟩
  generalize w.alloc (.cells #[.slice ta n tc, .string st, .int .i64 ex, .slice ra rn rc] 28) = wq at c0 HB ⊢
  generalize w.heap.size = gb at c0 ⊢
  clear HR
  go_wp2
  go_loop [5] (fun v => ∃ i : Nat, i ≤ k ∧ v = .int .i64 i ∧ Hid (∀ j u, j < i → ts[j]? = some u → u.n ≠ s)) (fun v => n - (intOf v).toNat)
  case atStart => exact ⟨0, Nat.zero_le _, rfl, (fun j u h => absurd h (Nat.not_lt_zero _) : ∀ j u, j < 0 → ts[j]? = some u → u.n ≠ s)⟩
  case round =>
    obtain ⟨i, hi, rfl, J⟩ := hrel
    have hlt : i < n := by omega
    obtain ⟨u, hu⟩ : ∃ u, ts[i]? = some u := ⟨ts[i]'(by rw [HN.out]; exact hlt), List.getElem?_eq_getElem _⟩
    obtain ⟨b, o, rfl, p0, -, -⟩ := tok_at HB.out.2 hu
    have HU : Hid (ts[i]? = some u) := hu
    clear hu
    by_cases he : u.n = s
    · have hb := toList_beq_eq he
      have HF : Hid (i = k ↔ ¬ hasN (ts.take k) s) := by
        constructor
        · rintro rfl ⟨v, hv, hv2⟩
          obtain ⟨j, hj⟩ := List.getElem?_of_mem hv
          rw [List.getElem?_take] at hj
          split at hj
          · exact J.out j v (by assumption) hj hv2
          · cases hj
        · intro hno
          rcases Nat.lt_or_ge i k with h | h
          · exact absurd ⟨u, List.mem_of_getElem? (i := i) (by rw [List.getElem?_take, if_pos h]; exact HU.out), he⟩ hno
          · omega
      generalize u.n = un at p0 hb
      clear he
      go_wp2
      go_ret
      exact ⟨i, rfl, HF.out, HB.out.1⟩
    · have hb := toList_beq_ne he
      have hik : i < k := by
        rcases Nat.lt_or_ge i k with h | h
        · exact h
        · have : i = k := by omega
          subst this
          have := HU.out
          rw [HT.out.1] at this
          cases this
          exact absurd HT.out.2 he
      have HF : Hid (∀ j u, j < i + 1 → ts[j]? = some u → u.n ≠ s) := fun j v hj hv => by
        rcases Nat.lt_or_ge j i with h | h
        · exact J.out j v h hv
        · have : j = i := by omega
          subst this
          rw [HU.out] at hv
          cases hv
          exact he
      generalize u.n = un at p0 hb
      clear he
      go_wp2
      go_round
      case rel => exact ⟨i + 1, by omega, by simp, HF⟩
      case measure => simp [intOf]; omega

/-- The greatest level that is there. -/
def TopL (l : List Int) (m : Nat) : Prop := m < 9 ∧ (∀ j, m < j → j < 9 → (l[j]?).getD 0 = 0) ∧ (m = 0 ∨ (l[m]?).getD 0 ≠ 0)

theorem topL_zero : TopL zero9 0 := by
  refine ⟨by omega, fun j h1 h2 => ?_, .inl rfl⟩
  match j, h2 with
  | 0, _ => rfl
  | 1, _ => rfl
  | 2, _ => rfl
  | 3, _ => rfl
  | 4, _ => rfl
  | 5, _ => rfl
  | 6, _ => rfl
  | 7, _ => rfl
  | 8, _ => rfl

theorem getD_set (l : List Int) (m j : Nat) (a : Int) (h : m < l.length) : ((l.set m a)[j]?).getD 0 = if j = m then a else (l[j]?).getD 0 := by
  rw [List.getElem?_set]
  by_cases hj : m = j
  · subst hj; simp [h]
  · rw [if_neg hj, if_neg (by omega)]

theorem topL_set {l : List Int} {m q : Nat} {a : Int} (h : TopL l m) (hl : l.length = 9) (hq : q < 9) (ha : (q = 0 ∧ a = 0) ∨ (1 ≤ q ∧ a ≠ 0)) : TopL (l.set q a) (max m q) := by
  obtain ⟨h1, h2, h3⟩ := h
  refine ⟨by omega, fun j hj1 hj2 => ?_, ?_⟩
  · rw [getD_set l q j a (by omega), if_neg (by omega)]
    exact h2 j (by omega) hj2
  · by_cases hmq : m ≤ q
    · rw [Nat.max_eq_right hmq]
      rcases ha with ⟨h0, -⟩ | ⟨hq1, hane⟩
      · exact .inl h0
      · right; rw [getD_set l q q a (by omega), if_pos rfl]; exact hane
    · rw [Nat.max_eq_left (by omega)]
      rcases h3 with h3 | h3
      · exact .inl h3
      · right; rw [getD_set l q m a (by omega), if_neg (by omega)]; exact h3

theorem noGap_iff {l : List Int} {m : Nat} (h : TopL l m) : NoGap l ↔ ∀ i, 1 ≤ i → i ≤ m → (l[i]?).getD 0 ≠ 0 := by
  obtain ⟨h1, h2, h3⟩ := h
  constructor
  · intro hg i hi1 hi2
    rcases h3 with h3 | h3
    · omega
    · have : ∀ d i, i + d = m → 1 ≤ i → (l[i]?).getD 0 ≠ 0 := by
        intro d
        induction d with
        | zero => intro i hi _; rw [show i = m by omega]; exact h3
        | succ d ih =>
          intro i hi h0
          have := hg (i + 1) (by omega) (by omega) (ih (i + 1) (by omega) (by omega))
          rwa [Nat.add_sub_cancel] at this
      exact this (m - i) i (by omega) hi1
  · intro ha k hk1 hk2 hk3
    rcases Nat.lt_or_ge m k with h | h
    · exact absurd (h2 k h hk2) hk3
    · exact ha (k - 1) (by omega) (by omega)

end Go.Proofs.YtkaojokhdleeiaaGreatDoor

/-
  The walk of the reference's May.
-/
namespace Go.Proofs.YtkaojokhdleeiaaGreatDoor
open Go.RowKit

set_option maxRecDepth 20000

/-- What stands in memory while tokens are looked at. -/
structure RM (ts : List Tk) (w wr : World) (k m : Nat) (l : List Int) : Prop where
  lev : levF (ts.take k) = some l
  top : TopL l m
  names : NamesTo ts k
  zero : (l[0]?).getD 0 = 0
  arr : wr.heap[w.heap.size]? = some (.cells (ar9 l) 70 (0, 0))
  bel : Below w.heap.size w wr

theorem RM.step {ts : List Tk} {w wr wr' : World} {k m : Nat} {l : List Int} (h : RM ts w wr k m l) (hb : Below wr.heap.size wr wr') : RM ts w wr' k m l :=
  ⟨h.lev, h.top, h.names, h.zero, block_below hb h.arr, below_step h.bel hb⟩

theorem RM.cell {ts : List Tk} {w wr : World} {k m : Nat} {l : List Int} (h : RM ts w wr k m l) {q : Nat} (hq : q < 9) : wr.cell? ⟨w.heap.size, q, none⟩ = some (.int .i64 ((l[q]?).getD 0)) := by
  rw [cell_block h.arr]; exact ar9_at (levF_length h.lev) hq

theorem RM.put {ts : List Tk} {w wr : World} {k k' m q : Nat} {l : List Int} {a : Int} (h : RM ts w wr k m l) (hl : levF (ts.take k') = some (l.set q a)) (hn : NamesTo ts k') (hq : q < 9) (ha : (q = 0 ∧ a = 0) ∨ (1 ≤ q ∧ a ≠ 0)) : RM ts w (wr.setCell ⟨w.heap.size, q, none⟩ (.int .i64 a)) k' (max m q) (l.set q a) := by
  refine ⟨hl, topL_set h.top (levF_length h.lev) hq ha, hn, ?_, ?_, h.bel.setCell (p := ⟨w.heap.size, q, none⟩) (Nat.le_refl _) _⟩
  · rw [getD_set l q 0 a (by rw [levF_length h.lev]; exact hq)]
    split
    · rcases ha with h1 | h1
      · exact h1.2
      · omega
    · exact h.zero
  rw [setCell_eq_setRow wr w.heap.size q _ 70 (0, 0) _ h.arr, ar9_set]
  exact setRow_heap _ _ _ _ 70 _ h.arr

theorem cell_set_ne {w : World} {a p : Addr} {v u : Value} (h : w.cell? a = some v) (hne : a.block ≠ p.block) : (w.setCell p u).cell? a = some v := by
  rw [← h]
  unfold World.cell?
  rw [Below.heap_setCell _ _ _ _ hne]

/-- A token's level and kind, told as the reference asks. -/
theorem lev_cases (n : ByteArray) (l a : Int) : (¬ LevP ⟨n, l, a⟩ ∧ (l < 0 ∨ (8 < l) ∨ (l = 0 ∧ a ≠ 0) ∨ (1 ≤ l ∧ l ≤ 8 ∧ a < 1) ∨ (1 ≤ l ∧ l ≤ 8 ∧ 3 < a))) ∨ (LevP ⟨n, l, a⟩ ∧ ((l = 0 ∧ a = 0) ∨ (1 ≤ l ∧ l ≤ 8 ∧ 1 ≤ a ∧ a ≤ 3))) := by
  unfold LevP
  simp only
  omega

set_option maxHeartbeats 8000000 in
set_option maxRecDepth 20000 in
theorem rmay_calls : MayCalls 19 := by
  intro G h w r hG hp
  obtain ⟨ts, st, ex, rs⟩ := G
  obtain ⟨ta, tc, ra, rc⟩ := h
  have HP : Hid (r = true ↔ MayP ⟨ts, st, ex, rs⟩) := hp
  have hm1 : ts.length ≤ tc ∧ tc ≤ 9223372036854775807 := by have h1 := hG.tok.le; have h2 := hG.tok.max; simp only at h1 h2; unfold maxLen at h2; omega
  have hm2 := rules_le hG.rul
  simp only at hm2
  have hs1 : ts.length ≤ 100 := hG.small.nt
  have hs2 : rs.length ≤ 200 := hG.small.nr
  have HG : Hid (IsG w ⟨ta, tc, ra, rc⟩ ⟨ts, st, ex, rs⟩) := hG
  have HNM : Hid (∀ W : World, Calls Tryz.prog 36 #[.string st] W fun e w' => e = .returned (.bool (nameOk (by8 st))) ∧ w' = W) := fun W => rname_calls st W (by have := hG.small.st; simp only at this; omega)
  unfold gv
  simp only
  clear hG hp
  obtain ⟨tn, HTN⟩ : ∃ n, Hid (ts.length = n) := ⟨_, rfl⟩
  obtain ⟨rn, HRN⟩ : ∃ n, Hid (rs.length = n) := ⟨_, rfl⟩
  rw [HTN.out] at hm1 hs1 ⊢
  rw [HRN.out] at hm2 hs2 ⊢
  obtain ⟨x, hx⟩ := bool_of (¬ (tn ≤ 40 ∧ rn ≤ 100 ∧ 0 ≤ ex ∧ ex ≤ 9999 ∧ NoneP st))
  have HX : Hid (x = true ↔ ¬ (tn ≤ 40 ∧ rn ≤ 100 ∧ 0 ≤ ex ∧ ex ≤ 9999 ∧ NoneP st)) := hx
  clear hx
  go_enter Tryz.func19, Tryz.ntmps19
  go_upto_region 1 with fail
  have c0 : (w.alloc (.cells #[.slice ta tn tc, .string st, .int .i64 ex, .slice ra rn rc] 28)).cell? ⟨w.heap.size, 0, none⟩ = some (.slice ta tn tc) := by rw [World.cell?_alloc_mark]; rfl
  have c1 : (w.alloc (.cells #[.slice ta tn tc, .string st, .int .i64 ex, .slice ra rn rc] 28)).cell? ⟨w.heap.size, 1, none⟩ = some (.string st) := by rw [World.cell?_alloc_mark]; rfl
  have c2 : (w.alloc (.cells #[.slice ta tn tc, .string st, .int .i64 ex, .slice ra rn rc] 28)).cell? ⟨w.heap.size, 2, none⟩ = some (.int .i64 ex) := by rw [World.cell?_alloc_mark]; rfl
  have c3 : (w.alloc (.cells #[.slice ta tn tc, .string st, .int .i64 ex, .slice ra rn rc] 28)).cell? ⟨w.heap.size, 3, none⟩ = some (.slice ra rn rc) := by rw [World.cell?_alloc_mark]; rfl
  have HB : Hid (Below w.heap.size w (w.alloc (.cells #[.slice ta tn tc, .string st, .int .i64 ex, .slice ra rn rc] 28)) ∧ IsG (w.alloc (.cells #[.slice ta tn tc, .string st, .int .i64 ex, .slice ra rn rc] 28)) ⟨ta, tc, ra, rc⟩ ⟨ts, st, ex, rs⟩) := ⟨below_alloc _ _, HG.out.below (below_alloc _ _)⟩
  generalize w.alloc (.cells #[.slice ta tn tc, .string st, .int .i64 ex, .slice ra rn rc] 28) = w0 at c0 c1 c2 c3 HB ⊢
  generalize w.heap.size = gb at c0 c1 c2 c3 ⊢
  clear HG
  go_cut [41] (fun s wd => s = .bool x ∧ wd = w0)
  case first =>
    by_cases h40 : 40 < tn
    · have HF : Hid (x = true) := b_true HX.out (by omega)
      have h40' : (40 : Int) < (tn : Int) := by omega
      go_wp2_with fail
      go_meet
      exact ⟨by rw [HF.out], rfl⟩
    have h40' : ¬ (40 : Int) < (tn : Int) := by omega
    by_cases h100 : 100 < rn
    · have HF : Hid (x = true) := b_true HX.out (by omega)
      have h100' : (100 : Int) < (rn : Int) := by omega
      go_wp2_with fail
      go_meet
      exact ⟨by rw [HF.out], rfl⟩
    have h100' : ¬ (100 : Int) < (rn : Int) := by omega
    by_cases he0 : ex < 0
    · have HF : Hid (x = true) := b_true HX.out (by omega)
      go_wp2_with fail
      go_meet
      exact ⟨by rw [HF.out], rfl⟩
    by_cases he1 : 9999 < ex
    · have HF : Hid (x = true) := b_true HX.out (by omega)
      go_wp2_with fail
      go_meet
      exact ⟨by rw [HF.out], rfl⟩
    have hst : (NoneP st ∧ (st.toList == []) = true) ∨ (NoneP st ∧ (st.toList == []) = false ∧ nameOk (by8 st) = true) ∨ (¬ NoneP st ∧ (st.toList == []) = false ∧ nameOk (by8 st) = false) := by
      unfold NoneP NameP
      rw [← toList_nil]
      cases (st.toList == []) <;> cases nameOk (by8 st) <;> simp
    rcases hst with ⟨hst, hs3⟩ | ⟨hst, hs3, hs4⟩ | ⟨hst, hs3, hs4⟩
    · have HF : Hid (x = false) := b_false HX.out (fun h => h ⟨by omega, by omega, by omega, by omega, hst⟩)
      clear hst
      go_wp2_with fail
      go_meet
      exact ⟨by rw [HF.out], rfl⟩
    · have HF : Hid (x = false) := b_false HX.out (fun h => h ⟨by omega, by omega, by omega, by omega, hst⟩)
      rw [hs4] at HNM
      clear hst
      go_wp2_with (go_at_call 36; refine (HNM.out _).mono ?_; rintro e w1 ⟨rfl, rfl⟩)
      go_meet
      exact ⟨by rw [HF.out], rfl⟩
    · have HF : Hid (x = true) := b_true HX.out (fun h => hst h.2.2.2.2)
      rw [hs4] at HNM
      clear hst
      go_wp2_with (go_at_call 36; refine (HNM.out _).mono ?_; rintro e w1 ⟨rfl, rfl⟩)
      go_meet
      exact ⟨by rw [HF.out], rfl⟩
  case rest =>
    obtain ⟨rfl, hwc⟩ := hcut
    subst wc
    cases x
    rotate_left
    · have HF : Hid (r = false) := b_false HP.out (fun h => HX.out.1 rfl ⟨by rw [← HTN.out]; exact h.nt, by rw [← HRN.out]; exact h.nr, h.e0, h.e1, h.st⟩)
      go_wp2_with fail
      go_ret
      exact ⟨by rw [HF.out]; rfl, HB.out.1⟩
    · have HP2 : Hid (r = true ↔ TokP ts ∧ ∀ r ∈ rs, RuleP r) := by
        have hc : tn ≤ 40 ∧ rn ≤ 100 ∧ 0 ≤ ex ∧ ex ≤ 9999 ∧ NoneP st := by
          rcases Classical.em (tn ≤ 40 ∧ rn ≤ 100 ∧ 0 ≤ ex ∧ ex ≤ 9999 ∧ NoneP st) with h | h
          · exact h
          · have := HX.out.2 h; cases this
        exact HP.out.trans ⟨fun h => ⟨h.tk, h.rl⟩, fun h => ⟨by simp only; rw [HTN.out]; exact hc.1, by simp only; rw [HRN.out]; exact hc.2.1, hc.2.2.1, hc.2.2.2.1, hc.2.2.2.2, h.1, h.2⟩⟩
      have C0 : Hid (∀ W : World, Below w0.heap.size w0 W → W.cell? ⟨gb, 0, none⟩ = some (.slice ta tn tc)) := fun W hW => cell_below hW c0
      have C1 : Hid (∀ W : World, Below w0.heap.size w0 W → W.cell? ⟨gb, 1, none⟩ = some (.string st)) := fun W hW => cell_below hW c1
      have C2 : Hid (∀ W : World, Below w0.heap.size w0 W → W.cell? ⟨gb, 2, none⟩ = some (.int .i64 ex)) := fun W hW => cell_below hW c2
      have C3 : Hid (∀ W : World, Below w0.heap.size w0 W → W.cell? ⟨gb, 3, none⟩ = some (.slice ra rn rc)) := fun W hW => cell_below hW c3
      clear HP HX HNM c0 c1 c2 c3
      go_upto_block 0 with fail
      go_cut [4] (fun s4 wd => ∃ m : Nat, s4 = .int .i64 m ∧ Hid (∃ l, RM ts w0 wd tn m l))
      case first =>
        go_wp2_with fail
        go_loopg [4, 5] tn (fun kx s4 s5 wr => ∃ k m : Nat, s4 = .int .i64 m ∧ s5 = .int .i64 k ∧ k ≤ tn ∧ m ≤ 8 ∧ tn - k ≤ kx ∧ Hid (∃ l, RM ts w0 wr k m l))
        case atStart => exact ⟨0, 0, rfl, rfl, Nat.zero_le _, Nat.zero_le _, by omega, (⟨zero9, rfl, topL_zero, NamesTo.zero ts, rfl, heap_alloc_new _ _, below_alloc _ _⟩ : ∃ l, RM ts w0 _ 0 0 l)⟩
        case round =>
          obtain ⟨k, m, rfl, rfl, hk, hm8, hg, J⟩ := hrel
          obtain ⟨l, JJ⟩ := J.out
          have JM : Hid (RM ts w0 wr k m l) := JJ
          clear J JJ
          have c0 := C0.out wr JM.out.bel
          by_cases hlt : k < tn
          · obtain ⟨t, ht⟩ : ∃ t, ts[k]? = some t := ⟨ts[k]'(by rw [HTN.out]; exact hlt), List.getElem?_eq_getElem _⟩
            have hrow := HB.out.2.tok.below JM.out.bel
            simp only at hrow
            obtain ⟨b, o, hta, p0, p1, p2⟩ := tok_at hrow ht
            subst hta
            have HT : Hid (ts[k]? = some t) := ht
            have hsz := HB.out.2.small.tk t (List.mem_of_getElem? ht)
            obtain ⟨nm, tl, tk⟩ := t
            simp only at p0 p1 p2 hsz
            clear ht hrow
            go_upto_region 9 with fail
            have HQ : Hid (RM ts w0 (wr.alloc (.cells #[.string nm, .int .i64 tl, .int .i64 tk] 50)) k m l) := JM.out.step (below_alloc _ _)
            have d0 : (wr.alloc (.cells #[.string nm, .int .i64 tl, .int .i64 tk] 50)).cell? ⟨wr.heap.size, 0, none⟩ = some (.string nm) := by rw [World.cell?_alloc_mark]; rfl
            have d1 : (wr.alloc (.cells #[.string nm, .int .i64 tl, .int .i64 tk] 50)).cell? ⟨wr.heap.size, 1, none⟩ = some (.int .i64 tl) := by rw [World.cell?_alloc_mark]; rfl
            have d2 : (wr.alloc (.cells #[.string nm, .int .i64 tl, .int .i64 tk] 50)).cell? ⟨wr.heap.size, 2, none⟩ = some (.int .i64 tk) := by rw [World.cell?_alloc_mark]; rfl
            generalize wr.alloc (.cells #[.string nm, .int .i64 tl, .int .i64 tk] 50) = wq at HQ d0 d1 d2 ⊢
            have HTB : Hid (w0.heap.size < wr.heap.size) := (Array.getElem?_eq_some_iff.1 JM.out.arr).1
            generalize wr.heap.size = tb at d0 d1 d2 HTB ⊢
            clear p0 p1 p2 JM c0
            have c0 := C0.out wq HQ.out.bel
            have c1 := C1.out wq HQ.out.bel
            have c2 := C2.out wq HQ.out.bel
            have c3 := C3.out wq HQ.out.bel
            obtain ⟨y, hy⟩ := bool_of (¬ (NameP nm ∧ ¬ hasN (ts.take k) nm ∧ LevP ⟨nm, tl, tk⟩))
            have HY : Hid (y = true ↔ ¬ (NameP nm ∧ ¬ hasN (ts.take k) nm ∧ LevP ⟨nm, tl, tk⟩)) := hy
            clear hy
            have H1 : Hid (∀ W : World, Calls Tryz.prog 36 #[.string nm] W fun e w' => e = .returned (.bool (nameOk (by8 nm))) ∧ w' = W) := fun W => rname_calls nm W (by omega)
            have H2 : Hid (Calls Tryz.prog 37 #[.agg #[.slice (some ⟨b, o, none⟩) tn tc, .string st, .int .i64 ex, .slice ra rn rc], .string nm] wq fun e w' => ∃ m : Nat, e = .returned (.int .i64 m) ∧ (m = k ↔ ¬ hasN (ts.take k) nm) ∧ Below wq.heap.size wq w') := by
              have := rtoken_calls ⟨ts, st, ex, rs⟩ ⟨some ⟨b, o, none⟩, tc, ra, rc⟩ wq (HB.out.2.below HQ.out.bel) nm k ⟨nm, tl, tk⟩ HT.out rfl
              unfold gv at this
              simp only at this
              rwa [HTN.out, HRN.out] at this
            go_cut [100] from 42 to 128 (fun s wd => s = .bool y ∧ Hid (Below wq.heap.size wq wd))
            case first =>
              cases hnm : nameOk (by8 nm)
              · have HF : Hid (y = true) := b_true HY.out (fun h => by have := h.1; unfold NameP at this; rw [hnm] at this; cases this)
                rw [hnm] at H1
                clear H2 hnm
                go_wp2_with (go_at_call 36; refine (H1.out _).mono ?_; rintro e w1 ⟨rfl, rfl⟩)
                go_meet
                exact ⟨by rw [HF.out], Below.refl _ _⟩
              · rw [hnm] at H1
                go_wp2_with (go_at_call 36; refine (H1.out _).mono ?_; rintro e w1 ⟨rfl, rfl⟩)
                refine H2.out.mono ?_
                rintro e w2 ⟨mk, rfl, hmk, hB⟩
                have HBB : Hid (Below w1.heap.size w1 w2) := hB
                have HMK : Hid (mk = k ↔ ¬ hasN (ts.take k) nm) := hmk
                have d1 := cell_below hB d1
                have d2 := cell_below hB d2
                clear hB hmk H1 H2 c0 c1 c2 c3 d0
                by_cases hmkk : mk = k
                · have hk1 : ((mk : Int) != (k : Int)) = false := by simp [hmkk]
                  rcases lev_cases nm tl tk with ⟨hno, hl⟩ | ⟨hyes, hl⟩
                  · have HF : Hid (y = true) := b_true HY.out (fun h => hno h.2.2)
                    clear hno hmkk
                    rcases hl with hl | hl | ⟨hl, ha⟩ | ⟨hl, hl2, ha⟩ | ⟨hl, hl2, ha⟩
                    · go_wp2_with fail
                      go_meet
                      exact ⟨by rw [HF.out], HBB.out⟩
                    · go_wp2_with fail
                      go_meet
                      exact ⟨by rw [HF.out], HBB.out⟩
                    · have hl1 : (tl == 0) = true := by simpa using hl
                      have ha1 : (tk != 0) = true := by simpa using ha
                      go_wp2_with fail
                      go_meet
                      exact ⟨by rw [HF.out], HBB.out⟩
                    · have hl1 : (tl == 0) = false := by simp; omega
                      go_wp2_with fail
                      go_meet
                      exact ⟨by rw [HF.out], HBB.out⟩
                    · have hl1 : (tl == 0) = false := by simp; omega
                      go_wp2_with fail
                      go_meet
                      exact ⟨by rw [HF.out], HBB.out⟩
                  · have HF : Hid (y = false) := b_false HY.out (fun h => h ⟨hnm, HMK.out.1 hmkk, hyes⟩)
                    clear hyes hmkk
                    rcases hl with ⟨hl, ha⟩ | ⟨hl, hl2, ha, ha2⟩
                    · have hl1 : (tl == 0) = true := by simpa using hl
                      have ha1 : (tk != 0) = false := by simpa using ha
                      go_wp2_with fail
                      go_meet
                      exact ⟨by rw [HF.out], HBB.out⟩
                    · have hl1 : (tl == 0) = false := by simp; omega
                      go_wp2_with fail
                      go_meet
                      exact ⟨by rw [HF.out]; simp; omega, HBB.out⟩
                · have hk1 : ((mk : Int) != (k : Int)) = true := by simp; omega
                  have HF : Hid (y = true) := b_true HY.out (fun h => hmkk (HMK.out.2 h.2.1))
                  clear hmkk
                  go_wp2_with fail
                  go_meet
                  exact ⟨by rw [HF.out], HBB.out⟩
            case rest =>
              obtain ⟨rfl, HBB⟩ := hcut
              have HQ2 : Hid (RM ts w0 wc k m l) := HQ.out.step HBB.out
              have d1 := cell_below HBB.out d1
              have d2 := cell_below HBB.out d2
              clear H1 H2 c0 c1 c2 c3 d0 HQ HBB
              cases y
              rotate_left
              · have HF : Hid (r = false) := b_false HP2.out (fun h => HY.out.1 rfl ⟨(h.1.1 k _ HT.out).1, fun hh => no_dup HT.out hh h.1, by
                  obtain ⟨l', hl', -⟩ := h.1.2
                  rcases Classical.em (LevP ⟨nm, tl, tk⟩) with h1 | h1
                  · exact h1
                  · have := levF_bad (ts := ts) (k := k + 1) (by rw [take_succ HT.out, levF_snoc, HQ2.out.lev]; unfold levS; simp [h1])
                    rw [this] at hl'; cases hl'⟩)
                have HBF : Hid (Below w.heap.size w wc) := below_step HB.out.1 HQ2.out.bel
                clear HY
                go_wp2_with fail
                go_ret
                exact ⟨by rw [HF.out]; rfl, HBF.out⟩
              · have HL : Hid (NameP nm ∧ ¬ hasN (ts.take k) nm ∧ LevP ⟨nm, tl, tk⟩) := by
                  rcases Classical.em (NameP nm ∧ ¬ hasN (ts.take k) nm ∧ LevP ⟨nm, tl, tk⟩) with h | h
                  · exact h
                  · have := HY.out.2 h; cases this
                have HNK : Hid (NamesTo ts (k + 1)) := HQ2.out.names.succ HT.out HL.out.1 HL.out.2.1
                clear HY
                have hlo : 0 ≤ tl ∧ tl < 9 := by
                  have := HL.out.2.2
                  unfold LevP at this
                  simp only at this
                  omega
                have hq9 : tl.toNat < 9 := by omega
                have HKD : Hid ((tl.toNat = 0 ∧ tk = 0) ∨ (1 ≤ tl.toNat ∧ tk ≠ 0)) := by
                  have := HL.out.2.2
                  unfold LevP at this
                  simp only at this
                  show _ ∨ _
                  omega
                have HLS : Hid (levF (ts.take (k + 1)) = if (l[tl.toNat]?).getD 0 = 0 ∨ (l[tl.toNat]?).getD 0 = tk then some (l.set tl.toNat tk) else none) := by
                  show _ = _
                  rw [take_succ HT.out, levF_snoc, HQ2.out.lev]
                  unfold levS at9
                  simp [HL.out.2.2]
                have HZ : Hid (tl ≤ 0 → (l[tl.toNat]?).getD 0 = 0 ∨ (l[tl.toNat]?).getD 0 = tk) := fun h => by
                  have h0 : tl.toNat = 0 := by omega
                  have := HQ2.out.zero
                  rw [h0]
                  exact .inl this
                have hx := HQ2.out.cell hq9
                obtain ⟨z, hz⟩ := bool_of (¬ ((l[tl.toNat]?).getD 0 = 0 ∨ (l[tl.toNat]?).getD 0 = tk))
                have HZB : Hid (z = true ↔ ¬ ((l[tl.toNat]?).getD 0 = 0 ∨ (l[tl.toNat]?).getD 0 = tk)) := hz
                generalize (l[tl.toNat]?).getD 0 = x at hx HLS HZ HZB
                clear hz hq9
                have g1 := cell_onto d1
                have g2 := cell_onto d2
                have gx := cell_onto hx
                obtain ⟨wy, hwy⟩ : ∃ wy, wy = wc := ⟨_, rfl⟩
                subst wc
                go_upto_region 11 with fail
                go_cut [119] from 42 to 128 (fun s wd => s = .bool z ∧ Hid (Below wy.heap.size wy wd))
                case first =>
                  have HR0 : Hid (∀ n os, Below wy.heap.size wy (onto wy n os)) := fun n os => onto_below wy n os
                  by_cases hq0 : tl ≤ 0
                  · have HF : Hid (z = false) := b_false HZB.out (fun h => h (HZ.out hq0))
                    have hq1 : ¬ 0 < tl := by omega
                    refine wp_region_onto (by kernel_rfl) ?_
                    repeat (go_big_quiet_step (fail))
                    refine wpQuiet_nil ?_
                    intro _ hwq
                    obtain ⟨⟨nq, osq⟩, hwe⟩ := hwq
                    subst hwe
                    go_wp2_with fail
                    go_meet
                    exact ⟨by rw [HF.out], HR0.out _ _⟩
                  · have hq1 : 0 < tl := by omega
                    by_cases hx0 : x = 0
                    · have HF : Hid (z = false) := b_false HZB.out (fun h => h (.inl hx0))
                      have hx1 : (x != 0) = false := by simpa using hx0
                      clear hx0
                      refine wp_region_onto (by kernel_rfl) ?_
                      repeat (go_big_quiet_step (fail))
                      refine wpQuiet_nil ?_
                      intro _ hwq
                      obtain ⟨⟨nq, osq⟩, hwe⟩ := hwq
                      subst hwe
                      go_wp2_with fail
                      go_meet
                      exact ⟨by rw [HF.out], HR0.out _ _⟩
                    · have hx1 : (x != 0) = true := by simpa using hx0
                      have HF : Hid (z = (x != tk)) := by
                        show _ = _
                        rw [Bool.eq_iff_iff, HZB.out]
                        simp [hx0]
                      clear hx0
                      refine wp_region_onto (by kernel_rfl) ?_
                      repeat (go_big_quiet_step (fail))
                      refine wpQuiet_nil ?_
                      intro _ hwq
                      obtain ⟨⟨nq, osq⟩, hwe⟩ := hwq
                      subst hwe
                      go_wp2_with fail
                      go_meet
                      exact ⟨by rw [HF.out], HR0.out _ _⟩
                case rest =>
                  obtain ⟨rfl, HBC⟩ := hcut
                  have HQ3 : Hid (RM ts w0 wc k m l) := HQ2.out.step HBC.out
                  have d1 := cell_below HBC.out d1
                  have d2 := cell_below HBC.out d2
                  have hx := cell_below HBC.out hx
                  clear g1 g2 gx HBC HQ2
                  cases z
                  rotate_left
                  · have HF : Hid (r = false) := b_false HP2.out (fun h => by
                      obtain ⟨l', hl', -⟩ := h.1.2
                      have := levF_bad (ts := ts) (k := k + 1) (by rw [HLS.out, if_neg (HZB.out.1 rfl)])
                      rw [this] at hl'; cases hl')
                    have HBF : Hid (Below w.heap.size w wc) := below_step HB.out.1 HQ3.out.bel
                    clear HLS HZB HZ HL HKD
                    go_wp2_with fail
                    go_ret
                    exact ⟨by rw [HF.out]; rfl, HBF.out⟩
                  · have HL2 : Hid (levF (ts.take (k + 1)) = some (l.set tl.toNat tk)) := by
                      have hc : x = 0 ∨ x = tk := by
                        rcases Classical.em (x = 0 ∨ x = tk) with h | h
                        · exact h
                        · have := HZB.out.2 h; cases this
                      have := HLS.out
                      rwa [if_pos hc] at this
                    have fx : wc.frozen? ⟨w0.heap.size, tl.toNat, none⟩ = false := frozen_block HQ3.out.arr _
                    have HM : Hid (RM ts w0 (wc.setCell ⟨w0.heap.size, tl.toNat, none⟩ (.int .i64 tk)) (k + 1) (max m tl.toNat) (l.set tl.toNat tk)) := HQ3.out.put HL2.out HNK.out (by omega) HKD.out
                    have d1 := cell_set_ne d1 (p := ⟨w0.heap.size, tl.toNat, none⟩) (u := .int .i64 tk) (by have := HTB.out; simp only; omega)
                    clear HLS HZB HZ HL HKD HL2
                    have hmq : max m tl.toNat ≤ 8 := by omega
                    go_wp2_with fail
                    go_roundg (tn - (k + 1))
                    case measure => omega
                    case rel => exact ⟨k + 1, max m tl.toNat, by congr 1; omega, by simp, by omega, hmq, Nat.le_refl _, (⟨_, HM.out⟩ : ∃ l, RM ts w0 _ (k + 1) _ l)⟩
          · obtain rfl : k = tn := by omega
            go_wp2
            go_meet
            exact ⟨m, rfl, ⟨l, JM.out⟩⟩
      case rest =>
        obtain ⟨m, rfl, HC⟩ := hcut
        obtain ⟨l, hRM⟩ := HC.out
        have HM : Hid (RM ts w0 wc tn m l) := hRM
        have hm8 : m ≤ 8 := by have := hRM.top.1; omega
        have HLV : Hid (levF ts = some l) := by have := hRM.lev; rwa [← HTN.out, List.take_length] at this
        have HNM : Hid (∀ (i : Nat) (t : Tk), ts[i]? = some t → NameP t.n ∧ ∀ (j : Nat) (u : Tk), j < i → ts[j]? = some u → u.n ≠ t.n) := NamesTo.all (by rw [HTN.out]; exact hRM.names)
        have HTP : Hid (TokP ts ↔ ∀ i, 1 ≤ i → i ≤ m → (l[i]?).getD 0 ≠ 0) := by
          rw [← noGap_iff hRM.top]
          exact ⟨fun h => by obtain ⟨l', h1, h2⟩ := h.2; rw [HLV.out] at h1; cases h1; exact h2, fun h => ⟨HNM.out, l, HLV.out, h⟩⟩
        have HB2 : Hid (Below w.heap.size w wc) := below_step HB.out.1 hRM.bel
        clear HC hRM HLV HNM
        obtain ⟨wa, hwa⟩ : ∃ wa, wa = wc := ⟨_, rfl⟩
        subst wc
        go_upto_block 2 with fail
        go_cut [7] (fun s7 wd => wd = wa ∧ Hid (TokP ts))
        case first =>
          go_wp2_with fail
          go_loop [7] (fun v => ∃ i : Nat, 1 ≤ i ∧ i ≤ m + 1 ∧ v = .int .i64 i ∧ Hid (∀ j, 1 ≤ j → j < i → (l[j]?).getD 0 ≠ 0)) (fun v => m + 1 - (intOf v).toNat)
          case atStart => exact ⟨1, Nat.le_refl _, by omega, rfl, (fun j h1 h2 => by omega : ∀ j, 1 ≤ j → j < 1 → (l[j]?).getD 0 ≠ 0)⟩
          case round =>
            obtain ⟨i, hi1, hi2, rfl, J⟩ := hrel
            by_cases hlt : i ≤ m
            · have hx := HM.out.cell (show i < 9 by omega)
              have JN : Hid ((l[i]?).getD 0 ≠ 0 → ∀ j, 1 ≤ j → j < i + 1 → (l[j]?).getD 0 ≠ 0) := fun h j h1 h2 => by
                rcases Nat.lt_or_ge j i with h3 | h3
                · exact J.out j h1 h3
                · rw [show j = i by omega]; exact h
              have JY : Hid ((l[i]?).getD 0 = 0 → ¬ TokP ts) := fun h ht => HTP.out.1 ht i hi1 hlt h
              generalize (l[i]?).getD 0 = x at hx JN JY
              clear J
              by_cases hx0 : x = 0
              · have hx1 : (x == 0) = true := by simpa using hx0
                have HF : Hid (r = false) := b_false HP2.out (fun h => JY.out hx0 h.1)
                clear JN JY hx0
                go_wp2_with fail
                go_ret
                exact ⟨by rw [HF.out]; rfl, HB2.out⟩
              · have hx1 : (x == 0) = false := by simpa using hx0
                have JN2 : Hid (∀ j, 1 ≤ j → j < i + 1 → (l[j]?).getD 0 ≠ 0) := JN.out hx0
                clear JN JY hx0
                go_wp2_with fail
                go_round
                case rel => exact ⟨i + 1, by omega, by omega, by simp, JN2⟩
                case measure => simp [intOf]; omega
            · have HT : Hid (TokP ts) := HTP.out.2 (fun j h1 h2 => J.out j h1 (by omega))
              clear J
              go_wp2_with fail
              go_meet
              exact ⟨rfl, HT⟩
        case rest =>
          obtain ⟨hwc, HT⟩ := hcut
          subst wc
          have HP3 : Hid (r = true ↔ ∀ r ∈ rs, RuleP r) := HP2.out.trans ⟨fun h => h.2, fun h => ⟨HT.out, h⟩⟩
          have HR : Hid (RulesAt wa ra rn rc rs) := by have := HB.out.2.rul.below HM.out.bel; simp only at this; rwa [HRN.out] at this
          have C3' : Hid (∀ W : World, Below wa.heap.size wa W → W.cell? ⟨gb, 3, none⟩ = some (.slice ra rn rc)) := fun W hW => cell_below hW (C3.out wa HM.out.bel)
          have HS : Hid (∀ r ∈ rs, r.l.size ≤ 100 ∧ r.p.size ≤ 100 ∧ r.r.length ≤ 100 ∧ ∀ x ∈ r.r, x.size ≤ 100) := HB.out.2.small.rl
          clear HP2 HT HTP HM C0 C1 C2 C3 HB hm8
          go_wp2_with fail
          go_loopg [8] rn (fun kx s8 wr => ∃ k : Nat, s8 = .int .i64 k ∧ k ≤ rn ∧ rn - k ≤ kx ∧ Hid (Below wa.heap.size wa wr ∧ ∀ i x, i < k → rs[i]? = some x → RuleP x))
          case atStart => exact ⟨0, rfl, Nat.zero_le _, by omega, (⟨Below.refl _ _, fun i x h => absurd h (Nat.not_lt_zero _)⟩ : Below wa.heap.size wa _ ∧ ∀ i x, i < 0 → rs[i]? = some x → RuleP x)⟩
          case round =>
            obtain ⟨k, rfl, hk, hg, J⟩ := hrel
            have c3 := C3'.out wr J.out.1
            by_cases hlt : k < rn
            · obtain ⟨x, hx⟩ : ∃ x, rs[k]? = some x := ⟨rs[k]'(by rw [HRN.out]; exact hlt), List.getElem?_eq_getElem _⟩
              obtain ⟨b, o, xa, xc, hra, p0, p1, p2, hrow⟩ := (HR.out.below J.out.1).at hx
              subst hra
              have HT : Hid (rs[k]? = some x) := hx
              have hsz := HS.out x (List.mem_of_getElem? hx)
              obtain ⟨nl, nr, np⟩ := x
              simp only at p0 p1 p2 hrow hsz
              obtain ⟨n, HN⟩ : ∃ n, Hid (nr.length = n) := ⟨_, rfl⟩
              rw [HN.out] at p1 hrow hsz
              have hle := hrow.le
              have hmx : xc ≤ 9223372036854775807 := by have := hrow.max; unfold maxLen at this; omega
              have HRW : Hid (Row wr 1 xa n xc (strC nr)) := hrow
              clear hx hrow
              go_upto_region 24 with fail
              have d0 : (wr.alloc (.cells #[.string nl, .slice xa n xc, .string np] 58)).cell? ⟨wr.heap.size, 0, none⟩ = some (.string nl) := by rw [World.cell?_alloc_mark]; rfl
              have d1 : (wr.alloc (.cells #[.string nl, .slice xa n xc, .string np] 58)).cell? ⟨wr.heap.size, 1, none⟩ = some (.slice xa n xc) := by rw [World.cell?_alloc_mark]; rfl
              have d2 : (wr.alloc (.cells #[.string nl, .slice xa n xc, .string np] 58)).cell? ⟨wr.heap.size, 2, none⟩ = some (.string np) := by rw [World.cell?_alloc_mark]; rfl
              have HQ : Hid (Row (wr.alloc (.cells #[.string nl, .slice xa n xc, .string np] 58)) 1 xa n xc (strC nr) ∧ Below wa.heap.size wa (wr.alloc (.cells #[.string nl, .slice xa n xc, .string np] 58))) := ⟨HRW.out.below (below_alloc _ _), below_step J.out.1 (below_alloc _ _)⟩
              have HJ : Hid (∀ i x, i < k → rs[i]? = some x → RuleP x) := J.out.2
              generalize wr.alloc (.cells #[.string nl, .slice xa n xc, .string np] 58) = wq at HQ d0 d1 d2 ⊢
              generalize wr.heap.size = tb at d0 d1 d2 ⊢
              clear p0 p1 p2 J HRW c3
              obtain ⟨y, hy⟩ := bool_of (¬ (NameP nl ∧ n ≤ 20 ∧ NoneP np))
              have HY : Hid (y = true ↔ ¬ (NameP nl ∧ n ≤ 20 ∧ NoneP np)) := hy
              clear hy
              have H1 : Hid (∀ W : World, Calls Tryz.prog 36 #[.string nl] W fun e w' => e = .returned (.bool (nameOk (by8 nl))) ∧ w' = W) := fun W => rname_calls nl W (by omega)
              have H2 : Hid (∀ W : World, Calls Tryz.prog 36 #[.string np] W fun e w' => e = .returned (.bool (nameOk (by8 np))) ∧ w' = W) := fun W => rname_calls np W (by omega)
              go_cut [170] from 138 to 184 (fun s wd => s = .bool y ∧ wd = wq)
              case first =>
                cases hnl : nameOk (by8 nl)
                · have HF : Hid (y = true) := b_true HY.out (fun h => by have := h.1; unfold NameP at this; rw [hnl] at this; cases this)
                  rw [hnl] at H1
                  go_wp2_with fail
                  refine (H1.out _).mono ?_
                  rintro e w1 ⟨rfl, rfl⟩
                  go_wp2_with fail
                  go_meet
                  exact ⟨by rw [HF.out], rfl⟩
                · rw [hnl] at H1
                  by_cases h20 : n ≤ 20
                  · have h20' : ¬ (20 : Int) < (n : Int) := by omega
                    have hst : (NoneP np ∧ (np.toList == []) = true) ∨ (NoneP np ∧ (np.toList == []) = false ∧ nameOk (by8 np) = true) ∨ (¬ NoneP np ∧ (np.toList == []) = false ∧ nameOk (by8 np) = false) := by
                      unfold NoneP NameP
                      rw [← toList_nil]
                      cases (np.toList == []) <;> cases nameOk (by8 np) <;> simp
                    rcases hst with ⟨hst, hs3⟩ | ⟨hst, hs3, hs4⟩ | ⟨hst, hs3, hs4⟩
                    · have HF : Hid (y = false) := b_false HY.out (fun h => h ⟨hnl, h20, hst⟩)
                      clear hst
                      go_wp2_with fail
                      refine (H1.out _).mono ?_
                      rintro e w1 ⟨rfl, rfl⟩
                      go_wp2_with fail
                      go_meet
                      exact ⟨by rw [HF.out]; simp; omega, rfl⟩
                    · have HF : Hid (y = false) := b_false HY.out (fun h => h ⟨hnl, h20, hst⟩)
                      rw [hs4] at H2
                      clear hst
                      go_wp2_with fail
                      refine (H1.out _).mono ?_
                      rintro e w1 ⟨rfl, rfl⟩
                      go_wp2_with fail
                      refine (H2.out _).mono ?_
                      rintro e w2 ⟨rfl, rfl⟩
                      go_wp2_with fail
                      go_meet
                      exact ⟨by rw [HF.out]; simp; omega, rfl⟩
                    · have HF : Hid (y = true) := b_true HY.out (fun h => hst h.2.2)
                      rw [hs4] at H2
                      clear hst
                      go_wp2_with fail
                      refine (H1.out _).mono ?_
                      rintro e w1 ⟨rfl, rfl⟩
                      go_wp2_with fail
                      refine (H2.out _).mono ?_
                      rintro e w2 ⟨rfl, rfl⟩
                      go_wp2_with fail
                      go_meet
                      exact ⟨by rw [HF.out], rfl⟩
                  · have h20' : (20 : Int) < (n : Int) := by omega
                    have HF : Hid (y = true) := b_true HY.out (fun h => h20 h.2.1)
                    go_wp2_with fail
                    refine (H1.out _).mono ?_
                    rintro e w1 ⟨rfl, rfl⟩
                    go_wp2_with fail
                    go_meet
                    exact ⟨by rw [HF.out], rfl⟩
              case rest =>
                obtain ⟨rfl, hwc⟩ := hcut
                subst wc
                clear H1 H2 d0 d2
                cases y
                rotate_left
                · have HF : Hid (r = false) := b_false HP3.out (fun h => HY.out.1 rfl (by have := h _ (List.mem_of_getElem? HT.out); unfold RuleP at this; simp only at this; rw [HN.out] at this; exact ⟨this.1, this.2.1, this.2.2.1⟩))
                  have HBF : Hid (Below w.heap.size w wq) := below_step HB2.out HQ.out.2
                  go_wp2_with fail
                  go_ret
                  exact ⟨by rw [HF.out]; rfl, HBF.out⟩
                · have HG : Hid (NameP nl ∧ n ≤ 20 ∧ NoneP np) := by
                    rcases Classical.em (NameP nl ∧ n ≤ 20 ∧ NoneP np) with h | h
                    · exact h
                    · have := HY.out.2 h; cases this
                  clear HY
                  go_wp2_with fail
                  go_loop [10] (fun v => ∃ i : Nat, i ≤ n ∧ v = .int .i64 i ∧ Hid (∀ j x, j < i → nr[j]? = some x → NameP x)) (fun v => n - (intOf v).toNat)
                  case atStart => exact ⟨0, Nat.zero_le _, rfl, (fun j x h => absurd h (Nat.not_lt_zero _) : ∀ j x, j < 0 → nr[j]? = some x → NameP x)⟩
                  case round =>
                    obtain ⟨i, hi, rfl, J⟩ := hrel
                    by_cases hlt2 : i < n
                    · obtain ⟨x, hx⟩ : ∃ x, nr[i]? = some x := ⟨nr[i]'(by rw [HN.out]; exact hlt2), List.getElem?_eq_getElem _⟩
                      obtain ⟨b2, o2, hxa, q0⟩ := str_at HQ.out.1 hx
                      subst hxa
                      have HX : Hid (nr[i]? = some x) := hx
                      have H3 : Hid (∀ W : World, Calls Tryz.prog 36 #[.string x] W fun e w' => e = .returned (.bool (nameOk (by8 x))) ∧ w' = W) := fun W => rname_calls x W (by have := hsz.2.2.2 x (List.mem_of_getElem? hx); omega)
                      clear hx
                      cases hnx : nameOk (by8 x)
                      · rw [hnx] at H3
                        have HF : Hid (r = false) := b_false HP3.out (fun h => by have := (h _ (List.mem_of_getElem? HT.out)).2.2.2 x (List.mem_of_getElem? HX.out); unfold NameP at this; rw [hnx] at this; cases this)
                        have HBF : Hid (Below w.heap.size w wq) := below_step HB2.out HQ.out.2
                        clear hnx
                        go_wp2_with (go_at_call 36; refine (H3.out _).mono ?_; rintro e w2 ⟨rfl, rfl⟩)
                        go_ret
                        exact ⟨by rw [HF.out]; rfl, HBF.out⟩
                      · rw [hnx] at H3
                        have HF : Hid (∀ j x, j < i + 1 → nr[j]? = some x → NameP x) := fun j v hj hv => by
                          rcases Nat.lt_or_ge j i with h | h
                          · exact J.out j v h hv
                          · have : j = i := by omega
                            subst this
                            rw [HX.out] at hv
                            cases hv
                            exact hnx
                        clear hnx
                        go_wp2_with (go_at_call 36; refine (H3.out _).mono ?_; rintro e w2 ⟨rfl, rfl⟩)
                        go_round
                        case rel => exact ⟨i + 1, by omega, by simp, HF⟩
                        case measure => simp [intOf]; omega
                    · have HF : Hid (∀ i x, i < k + 1 → rs[i]? = some x → RuleP x) := fun j v hj hv => by
                        rcases Nat.lt_or_ge j k with h | h
                        · exact HJ.out j v h hv
                        · have : j = k := by omega
                          subst this
                          rw [HT.out] at hv
                          cases hv
                          exact ⟨HG.out.1, by simp only; rw [HN.out]; exact HG.out.2.1, HG.out.2.2, fun x hx => by
                            obtain ⟨i', hi'⟩ := List.getElem?_of_mem hx
                            have hl : i' < nr.length := (List.getElem?_eq_some_iff.1 hi').1
                            exact J.out i' x (by rw [HN.out] at hl; omega) hi'⟩
                      go_wp2_with fail
                      go_roundg (rn - (k + 1))
                      case measure => omega
                      case rel => exact ⟨k + 1, by simp, by omega, Nat.le_refl _, (⟨HQ.out.2, HF.out⟩ : Below wa.heap.size wa _ ∧ ∀ i x, i < k + 1 → rs[i]? = some x → RuleP x)⟩
            · have HF : Hid (r = true) := b_true HP3.out (fun x hx => by
                obtain ⟨i, hi⟩ := List.getElem?_of_mem hx
                have hl : i < rs.length := (List.getElem?_eq_some_iff.1 hi).1
                exact J.out.2 i x (by rw [HRN.out] at hl; omega) hi)
              have HBF : Hid (Below w.heap.size w wr) := below_step HB2.out J.out.1
              go_wp2_with fail
              go_ret
              exact ⟨by rw [HF.out]; rfl, HBF.out⟩

end Go.Proofs.YtkaojokhdleeiaaGreatDoor
