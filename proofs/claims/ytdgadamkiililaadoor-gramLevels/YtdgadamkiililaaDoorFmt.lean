/-
  The walks of formatBase10 at three and four digits, of FormatInt and Itoa.
-/
import Derived.Test.YtdgadamkiililaaDoorItoa
import Derived.RegionTactic
namespace Go.Proofs.YtdgadamkiililaaDoor
open Go.RowKit

/-- The bytes of an array from its second place on. -/
def Digs (w : World) (ab : Nat) (l : List Int) : Prop := ∀ j (hj : j < l.length), w.cell? ⟨ab, 1 + j, none⟩ = some (.int .u8 l[j])

theorem sm_even (k : Nat) (hk : k < 100) : ((Lib.sm (k * 2)).toNat : Int) = 48 + k / 10 ∧ ((Lib.sm (k * 2 + 1)).toNat : Int) = 48 + k % 10 := by
  have all : ((List.range 100).all fun k => (((Lib.sm (k * 2)).toNat : Int) == 48 + (k : Int) / 10) && (((Lib.sm (k * 2 + 1)).toNat : Int) == 48 + (k : Int) % 10)) = true := by kernel_rfl
  have := List.all_eq_true.1 all k (List.mem_range.2 hk)
  simpa using this

set_option maxHeartbeats 4000000 in
set_option maxRecDepth 100000 in
theorem fmt4_calls (x : Int) (ab : Nat) (w : World) (h1 : 1000 ≤ x) (h2 : x ≤ 9999) (hc : ∀ j, j < 24 → ∃ g : Int, w.cell? ⟨ab, j, none⟩ = some (.int .u8 g)) (hf : ∀ j, w.frozen? ⟨ab, j, none⟩ = false) :
    Calls Tryd.prog 66 #[.slice (some ⟨ab, 1, none⟩) 4 23, .int .u64 x] w fun e w' => e = .returned (.tuple #[]) ∧ Digs w' ab [48 + x / 1000, 48 + x / 100 % 10, 48 + x / 10 % 10, 48 + x % 10] ∧ Below ab w w' := by
  obtain ⟨g1, c1⟩ := hc 1 (by omega)
  obtain ⟨g2, c2⟩ := hc 2 (by omega)
  obtain ⟨g3, c3⟩ := hc 3 (by omega)
  obtain ⟨g4, c4⟩ := hc 4 (by omega)
  clear hc
  have mx := mixed
  go_enter Tryd.func66, Tryd.ntmps66
  go_name_bytes SM hSM
  have eSM : SM = Lib.smalls := by rw [← hSM]; decide +kernel
  subst eSM
  clear hSM
  go_wp2
  go_loop [1, 4] (fun u v => u = .int .u64 x ∧ v = .int .i64 4) (fun _ _ => 0)
  case atStart => exact ⟨rfl, rfl⟩
  case round =>
    obtain ⟨rfl, rfl⟩ := hrel
    go_upto_region 17 with fail
    go_name_slot 15 x0 hx0
    go_name_slot 14 x1 hx1
    have hxa : ∃ k : Nat, k < 100 ∧ x0 = ((k * 2 : Nat) : Int) ∧ (k : Int) = x % 100 := ⟨(x % 100).toNat, by omega, by omega, by omega⟩
    have hxb : ∃ k : Nat, k < 100 ∧ x1 = ((k * 2 : Nat) : Int) ∧ (k : Int) = x / 100 := ⟨(x / 100).toNat, by omega, by omega, by omega⟩
    obtain ⟨k0, hk0, he0, hv0⟩ := hxa
    obtain ⟨k1, hk1, he1, hv1⟩ := hxb
    have hX0a : ∀ w, (Instr.index 9 (.string Lib.smalls) (.int .u32 (x0 + 1))).run Tryd.prog w = .ok (.int .u8 ((Lib.sm (k0 * 2 + 1)).toNat : Int)) w := Lib.idx_smalls 9 Tryd.underlying9 .u32 _ _ (by omega) (by omega)
    have hX0b : ∀ w, (Instr.index 9 (.string Lib.smalls) (.int .u32 x0)).run Tryd.prog w = .ok (.int .u8 ((Lib.sm (k0 * 2)).toNat : Int)) w := Lib.idx_smalls 9 Tryd.underlying9 .u32 _ _ (by omega) (by omega)
    have hX1a : ∀ w, (Instr.index 9 (.string Lib.smalls) (.int .u32 (x1 + 1))).run Tryd.prog w = .ok (.int .u8 ((Lib.sm (k1 * 2 + 1)).toNat : Int)) w := Lib.idx_smalls 9 Tryd.underlying9 .u32 _ _ (by omega) (by omega)
    have hX1b : ∀ w, (Instr.index 9 (.string Lib.smalls) (.int .u32 x1)).run Tryd.prog w = .ok (.int .u8 ((Lib.sm (k1 * 2)).toNat : Int)) w := Lib.idx_smalls 9 Tryd.underlying9 .u32 _ _ (by omega) (by omega)
    have hb0 : 0 ≤ x0 ∧ x0 ≤ 198 := by omega
    have hb1 : 0 ≤ x1 ∧ x1 ≤ 198 := by omega
    obtain ⟨e1, e2⟩ := sm_even k0 hk0
    obtain ⟨e3, e4⟩ := sm_even k1 hk1
    have HE : Hid (((Lib.sm (k1 * 2)).toNat : Int) = 48 + x / 1000 ∧ ((Lib.sm (k1 * 2 + 1)).toNat : Int) = 48 + x / 100 % 10 ∧ ((Lib.sm (k0 * 2)).toNat : Int) = 48 + x / 10 % 10 ∧ ((Lib.sm (k0 * 2 + 1)).toNat : Int) = 48 + x % 10) := by
      refine ⟨?_, ?_, ?_, ?_⟩
      · rw [e3]; omega
      · rw [e4]; omega
      · rw [e1]; omega
      · rw [e2]; omega
    generalize ((Lib.sm (k0 * 2)).toNat : Int) = y0 at hX0b HE
    generalize ((Lib.sm (k0 * 2 + 1)).toNat : Int) = y1 at hX0a HE
    generalize ((Lib.sm (k1 * 2)).toNat : Int) = y2 at hX1b HE
    generalize ((Lib.sm (k1 * 2 + 1)).toNat : Int) = y3 at hX1a HE
    clear e1 e2 e3 e4 hx0 hx1 he0 he1 hv0 hv1 hk0 hk1
    go_region
    go_wp2
    go_region
    go_wp2
    go_end0
    refine ⟨rfl, ?_, (((((Below.refl ab w).setCell (p := ⟨ab, 4, none⟩) (Nat.le_refl _) _).setCell (p := ⟨ab, 3, none⟩) (Nat.le_refl _) _).setCell (p := ⟨ab, 2, none⟩) (Nat.le_refl _) _).setCell (p := ⟨ab, 1, none⟩) (Nat.le_refl _) _).drew.drew⟩
    rw [← HE.out.1, ← HE.out.2.1, ← HE.out.2.2.1, ← HE.out.2.2.2]
    intro j hj
    match j, hj with
    | 0, _ => simp [go_sem, c1]
    | 1, _ => simp [go_sem, c2]
    | 2, _ => simp [go_sem, c3]
    | 3, _ => simp [go_sem, c4]

set_option maxHeartbeats 4000000 in
set_option maxRecDepth 100000 in
theorem fmt3_calls (x : Int) (ab : Nat) (w : World) (h1 : 100 ≤ x) (h2 : x ≤ 999) (hc : ∀ j, j < 24 → ∃ g : Int, w.cell? ⟨ab, j, none⟩ = some (.int .u8 g)) (hf : ∀ j, w.frozen? ⟨ab, j, none⟩ = false) :
    Calls Tryd.prog 66 #[.slice (some ⟨ab, 1, none⟩) 3 23, .int .u64 x] w fun e w' => e = .returned (.tuple #[]) ∧ Digs w' ab [48 + x / 100, 48 + x / 10 % 10, 48 + x % 10] ∧ Below ab w w' := by
  obtain ⟨g1, c1⟩ := hc 1 (by omega)
  obtain ⟨g2, c2⟩ := hc 2 (by omega)
  obtain ⟨g3, c3⟩ := hc 3 (by omega)
  clear hc
  have mx := mixed
  go_enter Tryd.func66, Tryd.ntmps66
  go_name_bytes SM hSM
  have eSM : SM = Lib.smalls := by rw [← hSM]; decide +kernel
  subst eSM
  clear hSM
  go_wp2
  go_loop [1, 4] (fun u v => u = .int .u64 x ∧ v = .int .i64 3) (fun _ _ => 0)
  case atStart => exact ⟨rfl, rfl⟩
  case round =>
    obtain ⟨rfl, rfl⟩ := hrel
    go_upto_region 23 with fail
    go_name_slot 16 x0 hx0
    have hxa : ∃ k : Nat, k < 100 ∧ x0 = ((k * 2 : Nat) : Int) ∧ (k : Int) = x % 100 := ⟨(x % 100).toNat, by omega, by omega, by omega⟩
    obtain ⟨k0, hk0, he0, hv0⟩ := hxa
    have hX0a : ∀ w, (Instr.index 9 (.string Lib.smalls) (.int .u32 (x0 + 1))).run Tryd.prog w = .ok (.int .u8 ((Lib.sm (k0 * 2 + 1)).toNat : Int)) w := Lib.idx_smalls 9 Tryd.underlying9 .u32 _ _ (by omega) (by omega)
    have hX0b : ∀ w, (Instr.index 9 (.string Lib.smalls) (.int .u32 x0)).run Tryd.prog w = .ok (.int .u8 ((Lib.sm (k0 * 2)).toNat : Int)) w := Lib.idx_smalls 9 Tryd.underlying9 .u32 _ _ (by omega) (by omega)
    have hb0 : 0 ≤ x0 ∧ x0 ≤ 198 := by omega
    obtain ⟨e1, e2⟩ := sm_even k0 hk0
    have HE : Hid (((Lib.sm (k0 * 2)).toNat : Int) = 48 + x / 10 % 10 ∧ ((Lib.sm (k0 * 2 + 1)).toNat : Int) = 48 + x % 10) := by
      refine ⟨?_, ?_⟩
      · rw [e1]; omega
      · rw [e2]; omega
    generalize ((Lib.sm (k0 * 2)).toNat : Int) = y0 at hX0b HE
    generalize ((Lib.sm (k0 * 2 + 1)).toNat : Int) = y1 at hX0a HE
    clear e1 e2 hx0 he0 hv0 hk0
    go_region
    go_wp2
    go_end0
    refine ⟨rfl, ?_, ?_⟩
    · rw [← HE.out.1, ← HE.out.2]
      intro j hj
      match j, hj with
      | 0, _ => simp [go_sem, c1]
      | 1, _ => simp [go_sem, c2]
      | 2, _ => simp [go_sem, c3]
    · exact ((((Below.refl ab w).setCell (p := ⟨ab, 3, none⟩) (Nat.le_refl _) _).setCell (p := ⟨ab, 2, none⟩) (Nat.le_refl _) _).setCell (p := ⟨ab, 1, none⟩) (Nat.le_refl _) _).drew

theorem dg_all : ((List.range 10000).all fun n => decide (n < 100) || (dg 6 n [] == (if n < 1000 then [UInt8.ofNat (48 + n / 100), UInt8.ofNat (48 + n / 10 % 10), UInt8.ofNat (48 + n % 10)] else [UInt8.ofNat (48 + n / 1000), UInt8.ofNat (48 + n / 100 % 10), UInt8.ofNat (48 + n / 10 % 10), UInt8.ofNat (48 + n % 10)]))) = true := by kernel_rfl

set_option maxHeartbeats 4000000 in
set_option maxRecDepth 100000 in
theorem formatInt_calls (n : Nat) (w : World) (hn : n ≤ 9999) (hp : Pow w) : Calls Tryd.prog 56 #[.int .i64 n, .int .i64 10] w fun e w' => ∃ t, e = .returned (.string t) ∧ by8 t = dg 6 n [] ∧ Below w.heap.size w w' := by
  by_cases hs : n < 100
  · have HC : Hid (∀ W : World, Calls Tryd.prog 64 #[.int .i64 n] W fun e w' => ∃ t, e = .returned (.string t) ∧ by8 t = dg 6 n [] ∧ w' = W) := fun W => small_calls n W hs
    have hs' : (n : Int) < 100 := by omega
    go_enter Tryd.func56, Tryd.ntmps56
    go_wp2_with fail
    refine (HC.out _).mono ?_
    rintro e w1 ⟨t, rfl, ht, rfl⟩
    have HT : Hid (by8 t = dg 6 n []) := ht
    clear ht HC
    go_wp2_with fail
    go_ret
    exact ⟨t, rfl, HT.out, Below.refl _ _⟩
  · have HD := List.all_eq_true.1 dg_all n (List.mem_range.2 (by omega))
    rw [decide_eq_false hs, Bool.false_or, beq_iff_eq] at HD
    have H1 : Hid (∀ W : World, Pow W → Calls Tryd.prog 65 #[.int .u64 n] W fun e w' => e = .returned (.int .i64 (if n < 1000 then 3 else 4 : Nat)) ∧ w' = W) := fun W hW => numDigits_calls n W (by omega) hn hW
    have HP : Hid (Pow w) := hp
    have HDH : Hid (dg 6 n [] = (if n < 1000 then [UInt8.ofNat (48 + n / 100), UInt8.ofNat (48 + n / 10 % 10), UInt8.ofNat (48 + n % 10)] else [UInt8.ofNat (48 + n / 1000), UInt8.ofNat (48 + n / 100 % 10), UInt8.ofNat (48 + n / 10 % 10), UInt8.ofNat (48 + n % 10)])) := HD
    clear HD hp
    have hlo : ¬ (n : Int) < 100 := by omega
    obtain ⟨Z, hZ⟩ : ∃ Z : Array Value, Z = #[.int .u8 0, .int .u8 0, .int .u8 0, .int .u8 0, .int .u8 0, .int .u8 0, .int .u8 0, .int .u8 0, .int .u8 0, .int .u8 0, .int .u8 0, .int .u8 0, .int .u8 0, .int .u8 0, .int .u8 0, .int .u8 0, .int .u8 0, .int .u8 0, .int .u8 0, .int .u8 0, .int .u8 0, .int .u8 0, .int .u8 0, .int .u8 0] := ⟨_, rfl⟩
    have HZ : Hid (∀ j, j < 24 → ∃ g : Int, (w.alloc (.cells Z 91)).cell? ⟨w.heap.size, j, none⟩ = some (.int .u8 g)) := fun j hj => by
      refine ⟨0, ?_⟩
      rw [World.cell?_alloc_mark]
      have e : Z = (List.replicate 24 (Value.int .u8 0)).toArray := by rw [hZ]; rfl
      rw [e, List.getElem?_toArray, List.getElem?_replicate, if_pos hj]
    have HF : Hid (∀ j, (w.alloc (.cells Z 91)).frozen? ⟨w.heap.size, j, none⟩ = false) := fun j => frozen_block (heap_alloc_new _ _) j
    have HB : Hid (Below w.heap.size w (w.alloc (.cells Z 91)) ∧ Pow (w.alloc (.cells Z 91))) := ⟨below_alloc _ _, HP.out.below (below_alloc _ _)⟩
    go_enter Tryd.func56, Tryd.ntmps56
    go_wp2_with fail
    rw [← hZ]
    generalize w.alloc (.cells Z 91) = w1 at HZ HF HB ⊢
    obtain ⟨ab, HAB⟩ : ∃ ab, Hid (ab = w.heap.size) := ⟨_, rfl⟩
    rw [← HAB.out] at HZ HF ⊢
    refine (H1.out _ HB.out.2).mono ?_
    rintro e w2 ⟨rfl, rfl⟩
    clear H1 HP hZ
    by_cases hk : n < 1000
    · rw [if_pos hk]
      have HD2 : Hid (dg 6 n [] = [UInt8.ofNat (48 + n / 100), UInt8.ofNat (48 + n / 10 % 10), UInt8.ofNat (48 + n % 10)]) := by have := HDH.out; rwa [if_pos hk] at this
      have H3 : Hid (Calls Tryd.prog 66 #[.slice (some ⟨ab, 1, none⟩) 3 23, .int .u64 n] w2 fun e w' => e = .returned (.tuple #[]) ∧ Digs w' ab [48 + (n : Int) / 100, 48 + (n : Int) / 10 % 10, 48 + (n : Int) % 10] ∧ Below ab w2 w') := fmt3_calls n ab w2 (by omega) (by omega) HZ.out HF.out
      clear HDH HZ HF
      go_wp2_with fail
      refine H3.out.mono ?_
      rintro e w3 ⟨rfl, hD, hB⟩
      have hcv : (convert 33 9 (.slice (some ⟨ab, 1, none⟩) 3 23)).run Tryd.prog w3 = .ok (.string (strOfNums [48 + (n : Int) / 100, 48 + (n : Int) / 10 % 10, 48 + (n : Int) % 10])) w3 := run_convert_bytes_arg w3 33 5 Tryd.underlying33 Tryd.underlying5 ab 1 3 23 _ rfl (fun i hi => by
        have := hD i hi
        rw [this, List.getD_eq_getElem?_getD, List.getElem?_eq_getElem (by exact hi)]
        rfl) 9 Tryd.underlying9
      have HT : Hid (by8 (strOfNums [48 + (n : Int) / 100, 48 + (n : Int) / 10 % 10, 48 + (n : Int) % 10]) = dg 6 n []) := by
        show _ = _
        rw [HD2.out]
        have h : by8 (strOfNums [48 + (n : Int) / 100, 48 + (n : Int) / 10 % 10, 48 + (n : Int) % 10]) = [UInt8.ofNat (48 + (n : Int) / 100).toNat, UInt8.ofNat (48 + (n : Int) / 10 % 10).toNat, UInt8.ofNat (48 + (n : Int) % 10).toNat] := rfl
        rw [h]
        simp only [List.cons.injEq, and_true]
        refine ⟨?_, ?_, ?_⟩
        all_goals congr 1
      have HE : Hid (Below w.heap.size w w3) := (HB.out.1).trans (by rw [← HAB.out]; exact hB)
      generalize strOfNums [48 + (n : Int) / 100, 48 + (n : Int) / 10 % 10, 48 + (n : Int) % 10] = t at hcv HT
      clear hD hB H3 HD2
      go_wp2_with fail
      go_ret
      exact ⟨t, rfl, HT.out, HE.out⟩
    · rw [if_neg hk]
      have HD2 : Hid (dg 6 n [] = [UInt8.ofNat (48 + n / 1000), UInt8.ofNat (48 + n / 100 % 10), UInt8.ofNat (48 + n / 10 % 10), UInt8.ofNat (48 + n % 10)]) := by have := HDH.out; rwa [if_neg hk] at this
      have H3 : Hid (Calls Tryd.prog 66 #[.slice (some ⟨ab, 1, none⟩) 4 23, .int .u64 n] w2 fun e w' => e = .returned (.tuple #[]) ∧ Digs w' ab [48 + (n : Int) / 1000, 48 + (n : Int) / 100 % 10, 48 + (n : Int) / 10 % 10, 48 + (n : Int) % 10] ∧ Below ab w2 w') := fmt4_calls n ab w2 (by omega) (by omega) HZ.out HF.out
      clear HDH HZ HF
      go_wp2_with fail
      refine H3.out.mono ?_
      rintro e w3 ⟨rfl, hD, hB⟩
      have hcv : (convert 33 9 (.slice (some ⟨ab, 1, none⟩) 4 23)).run Tryd.prog w3 = .ok (.string (strOfNums [48 + (n : Int) / 1000, 48 + (n : Int) / 100 % 10, 48 + (n : Int) / 10 % 10, 48 + (n : Int) % 10])) w3 := run_convert_bytes_arg w3 33 5 Tryd.underlying33 Tryd.underlying5 ab 1 4 23 _ rfl (fun i hi => by
        have := hD i hi
        rw [this, List.getD_eq_getElem?_getD, List.getElem?_eq_getElem (by exact hi)]
        rfl) 9 Tryd.underlying9
      have HT : Hid (by8 (strOfNums [48 + (n : Int) / 1000, 48 + (n : Int) / 100 % 10, 48 + (n : Int) / 10 % 10, 48 + (n : Int) % 10]) = dg 6 n []) := by
        show _ = _
        rw [HD2.out]
        have h : by8 (strOfNums [48 + (n : Int) / 1000, 48 + (n : Int) / 100 % 10, 48 + (n : Int) / 10 % 10, 48 + (n : Int) % 10]) = [UInt8.ofNat (48 + (n : Int) / 1000).toNat, UInt8.ofNat (48 + (n : Int) / 100 % 10).toNat, UInt8.ofNat (48 + (n : Int) / 10 % 10).toNat, UInt8.ofNat (48 + (n : Int) % 10).toNat] := rfl
        rw [h]
        simp only [List.cons.injEq, and_true]
        refine ⟨?_, ?_, ?_, ?_⟩
        all_goals congr 1
      have HE : Hid (Below w.heap.size w w3) := (HB.out.1).trans (by rw [← HAB.out]; exact hB)
      generalize strOfNums [48 + (n : Int) / 1000, 48 + (n : Int) / 100 % 10, 48 + (n : Int) / 10 % 10, 48 + (n : Int) % 10] = t at hcv HT
      clear hD hB H3 HD2
      go_wp2_with fail
      go_ret
      exact ⟨t, rfl, HT.out, HE.out⟩

theorem itoa_calls (n : Nat) (w : World) (hn : n ≤ 9999) (hp : Pow w) : Calls Tryd.prog 26 #[.int .i64 n] w fun e w' => ∃ t, e = .returned (.string t) ∧ by8 t = dg 6 n [] ∧ Below w.heap.size w w' := by
  have H1 : Hid (Calls Tryd.prog 56 #[.int .i64 n, .int .i64 10] w fun e w' => ∃ t, e = .returned (.string t) ∧ by8 t = dg 6 n [] ∧ Below w.heap.size w w') := formatInt_calls n w hn hp
  have H2 : Hid (Calls Tryd.prog 44 #[.int .i64 n] w fun e w' => ∃ t, e = .returned (.string t) ∧ by8 t = dg 6 n [] ∧ Below w.heap.size w w') := by
    show Calls _ _ _ _ _
    go_enter Tryd.func44, Tryd.ntmps44
    go_wp2_with fail
    refine H1.out.mono ?_
    rintro e w1 ⟨t, rfl, ht, hb⟩
    have HE : Hid (by8 t = dg 6 n [] ∧ Below w.heap.size w w1) := ⟨ht, hb⟩
    clear ht hb
    go_wp2_with fail
    go_ret
    exact ⟨t, rfl, HE.out⟩
  go_enter Tryd.func26, Tryd.ntmps26
  go_wp2_with fail
  refine H2.out.mono ?_
  rintro e w1 ⟨t, rfl, ht, hb⟩
  have HE : Hid (by8 t = dg 6 n [] ∧ Below w.heap.size w w1) := ⟨ht, hb⟩
  clear ht hb
  go_wp2_with fail
  go_ret
  exact ⟨t, rfl, HE.out⟩

end Go.Proofs.YtdgadamkiililaaDoor
