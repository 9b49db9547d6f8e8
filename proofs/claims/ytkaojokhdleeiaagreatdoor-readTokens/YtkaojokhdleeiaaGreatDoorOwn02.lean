/-
  Texts that the proof of the Read statements stands on, part Own02.
-/
import Derived.Test.YtkaojokhdleeiaaGreatDoorOwn01
import Derived.Lib.BufferWrite
import Derived.Lib.UnsafeStr
import Derived.Laws.MakeOwn
import Derived.Lib.AppendZeros
import Derived.Maps.AppendAt
import Derived.Laws.Concat
/-
  The walk of a text's clone: the same bytes; of what was there nothing has turned.
-/
namespace Go.Proofs.YtkaojokhdleeiaaGreatDoor
open Go.RowKit

set_option maxRecDepth 20000

set_option maxHeartbeats 4000000 in
set_option maxRecDepth 20000 in
theorem clone26_calls (s : ByteArray) (w : World) (hlim : s.size ≤ 1048576) :
    Calls Tryz.prog 63 #[.string s] w fun e w' => e = .returned (.string s) ∧ Below w.heap.size w w' := by
  by_cases h0 : s.size = 0
  · have hs : s = ⟨#[]⟩ := by
      apply ByteArray.ext
      exact Array.eq_empty_of_size_eq_zero h0
    subst hs
    go_enter Tryz.func63, Tryz.ntmps63
    go_wp2
    go_ret
    exact ⟨rfl, Below.refl _ _⟩
  · obtain ⟨i0, hi, hz0, hz1, hz2⟩ := info_parts Tryz.info5
    have hinfo : (Tryz.prog.info? 5).map (·.size) = some 1 := by rw [hi]; simp [hz1]
    have hco : Tryz.prog.cellsOf 5 = 1 := by simp [Program.cellsOf, hi, hz1]
    obtain ⟨M, hM⟩ : ∃ M, M = madeCells (Value.int .u8 0).cells (((s.size : Nat) : Int).toNat * i0.size) := ⟨_, rfl⟩
    have hMs : M.size = s.size := by rw [hM, size_madeCells, hz1]; simp
    have hmk : ∀ W : World, (Instr.makeSlice 41 (.int .i64 (s.size : Int)) (.int .i64 (s.size : Int))).run Tryz.prog W = .ok (.slice (some ⟨W.heap.size, 0, none⟩) s.size s.size) (W.alloc (.cells M 5)) := fun W => by
      have h := run_make (P := Tryz.prog) W 41 5 i0 (.int .u8 0) Tryz.underlying41 hi hz0 .i64 .i64 (s.size : Int) (s.size : Int) (by omega) (by omega) (by rw [hz2]; omega) (by omega)
      rw [← hM] at h
      simpa using h
    clear hM
    have hcp := Lib.run_copy_row_string (P := Tryz.prog) (w.alloc (.cells M 5)) 41 9 3 5 w.heap.size 0 s.size s.size s M 5 Tryz.underlying41 hinfo (heap_alloc_new w _) (Nat.le_refl _) (by omega)
    obtain ⟨Y, hY⟩ : ∃ Y, Y = (M.toList.take 0 ++ Lib.byteCells s.data.toList ++ M.toList.drop (0 + s.size)).toArray := ⟨_, rfl⟩
    rw [← hY] at hcp
    have hYl : Y.toList = Lib.byteCells s.data.toList := by
      rw [hY, List.toList_toArray, List.take_zero, List.nil_append, List.drop_of_length_le (by rw [Array.length_toList]; omega), List.append_nil]
    have hYs : Y.size = s.size := by rw [← Array.length_toList, hYl, Lib.byteCells_length, ← Lib.size_eq]
    have hgY : ((w.alloc (.cells M 5)).setRow w.heap.size Y).heap[w.heap.size]? = some (.cells Y 5 (0, 0)) := setRow_heap _ _ M _ 5 (0, 0) (heap_alloc_new w _)
    have hne : s.data.toList ≠ [] := fun e => h0 (by rw [Lib.size_eq, e]; rfl)
    have hUS := Lib.run_unsafeString_row (P := Tryz.prog) ((w.alloc (.cells M 5)).setRow w.heap.size Y) 103 3 9 5 Tryz.underlying103 hco w.heap.size Y.size (by unfold World.shape?; rw [hgY]) s.data.toList hne (by rw [← Lib.size_eq]; omega) (by rw [← Lib.size_eq]; omega)
      (fun j x hx => Lib.cells_of_row hgY Y.size j _ (by rw [List.take_of_length_le (by rw [Array.length_toList]; exact Nat.le_refl _), hYl]; simp [Lib.byteCells, hx]))
    rw [← Lib.size_eq] at hUS
    clear hY
    go_enter Tryz.func63, Tryz.ntmps63
    go_wp2
    go_ret
    have hb1 : Below w.heap.size w (w.alloc (.cells M 5)) := (Below.refl _ w).alloc (Nat.le_refl _) _
    have hb2 : Below w.heap.size (w.alloc (.cells M 5)) ((w.alloc (.cells M 5)).setRow w.heap.size Y) := ⟨rfl, rfl, rfl, by simp, fun k hk => setRow_other _ _ _ _ (by omega)⟩
    exact ⟨rfl, Lib.below_freeze (hb1.trans hb2) (p := ⟨w.heap.size, 0, none⟩) (Nat.le_refl _) _⟩

theorem clone_calls (s : ByteArray) (w : World) (hlim : s.size ≤ 1048576) :
    Calls Tryz.prog 41 #[.string s] w fun e w' => e = .returned (.string s) ∧ Below w.heap.size w w' := by
  have HC : Hid (Calls Tryz.prog 63 #[.string s] w fun e w' => e = .returned (.string s) ∧ Below w.heap.size w w') := clone26_calls s w hlim
  go_enter Tryz.func41, Tryz.ntmps41
  go_wp2_with (go_at_call 63; refine HC.out.mono ?_; rintro e w' ⟨rfl, hB⟩)
  go_ret
  exact ⟨rfl, hB⟩

end Go.Proofs.YtkaojokhdleeiaaGreatDoor

/-
  The walk of Scan: all words of a text in new memory, or none and the first fault.
-/
namespace Go.Proofs.YtkaojokhdleeiaaGreatDoor
open Go.RowKit

set_option maxRecDepth 20000

theorem Tryz.info35 : (Tryz.prog.info? 35).map (fun i => (i.zero, i.size, i.bytes)) = some (some (.agg #[.int .i64 0, .string ⟨#[]⟩, .int .i64 0]), 3, 32) := by kernel_rfl

/-- A word's cells. -/
def wcells (s : ByteArray) (x : Nat × Nat × Nat) : List Value := [.int .i64 x.1, .string (s.extract x.2.1 x.2.2), .int .i64 x.2.1]
def cellsW (s : ByteArray) (ws : List (Nat × Nat × Nat)) : List Value := ws.flatMap (wcells s)

theorem cellsW_append (s : ByteArray) (a : List (Nat × Nat × Nat)) (x : Nat × Nat × Nat) : cellsW s (a ++ [x]) = cellsW s a ++ wcells s x := by
  unfold cellsW; rw [List.flatMap_append]; simp

/-- Words in memory that is the call's own. -/
def IsW (w : World) (base : Nat) (s : ByteArray) (v : Value) (ws : List (Nat × Nat × Nat)) : Prop := w.ownsRow base 35 3 v ws.length (cellsW s ws)

theorem isW_nil (w : World) (base : Nat) (s : ByteArray) : IsW w base s (.slice none 0 0) [] := World.ownsRow_nil w base 35 3

theorem ownsRow_of_block {w w' : World} {base : Nat} {E : TypeId} {k : Nat} {v : Value} {n : Nat} {cs : List Value} (h : w.ownsRow base E k v n cs) (hb : ∀ i, v.ownBlock = some i → w'.heap[i]? = w.heap[i]?) : w'.ownsRow base E k v n cs := by
  refine ⟨h.1, ?_⟩
  rcases h.2 with hn | ⟨g, cap, cur, rfl, hg, hh, r⟩
  · exact .inl hn
  · exact .inr ⟨g, cap, cur, rfl, hg, by rw [hb g rfl]; exact hh, r⟩

theorem IsW.below {w w' : World} {base : Nat} {s : ByteArray} {v : Value} {ws : List (Nat × Nat × Nat)} (h : IsW w base s v ws) (hb : Below w.heap.size w w') : IsW w' base s v ws :=
  ownsRow_of_block h (fun i hi => hb.block i (World.ownsRow.lt h i hi).2)

/-- One word more. -/
theorem IsW.add {w : World} {base : Nat} {s : ByteArray} {v : Value} {ws : List (Nat × Nat × Nat)} (h : IsW w base s v ws) (hb : base ≤ w.heap.size) (hn : ws.length ≤ 1048577) (k i e : Nat) :
    ∃ ao n c w', (Builtin.append_ #[31, 31] 31 #[v, .slice (some ⟨w.heap.size, 0, none⟩) 1 1]).run Tryz.prog (w.alloc (.cells #[.int .i64 k, .string (s.extract i e), .int .i64 i] 35)) = .ok (.slice ao n c) w' ∧
      IsW w' base s (.slice ao n c) (ws ++ [(k, i, e)]) ∧ Below base w w' := by
  obtain ⟨i0, hi, hz0, hz1, hz2⟩ := info_parts Tryz.info35
  have hA : (w.alloc (.cells #[.int .i64 k, .string (s.extract i e), .int .i64 i] 35)).ownsRow base 35 3 v ws.length (cellsW s ws) := World.ownsRow.alloc h _
  have hnews : ∀ j u, (wcells s (k, i, e))[j]? = some u → (w.alloc (.cells #[.int .i64 k, .string (s.extract i e), .int .i64 i] 35)).cell? ((⟨w.heap.size, 0, none⟩ : Addr).add j) = some u := by
    intro j u hu
    rw [Addr.add_lit, Nat.zero_add]
    have := World.cell?_alloc_mark w #[.int .i64 k, .string (s.extract i e), .int .i64 i] 35 (0, 0) j
    rw [this, ← hu]
    unfold wcells
    simp
  obtain ⟨v', w', hr, h2, h3, -⟩ := run_append_own (P := Tryz.prog) (w.alloc (.cells #[.int .i64 k, .string (s.extract i e), .int .i64 i] 35)) base 31 31 35 i0 _ 3 32 Tryz.underlying31 hi hz0 hz1 hz2 rfl (by decide) v ws.length _ hA ⟨w.heap.size, 0, none⟩ 1 1 (wcells s (k, i, e)) rfl hnews
    (fun u hu => by unfold wcells at hu; simp at hu; rcases hu with rfl | rfl | rfl <;> rfl) (by unfold maxLen; omega) (by omega) (by simp; omega)
  have hB : Below base w w' := ((Below.refl base w).alloc hb _).grown h3 (by simp; omega) (fun g hg => (World.ownsRow.lt h g hg).1)
  have hW : IsW w' base s v' (ws ++ [(k, i, e)]) := by
    unfold IsW
    rw [cellsW_append, List.length_append]
    exact h2
  rcases h2.2 with ⟨rfl, h0⟩ | ⟨g, cap, cur, rfl, -⟩
  · omega
  · exact ⟨_, _, _, w', hr, hW, hB⟩

theorem extract_size (s : ByteArray) (a b : Nat) : (s.extract a b).size ≤ s.size := by
  rw [← by8_length, by8_extract, ← by8_length]
  unfold part
  rw [List.length_take, List.length_drop]
  omega

/-- What a scan leaves. -/
def Scanned (s : ByteArray) (w w' : World) (e : Ending) : Prop := ∃ v, e = .returned (.tuple #[v, .int .i64 (scan (by8 s)).2]) ∧ IsW w' w.heap.size s v (scan (by8 s)).1 ∧ Below w.heap.size w w'

theorem extract_end (s : ByteArray) : s.extract s.size s.size = ⟨#[]⟩ := by
  apply ByteArray.ext
  apply Array.eq_empty_of_size_eq_zero
  have := by8_extract s s.size s.size
  have h2 : (by8 (s.extract s.size s.size)).length = 0 := by rw [this]; unfold part; simp
  rw [by8_length] at h2
  exact h2

set_option maxHeartbeats 4000000 in
theorem scan_calls (s : ByteArray) (w : World) (hs : s.size ≤ 1048576) : Calls Tryz.prog 27 #[.string s] w fun e w' => Scanned s w w' e := by
  have HL : Hid ((by8 s).length = s.size) := by8_length s
  have HS0 : Hid (∀ W : World, Calls Tryz.prog 39 #[.string s, .int .i64 0] W fun e w' => e = .returned (.int .i64 (skip (by8 s) 0)) ∧ w' = W) := fun W => skip_calls s 0 W (Nat.zero_le _) hs
  have h00 : skip (by8 s) 0 ≤ s.size := by rw [← by8_length]; exact (skip_le (Nat.zero_le _)).2
  obtain ⟨R, HR⟩ : ∃ R, Hid (scan (by8 s) = R) := ⟨_, rfl⟩
  have HR0 : Hid (scanF (s.size + 1) (by8 s) (skip (by8 s) 0) [] = R) := by
    have := HR.out
    unfold scan at this
    rwa [HL.out] at this
  unfold Scanned
  rw [HR.out]
  generalize skip (by8 s) 0 = a0 at HS0 h00 HR0
  go_enter Tryz.func27, Tryz.ntmps27
  go_wp2_with (go_at_call 39; refine (HS0.out _).mono ?_; rintro e w' ⟨rfl, rfl⟩)
  go_loopg [4, 5] s.size (fun kx s4 s5 wr => ∃ (k : Nat) (ml : Nat × Option Addr × Nat), s4 = .slice ml.2.1 ml.1 ml.2.2 ∧ s5 = .int .i64 k ∧ k ≤ s.size ∧ s.size - k ≤ kx ∧ Hid (∃ f acc, s.size < k + f ∧ acc.length ≤ k ∧ scanF f (by8 s) k acc = R ∧ IsW wr w'.heap.size s (.slice ml.2.1 ml.1 ml.2.2) acc ∧ Below w'.heap.size w' wr))
  case atStart => exact ⟨a0, (0, none, 0), rfl, rfl, h00, by omega, (⟨s.size + 1, [], by omega, Nat.zero_le _, HR0.out, isW_nil _ _ _, Below.refl _ _⟩ : ∃ f acc, s.size < a0 + f ∧ acc.length ≤ a0 ∧ scanF f (by8 s) a0 acc = R ∧ IsW w' w'.heap.size s (.slice none 0 0) acc ∧ Below w'.heap.size w' w')⟩
  case round =>
    obtain ⟨k, ⟨nl, al, cl⟩, rfl, rfl, hk, hg, J⟩ := hrel
    simp only at J
    by_cases hlt : k < s.size
    · have hl : k < (by8 s).length := by rw [HL.out]; exact hlt
      have HW : Hid (∀ W : World, Calls Tryz.prog 40 #[.string s, .int .i64 k] W fun e w' => e = ansW (wordP (by8 s) k) ∧ w' = W) := fun W => word_calls s k W hlt hs
      have hwr := wordP_range hl
      rw [HL.out] at hwr
      by_cases hz : (wordP (by8 s) k).1 = 0
      · have HR2 : Hid (R = ([], (k : Int))) := by
          obtain ⟨f, acc, hf, -, he, -⟩ := J.out
          obtain ⟨f, rfl⟩ : ∃ g, f = g + 1 := ⟨f - 1, by omega⟩
          rw [scan_bad hl hz] at he
          exact he.symm
        have HB : Hid (Below w'.heap.size w' wr) := by obtain ⟨f, acc, -, -, -, -, hb⟩ := J.out; exact hb
        have HW2 : Hid (∀ W : World, Calls Tryz.prog 40 #[.string s, .int .i64 k] W fun e w' => e = .returned (.tuple #[.int .i64 0, .int .i64 (wordP (by8 s) k).2]) ∧ w' = W) := fun W => by
          have := HW.out W
          unfold ansW at this
          rwa [hz] at this
        generalize (wordP (by8 s) k).2 = e0 at HW2
        clear HW J hwr hz hl
        go_wp2_with (go_at_call 40; refine (HW2.out _).mono ?_; rintro e w' ⟨rfl, rfl⟩)
        go_ret2
        exact ⟨_, by rw [HR2.out]; rfl, by rw [HR2.out]; exact isW_nil _ _ _, HB.out⟩
      · have hZ : (((wordP (by8 s) k).1 : Int) == 0) = false := by simpa using hz
        have hadv := hwr.2.2.1 hz
        have hle := hwr.2.1
        have HSk : Hid (∀ W : World, Calls Tryz.prog 39 #[.string s, .int .i64 (wordP (by8 s) k).2] W fun e w' => e = .returned (.int .i64 (skip (by8 s) (wordP (by8 s) k).2)) ∧ w' = W) := fun W => skip_calls s _ W hle hs
        have hsk := skip_le (l := by8 s) (i := (wordP (by8 s) k).2) (by rw [HL.out]; exact hle)
        rw [HL.out] at hsk
        have J2 : Hid (∃ f acc, s.size < skip (by8 s) (wordP (by8 s) k).2 + f ∧ acc.length ≤ k ∧ scanF f (by8 s) (skip (by8 s) (wordP (by8 s) k).2) (acc ++ [((wordP (by8 s) k).1, k, (wordP (by8 s) k).2)]) = R ∧ IsW wr w'.heap.size s (.slice al nl cl) acc ∧ Below w'.heap.size w' wr) := by
          obtain ⟨f, acc, hf, ha, he, hI, hB⟩ := J.out
          obtain ⟨f, rfl⟩ : ∃ g, f = g + 1 := ⟨f - 1, by omega⟩
          rw [scan_next hl hz] at he
          exact ⟨f, acc, by omega, ha, he, hI, hB⟩
        have HW2 : Hid (∀ W : World, Calls Tryz.prog 40 #[.string s, .int .i64 k] W fun e w' => e = .returned (.tuple #[.int .i64 (wordP (by8 s) k).1, .int .i64 (wordP (by8 s) k).2]) ∧ w' = W) := HW.out
        have HC : Hid (∀ W : World, Calls Tryz.prog 41 #[.string (s.extract k (wordP (by8 s) k).2)] W fun e w' => e = .returned (.string (s.extract k (wordP (by8 s) k).2)) ∧ Below W.heap.size W w') := fun W => clone_calls _ W (by have := extract_size s k (wordP (by8 s) k).2; omega)
        generalize skip (by8 s) (wordP (by8 s) k).2 = a1 at HSk hsk J2
        generalize wordP (by8 s) k = pr at HW2 hZ hadv hle HSk hsk J2 HC
        obtain ⟨K, e0⟩ := pr
        simp only at HW2 hZ hadv hle HSk hsk J2 HC
        clear HW J hwr hz hl
        go_wp2_with fail
        refine (HW2.out _).mono ?_
        rintro e w9 ⟨rfl, rfl⟩
        go_wp2_with fail
        refine (HC.out _).mono ?_
        rintro e w1 ⟨rfl, hB1⟩
        have HA : Hid (∃ ao n c w2 f acc, (Builtin.append_ #[31, 31] 31 #[.slice al nl cl, .slice (some ⟨w1.heap.size, 0, none⟩) 1 1]).run Tryz.prog (w1.alloc (.cells #[.int .i64 K, .string (s.extract k e0), .int .i64 k] 35)) = .ok (.slice ao n c) w2 ∧
            s.size < a1 + f ∧ acc.length ≤ a1 ∧ scanF f (by8 s) a1 acc = R ∧ IsW w2 w'.heap.size s (.slice ao n c) acc ∧ Below w'.heap.size w' w2) := by
          obtain ⟨f, acc, hf, ha, he, hI, hB⟩ := J2.out
          have hb := hB.size
          obtain ⟨ao, n, c, w2, hr, h2, h3⟩ := (hI.below hB1).add (by have := hB1.size; omega) (by omega) K k e0
          exact ⟨ao, n, c, w2, f, acc ++ [(K, k, e0)], hr, hf, by rw [List.length_append]; simp; omega, he, h2, (hB.trans (hB1.mono hb)).trans h3⟩
        clear J2 HC HW2 hB1
        obtain ⟨a2, n2, c2, w2, f2, acc2, hr, J3'⟩ := HA.out
        have J3 : Hid (s.size < a1 + f2 ∧ acc2.length ≤ a1 ∧ scanF f2 (by8 s) a1 acc2 = R ∧ IsW w2 w'.heap.size s (.slice a2 n2 c2) acc2 ∧ Below w'.heap.size w' w2) := J3'
        clear HA J3'
        go_wp2_with (first | (at_builtin; refine Lib.wpList_append_run _ rfl _ _ _ _ rfl _ _ rfl rfl _ _ hr ?_) | (go_at_call 39; refine (HSk.out _).mono ?_; rintro e w9 ⟨rfl, rfl⟩))
        go_roundg (s.size - a1)
        case measure => omega
        case rel => exact ⟨a1, (n2, a2, c2), rfl, rfl, hsk.2, Nat.le_refl _, (⟨f2, acc2, J3.out⟩ : ∃ f acc, s.size < a1 + f ∧ acc.length ≤ a1 ∧ scanF f (by8 s) a1 acc = R ∧ IsW _ w'.heap.size s (.slice a2 n2 c2) acc ∧ Below w'.heap.size w' _)⟩
    · obtain rfl : k = s.size := by omega
      have HA : Hid (∃ ao n c w2, (Builtin.append_ #[31, 31] 31 #[.slice al nl cl, .slice (some ⟨wr.heap.size, 0, none⟩) 1 1]).run Tryz.prog (wr.alloc (.cells #[.int .i64 5, .string ⟨#[]⟩, .int .i64 s.size] 35)) = .ok (.slice ao n c) w2 ∧
          R.2 = -1 ∧ IsW w2 w'.heap.size s (.slice ao n c) R.1 ∧ Below w'.heap.size w' w2) := by
        obtain ⟨f, acc, hf, ha, he, hI, hB⟩ := J.out
        obtain ⟨f, rfl⟩ : ∃ g, f = g + 1 := ⟨f - 1, by omega⟩
        rw [scan_out (by rw [HL.out]; exact Nat.le_refl _), HL.out] at he
        have hb := hB.size
        obtain ⟨ao, n, c, w2, hr, h2, h3⟩ := hI.add hb (by omega) 5 s.size s.size
        rw [extract_end] at hr
        exact ⟨ao, n, c, w2, hr, by rw [← he], by rw [← he]; exact h2, hB.trans h3⟩
      clear J
      obtain ⟨a2, n2, c2, w2, hr, J3'⟩ := HA.out
      have J3 : Hid (R.2 = -1 ∧ IsW w2 w'.heap.size s (.slice a2 n2 c2) R.1 ∧ Below w'.heap.size w' w2) := J3'
      clear HA J3'
      go_wp2_with (at_builtin; refine Lib.wpList_append_run _ rfl _ _ _ _ rfl _ _ rfl rfl _ _ hr ?_)
      go_ret2
      exact ⟨_, by rw [J3.out.1]; rfl, J3.out.2.1, J3.out.2.2⟩

theorem own_slice {w : World} {base k n : Nat} {E : TypeId} {v : Value} {cs : List Value} (h : w.ownsRow base E k v n cs) :
    ∃ ao cap, v = .slice ao n cap ∧ n ≤ cap ∧ cap ≤ maxLen ∧ ((ao = none ∧ n = 0 ∧ cap = 0) ∨ ∃ g, ao = some ⟨g, 0, none⟩) := by
  rcases h.2 with ⟨rfl, rfl⟩ | ⟨g, cap, cur, rfl, hg, hh, hn, hm, hs, ht⟩
  · exact ⟨none, 0, rfl, Nat.le_refl _, Nat.zero_le _, .inl ⟨rfl, rfl, rfl⟩⟩
  · exact ⟨some ⟨g, 0, none⟩, cap, rfl, hn, hm, .inr ⟨g, rfl⟩⟩

theorem cellsW_at (s : ByteArray) : ∀ (ws : List (Nat × Nat × Nat)) (i : Nat) (x : Nat × Nat × Nat), ws[i]? = some x →
    (cellsW s ws)[i * 3]? = some (.int .i64 x.1) ∧ (cellsW s ws)[i * 3 + 1]? = some (.string (s.extract x.2.1 x.2.2)) ∧ (cellsW s ws)[i * 3 + 2]? = some (.int .i64 x.2.1)
  | [], i, x, h => by cases h
  | y :: r, 0, x, h => by
    cases h
    exact ⟨rfl, rfl, rfl⟩
  | y :: r, i + 1, x, h => by
    have := cellsW_at s r i x h
    have e : cellsW s (y :: r) = wcells s y ++ cellsW s r := rfl
    have hl : (wcells s y).length = 3 := rfl
    rw [e, List.getElem?_append_right (by omega), List.getElem?_append_right (by omega), List.getElem?_append_right (by omega), hl]
    rw [show (i + 1) * 3 - 3 = i * 3 by omega, show (i + 1) * 3 + 1 - 3 = i * 3 + 1 by omega, show (i + 1) * 3 + 2 - 3 = i * 3 + 2 by omega]
    exact this

/-- A word of a slice of words. -/
theorem IsW.at {w : World} {base : Nat} {s : ByteArray} {g n cap : Nat} {ws : List (Nat × Nat × Nat)} (h : IsW w base s (.slice (some ⟨g, 0, none⟩) n cap) ws) {i : Nat} {x : Nat × Nat × Nat} (hx : ws[i]? = some x) :
    w.cell? ⟨g, i * 3, none⟩ = some (.int .i64 x.1) ∧ w.cell? ⟨g, i * 3 + 1, none⟩ = some (.string (s.extract x.2.1 x.2.2)) ∧ w.cell? ⟨g, i * 3 + 2, none⟩ = some (.int .i64 x.2.1) := by
  obtain ⟨c0, c1, c2⟩ := cellsW_at s ws i x hx
  have hc := World.ownsRow.cells h (g := g) rfl
  refine ⟨?_, ?_, ?_⟩
  · have := hc _ _ c0; rwa [Addr.add_lit, Nat.zero_add] at this
  · have := hc _ _ c1; rwa [Addr.add_lit, Nat.zero_add] at this
  · have := hc _ _ c2; rwa [Addr.add_lit, Nat.zero_add] at this


end Go.Proofs.YtkaojokhdleeiaaGreatDoor

/-
  The walks of Cut, of both functions that tell a name, and of Digits.
-/
namespace Go.Proofs.YtkaojokhdleeiaaGreatDoor
open Go.RowKit

set_option maxRecDepth 20000

/-- The first n bytes. -/
def cutS (s : ByteArray) (n : Nat) : ByteArray := if n < s.size then s.extract 0 n else s

theorem cutS_size (s : ByteArray) (n : Nat) : (cutS s n).size ≤ n := by
  unfold cutS
  split
  · rw [← by8_length, by8_extract]; unfold part; simp; omega
  · omega

theorem cut_calls (s : ByteArray) (n : Nat) (w : World) : Calls Tryz.prog 11 #[.string s, .int .i64 n] w fun e w' => e = .returned (.string (cutS s n)) ∧ w' = w := by
  by_cases h : n < s.size
  · have H : Hid (cutS s n = s.extract 0 n) := by show _ = _; unfold cutS; rw [if_pos h]
    generalize cutS s n = r at H
    go_enter Tryz.func11, Tryz.ntmps11
    go_wp2
    go_ret
    exact ⟨by rw [H.out]; rfl, rfl⟩
  · have H : Hid (cutS s n = s) := by show _ = _; unfold cutS; rw [if_neg h]
    generalize cutS s n = r at H
    go_enter Tryz.func11, Tryz.ntmps11
    go_wp2
    go_ret
    exact ⟨by rw [H.out]; rfl, rfl⟩

theorem empty_toList (s : ByteArray) : (s.toList == []) = (by8 s == []) := by rw [by8_toList]

set_option maxHeartbeats 2000000 in
theorem lname_calls (s : ByteArray) (w : World) (hs : s.size ≤ 1048576) : Calls Tryz.prog 100 #[.string s] w fun e w' => e = .returned (.bool (nameOk (by8 s))) ∧ w' = w := by
  have HL : Hid ((by8 s).length = s.size) := by8_length s
  by_cases h0 : (by8 s == []) = true
  · have h1 : (s.toList == []) = true := by rw [empty_toList]; exact h0
    have H : Hid (nameOk (by8 s) = false) := by show _ = _; unfold nameOk; rw [h0]; rfl
    generalize nameOk (by8 s) = r at H
    clear h0
    go_enter Tryz.func100, Tryz.ntmps100
    go_wp2
    go_ret
    exact ⟨by rw [H.out]; rfl, rfl⟩
  · have h0 : (by8 s == []) = false := by simpa using h0
    have h1 : (s.toList == []) = false := by rw [empty_toList]; exact h0
    have hp : 0 < s.size := by
      rw [← HL.out]
      have : by8 s ≠ [] := by simpa using h0
      exact List.length_pos_iff.2 this
    have hix := run_index_bt s 0 hp
    have hix' : ∀ W : World, (Instr.index 9 (.string s) (.int .i64 0)).run Tryz.prog W = .ok (.int .u8 (bt (by8 s) 0)) W := hix
    by_cases h2 : isL (bt (by8 s) 0) = true
    · have H : Hid (nameOk (by8 s) = ((((runEnd isN (by8 s) 0 : Nat) : Int) == (s.size : Int)) && decide ((s.size : Int) ≤ 12))) := by show _ = _; unfold nameOk; rw [h0, h2, HL.out]; rfl
      have HE : Hid (∀ W : World, Calls Tryz.prog 88 #[.string s, .int .i64 0] W fun e w' => e = .returned (.int .i64 (runEnd isN (by8 s) 0)) ∧ w' = W) := fun W => nameEnd_calls s 0 W (Nat.zero_le _) hs
      generalize runEnd isN (by8 s) 0 = m at H HE
      generalize bt (by8 s) 0 = c at hix' h2
      generalize nameOk (by8 s) = r at H
      clear h0 hix
      by_cases h3 : ((m : Int) == (s.size : Int)) = true
      · have H2 : Hid (r = decide ((s.size : Int) ≤ 12)) := by have := H.out; rwa [h3, Bool.true_and] at this
        clear H
        go_enter Tryz.func100, Tryz.ntmps100
        go_wp2_with (first | (go_at_call 58; refine (begins_calls _ _).mono ?_; rintro e w' ⟨rfl, rfl⟩; rw [h2]) | (go_at_call 88; refine (HE.out _).mono ?_; rintro e w' ⟨rfl, rfl⟩))
        go_ret
        exact ⟨by rw [H2.out]; rfl, rfl⟩
      · have h3 : ((m : Int) == (s.size : Int)) = false := by simpa using h3
        have H2 : Hid (r = false) := by have := H.out; rwa [h3, Bool.false_and] at this
        clear H
        go_enter Tryz.func100, Tryz.ntmps100
        go_wp2_with (first | (go_at_call 58; refine (begins_calls _ _).mono ?_; rintro e w' ⟨rfl, rfl⟩; rw [h2]) | (go_at_call 88; refine (HE.out _).mono ?_; rintro e w' ⟨rfl, rfl⟩))
        go_ret
        exact ⟨by rw [H2.out]; rfl, rfl⟩
    · have h2 : isL (bt (by8 s) 0) = false := by simpa using h2
      have H : Hid (nameOk (by8 s) = false) := by show _ = _; unfold nameOk; rw [h2]; simp
      generalize bt (by8 s) 0 = c at hix' h2
      generalize nameOk (by8 s) = r at H
      clear h0 hix
      go_enter Tryz.func100, Tryz.ntmps100
      go_wp2_with (go_at_call 58; refine (begins_calls _ _).mono ?_; rintro e w' ⟨rfl, rfl⟩; rw [h2])
      go_ret
      exact ⟨by rw [H.out]; rfl, rfl⟩

/-- Of a name no byte is another one. -/
theorem nameOk_not {l : List UInt8} {i : Nat} (hi : i < l.length) (h1 : isL (bt l i) = false) (h2 : i = 0 ∨ isD (bt l i) = false) : nameOk l = false := by
  unfold nameOk
  rcases h2 with rfl | h2
  · rw [h1]; simp
  · have : (((runEnd isN l 0 : Nat) : Int) == (l.length : Int)) = false := by
      rw [beq_eq_false_iff_ne]
      intro e
      have := runEnd_in (p := isN) l.length 0 (by omega) (by omega) i (Nat.zero_le _) hi
      unfold isN at this
      rw [h1, h2] at this
      cases this
    rw [this]; simp

theorem nameOk_all {l : List UInt8} (h : ∀ i, i < l.length → isL (bt l i) = true ∨ (i ≠ 0 ∧ isD (bt l i) = true)) : nameOk l = (decide ((1 : Int) ≤ (l.length : Int)) && decide ((l.length : Int) ≤ 12)) := by
  unfold nameOk
  cases l with
  | nil => simp
  | cons a r =>
    have h0 : isL (bt (a :: r) 0) = true := by
      rcases h 0 (by simp) with h | h
      · exact h
      · exact absurd rfl h.1
    have hr : runEnd isN (a :: r) 0 = (a :: r).length := runEnd_all (a :: r).length 0 (by omega) (fun j _ hj => by
      unfold isN
      rcases h j hj with h | h
      · rw [h]; rfl
      · rw [h.2]; simp)
    rw [h0, hr]
    have h1 : (1 : Int) ≤ ((a :: r).length : Int) := by simp; omega
    rw [decide_eq_true h1]
    simp

set_option maxHeartbeats 2000000 in
theorem rname_calls (s : ByteArray) (w : World) (hs : s.size ≤ 1048576) : Calls Tryz.prog 36 #[.string s] w fun e w' => e = .returned (.bool (nameOk (by8 s))) ∧ w' = w := by
  have HL : Hid ((by8 s).length = s.size) := by8_length s
  obtain ⟨r, HR⟩ : ∃ r, Hid (nameOk (by8 s) = r) := ⟨_, rfl⟩
  rw [HR.out]
  go_enter Tryz.func36, Tryz.ntmps36
  go_wp2
  go_loop [3] (fun v => ∃ k : Nat, k ≤ s.size ∧ v = .int .i64 k ∧ Hid (∀ i, i < k → isL (bt (by8 s) i) = true ∨ (i ≠ 0 ∧ isD (bt (by8 s) i) = true))) (fun v => s.size - (intOf v).toNat)
  case atStart => exact ⟨0, Nat.zero_le _, rfl, (fun i hi => absurd hi (Nat.not_lt_zero _) : ∀ i, i < 0 → isL (bt (by8 s) i) = true ∨ (i ≠ 0 ∧ isD (bt (by8 s) i) = true))⟩
  case round =>
    obtain ⟨k, hk, rfl, J⟩ := hrel
    by_cases hlt : k < s.size
    · have hix := run_index_bt s k hlt
      have hl : k < (by8 s).length := by rw [HL.out]; exact hlt
      by_cases h1 : isL (bt (by8 s) k) = true
      · have J2 : Hid (∀ i, i < k + 1 → isL (bt (by8 s) i) = true ∨ (i ≠ 0 ∧ isD (bt (by8 s) i) = true)) := fun i hi => by
          rcases Nat.lt_or_ge i k with h | h
          · exact J.out i h
          · rw [show i = k by omega]; exact .inl h1
        generalize bt (by8 s) k = c at hix h1
        clear hl J
        go_wp2_with (go_at_call 22; refine (letter_calls _ _).mono ?_; rintro e w' ⟨rfl, rfl⟩; rw [h1])
        go_round
        case rel => exact ⟨k + 1, by omega, by go_num, J2⟩
        case measure => simp [intOf]; omega
      · have h1 : isL (bt (by8 s) k) = false := by simpa using h1
        by_cases h0 : k = 0
        · have HF : Hid (r = false) := by show _ = _; rw [← HR.out]; exact nameOk_not hl h1 (.inl h0)
          generalize bt (by8 s) k = c at hix h1
          have hz : ((k : Int) == 0) = true := by simpa using h0
          clear hl J h0
          go_wp2_with (go_at_call 22; refine (letter_calls _ _).mono ?_; rintro e w' ⟨rfl, rfl⟩; rw [h1])
          go_ret
          exact ⟨by rw [HF.out]; rfl, rfl⟩
        · have hz : ((k : Int) == 0) = false := by simpa using h0
          by_cases h2 : isD (bt (by8 s) k) = true
          · have J2 : Hid (∀ i, i < k + 1 → isL (bt (by8 s) i) = true ∨ (i ≠ 0 ∧ isD (bt (by8 s) i) = true)) := fun i hi => by
              rcases Nat.lt_or_ge i k with h | h
              · exact J.out i h
              · rw [show i = k by omega]; exact .inr ⟨h0, h2⟩
            generalize bt (by8 s) k = c at hix h1 h2
            clear hl J h0
            go_wp2_with (first | (go_at_call 22; refine (letter_calls _ _).mono ?_; rintro e w' ⟨rfl, rfl⟩; rw [h1]) | (go_at_call 24; refine (rdigit_calls _ _).mono ?_; rintro e w' ⟨rfl, rfl⟩; rw [h2]))
            go_round
            case rel => exact ⟨k + 1, by omega, by go_num, J2⟩
            case measure => simp [intOf]; omega
          · have h2 : isD (bt (by8 s) k) = false := by simpa using h2
            have HF : Hid (r = false) := by show _ = _; rw [← HR.out]; exact nameOk_not hl h1 (.inr h2)
            generalize bt (by8 s) k = c at hix h1 h2
            clear hl J h0
            go_wp2_with (first | (go_at_call 22; refine (letter_calls _ _).mono ?_; rintro e w' ⟨rfl, rfl⟩; rw [h1]) | (go_at_call 24; refine (rdigit_calls _ _).mono ?_; rintro e w' ⟨rfl, rfl⟩; rw [h2]))
            go_ret
            exact ⟨by rw [HF.out]; rfl, rfl⟩
    · obtain rfl : k = s.size := by omega
      have HF : Hid (r = (decide ((1 : Int) ≤ (s.size : Int)) && decide ((s.size : Int) ≤ 12))) := by
        show _ = _
        rw [← HR.out, nameOk_all (by rw [HL.out]; exact J.out), HL.out]
      clear J
      by_cases h1 : (1 : Int) ≤ (s.size : Int)
      · have HF2 : Hid (r = decide ((s.size : Int) ≤ 12)) := by have := HF.out; rwa [decide_eq_true h1, Bool.true_and] at this
        clear HF
        go_wp2
        go_ret
        exact ⟨by rw [HF2.out]; rfl, rfl⟩
      · have HF2 : Hid (r = false) := by have := HF.out; rwa [decide_eq_false h1, Bool.false_and] at this
        clear HF
        go_wp2
        go_ret
        exact ⟨by rw [HF2.out]; rfl, rfl⟩

end Go.Proofs.YtkaojokhdleeiaaGreatDoor

/-
  The walk of Digits: a number's digits, in new memory.
-/
namespace Go.Proofs.YtkaojokhdleeiaaGreatDoor
open Go.RowKit

set_option maxRecDepth 20000

/-- A text of one byte. -/
def one8 (b : UInt8) : ByteArray := ⟨#[b]⟩

theorem run_one (W : World) (x : Int) : (convert 41 9 (.slice (some ⟨W.heap.size, 0, none⟩) 1 1)).run Tryz.prog (W.alloc (.cells #[.int .u8 x] 5)) = .ok (.string (one8 (UInt8.ofNat x.toNat))) (W.alloc (.cells #[.int .u8 x] 5)) := by
  have := run_convert_bytes_arg (P := Tryz.prog) (W.alloc (.cells #[.int .u8 x] 5)) 41 5 Tryz.underlying41 Tryz.underlying5 W.heap.size 0 1 1 [x] rfl (fun j hj => by
    obtain rfl : j = 0 := by omega
    rw [World.cell?_alloc_mark]; rfl) 9 Tryz.underlying9
  rw [this]
  rfl

theorem by8_append (a b : ByteArray) : by8 (a ++ b) = by8 a ++ by8 b := by
  unfold by8
  rw [ByteArray.data_append, Array.toList_append]

/-- What lays a text of one byte, for a walk. -/
theorem run_one_at (wr : World) (x : Nat) : ∃ d, (convert 41 9 (.slice (some ⟨wr.heap.size, 0, none⟩) 1 1)).run Tryz.prog (wr.alloc (.cells #[.int .u8 (x : Int)] 5)) = .ok (.string d) (wr.alloc (.cells #[.int .u8 (x : Int)] 5)) ∧
    d.size = 1 ∧ by8 d = [UInt8.ofNat x] := ⟨_, run_one wr x, rfl, rfl⟩

theorem dg_last {f n : Nat} {t : List UInt8} (h : n / 10 = 0) : dg (f + 1) n t = UInt8.ofNat (48 + n % 10) :: t := by rw [dg, if_pos h]
theorem dg_more {f n : Nat} {t : List UInt8} (h : n / 10 ≠ 0) : dg (f + 1) n t = dg f (n / 10) (UInt8.ofNat (48 + n % 10) :: t) := by rw [dg, if_neg h]

set_option maxHeartbeats 2000000 in
theorem digits_calls (n : Nat) (w : World) (hn : n ≤ 20000) : Calls Tryz.prog 20 #[.int .i64 n] w fun e w' => ∃ t, e = .returned (.string t) ∧ by8 t = dg 6 n [] ∧ Below w.heap.size w w' := by
  obtain ⟨R, HR⟩ : ∃ R, Hid (dg 6 n [] = R) := ⟨_, rfl⟩
  rw [HR.out]
  go_enter Tryz.func20, Tryz.ntmps20
  go_wp2
  go_loopg [0, 3] 6 (fun kx s0 s3 wr => ∃ (m : Nat) (t : ByteArray), s0 = .int .i64 m ∧ s3 = .string t ∧ m ≤ 20000 ∧ t.size + kx ≤ 6 ∧ Hid (∃ f, f + 1 ≤ kx ∧ m < 10 ^ (f + 1) ∧ dg (f + 1) m (by8 t) = R ∧ Below w.heap.size w wr))
  case atStart => exact ⟨n, ⟨#[]⟩, rfl, rfl, hn, Nat.le_refl _, (⟨5, Nat.le_refl _, by omega, HR.out, Below.refl _ _⟩ : ∃ f, f + 1 ≤ 6 ∧ n < 10 ^ (f + 1) ∧ dg (f + 1) n (by8 ⟨#[]⟩) = R ∧ Below w.heap.size w w)⟩
  case round =>
    obtain ⟨m, t, rfl, rfl, hm, hts, J⟩ := hrel
    obtain ⟨d, hcv, hd1, hd2⟩ := run_one_at wr (48 + m % 10)
    have hcv' : (convert 41 9 (.slice (some ⟨wr.heap.size, 0, none⟩) 1 1)).run Tryz.prog (wr.alloc (.cells #[.int .u8 (48 + (m : Int) % 10)] 5)) = .ok (.string d) (wr.alloc (.cells #[.int .u8 (48 + (m : Int) % 10)] 5)) := by
      have e : ((48 + m % 10 : Nat) : Int) = 48 + (m : Int) % 10 := by omega
      rw [e] at hcv
      exact hcv
    have HD : Hid (by8 (d ++ t) = UInt8.ofNat (48 + m % 10) :: by8 t) := by show _ = _; rw [by8_append, hd2]; rfl
    have hsz : d.size + t.size ≤ 7 := by omega
    have hsa : (d ++ t).size = 1 + t.size := by rw [ByteArray.size_append, hd1]
    clear hd2 hcv
    have hB : Hid (∀ o : Obj, Below w.heap.size w (wr.alloc o)) := fun o => by
      obtain ⟨f, -, -, -, hb⟩ := J.out
      exact hb.alloc hb.size o
    by_cases h0 : m / 10 = 0
    · have HF : Hid (by8 (d ++ t) = R) := by
        obtain ⟨f, -, -, he, -⟩ := J.out
        rw [dg_last h0] at he
        exact HD.out.trans he
      have hz : ((m : Int) / 10 == 0) = true := by simp; omega
      clear J HD h0 hsa
      go_wp2
      go_ret
      exact ⟨_, rfl, HF.out, hB.out _⟩
    · have HF : Hid (∃ f, f + 1 ≤ gk - 1 ∧ m / 10 < 10 ^ (f + 1) ∧ dg (f + 1) (m / 10) (by8 (d ++ t)) = R ∧ 1 ≤ gk) := by
        obtain ⟨f, hf, hlt, he, -⟩ := J.out
        rw [dg_more h0, ← HD.out] at he
        obtain ⟨f, rfl⟩ : ∃ g, f = g + 1 := ⟨f - 1, by
          rcases Nat.eq_zero_or_pos f with h | h
          · subst h; exfalso; apply h0; rw [Nat.pow_one] at hlt; omega
          · omega⟩
        exact ⟨f, by omega, Nat.div_lt_of_lt_mul (by rw [Nat.mul_comm, ← Nat.pow_succ]; exact hlt), he, by omega⟩
      have hz : ((m : Int) / 10 == 0) = false := by simp; omega
      have hgk : 1 ≤ gk := by obtain ⟨f, -, -, -, h⟩ := HF.out; exact h
      clear J HD h0
      go_wp2
      go_roundg (gk - 1)
      case measure => omega
      case rel =>
        refine ⟨m / 10, d ++ t, by simp, rfl, by omega, by omega, ?_⟩
        obtain ⟨f, h1, h2, h3, -⟩ := HF.out
        exact (⟨f, h1, h2, h3, hB.out _⟩ : ∃ f, f + 1 ≤ gk - 1 ∧ m / 10 < 10 ^ (f + 1) ∧ dg (f + 1) (m / 10) (by8 (d ++ t)) = R ∧ Below w.heap.size w _)

end Go.Proofs.YtkaojokhdleeiaaGreatDoor

/-
  The walk of the look that each law opens with: it holds.
-/
namespace Go.Proofs.YtkaojokhdleeiaaGreatDoor
open Go.RowKit

set_option maxRecDepth 20000

/-- The two texts of that look. -/
def txt1 : ByteArray := ⟨#[37, 116, 111, 107, 101, 110, 32, 65, 32, 47, 47, 32, 120, 10, 37, 37, 32, 115, 58, 32, 65, 32, 49, 50, 59]⟩
def txt2 : ByteArray := ⟨#[97, 32, 37, 102, 111, 111]⟩

theorem scan1 : scan (by8 txt1) = ([(4, 0, 6), (1, 7, 8), (4, 14, 16), (1, 17, 18), (3, 18, 19), (1, 20, 21), (2, 22, 24), (3, 24, 25), (5, 25, 25)], -1) := by kernel_rfl
theorem scan2 : scan (by8 txt2) = ([], 2) := by kernel_rfl
theorem text1 : ((txt1.extract 0 6).toList == [37, 116, 111, 107, 101, 110]) = true := by rw [by8_toList, by8_extract]; kernel_rfl
theorem text2 : ((txt1.extract 14 16).toList == [37, 37]) = true := by rw [by8_toList, by8_extract]; kernel_rfl
theorem name1 : nameOk (by8 ⟨#[97, 95, 49]⟩) = true := by kernel_rfl
theorem name2 : nameOk (by8 ⟨#[49, 97]⟩) = false := by kernel_rfl

set_option maxHeartbeats 4000000 in
set_option maxRecDepth 20000 in
theorem begun_calls (w : World) : Calls Tryz.prog 78 #[] w fun e w' => e = .returned (.bool true) ∧ Below w.heap.size w w' := by
  have H1 : Hid (Calls Tryz.prog 27 #[.string txt1] w fun e w' => Scanned txt1 w w' e) := scan_calls txt1 w (by decide)
  have H2 : Hid (∀ W : World, Calls Tryz.prog 27 #[.string txt2] W fun e w' => Scanned txt2 W w' e) := fun W => scan_calls txt2 W (by decide)
  unfold Scanned at H1 H2
  rw [scan1] at H1
  rw [scan2] at H2
  simp only at H1 H2
  have N1 : Hid (∀ W : World, Calls Tryz.prog 100 #[.string ⟨#[97, 95, 49]⟩] W fun e w' => e = .returned (.bool true) ∧ w' = W) := fun W => by
    have := lname_calls ⟨#[97, 95, 49]⟩ W (by decide)
    rwa [name1] at this
  have N2 : Hid (∀ W : World, Calls Tryz.prog 100 #[.string ⟨#[49, 97]⟩] W fun e w' => e = .returned (.bool false) ∧ w' = W) := fun W => by
    have := lname_calls ⟨#[49, 97]⟩ W (by decide)
    rwa [name2] at this
  go_enter Tryz.func78, Tryz.ntmps78
  go_wp2_with fail
  refine H1.out.mono ?_
  rintro e w1 ⟨v1, rfl, hI1, hB1⟩
  have J1 : Hid (IsW w1 w.heap.size txt1 v1 [(4, 0, 6), (1, 7, 8), (4, 14, 16), (1, 17, 18), (3, 18, 19), (1, 20, 21), (2, 22, 24), (3, 24, 25), (5, 25, 25)] ∧ Below w.heap.size w w1) := ⟨hI1, hB1⟩
  clear hI1 hB1
  go_wp2_with fail
  refine (H2.out _).mono ?_
  rintro e w2 ⟨v2, rfl, hI2, hB2⟩
  have J2 : Hid (IsW w2 w.heap.size txt1 v1 [(4, 0, 6), (1, 7, 8), (4, 14, 16), (1, 17, 18), (3, 18, 19), (1, 20, 21), (2, 22, 24), (3, 24, 25), (5, 25, 25)] ∧ Below w.heap.size w w2) := ⟨J1.out.1.below hB2, below_step J1.out.2 hB2⟩
  clear J1 hI2 hB2 H1 H2
  obtain ⟨a1, c1, rfl, hn1, hm1, hs1⟩ := own_slice J2.out.1
  have hm1 : c1 ≤ 9223372036854775807 := by unfold maxLen at hm1; omega
  obtain ⟨g, rfl⟩ : ∃ g, a1 = some ⟨g, 0, none⟩ := hs1.elim (fun h => absurd h.2.1 (by decide)) id
  obtain ⟨p00, p01, -⟩ := J2.out.1.at (i := 0) (x := (4, 0, 6)) rfl
  obtain ⟨-, p21, p22⟩ := J2.out.1.at (i := 2) (x := (4, 14, 16)) rfl
  obtain ⟨p40, -, -⟩ := J2.out.1.at (i := 4) (x := (3, 18, 19)) rfl
  obtain ⟨p60, -, -⟩ := J2.out.1.at (i := 6) (x := (2, 22, 24)) rfl
  obtain ⟨p80, -, -⟩ := J2.out.1.at (i := 8) (x := (5, 25, 25)) rfl
  have t1 := text1
  have t2 := text2
  simp only at p00 p01 p21 p22 p40 p60 p80
  generalize txt1.extract 0 6 = x1 at p01 t1
  generalize txt1.extract 14 16 = x2 at p21 t2
  have HB : Hid (Below w.heap.size w w2) := J2.out.2
  clear hs1 J2
  have p00 : w2.cell? ⟨g, 0, none⟩ = some (.int .i64 4) := p00
  have p01 : w2.cell? ⟨g, 1, none⟩ = some (.string x1) := p01
  have p21 : w2.cell? ⟨g, 7, none⟩ = some (.string x2) := p21
  have p22 : w2.cell? ⟨g, 8, none⟩ = some (.int .i64 14) := p22
  have p40 : w2.cell? ⟨g, 12, none⟩ = some (.int .i64 3) := p40
  have p60 : w2.cell? ⟨g, 18, none⟩ = some (.int .i64 2) := p60
  have p80 : w2.cell? ⟨g, 24, none⟩ = some (.int .i64 5) := p80
  simp only [List.length_cons, List.length_nil] at hn1 ⊢
  go_wp2_with fail
  refine (N1.out _).mono ?_
  rintro e w7 ⟨rfl, rfl⟩
  go_wp2_with fail
  refine (N2.out _).mono ?_
  rintro e w8 ⟨rfl, rfl⟩
  go_wp2_with fail
  go_ret
  exact ⟨rfl, HB.out⟩

end Go.Proofs.YtkaojokhdleeiaaGreatDoor

/-
  Grammars as plain data: which may be, in what words they are written.
-/
namespace Go.Proofs.YtkaojokhdleeiaaGreatDoor
open Go.RowKit

/-- A token, a rule, a grammar. -/
structure Tk where
  n : ByteArray
  l : Int
  a : Int
structure Ru where
  l : ByteArray
  r : List ByteArray
  p : ByteArray
structure Gm where
  ts : List Tk
  s : ByteArray
  e : Int
  rs : List Ru

theorem by8_inj {a b : ByteArray} (h : by8 a = by8 b) : a = b := by
  apply ByteArray.ext
  exact Array.toList_inj.1 h

theorem toList_beq (a b : ByteArray) : (a.toList == b.toList) = true ↔ a = b := by
  rw [by8_toList, by8_toList]
  constructor
  · intro h; exact by8_inj (by simpa using h)
  · rintro rfl; simp

theorem toList_beq_ne {a b : ByteArray} (h : a ≠ b) : (a.toList == b.toList) = false := by
  cases hb : (a.toList == b.toList)
  · rfl
  · exact absurd ((toList_beq a b).1 hb) h

theorem toList_beq_eq {a b : ByteArray} (h : a = b) : (a.toList == b.toList) = true := (toList_beq a b).2 h

theorem toList_nil (a : ByteArray) : (a.toList == []) = true ↔ a = ⟨#[]⟩ := by
  have := toList_beq a ⟨#[]⟩
  have e : (⟨#[]⟩ : ByteArray).toList = [] := by rw [by8_toList]; rfl
  rwa [e] at this

/-- A name; a name or nothing. -/
def NameP (s : ByteArray) : Prop := nameOk (by8 s) = true
def NoneP (s : ByteArray) : Prop := s = ⟨#[]⟩ ∨ NameP s

/-- A token's level and kind by themselves. -/
def LevP (t : Tk) : Prop := (t.l = 0 ∧ t.a = 0) ∨ (1 ≤ t.l ∧ t.l ≤ 8 ∧ 1 ≤ t.a ∧ t.a ≤ 3)

def decLevP (t : Tk) : Decidable (LevP t) := inferInstanceAs (Decidable ((t.l = 0 ∧ t.a = 0) ∨ (1 ≤ t.l ∧ t.l ≤ 8 ∧ 1 ≤ t.a ∧ t.a ≤ 3)))
def levB (t : Tk) : Bool := haveI := decLevP t; decide (LevP t)
theorem levB_iff {t : Tk} : levB t = true ↔ LevP t := @decide_eq_true_iff (LevP t) (decLevP t)
theorem levB_not {t : Tk} (h : ¬ LevP t) : levB t = false := @decide_eq_false (LevP t) (decLevP t) h

/-- The kinds of all levels, told token by token: none where two do not go together. -/
def at9 (l : List Int) (i : Int) : Int := (l[i.toNat]?).getD 0
def levS (o : Option (List Int)) (t : Tk) : Option (List Int) :=
  match o with
  | none => none
  | some l => haveI := decLevP t; if LevP t ∧ (at9 l t.l = 0 ∨ at9 l t.l = t.a) then some (l.set t.l.toNat t.a) else none
def zero9 : List Int := [0, 0, 0, 0, 0, 0, 0, 0, 0]
def levF (ts : List Tk) : Option (List Int) := ts.foldl levS (some zero9)

theorem levS_none (ts : List Tk) : ts.foldl levS none = none := by
  induction ts with
  | nil => rfl
  | cons t r ih => exact ih

theorem levF_snoc (ts : List Tk) (t : Tk) : levF (ts ++ [t]) = levS (levF ts) t := by unfold levF; rw [List.foldl_append]; rfl

theorem take_succ {α : Type} {l : List α} {k : Nat} {x : α} (h : l[k]? = some x) : l.take (k + 1) = l.take k ++ [x] := by
  rw [List.take_add_one, h]; rfl

theorem levF_bad {ts : List Tk} {k : Nat} (h : levF (ts.take k) = none) : levF ts = none := by
  conv => lhs; rw [← List.take_append_drop k ts]
  unfold levF at h ⊢
  rw [List.foldl_append, h, levS_none]

theorem levS_length {l l' : List Int} {t : Tk} (h : levS (some l) t = some l') (hl : l.length = 9) : l'.length = 9 := by
  unfold levS at h
  simp only at h
  split at h
  · cases h; simpa using hl
  · cases h

theorem levS_fold : ∀ (ts : List Tk) (l l' : List Int), l.length = 9 → ts.foldl levS (some l) = some l' → l'.length = 9
  | [], l, l', hl, h => by cases h; exact hl
  | t :: r, l, l', hl, h => by
    have h : r.foldl levS (levS (some l) t) = some l' := h
    cases hm : levS (some l) t with
    | none => rw [hm, levS_none] at h; cases h
    | some m => rw [hm] at h; exact levS_fold r m l' (levS_length hm hl) h

theorem levF_length {ts : List Tk} {l : List Int} (h : levF ts = some l) : l.length = 9 := levS_fold ts zero9 l rfl h

/-- No level is there without the one below it. -/
def NoGap (l : List Int) : Prop := ∀ k : Nat, 2 ≤ k → k < 9 → (l[k]?).getD 0 ≠ 0 → (l[k - 1]?).getD 0 ≠ 0

def TokP (ts : List Tk) : Prop :=
  (∀ (i : Nat) (t : Tk), ts[i]? = some t → NameP t.n ∧ ∀ (j : Nat) (u : Tk), j < i → ts[j]? = some u → u.n ≠ t.n) ∧ ∃ l, levF ts = some l ∧ NoGap l
def RuleP (r : Ru) : Prop := NameP r.l ∧ r.r.length ≤ 20 ∧ NoneP r.p ∧ ∀ x ∈ r.r, NameP x

/-- What may be. -/
structure MayP (G : Gm) : Prop where
  nt : G.ts.length ≤ 40
  nr : G.rs.length ≤ 100
  e0 : 0 ≤ G.e
  e1 : G.e ≤ 9999
  st : NoneP G.s
  tk : TokP G.ts
  rl : ∀ r ∈ G.rs, RuleP r

/-- What is not too great to be walked. -/
structure Small (G : Gm) : Prop where
  nt : G.ts.length ≤ 100
  nr : G.rs.length ≤ 200
  st : G.s.size ≤ 100
  tk : ∀ t ∈ G.ts, t.n.size ≤ 100
  rl : ∀ r ∈ G.rs, r.l.size ≤ 100 ∧ r.p.size ≤ 100 ∧ r.r.length ≤ 100 ∧ ∀ x ∈ r.r, x.size ≤ 100

end Go.Proofs.YtkaojokhdleeiaaGreatDoor

/-
  Texts as grammars: words are taken one by one; the first fault ends it. Plain mathematics.
-/
namespace Go.Proofs.YtkaojokhdleeiaaGreatDoor
open Go.RowKit

/-- A word: its kind, its text, where it stands. -/
structure Wd where
  k : Int
  t : ByteArray
  a : Int

def endW (a : Int) : Wd := ⟨5, ⟨#[]⟩, a⟩

/-- Words that a text can have: names, numbers, signs, keys. -/
structure WdOk (w : Wd) : Prop where
  kind : 1 ≤ w.k ∧ w.k ≤ 4
  name : w.k = 1 → isL (bt (by8 w.t) 0) = true ∧ 1 ≤ w.t.size
  num : w.k = 2 → 1 ≤ w.t.size ∧ w.t.size ≤ 4 ∧ ∀ j, j < w.t.size → isD (bt (by8 w.t) j) = true
  sign : w.k = 3 → by8 w.t = [58] ∨ by8 w.t = [124] ∨ by8 w.t = [59]
  key : w.k = 4 → bt (by8 w.t) 0 = 37 ∧ 1 ≤ w.t.size
  size : w.t.size ≤ 100

/-- Words with the end behind them. -/
def Ends (ws : List Wd) : Prop := ∃ (pre : List Wd) (a : Int), ws = pre ++ [endW a] ∧ ∀ w ∈ pre, WdOk w

theorem Ends.pos {ws : List Wd} (h : Ends ws) : 1 ≤ ws.length := by
  obtain ⟨pre, a, rfl, -⟩ := h
  rw [List.length_append]
  exact Nat.le_add_left _ _

def headW (ws : List Wd) : Wd := ws.headD (endW 0)

theorem Ends.head {ws : List Wd} (h : Ends ws) : ∃ r, ws = headW ws :: r := by
  obtain ⟨pre, a, rfl, -⟩ := h
  cases pre with
  | nil => exact ⟨[], rfl⟩
  | cons x r => exact ⟨r ++ [endW a], rfl⟩

/-- The next word is the end, or more stands behind it. -/
theorem Ends.cases {ws : List Wd} (h : Ends ws) : (∃ a, ws = [endW a]) ∨ (WdOk (headW ws) ∧ Ends ws.tail ∧ ws = headW ws :: ws.tail) := by
  obtain ⟨pre, a, rfl, hp⟩ := h
  cases pre with
  | nil => exact .inl ⟨a, rfl⟩
  | cons x r => exact .inr ⟨hp x List.mem_cons_self, ⟨r, a, rfl, fun w hw => hp w (List.mem_cons_of_mem _ hw)⟩, rfl⟩

theorem Ends.tail_of_kind {ws : List Wd} (h : Ends ws) (hk : (headW ws).k ≠ 5) : WdOk (headW ws) ∧ Ends ws.tail := by
  rcases h.cases with ⟨a, rfl⟩ | ⟨h1, h2, -⟩
  · exact absurd rfl hk
  · exact ⟨h1, h2⟩

theorem Ends.tail_of_text {ws : List Wd} (h : Ends ws) (hk : (headW ws).t ≠ ⟨#[]⟩) : WdOk (headW ws) ∧ Ends ws.tail := by
  rcases h.cases with ⟨a, rfl⟩ | ⟨h1, h2, -⟩
  · exact absurd rfl hk
  · exact ⟨h1, h2⟩

/-- What has been read, and the words that are left. -/
structure St where
  ws : List Wd
  ts : List Tk
  ls : List Bool
  lv : Nat
  st : ByteArray
  ed : Bool
  ex : Int
  rs : List Ru

/-- A fault: its kind, its place. -/
abbrev Flt := Int × Int

def St.hd (S : St) : Wd := headW S.ws
def St.next (S : St) : St := ⟨S.ws.tail, S.ts, S.ls, S.lv, S.st, S.ed, S.ex, S.rs⟩
def formF (w : Wd) : Flt := (1, w.a)
def againF (w : Wd) : Flt := (7, w.a)

def takeP (k : Int) (S : St) : Except Flt (Wd × St) := if S.hd.k = k then .ok (S.hd, S.next) else .error (formF S.hd)

/-- Where a token stands. -/
def findN : List Tk → ByteArray → Option Nat
  | [], _ => none
  | t :: r, n => if t.n = n then some 0 else (findN r n).map (· + 1)

def tokP (w : Wd) (S : St) : Except Flt (Nat × St) :=
  match findN S.ts w.t with
  | some i => .ok (i, S)
  | none => if S.ts.length = 40 then .error (formF w) else .ok (S.ts.length, ⟨S.ws, S.ts ++ [⟨w.t, 0, 0⟩], S.ls ++ [false], S.lv, S.st, S.ed, S.ex, S.rs⟩)

def listP (w : Wd) (S : St) : Except Flt St :=
  match tokP w S with
  | .error f => .error f
  | .ok (i, S) => if (S.ls[i]?).getD false = true then .error (againF w) else .ok ⟨S.ws, S.ts, S.ls.set i true, S.lv, S.st, S.ed, S.ex, S.rs⟩

def tkAt (ts : List Tk) (i : Nat) : Tk := (ts[i]?).getD ⟨⟨#[]⟩, 0, 0⟩

def levP (l a : Int) (w : Wd) (S : St) : Except Flt St :=
  match tokP w S with
  | .error f => .error f
  | .ok (i, S) => if (tkAt S.ts i).l ≠ 0 then .error (againF w) else .ok ⟨S.ws, S.ts.set i ⟨(tkAt S.ts i).n, l, a⟩, S.ls, S.lv, S.st, S.ed, S.ex, S.rs⟩

def namesP (say : Wd → St → Except Flt St) : Nat → St → Except Flt St
  | 0, S => .ok S
  | f + 1, S =>
    match takeP 1 S with
    | .error e => .error e
    | .ok (w, S1) =>
      match say w S1 with
      | .error e => .error e
      | .ok S2 => if S2.hd.k = 1 then namesP say f S2 else .ok S2

def levelP (key : Wd) (a : Int) (S : St) : Except Flt St :=
  if S.lv = 8 then .error (formF key) else namesP (levP ((S.lv : Int) + 1) a) S.ws.length ⟨S.ws, S.ts, S.ls, S.lv + 1, S.st, S.ed, S.ex, S.rs⟩

def startP (key : Wd) (S : St) : Except Flt St :=
  if S.st ≠ ⟨#[]⟩ then .error (againF key) else
    match takeP 1 S with
    | .error e => .error e
    | .ok (w, S1) => .ok ⟨S1.ws, S1.ts, S1.ls, S1.lv, w.t, S1.ed, S1.ex, S1.rs⟩

/-- What digits say. -/
def numP (l : List UInt8) : Int := l.foldl (fun a c => a * 10 + ((c.toNat : Int) - 48)) 0

def expectP (key : Wd) (S : St) : Except Flt St :=
  if S.ed = true then .error (againF key) else
    match takeP 2 S with
    | .error e => .error e
    | .ok (w, S1) => .ok ⟨S1.ws, S1.ts, S1.ls, S1.lv, S1.st, true, numP (by8 w.t), S1.rs⟩

def tTok : ByteArray := ⟨#[37, 116, 111, 107, 101, 110]⟩
def tLeft : ByteArray := ⟨#[37, 108, 101, 102, 116]⟩
def tRight : ByteArray := ⟨#[37, 114, 105, 103, 104, 116]⟩
def tNon : ByteArray := ⟨#[37, 110, 111, 110, 97, 115, 115, 111, 99]⟩
def tStart : ByteArray := ⟨#[37, 115, 116, 97, 114, 116]⟩
def tExp : ByteArray := ⟨#[37, 101, 120, 112, 101, 99, 116]⟩
def tPrec : ByteArray := ⟨#[37, 112, 114, 101, 99]⟩
def tTwo : ByteArray := ⟨#[37, 37]⟩
def tCol : ByteArray := ⟨#[58]⟩
def tBar : ByteArray := ⟨#[124]⟩
def tSemi : ByteArray := ⟨#[59]⟩

def partP (S : St) : Except Flt St :=
  if S.hd.t = tTok then namesP listP S.ws.length S.next
  else if S.hd.t = tLeft then levelP S.hd 1 S.next
  else if S.hd.t = tRight then levelP S.hd 2 S.next
  else if S.hd.t = tNon then levelP S.hd 3 S.next
  else if S.hd.t = tStart then startP S.hd S.next
  else if S.hd.t = tExp then expectP S.hd S.next
  else .error (formF S.hd)

def symP : Nat → List ByteArray → St → Except Flt (List ByteArray × St)
  | 0, l, S => .ok (l, S)
  | f + 1, l, S => if S.hd.k = 1 then (if l.length = 20 then .error (formF S.hd) else symP f (l ++ [S.hd.t]) S.next) else .ok (l, S)

def ruleAdd (S : St) (r : Ru) : St := ⟨S.ws, S.ts, S.ls, S.lv, S.st, S.ed, S.ex, S.rs ++ [r]⟩

def altP (left : ByteArray) (S : St) : Except Flt St :=
  if S.rs.length = 100 then .error (formF S.hd) else
    match symP S.ws.length [] S with
    | .error e => .error e
    | .ok (r, S1) =>
      if S1.hd.t = tPrec then
        match takeP 1 S1.next with
        | .error e => .error e
        | .ok (w, S2) => .ok (ruleAdd S2 ⟨left, r, w.t⟩)
      else .ok (ruleAdd S1 ⟨left, r, ⟨#[]⟩⟩)

def altsP (left : ByteArray) : Nat → St → Except Flt St
  | 0, S => .ok S
  | f + 1, S =>
    match altP left S with
    | .error e => .error e
    | .ok S1 => if S1.hd.t = tSemi then .ok S1.next else if S1.hd.t = tBar then altsP left f S1.next else .error (formF S1.hd)

def ruleRd (S : St) : Except Flt St :=
  match takeP 1 S with
  | .error e => .error e
  | .ok (w, S1) => if S1.hd.t = tCol then altsP w.t S1.ws.length S1.next else .error (formF S1.hd)

def partsP : Nat → St → Except Flt St
  | 0, S => .ok S
  | f + 1, S => if S.hd.t = tTwo then .ok S.next else
    match partP S with
    | .error e => .error e
    | .ok S1 => partsP f S1

def rulesP : Nat → St → Except Flt St
  | 0, S => .ok S
  | f + 1, S => if S.hd.k = 5 then .ok S else
    match ruleRd S with
    | .error e => .error e
    | .ok S1 => rulesP f S1

def readP (S : St) : Except Flt St :=
  match partsP S.ws.length S with
  | .error e => .error e
  | .ok S1 => rulesP S1.ws.length S1

/-- A state that a text can lead to. -/
structure StOk (S : St) : Prop where
  ends : Ends S.ws
  nt : S.ts.length ≤ 40
  nl : S.ls.length = S.ts.length
  lv : S.lv ≤ 8
  nr : S.rs.length ≤ 100

theorem StOk.next {S : St} (h : StOk S) (he : Ends S.ws.tail) : StOk S.next := ⟨he, h.nt, h.nl, h.lv, h.nr⟩

theorem next_len {S : St} (h : StOk S) : S.next.ws.length + 1 = S.ws.length := by
  obtain ⟨r, hr⟩ := h.ends.head
  show S.ws.tail.length + 1 = _
  rw [hr]
  rfl

theorem takeP_ok {k : Int} {S S1 : St} {w : Wd} (h : StOk S) (hk : k ≠ 5) (ht : takeP k S = .ok (w, S1)) : WdOk w ∧ w = S.hd ∧ w.k = k ∧ S1 = S.next ∧ StOk S1 := by
  unfold takeP at ht
  split at ht
  · rename_i hc
    cases ht
    obtain ⟨h1, h2⟩ := h.ends.tail_of_kind (by rw [show (headW S.ws).k = k from hc]; exact hk)
    exact ⟨h1, rfl, hc, rfl, h.next h2⟩
  · cases ht

theorem takeP_err {k : Int} {S : St} {f : Flt} (ht : takeP k S = .error f) : S.hd.k ≠ k ∧ f = formF S.hd := by
  unfold takeP at ht
  split at ht
  · cases ht
  · rename_i hc
    cases ht
    exact ⟨hc, rfl⟩

theorem findN_lt : ∀ {ts : List Tk} {n : ByteArray} {i : Nat}, findN ts n = some i → ∃ t, ts[i]? = some t ∧ t.n = n
  | [], n, i, h => by cases h
  | t :: r, n, i, h => by
    unfold findN at h
    split at h
    · rename_i hc
      cases h
      exact ⟨t, rfl, hc⟩
    · obtain ⟨j, hj, rfl⟩ := Option.map_eq_some_iff.1 h
      obtain ⟨u, hu, hn⟩ := findN_lt hj
      exact ⟨u, by simpa using hu, hn⟩

theorem tokP_ok {w : Wd} {S S1 : St} {i : Nat} (h : StOk S) (ht : tokP w S = .ok (i, S1)) : StOk S1 ∧ i < S1.ts.length ∧ S1.ws = S.ws ∧ S1.lv = S.lv := by
  unfold tokP at ht
  split at ht
  · rename_i j hj
    cases ht
    obtain ⟨t, ht, -⟩ := findN_lt hj
    exact ⟨h, (List.getElem?_eq_some_iff.1 ht).1, rfl, rfl⟩
  · split at ht
    · cases ht
    · rename_i hc
      cases ht
      refine ⟨⟨h.ends, ?_, ?_, h.lv, h.nr⟩, ?_, rfl, rfl⟩
      · simp only [List.length_append, List.length_cons, List.length_nil]
        have := h.nt
        omega
      · simp only [List.length_append, List.length_cons, List.length_nil]
        rw [h.nl]
      · simp only [List.length_append, List.length_cons, List.length_nil]
        omega

theorem listP_ok {w : Wd} {S S1 : St} (h : StOk S) (ht : listP w S = .ok S1) : StOk S1 ∧ S1.ws = S.ws ∧ S1.lv = S.lv := by
  unfold listP at ht
  split at ht
  · cases ht
  · rename_i i S2 h2
    obtain ⟨a, b, c, d⟩ := tokP_ok h h2
    split at ht
    · cases ht
    · cases ht
      exact ⟨⟨a.ends, a.nt, by simp only [List.length_set]; exact a.nl, a.lv, a.nr⟩, c, d⟩

theorem levP_ok {l q : Int} {w : Wd} {S S1 : St} (h : StOk S) (ht : levP l q w S = .ok S1) : StOk S1 ∧ S1.ws = S.ws ∧ S1.lv = S.lv := by
  unfold levP at ht
  split at ht
  · cases ht
  · rename_i i S2 h2
    obtain ⟨a, b, c, d⟩ := tokP_ok h h2
    split at ht
    · cases ht
    · cases ht
      exact ⟨⟨a.ends, by simp only [List.length_set]; exact a.nt, by simp only [List.length_set]; exact a.nl, a.lv, a.nr⟩, c, d⟩

end Go.Proofs.YtkaojokhdleeiaaGreatDoor
