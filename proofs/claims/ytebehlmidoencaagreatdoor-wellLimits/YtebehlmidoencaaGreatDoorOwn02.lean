/-
  Texts that the proof of the Well statements stands on, part Own02.
-/
import Derived.Test.YtebehlmidoencaaGreatDoorOwn01
import Derived.Lib.AppendZeros
import Derived.Maps.AppendAt
import Derived.Laws.Concat
import Derived.Shelf.SlSortCmp.QuietGrown
import Derived.Lib.SliceRun
import Derived.BigQuiet
/-
  The walk of Scan: all words of a text in new memory, or none and the first fault.
-/
namespace Go.Proofs.YtebehlmidoencaaGreatDoor
open Go.RowKit

set_option maxRecDepth 20000

theorem Tryz.info109 : (Tryz.prog.info? 109).map (fun i => (i.zero, i.size, i.bytes)) = some (some (.agg #[.int .i64 0, .string ⟨#[]⟩, .int .i64 0]), 3, 32) := by kernel_rfl

/-- A word's cells. -/
def wcells (s : ByteArray) (x : Nat × Nat × Nat) : List Value := [.int .i64 x.1, .string (s.extract x.2.1 x.2.2), .int .i64 x.2.1]
def cellsW (s : ByteArray) (ws : List (Nat × Nat × Nat)) : List Value := ws.flatMap (wcells s)

theorem cellsW_append (s : ByteArray) (a : List (Nat × Nat × Nat)) (x : Nat × Nat × Nat) : cellsW s (a ++ [x]) = cellsW s a ++ wcells s x := by
  unfold cellsW; rw [List.flatMap_append]; simp

/-- Words in memory that is the call's own. -/
def IsW (w : World) (base : Nat) (s : ByteArray) (v : Value) (ws : List (Nat × Nat × Nat)) : Prop := w.ownsRow base 109 3 v ws.length (cellsW s ws)

theorem isW_nil (w : World) (base : Nat) (s : ByteArray) : IsW w base s (.slice none 0 0) [] := World.ownsRow_nil w base 109 3

theorem ownsRow_of_block {w w' : World} {base : Nat} {E : TypeId} {k : Nat} {v : Value} {n : Nat} {cs : List Value} (h : w.ownsRow base E k v n cs) (hb : ∀ i, v.ownBlock = some i → w'.heap[i]? = w.heap[i]?) : w'.ownsRow base E k v n cs := by
  refine ⟨h.1, ?_⟩
  rcases h.2 with hn | ⟨g, cap, cur, rfl, hg, hh, r⟩
  · exact .inl hn
  · exact .inr ⟨g, cap, cur, rfl, hg, by rw [hb g rfl]; exact hh, r⟩

theorem IsW.below {w w' : World} {base : Nat} {s : ByteArray} {v : Value} {ws : List (Nat × Nat × Nat)} (h : IsW w base s v ws) (hb : Below w.heap.size w w') : IsW w' base s v ws :=
  ownsRow_of_block h (fun i hi => hb.block i (World.ownsRow.lt h i hi).2)

/-- One word more. -/
theorem IsW.add {w : World} {base : Nat} {s : ByteArray} {v : Value} {ws : List (Nat × Nat × Nat)} (h : IsW w base s v ws) (hb : base ≤ w.heap.size) (hn : ws.length ≤ 1048577) (k i e : Nat) :
    ∃ ao n c w', (Builtin.append_ #[94, 94] 94 #[v, .slice (some ⟨w.heap.size, 0, none⟩) 1 1]).run Tryz.prog (w.alloc (.cells #[.int .i64 k, .string (s.extract i e), .int .i64 i] 109)) = .ok (.slice ao n c) w' ∧
      IsW w' base s (.slice ao n c) (ws ++ [(k, i, e)]) ∧ Below base w w' := by
  obtain ⟨i0, hi, hz0, hz1, hz2⟩ := info_parts Tryz.info109
  have hA : (w.alloc (.cells #[.int .i64 k, .string (s.extract i e), .int .i64 i] 109)).ownsRow base 109 3 v ws.length (cellsW s ws) := World.ownsRow.alloc h _
  have hnews : ∀ j u, (wcells s (k, i, e))[j]? = some u → (w.alloc (.cells #[.int .i64 k, .string (s.extract i e), .int .i64 i] 109)).cell? ((⟨w.heap.size, 0, none⟩ : Addr).add j) = some u := by
    intro j u hu
    rw [Addr.add_lit, Nat.zero_add]
    have := World.cell?_alloc_mark w #[.int .i64 k, .string (s.extract i e), .int .i64 i] 109 (0, 0) j
    rw [this, ← hu]
    unfold wcells
    simp
  obtain ⟨v', w', hr, h2, h3, -⟩ := run_append_own (P := Tryz.prog) (w.alloc (.cells #[.int .i64 k, .string (s.extract i e), .int .i64 i] 109)) base 94 94 109 i0 _ 3 32 Tryz.underlying94 hi hz0 hz1 hz2 rfl (by decide) v ws.length _ hA ⟨w.heap.size, 0, none⟩ 1 1 (wcells s (k, i, e)) rfl hnews
    (fun u hu => by unfold wcells at hu; simp at hu; rcases hu with rfl | rfl | rfl <;> rfl) (by unfold maxLen; omega) (by omega) (by simp; omega)
  have hB : Below base w w' := ((Below.refl base w).alloc hb _).grown h3 (by simp; omega) (fun g hg => (World.ownsRow.lt h g hg).1)
  have hW : IsW w' base s v' (ws ++ [(k, i, e)]) := by
    unfold IsW
    rw [cellsW_append, List.length_append]
    exact h2
  rcases h2.2 with ⟨rfl, h0⟩ | ⟨g, cap, cur, rfl, -⟩
  · omega
  · exact ⟨_, _, _, w', hr, hW, hB⟩

theorem extract_size (s : ByteArray) (a b : Nat) : (s.extract a b).size ≤ s.size := by
  rw [← by8_length, by8_extract, ← by8_length]
  unfold part
  rw [List.length_take, List.length_drop]
  omega

/-- What a scan leaves. -/
def Scanned (s : ByteArray) (w w' : World) (e : Ending) : Prop := ∃ v, e = .returned (.tuple #[v, .int .i64 (scan (by8 s)).2]) ∧ IsW w' w.heap.size s v (scan (by8 s)).1 ∧ Below w.heap.size w w'

theorem extract_end (s : ByteArray) : s.extract s.size s.size = ⟨#[]⟩ := by
  apply ByteArray.ext
  apply Array.eq_empty_of_size_eq_zero
  have := by8_extract s s.size s.size
  have h2 : (by8 (s.extract s.size s.size)).length = 0 := by rw [this]; unfold part; simp
  rw [by8_length] at h2
  exact h2

set_option maxHeartbeats 4000000 in
theorem scan_calls (s : ByteArray) (w : World) (hs : s.size ≤ 1048576) : Calls Tryz.prog 69 #[.string s] w fun e w' => Scanned s w w' e := by
  have HL : Hid ((by8 s).length = s.size) := by8_length s
  have HS0 : Hid (∀ W : World, Calls Tryz.prog 79 #[.string s, .int .i64 0] W fun e w' => e = .returned (.int .i64 (skip (by8 s) 0)) ∧ w' = W) := fun W => skip_calls s 0 W (Nat.zero_le _) hs
  have h00 : skip (by8 s) 0 ≤ s.size := by rw [← by8_length]; exact (skip_le (Nat.zero_le _)).2
  obtain ⟨R, HR⟩ : ∃ R, Hid (scan (by8 s) = R) := ⟨_, rfl⟩
  have HR0 : Hid (scanF (s.size + 1) (by8 s) (skip (by8 s) 0) [] = R) := by
    have := HR.out
    unfold scan at this
    rwa [HL.out] at this
  unfold Scanned
  rw [HR.out]
  generalize skip (by8 s) 0 = a0 at HS0 h00 HR0
  go_enter Tryz.func69, Tryz.ntmps69
  go_wp2_with (go_at_call 79; refine (HS0.out _).mono ?_; rintro e w' ⟨rfl, rfl⟩)
  go_loopg [4, 5] s.size (fun kx s4 s5 wr => ∃ (k : Nat) (ml : Nat × Option Addr × Nat), s4 = .slice ml.2.1 ml.1 ml.2.2 ∧ s5 = .int .i64 k ∧ k ≤ s.size ∧ s.size - k ≤ kx ∧ Hid (∃ f acc, s.size < k + f ∧ acc.length ≤ k ∧ scanF f (by8 s) k acc = R ∧ IsW wr w'.heap.size s (.slice ml.2.1 ml.1 ml.2.2) acc ∧ Below w'.heap.size w' wr))
  case atStart => exact ⟨a0, (0, none, 0), rfl, rfl, h00, by omega, (⟨s.size + 1, [], by omega, Nat.zero_le _, HR0.out, isW_nil _ _ _, Below.refl _ _⟩ : ∃ f acc, s.size < a0 + f ∧ acc.length ≤ a0 ∧ scanF f (by8 s) a0 acc = R ∧ IsW w' w'.heap.size s (.slice none 0 0) acc ∧ Below w'.heap.size w' w')⟩
  case round =>
    obtain ⟨k, ⟨nl, al, cl⟩, rfl, rfl, hk, hg, J⟩ := hrel
    simp only at J
    by_cases hlt : k < s.size
    · have hl : k < (by8 s).length := by rw [HL.out]; exact hlt
      have HW : Hid (∀ W : World, Calls Tryz.prog 80 #[.string s, .int .i64 k] W fun e w' => e = ansW (wordP (by8 s) k) ∧ w' = W) := fun W => word_calls s k W hlt hs
      have hwr := wordP_range hl
      rw [HL.out] at hwr
      by_cases hz : (wordP (by8 s) k).1 = 0
      · have HR2 : Hid (R = ([], (k : Int))) := by
          obtain ⟨f, acc, hf, -, he, -⟩ := J.out
          obtain ⟨f, rfl⟩ : ∃ g, f = g + 1 := ⟨f - 1, by omega⟩
          rw [scan_bad hl hz] at he
          exact he.symm
        have HB : Hid (Below w'.heap.size w' wr) := by obtain ⟨f, acc, -, -, -, -, hb⟩ := J.out; exact hb
        have HW2 : Hid (∀ W : World, Calls Tryz.prog 80 #[.string s, .int .i64 k] W fun e w' => e = .returned (.tuple #[.int .i64 0, .int .i64 (wordP (by8 s) k).2]) ∧ w' = W) := fun W => by
          have := HW.out W
          unfold ansW at this
          rwa [hz] at this
        generalize (wordP (by8 s) k).2 = e0 at HW2
        clear HW J hwr hz hl
        go_wp2_with (go_at_call 80; refine (HW2.out _).mono ?_; rintro e w' ⟨rfl, rfl⟩)
        go_ret2
        exact ⟨_, by rw [HR2.out]; rfl, by rw [HR2.out]; exact isW_nil _ _ _, HB.out⟩
      · have hZ : (((wordP (by8 s) k).1 : Int) == 0) = false := by simpa using hz
        have hadv := hwr.2.2.1 hz
        have hle := hwr.2.1
        have HSk : Hid (∀ W : World, Calls Tryz.prog 79 #[.string s, .int .i64 (wordP (by8 s) k).2] W fun e w' => e = .returned (.int .i64 (skip (by8 s) (wordP (by8 s) k).2)) ∧ w' = W) := fun W => skip_calls s _ W hle hs
        have hsk := skip_le (l := by8 s) (i := (wordP (by8 s) k).2) (by rw [HL.out]; exact hle)
        rw [HL.out] at hsk
        have J2 : Hid (∃ f acc, s.size < skip (by8 s) (wordP (by8 s) k).2 + f ∧ acc.length ≤ k ∧ scanF f (by8 s) (skip (by8 s) (wordP (by8 s) k).2) (acc ++ [((wordP (by8 s) k).1, k, (wordP (by8 s) k).2)]) = R ∧ IsW wr w'.heap.size s (.slice al nl cl) acc ∧ Below w'.heap.size w' wr) := by
          obtain ⟨f, acc, hf, ha, he, hI, hB⟩ := J.out
          obtain ⟨f, rfl⟩ : ∃ g, f = g + 1 := ⟨f - 1, by omega⟩
          rw [scan_next hl hz] at he
          exact ⟨f, acc, by omega, ha, he, hI, hB⟩
        have HW2 : Hid (∀ W : World, Calls Tryz.prog 80 #[.string s, .int .i64 k] W fun e w' => e = .returned (.tuple #[.int .i64 (wordP (by8 s) k).1, .int .i64 (wordP (by8 s) k).2]) ∧ w' = W) := HW.out
        have HC : Hid (∀ W : World, Calls Tryz.prog 81 #[.string (s.extract k (wordP (by8 s) k).2)] W fun e w' => e = .returned (.string (s.extract k (wordP (by8 s) k).2)) ∧ Below W.heap.size W w') := fun W => clone_calls _ W (by have := extract_size s k (wordP (by8 s) k).2; omega)
        generalize skip (by8 s) (wordP (by8 s) k).2 = a1 at HSk hsk J2
        generalize wordP (by8 s) k = pr at HW2 hZ hadv hle HSk hsk J2 HC
        obtain ⟨K, e0⟩ := pr
        simp only at HW2 hZ hadv hle HSk hsk J2 HC
        clear HW J hwr hz hl
        go_wp2_with fail
        refine (HW2.out _).mono ?_
        rintro e w9 ⟨rfl, rfl⟩
        go_wp2_with fail
        refine (HC.out _).mono ?_
        rintro e w1 ⟨rfl, hB1⟩
        have HA : Hid (∃ ao n c w2 f acc, (Builtin.append_ #[94, 94] 94 #[.slice al nl cl, .slice (some ⟨w1.heap.size, 0, none⟩) 1 1]).run Tryz.prog (w1.alloc (.cells #[.int .i64 K, .string (s.extract k e0), .int .i64 k] 109)) = .ok (.slice ao n c) w2 ∧
            s.size < a1 + f ∧ acc.length ≤ a1 ∧ scanF f (by8 s) a1 acc = R ∧ IsW w2 w'.heap.size s (.slice ao n c) acc ∧ Below w'.heap.size w' w2) := by
          obtain ⟨f, acc, hf, ha, he, hI, hB⟩ := J2.out
          have hb := hB.size
          obtain ⟨ao, n, c, w2, hr, h2, h3⟩ := (hI.below hB1).add (by have := hB1.size; omega) (by omega) K k e0
          exact ⟨ao, n, c, w2, f, acc ++ [(K, k, e0)], hr, hf, by rw [List.length_append]; simp; omega, he, h2, (hB.trans (hB1.mono hb)).trans h3⟩
        clear J2 HC HW2 hB1
        obtain ⟨a2, n2, c2, w2, f2, acc2, hr, J3'⟩ := HA.out
        have J3 : Hid (s.size < a1 + f2 ∧ acc2.length ≤ a1 ∧ scanF f2 (by8 s) a1 acc2 = R ∧ IsW w2 w'.heap.size s (.slice a2 n2 c2) acc2 ∧ Below w'.heap.size w' w2) := J3'
        clear HA J3'
        go_wp2_with (first | (at_builtin; refine Lib.wpList_append_run _ rfl _ _ _ _ rfl _ _ rfl rfl _ _ hr ?_) | (go_at_call 79; refine (HSk.out _).mono ?_; rintro e w9 ⟨rfl, rfl⟩))
        go_roundg (s.size - a1)
        case measure => omega
        case rel => exact ⟨a1, (n2, a2, c2), rfl, rfl, hsk.2, Nat.le_refl _, (⟨f2, acc2, J3.out⟩ : ∃ f acc, s.size < a1 + f ∧ acc.length ≤ a1 ∧ scanF f (by8 s) a1 acc = R ∧ IsW _ w'.heap.size s (.slice a2 n2 c2) acc ∧ Below w'.heap.size w' _)⟩
    · obtain rfl : k = s.size := by omega
      have HA : Hid (∃ ao n c w2, (Builtin.append_ #[94, 94] 94 #[.slice al nl cl, .slice (some ⟨wr.heap.size, 0, none⟩) 1 1]).run Tryz.prog (wr.alloc (.cells #[.int .i64 5, .string ⟨#[]⟩, .int .i64 s.size] 109)) = .ok (.slice ao n c) w2 ∧
          R.2 = -1 ∧ IsW w2 w'.heap.size s (.slice ao n c) R.1 ∧ Below w'.heap.size w' w2) := by
        obtain ⟨f, acc, hf, ha, he, hI, hB⟩ := J.out
        obtain ⟨f, rfl⟩ : ∃ g, f = g + 1 := ⟨f - 1, by omega⟩
        rw [scan_out (by rw [HL.out]; exact Nat.le_refl _), HL.out] at he
        have hb := hB.size
        obtain ⟨ao, n, c, w2, hr, h2, h3⟩ := hI.add hb (by omega) 5 s.size s.size
        rw [extract_end] at hr
        exact ⟨ao, n, c, w2, hr, by rw [← he], by rw [← he]; exact h2, hB.trans h3⟩
      clear J
      obtain ⟨a2, n2, c2, w2, hr, J3'⟩ := HA.out
      have J3 : Hid (R.2 = -1 ∧ IsW w2 w'.heap.size s (.slice a2 n2 c2) R.1 ∧ Below w'.heap.size w' w2) := J3'
      clear HA J3'
      go_wp2_with (at_builtin; refine Lib.wpList_append_run _ rfl _ _ _ _ rfl _ _ rfl rfl _ _ hr ?_)
      go_ret2
      exact ⟨_, by rw [J3.out.1]; rfl, J3.out.2.1, J3.out.2.2⟩

theorem own_slice {w : World} {base k n : Nat} {E : TypeId} {v : Value} {cs : List Value} (h : w.ownsRow base E k v n cs) :
    ∃ ao cap, v = .slice ao n cap ∧ n ≤ cap ∧ cap ≤ maxLen ∧ ((ao = none ∧ n = 0 ∧ cap = 0) ∨ ∃ g, ao = some ⟨g, 0, none⟩) := by
  rcases h.2 with ⟨rfl, rfl⟩ | ⟨g, cap, cur, rfl, hg, hh, hn, hm, hs, ht⟩
  · exact ⟨none, 0, rfl, Nat.le_refl _, Nat.zero_le _, .inl ⟨rfl, rfl, rfl⟩⟩
  · exact ⟨some ⟨g, 0, none⟩, cap, rfl, hn, hm, .inr ⟨g, rfl⟩⟩

theorem cellsW_at (s : ByteArray) : ∀ (ws : List (Nat × Nat × Nat)) (i : Nat) (x : Nat × Nat × Nat), ws[i]? = some x →
    (cellsW s ws)[i * 3]? = some (.int .i64 x.1) ∧ (cellsW s ws)[i * 3 + 1]? = some (.string (s.extract x.2.1 x.2.2)) ∧ (cellsW s ws)[i * 3 + 2]? = some (.int .i64 x.2.1)
  | [], i, x, h => by cases h
  | y :: r, 0, x, h => by
    cases h
    exact ⟨rfl, rfl, rfl⟩
  | y :: r, i + 1, x, h => by
    have := cellsW_at s r i x h
    have e : cellsW s (y :: r) = wcells s y ++ cellsW s r := rfl
    have hl : (wcells s y).length = 3 := rfl
    rw [e, List.getElem?_append_right (by omega), List.getElem?_append_right (by omega), List.getElem?_append_right (by omega), hl]
    rw [show (i + 1) * 3 - 3 = i * 3 by omega, show (i + 1) * 3 + 1 - 3 = i * 3 + 1 by omega, show (i + 1) * 3 + 2 - 3 = i * 3 + 2 by omega]
    exact this

/-- A word of a slice of words. -/
theorem IsW.at {w : World} {base : Nat} {s : ByteArray} {g n cap : Nat} {ws : List (Nat × Nat × Nat)} (h : IsW w base s (.slice (some ⟨g, 0, none⟩) n cap) ws) {i : Nat} {x : Nat × Nat × Nat} (hx : ws[i]? = some x) :
    w.cell? ⟨g, i * 3, none⟩ = some (.int .i64 x.1) ∧ w.cell? ⟨g, i * 3 + 1, none⟩ = some (.string (s.extract x.2.1 x.2.2)) ∧ w.cell? ⟨g, i * 3 + 2, none⟩ = some (.int .i64 x.2.1) := by
  obtain ⟨c0, c1, c2⟩ := cellsW_at s ws i x hx
  have hc := World.ownsRow.cells h (g := g) rfl
  refine ⟨?_, ?_, ?_⟩
  · have := hc _ _ c0; rwa [Addr.add_lit, Nat.zero_add] at this
  · have := hc _ _ c1; rwa [Addr.add_lit, Nat.zero_add] at this
  · have := hc _ _ c2; rwa [Addr.add_lit, Nat.zero_add] at this


end Go.Proofs.YtebehlmidoencaaGreatDoor

/-
  The walks of Cut, of both functions that tell a name, and of Digits.
-/
namespace Go.Proofs.YtebehlmidoencaaGreatDoor
open Go.RowKit

set_option maxRecDepth 20000

/-- The first n bytes. -/
def cutS (s : ByteArray) (n : Nat) : ByteArray := if n < s.size then s.extract 0 n else s

theorem cutS_size (s : ByteArray) (n : Nat) : (cutS s n).size ≤ n := by
  unfold cutS
  split
  · rw [← by8_length, by8_extract]; unfold part; simp; omega
  · omega

theorem cut_calls (s : ByteArray) (n : Nat) (w : World) : Calls Tryz.prog 19 #[.string s, .int .i64 n] w fun e w' => e = .returned (.string (cutS s n)) ∧ w' = w := by
  by_cases h : n < s.size
  · have H : Hid (cutS s n = s.extract 0 n) := by show _ = _; unfold cutS; rw [if_pos h]
    generalize cutS s n = r at H
    go_enter Tryz.func19, Tryz.ntmps19
    go_wp2
    go_ret
    exact ⟨by rw [H.out]; rfl, rfl⟩
  · have H : Hid (cutS s n = s) := by show _ = _; unfold cutS; rw [if_neg h]
    generalize cutS s n = r at H
    go_enter Tryz.func19, Tryz.ntmps19
    go_wp2
    go_ret
    exact ⟨by rw [H.out]; rfl, rfl⟩

theorem empty_toList (s : ByteArray) : (s.toList == []) = (by8 s == []) := by rw [by8_toList]

set_option maxHeartbeats 2000000 in
theorem lname_calls (s : ByteArray) (w : World) (hs : s.size ≤ 1048576) : Calls Tryz.prog 63 #[.string s] w fun e w' => e = .returned (.bool (nameOk (by8 s))) ∧ w' = w := by
  have HL : Hid ((by8 s).length = s.size) := by8_length s
  by_cases h0 : (by8 s == []) = true
  · have h1 : (s.toList == []) = true := by rw [empty_toList]; exact h0
    have H : Hid (nameOk (by8 s) = false) := by show _ = _; unfold nameOk; rw [h0]; rfl
    generalize nameOk (by8 s) = r at H
    clear h0
    go_enter Tryz.func63, Tryz.ntmps63
    go_wp2
    go_ret
    exact ⟨by rw [H.out]; rfl, rfl⟩
  · have h0 : (by8 s == []) = false := by simpa using h0
    have h1 : (s.toList == []) = false := by rw [empty_toList]; exact h0
    have hp : 0 < s.size := by
      rw [← HL.out]
      have : by8 s ≠ [] := by simpa using h0
      exact List.length_pos_iff.2 this
    have hix := run_index_bt s 0 hp
    have hix' : ∀ W : World, (Instr.index 9 (.string s) (.int .i64 0)).run Tryz.prog W = .ok (.int .u8 (bt (by8 s) 0)) W := hix
    by_cases h2 : isL (bt (by8 s) 0) = true
    · have H : Hid (nameOk (by8 s) = ((((runEnd isN (by8 s) 0 : Nat) : Int) == (s.size : Int)) && decide ((s.size : Int) ≤ 12))) := by show _ = _; unfold nameOk; rw [h0, h2, HL.out]; rfl
      have HE : Hid (∀ W : World, Calls Tryz.prog 74 #[.string s, .int .i64 0] W fun e w' => e = .returned (.int .i64 (runEnd isN (by8 s) 0)) ∧ w' = W) := fun W => nameEnd_calls s 0 W (Nat.zero_le _) hs
      generalize runEnd isN (by8 s) 0 = m at H HE
      generalize bt (by8 s) 0 = c at hix' h2
      generalize nameOk (by8 s) = r at H
      clear h0 hix
      by_cases h3 : ((m : Int) == (s.size : Int)) = true
      · have H2 : Hid (r = decide ((s.size : Int) ≤ 12)) := by have := H.out; rwa [h3, Bool.true_and] at this
        clear H
        go_enter Tryz.func63, Tryz.ntmps63
        go_wp2_with (first | (go_at_call 73; refine (begins_calls _ _).mono ?_; rintro e w' ⟨rfl, rfl⟩; rw [h2]) | (go_at_call 74; refine (HE.out _).mono ?_; rintro e w' ⟨rfl, rfl⟩))
        go_ret
        exact ⟨by rw [H2.out]; rfl, rfl⟩
      · have h3 : ((m : Int) == (s.size : Int)) = false := by simpa using h3
        have H2 : Hid (r = false) := by have := H.out; rwa [h3, Bool.false_and] at this
        clear H
        go_enter Tryz.func63, Tryz.ntmps63
        go_wp2_with (first | (go_at_call 73; refine (begins_calls _ _).mono ?_; rintro e w' ⟨rfl, rfl⟩; rw [h2]) | (go_at_call 74; refine (HE.out _).mono ?_; rintro e w' ⟨rfl, rfl⟩))
        go_ret
        exact ⟨by rw [H2.out]; rfl, rfl⟩
    · have h2 : isL (bt (by8 s) 0) = false := by simpa using h2
      have H : Hid (nameOk (by8 s) = false) := by show _ = _; unfold nameOk; rw [h2]; simp
      generalize bt (by8 s) 0 = c at hix' h2
      generalize nameOk (by8 s) = r at H
      clear h0 hix
      go_enter Tryz.func63, Tryz.ntmps63
      go_wp2_with (go_at_call 73; refine (begins_calls _ _).mono ?_; rintro e w' ⟨rfl, rfl⟩; rw [h2])
      go_ret
      exact ⟨by rw [H.out]; rfl, rfl⟩

/-- Of a name no byte is another one. -/
theorem nameOk_not {l : List UInt8} {i : Nat} (hi : i < l.length) (h1 : isL (bt l i) = false) (h2 : i = 0 ∨ isD (bt l i) = false) : nameOk l = false := by
  unfold nameOk
  rcases h2 with rfl | h2
  · rw [h1]; simp
  · have : (((runEnd isN l 0 : Nat) : Int) == (l.length : Int)) = false := by
      rw [beq_eq_false_iff_ne]
      intro e
      have := runEnd_in (p := isN) l.length 0 (by omega) (by omega) i (Nat.zero_le _) hi
      unfold isN at this
      rw [h1, h2] at this
      cases this
    rw [this]; simp

theorem nameOk_all {l : List UInt8} (h : ∀ i, i < l.length → isL (bt l i) = true ∨ (i ≠ 0 ∧ isD (bt l i) = true)) : nameOk l = (decide ((1 : Int) ≤ (l.length : Int)) && decide ((l.length : Int) ≤ 12)) := by
  unfold nameOk
  cases l with
  | nil => simp
  | cons a r =>
    have h0 : isL (bt (a :: r) 0) = true := by
      rcases h 0 (by simp) with h | h
      · exact h
      · exact absurd rfl h.1
    have hr : runEnd isN (a :: r) 0 = (a :: r).length := runEnd_all (a :: r).length 0 (by omega) (fun j _ hj => by
      unfold isN
      rcases h j hj with h | h
      · rw [h]; rfl
      · rw [h.2]; simp)
    rw [h0, hr]
    have h1 : (1 : Int) ≤ ((a :: r).length : Int) := by simp; omega
    rw [decide_eq_true h1]
    simp

set_option maxHeartbeats 2000000 in
theorem rname_calls (s : ByteArray) (w : World) (hs : s.size ≤ 1048576) : Calls Tryz.prog 16 #[.string s] w fun e w' => e = .returned (.bool (nameOk (by8 s))) ∧ w' = w := by
  have HL : Hid ((by8 s).length = s.size) := by8_length s
  obtain ⟨r, HR⟩ : ∃ r, Hid (nameOk (by8 s) = r) := ⟨_, rfl⟩
  rw [HR.out]
  go_enter Tryz.func16, Tryz.ntmps16
  go_wp2
  go_loop [3] (fun v => ∃ k : Nat, k ≤ s.size ∧ v = .int .i64 k ∧ Hid (∀ i, i < k → isL (bt (by8 s) i) = true ∨ (i ≠ 0 ∧ isD (bt (by8 s) i) = true))) (fun v => s.size - (intOf v).toNat)
  case atStart => exact ⟨0, Nat.zero_le _, rfl, (fun i hi => absurd hi (Nat.not_lt_zero _) : ∀ i, i < 0 → isL (bt (by8 s) i) = true ∨ (i ≠ 0 ∧ isD (bt (by8 s) i) = true))⟩
  case round =>
    obtain ⟨k, hk, rfl, J⟩ := hrel
    by_cases hlt : k < s.size
    · have hix := run_index_bt s k hlt
      have hl : k < (by8 s).length := by rw [HL.out]; exact hlt
      by_cases h1 : isL (bt (by8 s) k) = true
      · have J2 : Hid (∀ i, i < k + 1 → isL (bt (by8 s) i) = true ∨ (i ≠ 0 ∧ isD (bt (by8 s) i) = true)) := fun i hi => by
          rcases Nat.lt_or_ge i k with h | h
          · exact J.out i h
          · rw [show i = k by omega]; exact .inl h1
        generalize bt (by8 s) k = c at hix h1
        clear hl J
        go_wp2_with (go_at_call 38; refine (letter_calls _ _).mono ?_; rintro e w' ⟨rfl, rfl⟩; rw [h1])
        go_round
        case rel => exact ⟨k + 1, by omega, by go_num, J2⟩
        case measure => simp [intOf]; omega
      · have h1 : isL (bt (by8 s) k) = false := by simpa using h1
        by_cases h0 : k = 0
        · have HF : Hid (r = false) := by show _ = _; rw [← HR.out]; exact nameOk_not hl h1 (.inl h0)
          generalize bt (by8 s) k = c at hix h1
          have hz : ((k : Int) == 0) = true := by simpa using h0
          clear hl J h0
          go_wp2_with (go_at_call 38; refine (letter_calls _ _).mono ?_; rintro e w' ⟨rfl, rfl⟩; rw [h1])
          go_ret
          exact ⟨by rw [HF.out]; rfl, rfl⟩
        · have hz : ((k : Int) == 0) = false := by simpa using h0
          by_cases h2 : isD (bt (by8 s) k) = true
          · have J2 : Hid (∀ i, i < k + 1 → isL (bt (by8 s) i) = true ∨ (i ≠ 0 ∧ isD (bt (by8 s) i) = true)) := fun i hi => by
              rcases Nat.lt_or_ge i k with h | h
              · exact J.out i h
              · rw [show i = k by omega]; exact .inr ⟨h0, h2⟩
            generalize bt (by8 s) k = c at hix h1 h2
            clear hl J h0
            go_wp2_with (first | (go_at_call 38; refine (letter_calls _ _).mono ?_; rintro e w' ⟨rfl, rfl⟩; rw [h1]) | (go_at_call 39; refine (rdigit_calls _ _).mono ?_; rintro e w' ⟨rfl, rfl⟩; rw [h2]))
            go_round
            case rel => exact ⟨k + 1, by omega, by go_num, J2⟩
            case measure => simp [intOf]; omega
          · have h2 : isD (bt (by8 s) k) = false := by simpa using h2
            have HF : Hid (r = false) := by show _ = _; rw [← HR.out]; exact nameOk_not hl h1 (.inr h2)
            generalize bt (by8 s) k = c at hix h1 h2
            clear hl J h0
            go_wp2_with (first | (go_at_call 38; refine (letter_calls _ _).mono ?_; rintro e w' ⟨rfl, rfl⟩; rw [h1]) | (go_at_call 39; refine (rdigit_calls _ _).mono ?_; rintro e w' ⟨rfl, rfl⟩; rw [h2]))
            go_ret
            exact ⟨by rw [HF.out]; rfl, rfl⟩
    · obtain rfl : k = s.size := by omega
      have HF : Hid (r = (decide ((1 : Int) ≤ (s.size : Int)) && decide ((s.size : Int) ≤ 12))) := by
        show _ = _
        rw [← HR.out, nameOk_all (by rw [HL.out]; exact J.out), HL.out]
      clear J
      by_cases h1 : (1 : Int) ≤ (s.size : Int)
      · have HF2 : Hid (r = decide ((s.size : Int) ≤ 12)) := by have := HF.out; rwa [decide_eq_true h1, Bool.true_and] at this
        clear HF
        go_wp2
        go_ret
        exact ⟨by rw [HF2.out]; rfl, rfl⟩
      · have HF2 : Hid (r = false) := by have := HF.out; rwa [decide_eq_false h1, Bool.false_and] at this
        clear HF
        go_wp2
        go_ret
        exact ⟨by rw [HF2.out]; rfl, rfl⟩

end Go.Proofs.YtebehlmidoencaaGreatDoor

/-
  The walk of Digits: a number's digits, in new memory.
-/
namespace Go.Proofs.YtebehlmidoencaaGreatDoor
open Go.RowKit

set_option maxRecDepth 20000

/-- A text of one byte. -/
def one8 (b : UInt8) : ByteArray := ⟨#[b]⟩

theorem run_one (W : World) (x : Int) : (convert 42 9 (.slice (some ⟨W.heap.size, 0, none⟩) 1 1)).run Tryz.prog (W.alloc (.cells #[.int .u8 x] 5)) = .ok (.string (one8 (UInt8.ofNat x.toNat))) (W.alloc (.cells #[.int .u8 x] 5)) := by
  have := run_convert_bytes_arg (P := Tryz.prog) (W.alloc (.cells #[.int .u8 x] 5)) 42 5 Tryz.underlying42 Tryz.underlying5 W.heap.size 0 1 1 [x] rfl (fun j hj => by
    obtain rfl : j = 0 := by omega
    rw [World.cell?_alloc_mark]; rfl) 9 Tryz.underlying9
  rw [this]
  rfl

theorem by8_append (a b : ByteArray) : by8 (a ++ b) = by8 a ++ by8 b := by
  unfold by8
  rw [ByteArray.data_append, Array.toList_append]

/-- What lays a text of one byte, for a walk. -/
theorem run_one_at (wr : World) (x : Nat) : ∃ d, (convert 42 9 (.slice (some ⟨wr.heap.size, 0, none⟩) 1 1)).run Tryz.prog (wr.alloc (.cells #[.int .u8 (x : Int)] 5)) = .ok (.string d) (wr.alloc (.cells #[.int .u8 (x : Int)] 5)) ∧
    d.size = 1 ∧ by8 d = [UInt8.ofNat x] := ⟨_, run_one wr x, rfl, rfl⟩

end Go.Proofs.YtebehlmidoencaaGreatDoor

/-
  The walk of the look that each law opens with: it holds.
-/
namespace Go.Proofs.YtebehlmidoencaaGreatDoor
open Go.RowKit

set_option maxRecDepth 20000

/-- The two texts of that look. -/
def txt1 : ByteArray := ⟨#[37, 116, 111, 107, 101, 110, 32, 65, 32, 47, 47, 32, 120, 10, 37, 37, 32, 115, 58, 32, 65, 32, 49, 50, 59]⟩
def txt2 : ByteArray := ⟨#[97, 32, 37, 102, 111, 111]⟩

theorem scan1 : scan (by8 txt1) = ([(4, 0, 6), (1, 7, 8), (4, 14, 16), (1, 17, 18), (3, 18, 19), (1, 20, 21), (2, 22, 24), (3, 24, 25), (5, 25, 25)], -1) := by kernel_rfl
theorem scan2 : scan (by8 txt2) = ([], 2) := by kernel_rfl
theorem text1 : ((txt1.extract 0 6).toList == [37, 116, 111, 107, 101, 110]) = true := by rw [by8_toList, by8_extract]; kernel_rfl
theorem text2 : ((txt1.extract 14 16).toList == [37, 37]) = true := by rw [by8_toList, by8_extract]; kernel_rfl
theorem name1 : nameOk (by8 ⟨#[97, 95, 49]⟩) = true := by kernel_rfl
theorem name2 : nameOk (by8 ⟨#[49, 97]⟩) = false := by kernel_rfl

set_option maxHeartbeats 4000000 in
set_option maxRecDepth 20000 in
theorem begun_calls (w : World) : Calls Tryz.prog 111 #[] w fun e w' => e = .returned (.bool true) ∧ Below w.heap.size w w' := by
  have H1 : Hid (Calls Tryz.prog 69 #[.string txt1] w fun e w' => Scanned txt1 w w' e) := scan_calls txt1 w (by decide)
  have H2 : Hid (∀ W : World, Calls Tryz.prog 69 #[.string txt2] W fun e w' => Scanned txt2 W w' e) := fun W => scan_calls txt2 W (by decide)
  unfold Scanned at H1 H2
  rw [scan1] at H1
  rw [scan2] at H2
  simp only at H1 H2
  have N1 : Hid (∀ W : World, Calls Tryz.prog 63 #[.string ⟨#[97, 95, 49]⟩] W fun e w' => e = .returned (.bool true) ∧ w' = W) := fun W => by
    have := lname_calls ⟨#[97, 95, 49]⟩ W (by decide)
    rwa [name1] at this
  have N2 : Hid (∀ W : World, Calls Tryz.prog 63 #[.string ⟨#[49, 97]⟩] W fun e w' => e = .returned (.bool false) ∧ w' = W) := fun W => by
    have := lname_calls ⟨#[49, 97]⟩ W (by decide)
    rwa [name2] at this
  go_enter Tryz.func111, Tryz.ntmps111
  go_wp2_with fail
  refine H1.out.mono ?_
  rintro e w1 ⟨v1, rfl, hI1, hB1⟩
  have J1 : Hid (IsW w1 w.heap.size txt1 v1 [(4, 0, 6), (1, 7, 8), (4, 14, 16), (1, 17, 18), (3, 18, 19), (1, 20, 21), (2, 22, 24), (3, 24, 25), (5, 25, 25)] ∧ Below w.heap.size w w1) := ⟨hI1, hB1⟩
  clear hI1 hB1
  go_wp2_with fail
  refine (H2.out _).mono ?_
  rintro e w2 ⟨v2, rfl, hI2, hB2⟩
  have J2 : Hid (IsW w2 w.heap.size txt1 v1 [(4, 0, 6), (1, 7, 8), (4, 14, 16), (1, 17, 18), (3, 18, 19), (1, 20, 21), (2, 22, 24), (3, 24, 25), (5, 25, 25)] ∧ Below w.heap.size w w2) := ⟨J1.out.1.below hB2, below_step J1.out.2 hB2⟩
  clear J1 hI2 hB2 H1 H2
  obtain ⟨a1, c1, rfl, hn1, hm1, hs1⟩ := own_slice J2.out.1
  have hm1 : c1 ≤ 9223372036854775807 := by unfold maxLen at hm1; omega
  obtain ⟨g, rfl⟩ : ∃ g, a1 = some ⟨g, 0, none⟩ := hs1.elim (fun h => absurd h.2.1 (by decide)) id
  obtain ⟨p00, p01, -⟩ := J2.out.1.at (i := 0) (x := (4, 0, 6)) rfl
  obtain ⟨-, p21, p22⟩ := J2.out.1.at (i := 2) (x := (4, 14, 16)) rfl
  obtain ⟨p40, -, -⟩ := J2.out.1.at (i := 4) (x := (3, 18, 19)) rfl
  obtain ⟨p60, -, -⟩ := J2.out.1.at (i := 6) (x := (2, 22, 24)) rfl
  obtain ⟨p80, -, -⟩ := J2.out.1.at (i := 8) (x := (5, 25, 25)) rfl
  have t1 := text1
  have t2 := text2
  simp only at p00 p01 p21 p22 p40 p60 p80
  generalize txt1.extract 0 6 = x1 at p01 t1
  generalize txt1.extract 14 16 = x2 at p21 t2
  have HB : Hid (Below w.heap.size w w2) := J2.out.2
  clear hs1 J2
  have p00 : w2.cell? ⟨g, 0, none⟩ = some (.int .i64 4) := p00
  have p01 : w2.cell? ⟨g, 1, none⟩ = some (.string x1) := p01
  have p21 : w2.cell? ⟨g, 7, none⟩ = some (.string x2) := p21
  have p22 : w2.cell? ⟨g, 8, none⟩ = some (.int .i64 14) := p22
  have p40 : w2.cell? ⟨g, 12, none⟩ = some (.int .i64 3) := p40
  have p60 : w2.cell? ⟨g, 18, none⟩ = some (.int .i64 2) := p60
  have p80 : w2.cell? ⟨g, 24, none⟩ = some (.int .i64 5) := p80
  simp only [List.length_cons, List.length_nil] at hn1 ⊢
  go_wp2_with fail
  refine (N1.out _).mono ?_
  rintro e w7 ⟨rfl, rfl⟩
  go_wp2_with fail
  refine (N2.out _).mono ?_
  rintro e w8 ⟨rfl, rfl⟩
  go_wp2_with fail
  go_ret
  exact ⟨rfl, HB.out⟩

end Go.Proofs.YtebehlmidoencaaGreatDoor

/-
  Grammars as plain data: which may be, in what words they are written.
-/
namespace Go.Proofs.YtebehlmidoencaaGreatDoor
open Go.RowKit

/-- A token, a rule, a grammar. -/
structure Tk where
  n : ByteArray
  l : Int
  a : Int
structure Ru where
  l : ByteArray
  r : List ByteArray
  p : ByteArray
structure Gm where
  ts : List Tk
  s : ByteArray
  e : Int
  rs : List Ru

theorem by8_inj {a b : ByteArray} (h : by8 a = by8 b) : a = b := by
  apply ByteArray.ext
  exact Array.toList_inj.1 h

theorem toList_beq (a b : ByteArray) : (a.toList == b.toList) = true ↔ a = b := by
  rw [by8_toList, by8_toList]
  constructor
  · intro h; exact by8_inj (by simpa using h)
  · rintro rfl; simp

theorem toList_beq_ne {a b : ByteArray} (h : a ≠ b) : (a.toList == b.toList) = false := by
  cases hb : (a.toList == b.toList)
  · rfl
  · exact absurd ((toList_beq a b).1 hb) h

theorem toList_beq_eq {a b : ByteArray} (h : a = b) : (a.toList == b.toList) = true := (toList_beq a b).2 h

theorem toList_nil (a : ByteArray) : (a.toList == []) = true ↔ a = ⟨#[]⟩ := by
  have := toList_beq a ⟨#[]⟩
  have e : (⟨#[]⟩ : ByteArray).toList = [] := by rw [by8_toList]; rfl
  rwa [e] at this

/-- A name; a name or nothing. -/
def NameP (s : ByteArray) : Prop := nameOk (by8 s) = true
def NoneP (s : ByteArray) : Prop := s = ⟨#[]⟩ ∨ NameP s

/-- A token's level and kind by themselves. -/
def LevP (t : Tk) : Prop := (t.l = 0 ∧ t.a = 0) ∨ (1 ≤ t.l ∧ t.l ≤ 8 ∧ 1 ≤ t.a ∧ t.a ≤ 3)

def decLevP (t : Tk) : Decidable (LevP t) := inferInstanceAs (Decidable ((t.l = 0 ∧ t.a = 0) ∨ (1 ≤ t.l ∧ t.l ≤ 8 ∧ 1 ≤ t.a ∧ t.a ≤ 3)))
def levB (t : Tk) : Bool := haveI := decLevP t; decide (LevP t)
theorem levB_iff {t : Tk} : levB t = true ↔ LevP t := @decide_eq_true_iff (LevP t) (decLevP t)
theorem levB_not {t : Tk} (h : ¬ LevP t) : levB t = false := @decide_eq_false (LevP t) (decLevP t) h

/-- The kinds of all levels, told token by token: none where two do not go together. -/
def at9 (l : List Int) (i : Int) : Int := (l[i.toNat]?).getD 0
def levS (o : Option (List Int)) (t : Tk) : Option (List Int) :=
  match o with
  | none => none
  | some l => haveI := decLevP t; if LevP t ∧ (at9 l t.l = 0 ∨ at9 l t.l = t.a) then some (l.set t.l.toNat t.a) else none
def zero9 : List Int := [0, 0, 0, 0, 0, 0, 0, 0, 0]
def levF (ts : List Tk) : Option (List Int) := ts.foldl levS (some zero9)

theorem levS_none (ts : List Tk) : ts.foldl levS none = none := by
  induction ts with
  | nil => rfl
  | cons t r ih => exact ih

theorem levF_snoc (ts : List Tk) (t : Tk) : levF (ts ++ [t]) = levS (levF ts) t := by unfold levF; rw [List.foldl_append]; rfl

theorem take_succ {α : Type} {l : List α} {k : Nat} {x : α} (h : l[k]? = some x) : l.take (k + 1) = l.take k ++ [x] := by
  rw [List.take_add_one, h]; rfl

theorem levF_bad {ts : List Tk} {k : Nat} (h : levF (ts.take k) = none) : levF ts = none := by
  conv => lhs; rw [← List.take_append_drop k ts]
  unfold levF at h ⊢
  rw [List.foldl_append, h, levS_none]

theorem levS_length {l l' : List Int} {t : Tk} (h : levS (some l) t = some l') (hl : l.length = 9) : l'.length = 9 := by
  unfold levS at h
  simp only at h
  split at h
  · cases h; simpa using hl
  · cases h

theorem levS_fold : ∀ (ts : List Tk) (l l' : List Int), l.length = 9 → ts.foldl levS (some l) = some l' → l'.length = 9
  | [], l, l', hl, h => by cases h; exact hl
  | t :: r, l, l', hl, h => by
    have h : r.foldl levS (levS (some l) t) = some l' := h
    cases hm : levS (some l) t with
    | none => rw [hm, levS_none] at h; cases h
    | some m => rw [hm] at h; exact levS_fold r m l' (levS_length hm hl) h

theorem levF_length {ts : List Tk} {l : List Int} (h : levF ts = some l) : l.length = 9 := levS_fold ts zero9 l rfl h

/-- No level is there without the one below it. -/
def NoGap (l : List Int) : Prop := ∀ k : Nat, 2 ≤ k → k < 9 → (l[k]?).getD 0 ≠ 0 → (l[k - 1]?).getD 0 ≠ 0

def TokP (ts : List Tk) : Prop :=
  (∀ (i : Nat) (t : Tk), ts[i]? = some t → NameP t.n ∧ ∀ (j : Nat) (u : Tk), j < i → ts[j]? = some u → u.n ≠ t.n) ∧ ∃ l, levF ts = some l ∧ NoGap l
def RuleP (r : Ru) : Prop := NameP r.l ∧ r.r.length ≤ 20 ∧ NoneP r.p ∧ ∀ x ∈ r.r, NameP x

/-- What may be. -/
structure MayP (G : Gm) : Prop where
  nt : G.ts.length ≤ 40
  nr : G.rs.length ≤ 100
  e0 : 0 ≤ G.e
  e1 : G.e ≤ 9999
  st : NoneP G.s
  tk : TokP G.ts
  rl : ∀ r ∈ G.rs, RuleP r

/-- What is not too great to be walked. -/
structure Small (G : Gm) : Prop where
  nt : G.ts.length ≤ 100
  nr : G.rs.length ≤ 200
  st : G.s.size ≤ 100
  tk : ∀ t ∈ G.ts, t.n.size ≤ 100
  rl : ∀ r ∈ G.rs, r.l.size ≤ 100 ∧ r.p.size ≤ 100 ∧ r.r.length ≤ 100 ∧ ∀ x ∈ r.r, x.size ≤ 100

end Go.Proofs.YtebehlmidoencaaGreatDoor

/-
  Specs as plain data; what derives tokens alone, what is reached; marks and what is still to be looked at.
-/
namespace Go.Proofs.YtebehlmidoencaaGreatDoor
open Go.RowKit

/-- A rule by numbers, a grammar by numbers. -/
structure SR where
  l : Int
  r : List Nat
  lv : Int
  a : Int
structure Sp where
  tk : Nat
  nt : Nat
  st : Nat
  ex : Int
  nm : List ByteArray
  lv : List Int
  az : List Int
  rs : List SR

structure WF (S : Sp) : Prop where
  nm : S.nm.length = S.tk + 1 + S.nt
  lv : S.lv.length = S.tk
  az : S.az.length = S.tk
  tk : S.tk ≤ 100
  nt : S.nt ≤ 200
  nr : S.rs.length ≤ 300
  hd : S.rs[0]? = some ⟨-1, [S.st], 0, 0⟩
  st : S.tk < S.st ∧ S.st < S.tk + 1 + S.nt
  rl : ∀ (i : Nat) (r : SR), 0 < i → S.rs[i]? = some r → ∃ x : Nat, r.l = (x : Int) ∧ S.tk < x ∧ x < S.tk + 1 + S.nt
  rr : ∀ r ∈ S.rs, r.r.length ≤ 100 ∧ ∀ y ∈ r.r, y < S.tk + 1 + S.nt

/-- It derives a text of tokens alone: it is in every set that holds the tokens and is kept by the rules. -/
def Der (S : Sp) (x : Nat) : Prop := ∀ P : Nat → Prop, (∀ x, x < S.tk → P x) → (∀ (i : Nat) (r : SR) (x : Nat), 0 < i → S.rs[i]? = some r → r.l = (x : Int) → (∀ y ∈ r.r, P y) → P x) → P x
theorem Der.tok {S : Sp} (x : Nat) (h : x < S.tk) : Der S x := fun _ h1 _ => h1 x h
theorem Der.rule {S : Sp} (i : Nat) (r : SR) (x : Nat) (h0 : 0 < i) (hr : S.rs[i]? = some r) (hl : r.l = (x : Int)) (h : ∀ y ∈ r.r, Der S y) : Der S x := fun P h1 h2 => h2 i r x h0 hr hl (fun y hy => h y hy P h1 h2)

/-- It stands in something that the start derives. -/
def Rch (S : Sp) (x : Nat) : Prop := ∀ P : Nat → Prop, P S.st → (∀ (i : Nat) (r : SR) (x y : Nat), 0 < i → S.rs[i]? = some r → r.l = (x : Int) → P x → y ∈ r.r → P y) → P x
theorem Rch.start {S : Sp} : Rch S S.st := fun _ h1 _ => h1
theorem Rch.rule {S : Sp} (i : Nat) (r : SR) (x y : Nat) (h0 : 0 < i) (hr : S.rs[i]? = some r) (hl : r.l = (x : Int)) (h : Rch S x) (hy : y ∈ r.r) : Rch S y := fun P h1 h2 => h2 i r x y h0 hr hl (h P h1 h2) hy

/-- A list tells of each number whether it is so. -/
def Tells (p : Nat → Prop) (l : List Bool) : Prop := ∀ (x : Nat) (b : Bool), l[x]? = some b → (b = true ↔ p x)

theorem tells_eq {p : Nat → Prop} {l m : List Bool} (hl : l.length = m.length) (h : Tells p l) (k : Tells p m) : l = m := by
  apply List.ext_getElem?
  intro i
  rcases Nat.lt_or_ge i l.length with hi | hi
  · have h1 := h i l[i] (List.getElem?_eq_getElem hi)
    have h2 := k i (m[i]'(by omega)) (List.getElem?_eq_getElem _)
    rw [List.getElem?_eq_getElem hi, List.getElem?_eq_getElem (by omega : i < m.length)]
    congr 1
    have h3 := h1.trans h2.symm
    cases hx : l[i] <;> cases hy : m[i]'(by omega) <;> simp_all
  · rw [List.getElem?_eq_none hi, List.getElem?_eq_none (by omega)]

def isF (fd : List Bool) (x : Nat) : Bool := (fd[x]?).getD false
/-- It was looked at. -/
def prc (fd : List Bool) (fr : List Nat) (x : Nat) : Bool := isF fd x && !fr.contains x
/-- So many are still to be looked at. -/
def nU (P : Nat → Bool) (l : List Nat) : Nat := l.countP (fun x => !P x)

theorem isF_lt {fd : List Bool} {x : Nat} (h : isF fd x = true) : x < fd.length := by
  unfold isF at h
  rcases Nat.lt_or_ge x fd.length with hx | hx
  · exact hx
  · rw [List.getElem?_eq_none hx] at h; cases h

theorem isF_at {fd : List Bool} {x : Nat} (h : x < fd.length) : fd[x]? = some (isF fd x) := by
  unfold isF; rw [List.getElem?_eq_getElem h]; rfl

theorem isF_set {fd : List Bool} {x : Nat} (h : x < fd.length) (y : Nat) : isF (fd.set x true) y = if y = x then true else isF fd y := by
  unfold isF
  rw [List.getElem?_set]
  by_cases hy : x = y
  · subst hy; simp [h]
  · rw [if_neg hy, if_neg (fun e => hy e.symm)]

theorem isF_keep {fd : List Bool} {x y : Nat} (h : x < fd.length) (hy : isF fd y = true) : isF (fd.set x true) y = true := by
  rw [isF_set h]; split
  · rfl
  · exact hy

theorem prc_mark {fd : List Bool} {fr : List Nat} {x : Nat} (h : x < fd.length) (hf : isF fd x = false) : prc (fd.set x true) (fr ++ [x]) = prc fd fr := by
  funext y
  unfold prc
  rw [isF_set h]
  by_cases hy : y = x
  · subst hy; simp [hf]
  · rw [if_neg hy]
    have : (fr ++ [x]).contains y = fr.contains y := by simp [hy]
    rw [this]

theorem prc_pop {fd : List Bool} {fr : List Nat} {x : Nat} (hf : isF fd x = true) (hx : x ∉ fr) (y : Nat) : prc fd fr y = if y = x then true else prc fd (fr ++ [x]) y := by
  unfold prc
  by_cases hy : y = x
  · subst hy; simp [hf, hx]
  · rw [if_neg hy]
    have : (fr ++ [x]).contains y = fr.contains y := by simp [hy]
    rw [this]

theorem nU_pop {fd : List Bool} {fr : List Nat} {x : Nat} (hf : isF fd x = true) (hx : x ∉ fr) : ∀ l : List Nat, nU (prc fd (fr ++ [x])) l = nU (prc fd fr) l + l.count x
  | [] => rfl
  | y :: l => by
    have ih := nU_pop hf hx l
    unfold nU at ih ⊢
    rw [List.countP_cons, List.countP_cons, List.count_cons, ih]
    have hp := prc_pop hf hx y
    by_cases hy : y = x
    · subst hy
      rw [if_pos rfl] at hp
      have hq : prc fd (fr ++ [y]) y = false := by unfold prc; simp
      rw [hp, hq]
      simp
      omega
    · rw [if_neg hy] at hp
      rw [hp]
      simp [hy]
      omega

theorem nU_zero {P : Nat → Bool} {l : List Nat} : nU P l = 0 ↔ ∀ x ∈ l, P x = true := by
  unfold nU
  rw [List.countP_eq_zero]
  constructor
  · intro h x hx; have := h x hx; simpa using this
  · intro h x hx; simp [h x hx]

theorem nU_all {P : Nat → Bool} (hP : ∀ x, P x = false) (l : List Nat) : nU P l = l.length := by
  unfold nU
  rw [List.countP_eq_length]
  intro x _
  simp [hP x]

/-- So many are left of all. -/
def lft (n : Nat) (fd : List Bool) (fr : List Nat) : Nat := nU (prc fd fr) (List.range n)

theorem lft_pop {n : Nat} {fd : List Bool} {fr : List Nat} {x : Nat} (hn : x < n) (hf : isF fd x = true) (hx : x ∉ fr) : lft n fd fr < lft n fd (fr ++ [x]) := by
  unfold lft
  rw [nU_pop hf hx]
  have : 0 < (List.range n).count x := List.count_pos_iff.2 (List.mem_range.2 hn)
  omega

/-- Marks and what is still to be looked at. -/
structure MK (n : Nat) (fd : List Bool) (fr : List Nat) : Prop where
  len : fd.length = n
  nd : fr.Nodup
  fd : ∀ x ∈ fr, isF fd x = true

theorem MK.mark {n : Nat} {fd : List Bool} {fr : List Nat} {x : Nat} (h : MK n fd fr) (hx : x < n) (hf : isF fd x = false) : MK n (fd.set x true) (fr ++ [x]) := by
  refine ⟨by rw [List.length_set]; exact h.len, ?_, ?_⟩
  · rw [List.nodup_append]
    refine ⟨h.nd, by simp, ?_⟩
    intro a ha b hb e
    rw [List.mem_singleton] at hb
    subst hb
    subst e
    have := h.fd a ha
    rw [hf] at this
    cases this
  · intro y hy
    rw [isF_set (by rw [h.len]; exact hx)]
    split
    · rfl
    · rcases List.mem_append.1 hy with h1 | h1
      · exact h.fd y h1
      · rw [List.mem_singleton] at h1
        contradiction

theorem MK.pop {n : Nat} {fd : List Bool} {fr : List Nat} {x : Nat} (h : MK n fd (fr ++ [x])) : MK n fd fr ∧ x ∉ fr ∧ isF fd x = true ∧ x < n := by
  have h1 := List.nodup_append.1 h.nd
  have h2 := h.fd x (by simp)
  refine ⟨⟨h.len, h1.1, fun y hy => h.fd y (List.mem_append_left _ hy)⟩, ?_, h2, by have := isF_lt h2; rw [h.len] at this; exact this⟩
  intro hx
  exact h1.2.2 x hx x (by simp) rfl

theorem nodup_le : ∀ (n : Nat) (l : List Nat), l.Nodup → (∀ x ∈ l, x < n) → l.length ≤ n
  | 0, l, _, h => by
    cases l with
    | nil => exact Nat.le_refl _
    | cons a r => exact absurd (h a (by simp)) (Nat.not_lt_zero _)
  | n + 1, l, hd, h => by
    have h1 := nodup_le n (l.filter (fun x => x != n)) (hd.filter _) (fun x hx => by
      rw [List.mem_filter] at hx
      have := h x hx.1
      have h2 : x ≠ n := by simpa using hx.2
      omega)
    have h3 := List.length_eq_countP_add_countP (fun x => x != n) (l := l)
    rw [List.countP_eq_length_filter] at h3
    have h4 : List.countP (fun a => !(a != n)) l ≤ 1 := by
      have e : List.countP (fun a => !(a != n)) l = l.count n := by
        unfold List.count
        congr 1
        funext a
        cases h : a == n <;> simp_all
      rw [e]
      by_cases hm : n ∈ l
      · rw [hd.count, if_pos hm]
        exact Nat.le_refl _
      · rw [List.count_eq_zero.2 hm]; omega
    have h5 : List.countP (fun a => decide ¬(a != n) = true) l = List.countP (fun a => !(a != n)) l := by
      congr 1
      funext a
      cases a != n <;> simp
    omega

theorem MK.le {n : Nat} {fd : List Bool} {fr : List Nat} (h : MK n fd fr) : fr.length ≤ n :=
  nodup_le n fr h.nd (fun x hx => by have := isF_lt (h.fd x hx); rw [h.len] at this; exact this)

/-- What a mark leaves. -/
def mkd (fd : List Bool) (fr : List Nat) (x : Nat) : List Bool × List Nat := if isF fd x then (fd, fr) else (fd.set x true, fr ++ [x])

/-- Marks are added: nothing is taken back, what was looked at stays so. -/
structure Adds (n : Nat) (fd : List Bool) (fr : List Nat) (fd' : List Bool) (fr' : List Nat) : Prop where
  ok : MK n fd' fr'
  up : ∀ x, isF fd x = true → isF fd' x = true
  pr : prc fd' fr' = prc fd fr

theorem Adds.refl {n : Nat} {fd : List Bool} {fr : List Nat} (h : MK n fd fr) : Adds n fd fr fd fr := ⟨h, fun _ h => h, rfl⟩
theorem Adds.trans {n : Nat} {fd fd1 fd2 : List Bool} {fr fr1 fr2 : List Nat} (h : Adds n fd fr fd1 fr1) (k : Adds n fd1 fr1 fd2 fr2) : Adds n fd fr fd2 fr2 := ⟨k.ok, fun x hx => k.up x (h.up x hx), k.pr.trans h.pr⟩

theorem adds_mark {n : Nat} {fd : List Bool} {fr : List Nat} {x : Nat} (h : MK n fd fr) (hx : x < n) : Adds n fd fr (mkd fd fr x).1 (mkd fd fr x).2 ∧ isF (mkd fd fr x).1 x = true ∧ ∀ y, isF (mkd fd fr x).1 y = true → isF fd y = true ∨ y = x := by
  unfold mkd
  cases hf : isF fd x
  · have hl : x < fd.length := by rw [h.len]; exact hx
    refine ⟨⟨h.mark hx hf, fun y hy => isF_keep hl hy, prc_mark hl hf⟩, ?_, ?_⟩
    · simp only [Bool.false_eq_true, if_false]
      rw [isF_set hl, if_pos rfl]
    · intro y hy
      simp only [Bool.false_eq_true, if_false] at hy
      rw [isF_set hl] at hy
      split at hy
      · right; assumption
      · exact .inl hy
  · exact ⟨Adds.refl h, hf, fun y hy => .inl hy⟩

theorem adds_lft {n : Nat} {fd fd' : List Bool} {fr fr' : List Nat} (h : Adds n fd fr fd' fr') : lft n fd' fr' = lft n fd fr := by unfold lft; rw [h.pr]

/-- How often a rule waits for a symbol. -/
def Wts (S : Sp) (i : Nat) (wt : List (List Nat)) : Prop := ∀ (x : Nat) (l : List Nat), wt[x]? = some l → ∀ j, l.count j = match S.rs[j]? with | some r => if 0 < j ∧ j < i then r.r.count x else 0 | none => 0

/-- What is missing of each rule, beside ex. -/
def Miss (S : Sp) (ms : List Int) (P : Nat → Bool) (ex : Nat → Nat) : Prop := ∀ (i : Nat) (r : SR), 0 < i → S.rs[i]? = some r → ms[i]? = some ((nU P r.r + ex i : Nat) : Int)
def Zero (S : Sp) (ms : List Int) (fd : List Bool) : Prop := ∀ (i : Nat) (r : SR) (x : Nat), 0 < i → S.rs[i]? = some r → r.l = (x : Int) → ms[i]? = some 0 → isF fd x = true
def AllDer (S : Sp) (fd : List Bool) : Prop := ∀ x, isF fd x = true → Der S x
def Toks (S : Sp) (fd : List Bool) : Prop := ∀ x, x < S.tk → isF fd x = true

/-- Where all rules are kept, all is told. -/
theorem yields_told {S : Sp} {fd : List Bool} (hc : ∀ (i : Nat) (r : SR) (x : Nat), 0 < i → S.rs[i]? = some r → r.l = (x : Int) → (∀ y ∈ r.r, isF fd y = true) → isF fd x = true) (hd : AllDer S fd) (ht : Toks S fd) : Tells (Der S) fd := by
  have key : ∀ x, Der S x → isF fd x = true := by
    intro x hx
    exact hx (fun x => isF fd x = true) ht hc
  intro x b hb
  constructor
  · rintro rfl
    exact hd x (by unfold isF; rw [hb]; rfl)
  · intro h
    have := key x h
    unfold isF at this
    rw [hb] at this
    exact this

theorem prc_nil (fd : List Bool) (x : Nat) : prc fd [] x = isF fd x := by unfold prc; simp

theorem yields_end {S : Sp} {ms : List Int} {fd : List Bool} (hm : Miss S ms (prc fd []) (fun _ => 0)) (hz : Zero S ms fd) (hd : AllDer S fd) (ht : Toks S fd) : Tells (Der S) fd := by
  refine yields_told (fun i r x h0 hr hl ih => hz i r x h0 hr hl ?_) hd ht
  rw [hm i r h0 hr]
  have : nU (prc fd []) r.r = 0 := nU_zero.2 (fun y hy => by rw [prc_nil]; exact ih y hy)
  rw [this]
  rfl

/-- What is reached. -/
def AllRch (S : Sp) (fd : List Bool) : Prop := ∀ x, isF fd x = true → Rch S x
/-- Of what was looked at all rules were. -/
def Clo (S : Sp) (P : Nat → Bool) (fd : List Bool) : Prop := ∀ (i : Nat) (r : SR) (x y : Nat), 0 < i → S.rs[i]? = some r → r.l = (x : Int) → P x = true → y ∈ r.r → isF fd y = true
/-- The rules of each symbol. -/
def Rls (S : Sp) (i : Nat) (wt : List (List Nat)) : Prop := ∀ (x : Nat) (l : List Nat), wt[x]? = some l → ∀ j, j ∈ l ↔ (0 < j ∧ j < i ∧ ∃ r, S.rs[j]? = some r ∧ r.l = (x : Int))

theorem reached_end {S : Sp} {fd : List Bool} (hc : Clo S (isF fd) fd) (hd : AllRch S fd) (hs : isF fd S.st = true) : Tells (Rch S) fd := by
  have key : ∀ x, Rch S x → isF fd x = true := by
    intro x hx
    exact hx (fun x => isF fd x = true) hs hc
  intro x b hb
  constructor
  · rintro rfl
    exact hd x (by unfold isF; rw [hb]; rfl)
  · intro h
    have := key x h
    unfold isF at this
    rw [hb] at this
    exact this

/-- A symbol is taken to be looked at. -/
theorem miss_pop {S : Sp} {ms : List Int} {fd : List Bool} {fr : List Nat} {x : Nat} {l : List Nat} {wt : List (List Nat)} (hm : Miss S ms (prc fd (fr ++ [x])) (fun _ => 0)) (hf : isF fd x = true) (hx : x ∉ fr) (hw : Wts S S.rs.length wt) (hl : wt[x]? = some l) : Miss S ms (prc fd fr) (fun i => (l.drop 0).count i) := by
  intro i r h0 hr
  have hi : i < S.rs.length := (List.getElem?_eq_some_iff.1 hr).1
  have hc := hw x l hl i
  rw [hr] at hc
  simp only [h0, hi, and_self, if_true] at hc
  rw [hm i r h0 hr, nU_pop hf hx]
  simp only [List.drop_zero, Nat.add_zero, hc]

/-- One that waits is told. -/
theorem miss_step {S : Sp} {ms : List Int} {P : Nat → Bool} {l : List Nat} {k i : Nat} (hk : l[k]? = some i) {r : SR} (h0 : 0 < i) (hr : S.rs[i]? = some r) (hm : Miss S ms P (fun j => (l.drop k).count j)) : ∃ z : Int, ms[i]? = some z ∧ 1 ≤ z ∧ z ≤ (r.r.length + l.length : Nat) ∧ Miss S (ms.set i (z - 1)) P (fun j => (l.drop (k + 1)).count j) := by
  have hd : l.drop k = i :: l.drop (k + 1) := by
    have hkl := (List.getElem?_eq_some_iff.1 hk)
    obtain ⟨h1, h2⟩ := hkl
    rw [← h2]
    exact (List.drop_eq_getElem_cons h1)
  have hz := hm i r h0 hr
  refine ⟨_, hz, ?_, ?_, ?_⟩
  · rw [hd]; simp; omega
  · have h1 : nU P r.r ≤ r.r.length := List.countP_le_length
    have h2 : (l.drop k).count i ≤ l.length := Nat.le_trans List.count_le_length (by simp)
    simp only
    omega
  · intro j q hj0 hq
    rw [List.getElem?_set]
    have hil : i < ms.length := (List.getElem?_eq_some_iff.1 hz).1
    by_cases hij : i = j
    · subst hij
      rw [if_pos rfl, if_pos hil]
      rw [hr] at hq
      cases hq
      rw [hd]
      simp
      omega
    · rw [if_neg hij, hm j q hj0 hq, hd]
      simp [hij]

end Go.Proofs.YtebehlmidoencaaGreatDoor

/-
  Texts as grammars: words are taken one by one; the first fault ends it. Plain mathematics.
-/
namespace Go.Proofs.YtebehlmidoencaaGreatDoor
open Go.RowKit

/-- A word: its kind, its text, where it stands. -/
structure Wd where
  k : Int
  t : ByteArray
  a : Int

def endW (a : Int) : Wd := ⟨5, ⟨#[]⟩, a⟩

/-- Words that a text can have: names, numbers, signs, keys. -/
structure WdOk (w : Wd) : Prop where
  kind : 1 ≤ w.k ∧ w.k ≤ 4
  name : w.k = 1 → isL (bt (by8 w.t) 0) = true ∧ 1 ≤ w.t.size
  num : w.k = 2 → 1 ≤ w.t.size ∧ w.t.size ≤ 4 ∧ ∀ j, j < w.t.size → isD (bt (by8 w.t) j) = true
  sign : w.k = 3 → by8 w.t = [58] ∨ by8 w.t = [124] ∨ by8 w.t = [59]
  key : w.k = 4 → bt (by8 w.t) 0 = 37 ∧ 1 ≤ w.t.size
  size : w.t.size ≤ 100

/-- Words with the end behind them. -/
def Ends (ws : List Wd) : Prop := ∃ (pre : List Wd) (a : Int), ws = pre ++ [endW a] ∧ ∀ w ∈ pre, WdOk w

theorem Ends.pos {ws : List Wd} (h : Ends ws) : 1 ≤ ws.length := by
  obtain ⟨pre, a, rfl, -⟩ := h
  rw [List.length_append]
  exact Nat.le_add_left _ _

def headW (ws : List Wd) : Wd := ws.headD (endW 0)

theorem Ends.head {ws : List Wd} (h : Ends ws) : ∃ r, ws = headW ws :: r := by
  obtain ⟨pre, a, rfl, -⟩ := h
  cases pre with
  | nil => exact ⟨[], rfl⟩
  | cons x r => exact ⟨r ++ [endW a], rfl⟩

/-- The next word is the end, or more stands behind it. -/
theorem Ends.cases {ws : List Wd} (h : Ends ws) : (∃ a, ws = [endW a]) ∨ (WdOk (headW ws) ∧ Ends ws.tail ∧ ws = headW ws :: ws.tail) := by
  obtain ⟨pre, a, rfl, hp⟩ := h
  cases pre with
  | nil => exact .inl ⟨a, rfl⟩
  | cons x r => exact .inr ⟨hp x List.mem_cons_self, ⟨r, a, rfl, fun w hw => hp w (List.mem_cons_of_mem _ hw)⟩, rfl⟩

theorem Ends.tail_of_kind {ws : List Wd} (h : Ends ws) (hk : (headW ws).k ≠ 5) : WdOk (headW ws) ∧ Ends ws.tail := by
  rcases h.cases with ⟨a, rfl⟩ | ⟨h1, h2, -⟩
  · exact absurd rfl hk
  · exact ⟨h1, h2⟩

theorem Ends.tail_of_text {ws : List Wd} (h : Ends ws) (hk : (headW ws).t ≠ ⟨#[]⟩) : WdOk (headW ws) ∧ Ends ws.tail := by
  rcases h.cases with ⟨a, rfl⟩ | ⟨h1, h2, -⟩
  · exact absurd rfl hk
  · exact ⟨h1, h2⟩

/-- What has been read, and the words that are left. -/
structure St where
  ws : List Wd
  ts : List Tk
  ls : List Bool
  lv : Nat
  st : ByteArray
  ed : Bool
  ex : Int
  rs : List Ru

/-- A fault: its kind, its place. -/
abbrev Flt := Int × Int

def St.hd (S : St) : Wd := headW S.ws
def St.next (S : St) : St := ⟨S.ws.tail, S.ts, S.ls, S.lv, S.st, S.ed, S.ex, S.rs⟩
def formF (w : Wd) : Flt := (1, w.a)
def againF (w : Wd) : Flt := (7, w.a)

def takeP (k : Int) (S : St) : Except Flt (Wd × St) := if S.hd.k = k then .ok (S.hd, S.next) else .error (formF S.hd)

/-- Where a token stands. -/
def findN : List Tk → ByteArray → Option Nat
  | [], _ => none
  | t :: r, n => if t.n = n then some 0 else (findN r n).map (· + 1)

def tokP (w : Wd) (S : St) : Except Flt (Nat × St) :=
  match findN S.ts w.t with
  | some i => .ok (i, S)
  | none => if S.ts.length = 40 then .error (formF w) else .ok (S.ts.length, ⟨S.ws, S.ts ++ [⟨w.t, 0, 0⟩], S.ls ++ [false], S.lv, S.st, S.ed, S.ex, S.rs⟩)

def listP (w : Wd) (S : St) : Except Flt St :=
  match tokP w S with
  | .error f => .error f
  | .ok (i, S) => if (S.ls[i]?).getD false = true then .error (againF w) else .ok ⟨S.ws, S.ts, S.ls.set i true, S.lv, S.st, S.ed, S.ex, S.rs⟩

def tkAt (ts : List Tk) (i : Nat) : Tk := (ts[i]?).getD ⟨⟨#[]⟩, 0, 0⟩

def levP (l a : Int) (w : Wd) (S : St) : Except Flt St :=
  match tokP w S with
  | .error f => .error f
  | .ok (i, S) => if (tkAt S.ts i).l ≠ 0 then .error (againF w) else .ok ⟨S.ws, S.ts.set i ⟨(tkAt S.ts i).n, l, a⟩, S.ls, S.lv, S.st, S.ed, S.ex, S.rs⟩

def namesP (say : Wd → St → Except Flt St) : Nat → St → Except Flt St
  | 0, S => .ok S
  | f + 1, S =>
    match takeP 1 S with
    | .error e => .error e
    | .ok (w, S1) =>
      match say w S1 with
      | .error e => .error e
      | .ok S2 => if S2.hd.k = 1 then namesP say f S2 else .ok S2

def levelP (key : Wd) (a : Int) (S : St) : Except Flt St :=
  if S.lv = 8 then .error (formF key) else namesP (levP ((S.lv : Int) + 1) a) S.ws.length ⟨S.ws, S.ts, S.ls, S.lv + 1, S.st, S.ed, S.ex, S.rs⟩

def startP (key : Wd) (S : St) : Except Flt St :=
  if S.st ≠ ⟨#[]⟩ then .error (againF key) else
    match takeP 1 S with
    | .error e => .error e
    | .ok (w, S1) => .ok ⟨S1.ws, S1.ts, S1.ls, S1.lv, w.t, S1.ed, S1.ex, S1.rs⟩

/-- What digits say. -/
def numP (l : List UInt8) : Int := l.foldl (fun a c => a * 10 + ((c.toNat : Int) - 48)) 0

def expectP (key : Wd) (S : St) : Except Flt St :=
  if S.ed = true then .error (againF key) else
    match takeP 2 S with
    | .error e => .error e
    | .ok (w, S1) => .ok ⟨S1.ws, S1.ts, S1.ls, S1.lv, S1.st, true, numP (by8 w.t), S1.rs⟩

def tTok : ByteArray := ⟨#[37, 116, 111, 107, 101, 110]⟩
def tLeft : ByteArray := ⟨#[37, 108, 101, 102, 116]⟩
def tRight : ByteArray := ⟨#[37, 114, 105, 103, 104, 116]⟩
def tNon : ByteArray := ⟨#[37, 110, 111, 110, 97, 115, 115, 111, 99]⟩
def tStart : ByteArray := ⟨#[37, 115, 116, 97, 114, 116]⟩
def tExp : ByteArray := ⟨#[37, 101, 120, 112, 101, 99, 116]⟩
def tPrec : ByteArray := ⟨#[37, 112, 114, 101, 99]⟩
def tTwo : ByteArray := ⟨#[37, 37]⟩
def tCol : ByteArray := ⟨#[58]⟩
def tBar : ByteArray := ⟨#[124]⟩
def tSemi : ByteArray := ⟨#[59]⟩

def partP (S : St) : Except Flt St :=
  if S.hd.t = tTok then namesP listP S.ws.length S.next
  else if S.hd.t = tLeft then levelP S.hd 1 S.next
  else if S.hd.t = tRight then levelP S.hd 2 S.next
  else if S.hd.t = tNon then levelP S.hd 3 S.next
  else if S.hd.t = tStart then startP S.hd S.next
  else if S.hd.t = tExp then expectP S.hd S.next
  else .error (formF S.hd)

def symP : Nat → List ByteArray → St → Except Flt (List ByteArray × St)
  | 0, l, S => .ok (l, S)
  | f + 1, l, S => if S.hd.k = 1 then (if l.length = 20 then .error (formF S.hd) else symP f (l ++ [S.hd.t]) S.next) else .ok (l, S)

def ruleAdd (S : St) (r : Ru) : St := ⟨S.ws, S.ts, S.ls, S.lv, S.st, S.ed, S.ex, S.rs ++ [r]⟩

def altP (left : ByteArray) (S : St) : Except Flt St :=
  if S.rs.length = 100 then .error (formF S.hd) else
    match symP S.ws.length [] S with
    | .error e => .error e
    | .ok (r, S1) =>
      if S1.hd.t = tPrec then
        match takeP 1 S1.next with
        | .error e => .error e
        | .ok (w, S2) => .ok (ruleAdd S2 ⟨left, r, w.t⟩)
      else .ok (ruleAdd S1 ⟨left, r, ⟨#[]⟩⟩)

def altsP (left : ByteArray) : Nat → St → Except Flt St
  | 0, S => .ok S
  | f + 1, S =>
    match altP left S with
    | .error e => .error e
    | .ok S1 => if S1.hd.t = tSemi then .ok S1.next else if S1.hd.t = tBar then altsP left f S1.next else .error (formF S1.hd)

def ruleRd (S : St) : Except Flt St :=
  match takeP 1 S with
  | .error e => .error e
  | .ok (w, S1) => if S1.hd.t = tCol then altsP w.t S1.ws.length S1.next else .error (formF S1.hd)

def partsP : Nat → St → Except Flt St
  | 0, S => .ok S
  | f + 1, S => if S.hd.t = tTwo then .ok S.next else
    match partP S with
    | .error e => .error e
    | .ok S1 => partsP f S1

def rulesP : Nat → St → Except Flt St
  | 0, S => .ok S
  | f + 1, S => if S.hd.k = 5 then .ok S else
    match ruleRd S with
    | .error e => .error e
    | .ok S1 => rulesP f S1

def readP (S : St) : Except Flt St :=
  match partsP S.ws.length S with
  | .error e => .error e
  | .ok S1 => rulesP S1.ws.length S1

/-- A state that a text can lead to. -/
structure StOk (S : St) : Prop where
  ends : Ends S.ws
  nt : S.ts.length ≤ 40
  nl : S.ls.length = S.ts.length
  lv : S.lv ≤ 8
  nr : S.rs.length ≤ 100

theorem StOk.next {S : St} (h : StOk S) (he : Ends S.ws.tail) : StOk S.next := ⟨he, h.nt, h.nl, h.lv, h.nr⟩

theorem next_len {S : St} (h : StOk S) : S.next.ws.length + 1 = S.ws.length := by
  obtain ⟨r, hr⟩ := h.ends.head
  show S.ws.tail.length + 1 = _
  rw [hr]
  rfl

theorem takeP_ok {k : Int} {S S1 : St} {w : Wd} (h : StOk S) (hk : k ≠ 5) (ht : takeP k S = .ok (w, S1)) : WdOk w ∧ w = S.hd ∧ w.k = k ∧ S1 = S.next ∧ StOk S1 := by
  unfold takeP at ht
  split at ht
  · rename_i hc
    cases ht
    obtain ⟨h1, h2⟩ := h.ends.tail_of_kind (by rw [show (headW S.ws).k = k from hc]; exact hk)
    exact ⟨h1, rfl, hc, rfl, h.next h2⟩
  · cases ht

theorem takeP_err {k : Int} {S : St} {f : Flt} (ht : takeP k S = .error f) : S.hd.k ≠ k ∧ f = formF S.hd := by
  unfold takeP at ht
  split at ht
  · cases ht
  · rename_i hc
    cases ht
    exact ⟨hc, rfl⟩

theorem findN_lt : ∀ {ts : List Tk} {n : ByteArray} {i : Nat}, findN ts n = some i → ∃ t, ts[i]? = some t ∧ t.n = n
  | [], n, i, h => by cases h
  | t :: r, n, i, h => by
    unfold findN at h
    split at h
    · rename_i hc
      cases h
      exact ⟨t, rfl, hc⟩
    · obtain ⟨j, hj, rfl⟩ := Option.map_eq_some_iff.1 h
      obtain ⟨u, hu, hn⟩ := findN_lt hj
      exact ⟨u, by simpa using hu, hn⟩

theorem tokP_ok {w : Wd} {S S1 : St} {i : Nat} (h : StOk S) (ht : tokP w S = .ok (i, S1)) : StOk S1 ∧ i < S1.ts.length ∧ S1.ws = S.ws ∧ S1.lv = S.lv := by
  unfold tokP at ht
  split at ht
  · rename_i j hj
    cases ht
    obtain ⟨t, ht, -⟩ := findN_lt hj
    exact ⟨h, (List.getElem?_eq_some_iff.1 ht).1, rfl, rfl⟩
  · split at ht
    · cases ht
    · rename_i hc
      cases ht
      refine ⟨⟨h.ends, ?_, ?_, h.lv, h.nr⟩, ?_, rfl, rfl⟩
      · simp only [List.length_append, List.length_cons, List.length_nil]
        have := h.nt
        omega
      · simp only [List.length_append, List.length_cons, List.length_nil]
        rw [h.nl]
      · simp only [List.length_append, List.length_cons, List.length_nil]
        omega

theorem listP_ok {w : Wd} {S S1 : St} (h : StOk S) (ht : listP w S = .ok S1) : StOk S1 ∧ S1.ws = S.ws ∧ S1.lv = S.lv := by
  unfold listP at ht
  split at ht
  · cases ht
  · rename_i i S2 h2
    obtain ⟨a, b, c, d⟩ := tokP_ok h h2
    split at ht
    · cases ht
    · cases ht
      exact ⟨⟨a.ends, a.nt, by simp only [List.length_set]; exact a.nl, a.lv, a.nr⟩, c, d⟩

theorem levP_ok {l q : Int} {w : Wd} {S S1 : St} (h : StOk S) (ht : levP l q w S = .ok S1) : StOk S1 ∧ S1.ws = S.ws ∧ S1.lv = S.lv := by
  unfold levP at ht
  split at ht
  · cases ht
  · rename_i i S2 h2
    obtain ⟨a, b, c, d⟩ := tokP_ok h h2
    split at ht
    · cases ht
    · cases ht
      exact ⟨⟨a.ends, by simp only [List.length_set]; exact a.nt, by simp only [List.length_set]; exact a.nl, a.lv, a.nr⟩, c, d⟩

end Go.Proofs.YtebehlmidoencaaGreatDoor

/-
  Grammars in memory, as they are read; what stays as it was over a call that only lays new blocks; a region that draws its order and holds such calls.
-/
namespace Go.Proofs.YtebehlmidoencaaGreatDoor
open Go.RowKit Go.Sort

set_option maxRecDepth 20000

theorem mixed : Tryz.prog.follows .mixedOrders = true := by kernel_rfl

theorem cell_below {w w' : World} {a : Addr} {v : Value} (hb : Below w.heap.size w w') (h : w.cell? a = some v) : w'.cell? a = some v := by
  have hl := World.block_lt_of_cell? w a h
  rw [← h]
  unfold World.cell?
  rw [hb.block _ hl]

/-- The world w with so many draws in all and these blocks behind its own. -/
def onto (w : World) (n : Nat) (os : Array Obj) : World := grow { w with drawn := n } os

theorem onto_below (w : World) (n : Nat) (os : Array Obj) : Below w.heap.size w (onto w n os) := by
  refine ⟨rfl, rfl, rfl, by simp [onto, grow], fun k hk => ?_⟩
  unfold onto grow
  simp only [Array.getElem?_append]
  rw [if_pos hk]

theorem onto_size (w : World) (n : Nat) (os : Array Obj) : w.heap.size ≤ (onto w n os).heap.size := (onto_below w n os).size

theorem onto_of_below {w w' : World} (h : Below w.heap.size w w') : ∃ n os, w' = onto w n os := by
  refine ⟨w'.drawn, w'.heap.extract w.heap.size w'.heap.size, ?_⟩
  obtain ⟨hp, tp, dr, o, ou⟩ := w'
  obtain ⟨h1, h2, h3, h4, h5⟩ := h
  simp only at h1 h2 h3 h4 h5
  unfold onto grow
  simp only [h1, h2, h3]
  congr 1
  apply Array.ext_getElem?
  intro i
  rw [Array.getElem?_append]
  split
  · rename_i hi; exact h5 i hi
  · rename_i hi
    rw [Array.getElem?_extract]
    split
    · congr 1; omega
    · rename_i hk
      rw [Array.getElem?_eq_none (by omega)]

theorem cell_onto {w : World} {a : Addr} {v : Value} (h : w.cell? a = some v) (n : Nat) (os : Array Obj) : (onto w n os).cell? a = some v := cell_below (onto_below w n os) h

theorem wp_region_onto {id : Nat} {Q : Exit → Act → World → Prop} {a : Act} {w : World} {l : List Oper} (hB : Region.lexB .any l.toArray = true)
    (h : wpQuiet Tryz.prog l.toArray (fun w' => ∃ p : GrownBy, w' = onto w p.n p.os) (fun a' => ∀ w', (∃ p : GrownBy, w' = onto w p.n p.os) → Q .normal a' w') l a) : (Code.region id l.toArray true).wp Tryz.prog Q a w :=
  wp_region_quiet (C := fun w' => ∃ p : GrownBy, w' = onto w p.n p.os) mixed hB ⟨⟨w.drawn + 1, #[]⟩, by unfold onto; rw [grow_empty]⟩ (by simpa using h)

theorem calls_onto {f : FuncId} {args : Array Value} {w : World} {n : Nat} {os : Array Obj} {v : Value}
    (h : Calls Tryz.prog f args (onto w n os) fun e w' => e = .returned v ∧ Below (onto w n os).heap.size (onto w n os) w') : Calls Tryz.prog f args (onto w n os) fun e w'' => e = .returned v ∧ ∃ p : GrownBy, w'' = onto w p.n p.os :=
  h.mono fun _ _ ⟨he, hb⟩ => ⟨he, by
    obtain ⟨m, os', rfl⟩ := onto_of_below (below_step (onto_below w n os) hb)
    exact ⟨⟨m, os'⟩, rfl⟩⟩

theorem calls_onto_same {f : FuncId} {args : Array Value} {w : World} {n : Nat} {os : Array Obj} {v : Value}
    (h : Calls Tryz.prog f args (onto w n os) fun e w' => e = .returned v ∧ w' = onto w n os) : Calls Tryz.prog f args (onto w n os) fun e w'' => e = .returned v ∧ ∃ p : GrownBy, w'' = onto w p.n p.os :=
  h.mono fun _ _ ⟨he, hb⟩ => ⟨he, ⟨n, os⟩, hb⟩

/-- Cells that a slice shows (k cells an element). -/
structure Row (w : World) (k : Nat) (ao : Option Addr) (n cap : Nat) (cs : List Value) : Prop where
  len : cs.length = n * k
  le : n ≤ cap
  max : cap ≤ maxLen
  lies : (ao = none ∧ n = 0 ∧ cap = 0) ∨ ∃ b o, ao = some ⟨b, o, none⟩ ∧ ∀ (j : Nat) (u : Value), cs[j]? = some u → w.cell? ⟨b, o + j, none⟩ = some u

theorem Row.below {w w' : World} {k : Nat} {ao : Option Addr} {n cap : Nat} {cs : List Value} (h : Row w k ao n cap cs) (hb : Below w.heap.size w w') : Row w' k ao n cap cs :=
  ⟨h.len, h.le, h.max, h.lies.imp id fun ⟨b, o, he, hc⟩ => ⟨b, o, he, fun j u hu => cell_below hb (hc j u hu)⟩⟩

theorem Row.at {w : World} {k : Nat} {ao : Option Addr} {n cap : Nat} {cs : List Value} (h : Row w k ao n cap cs) (hn : 0 < n) : ∃ b o, ao = some ⟨b, o, none⟩ ∧ ∀ (j : Nat) (u : Value), cs[j]? = some u → w.cell? ⟨b, o + j, none⟩ = some u := by
  rcases h.lies with ⟨-, h0, -⟩ | h
  · omega
  · exact h

theorem Row.take {w : World} {k : Nat} {ao : Option Addr} {n cap : Nat} {cs : List Value} (h : Row w k ao n cap cs) (i : Nat) (hi : i ≤ n) : Row w k ao i cap (cs.take (i * k)) := by
  have hm : i * k ≤ n * k := Nat.mul_le_mul_right k hi
  refine ⟨by rw [List.length_take, h.len]; omega, by have := h.le; omega, h.max, ?_⟩
  rcases h.lies with ⟨h1, h2, h3⟩ | ⟨b, o, he, hc⟩
  · exact .inl ⟨h1, by omega, h3⟩
  · refine .inr ⟨b, o, he, fun j u hu => hc j u ?_⟩
    rw [List.getElem?_take] at hu
    split at hu
    · exact hu
    · cases hu

theorem Row.of_own {w : World} {base E k n : Nat} {ao : Option Addr} {cap : Nat} {cs : List Value} (h : w.ownsRow base E k (.slice ao n cap) n cs) : Row w k ao n cap cs := by
  obtain ⟨a1, c1, e, h1, h2, h3⟩ := own_slice h
  cases e
  refine ⟨h.1, h1, h2, ?_⟩
  rcases h3 with h3 | ⟨g, rfl⟩
  · exact .inl h3
  · refine .inr ⟨g, 0, rfl, fun j u hu => ?_⟩
    have := World.ownsRow.cells h (g := g) rfl j u hu
    rwa [Addr.add_lit] at this

/-- Texts, tokens, rules as cells. -/
def strC (l : List ByteArray) : List Value := l.map Value.string
def tokC (ts : List Tk) : List Value := ts.flatMap fun t => [.string t.n, .int .i64 t.l, .int .i64 t.a]
def rulC (qs : List (Ru × Option Addr × Nat)) : List Value := qs.flatMap fun q => [.string q.1.l, .slice q.2.1 q.1.r.length q.2.2, .string q.1.p]

theorem three_at {α : Type} (f : α → List Value) (hf : ∀ x, (f x).length = 3) : ∀ (l : List α) (i : Nat) (x : α) (j : Nat), l[i]? = some x → j < 3 → (l.flatMap f)[i * 3 + j]? = (f x)[j]?
  | [], i, x, j, h, _ => by cases h
  | y :: r, 0, x, j, h, hj => by
    cases h
    rw [List.flatMap_cons, List.getElem?_append_left (by rw [hf]; omega)]
    rw [Nat.zero_mul, Nat.zero_add]
  | y :: r, i + 1, x, j, h, hj => by
    rw [List.flatMap_cons, List.getElem?_append_right (by rw [hf]; omega), hf]
    rw [show (i + 1) * 3 + j - 3 = i * 3 + j by omega]
    exact three_at f hf r i x j h hj

theorem three_length {α : Type} (f : α → List Value) (hf : ∀ x, (f x).length = 3) : ∀ (l : List α), (l.flatMap f).length = l.length * 3
  | [] => rfl
  | y :: r => by rw [List.flatMap_cons, List.length_append, hf, three_length f hf r, List.length_cons]; omega

theorem three_take {α : Type} (f : α → List Value) (hf : ∀ x, (f x).length = 3) (l : List α) (i : Nat) : (l.flatMap f).take (i * 3) = (l.take i).flatMap f := by
  induction i generalizing l with
  | zero => simp
  | succ i ih =>
    cases l with
    | nil => simp
    | cons y r =>
      rw [List.take_succ_cons, List.flatMap_cons, List.flatMap_cons, List.take_append, hf, List.take_of_length_le (by rw [hf]; omega), show (i + 1) * 3 - 3 = i * 3 by omega, ih]

/-- A token that is read. -/
theorem tok_at {w : World} {ao : Option Addr} {n cap : Nat} {ts : List Tk} (h : Row w 3 ao n cap (tokC ts)) {i : Nat} {t : Tk} (ht : ts[i]? = some t) :
    ∃ b o, ao = some ⟨b, o, none⟩ ∧ w.cell? ⟨b, o + i * 3, none⟩ = some (.string t.n) ∧ w.cell? ⟨b, o + i * 3 + 1, none⟩ = some (.int .i64 t.l) ∧ w.cell? ⟨b, o + i * 3 + 2, none⟩ = some (.int .i64 t.a) := by
  have hl := h.len
  unfold tokC at hl
  rw [three_length _ (fun _ => rfl)] at hl
  have hi : i < ts.length := (List.getElem?_eq_some_iff.1 ht).1
  obtain ⟨b, o, he, hc⟩ := h.at (by omega)
  refine ⟨b, o, he, ?_, ?_, ?_⟩
  · exact hc (i * 3 + 0) _ (by unfold tokC; rw [three_at _ (fun _ => rfl) ts i t 0 ht (by omega)]; rfl)
  · exact hc (i * 3 + 1) _ (by unfold tokC; rw [three_at _ (fun _ => rfl) ts i t 1 ht (by omega)]; rfl)
  · exact hc (i * 3 + 2) _ (by unfold tokC; rw [three_at _ (fun _ => rfl) ts i t 2 ht (by omega)]; rfl)

theorem rul_at {w : World} {ao : Option Addr} {n cap : Nat} {qs : List (Ru × Option Addr × Nat)} (h : Row w 3 ao n cap (rulC qs)) {i : Nat} {q : Ru × Option Addr × Nat} (ht : qs[i]? = some q) :
    ∃ b o, ao = some ⟨b, o, none⟩ ∧ w.cell? ⟨b, o + i * 3, none⟩ = some (.string q.1.l) ∧ w.cell? ⟨b, o + i * 3 + 1, none⟩ = some (.slice q.2.1 q.1.r.length q.2.2) ∧ w.cell? ⟨b, o + i * 3 + 2, none⟩ = some (.string q.1.p) := by
  have hl := h.len
  unfold rulC at hl
  rw [three_length _ (fun _ => rfl)] at hl
  have hi : i < qs.length := (List.getElem?_eq_some_iff.1 ht).1
  obtain ⟨b, o, he, hc⟩ := h.at (by omega)
  refine ⟨b, o, he, ?_, ?_, ?_⟩
  · exact hc (i * 3 + 0) _ (by unfold rulC; rw [three_at _ (fun _ => rfl) qs i q 0 ht (by omega)]; rfl)
  · exact hc (i * 3 + 1) _ (by unfold rulC; rw [three_at _ (fun _ => rfl) qs i q 1 ht (by omega)]; rfl)
  · exact hc (i * 3 + 2) _ (by unfold rulC; rw [three_at _ (fun _ => rfl) qs i q 2 ht (by omega)]; rfl)

theorem str_at {w : World} {ao : Option Addr} {n cap : Nat} {l : List ByteArray} (h : Row w 1 ao n cap (strC l)) {i : Nat} {s : ByteArray} (ht : l[i]? = some s) :
    ∃ b o, ao = some ⟨b, o, none⟩ ∧ w.cell? ⟨b, o + i, none⟩ = some (.string s) := by
  have hl := h.len
  unfold strC at hl
  rw [List.length_map] at hl
  have hi : i < l.length := (List.getElem?_eq_some_iff.1 ht).1
  obtain ⟨b, o, he, hc⟩ := h.at (by omega)
  exact ⟨b, o, he, hc i _ (by unfold strC; rw [List.getElem?_map, ht]; rfl)⟩

theorem tok_take {w : World} {ao : Option Addr} {n cap : Nat} {ts : List Tk} (h : Row w 3 ao n cap (tokC ts)) (i : Nat) (hi : i ≤ n) : Row w 3 ao i cap (tokC (ts.take i)) := by
  have := h.take i hi
  unfold tokC at this ⊢
  rwa [three_take _ (fun _ => rfl)] at this

/-- Rules in memory: each with the slice of its symbols. -/
def RulesAt (w : World) (ao : Option Addr) (n cap : Nat) (rs : List Ru) : Prop :=
  ∃ qs : List (Ru × Option Addr × Nat), qs.map (·.1) = rs ∧ Row w 3 ao n cap (rulC qs) ∧ ∀ q ∈ qs, Row w 1 q.2.1 q.1.r.length q.2.2 (strC q.1.r)

theorem RulesAt.below {w w' : World} {ao : Option Addr} {n cap : Nat} {rs : List Ru} (h : RulesAt w ao n cap rs) (hb : Below w.heap.size w w') : RulesAt w' ao n cap rs := by
  obtain ⟨qs, h1, h2, h3⟩ := h
  exact ⟨qs, h1, h2.below hb, fun q hq => (h3 q hq).below hb⟩

theorem RulesAt.at {w : World} {ao : Option Addr} {n cap : Nat} {rs : List Ru} (h : RulesAt w ao n cap rs) {i : Nat} {r : Ru} (hr : rs[i]? = some r) :
    ∃ b o xa xc, ao = some ⟨b, o, none⟩ ∧ w.cell? ⟨b, o + i * 3, none⟩ = some (.string r.l) ∧ w.cell? ⟨b, o + i * 3 + 1, none⟩ = some (.slice xa r.r.length xc) ∧ w.cell? ⟨b, o + i * 3 + 2, none⟩ = some (.string r.p) ∧ Row w 1 xa r.r.length xc (strC r.r) := by
  obtain ⟨qs, rfl, h2, h3⟩ := h
  rw [List.getElem?_map] at hr
  obtain ⟨q, hq, rfl⟩ := Option.map_eq_some_iff.1 hr
  obtain ⟨b, o, he, c0, c1, c2⟩ := rul_at h2 hq
  exact ⟨b, o, q.2.1, q.2.2, he, c0, c1, c2, h3 q (List.mem_of_getElem? hq)⟩

/-- Where a grammar's lists lie. -/
structure Hd where
  ta : Option Addr
  tc : Nat
  ra : Option Addr
  rc : Nat

def gv (h : Hd) (G : Gm) : Value := .agg #[.slice h.ta G.ts.length h.tc, .string G.s, .int .i64 G.e, .slice h.ra G.rs.length h.rc]

structure IsG (w : World) (h : Hd) (G : Gm) : Prop where
  tok : Row w 3 h.ta G.ts.length h.tc (tokC G.ts)
  rul : RulesAt w h.ra G.rs.length h.rc G.rs
  small : Small G

theorem IsG.below {w w' : World} {h : Hd} {G : Gm} (g : IsG w h G) (hb : Below w.heap.size w w') : IsG w' h G := ⟨g.tok.below hb, g.rul.below hb, g.small⟩

end Go.Proofs.YtebehlmidoencaaGreatDoor
