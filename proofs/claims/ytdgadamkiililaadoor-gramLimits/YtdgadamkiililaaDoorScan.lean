/-
  The walk of Scan: all words of a text in new memory, or none and the first fault.
-/
import Derived.Test.YtdgadamkiililaaDoorClone
import Derived.Lib.AppendZeros
namespace Go.Proofs.YtdgadamkiililaaDoor
open Go.RowKit

theorem Tryd.info78 : (Tryd.prog.info? 78).map (fun i => (i.zero, i.size, i.bytes)) = some (some (.agg #[.int .i64 0, .string ⟨#[]⟩, .int .i64 0]), 3, 32) := by kernel_rfl

/-- A word's cells. -/
def wcells (s : ByteArray) (x : Nat × Nat × Nat) : List Value := [.int .i64 x.1, .string (s.extract x.2.1 x.2.2), .int .i64 x.2.1]
def cellsW (s : ByteArray) (ws : List (Nat × Nat × Nat)) : List Value := ws.flatMap (wcells s)

theorem cellsW_append (s : ByteArray) (a : List (Nat × Nat × Nat)) (x : Nat × Nat × Nat) : cellsW s (a ++ [x]) = cellsW s a ++ wcells s x := by
  unfold cellsW; rw [List.flatMap_append]; simp

/-- Words in memory that is the call's own. -/
def IsW (w : World) (base : Nat) (s : ByteArray) (v : Value) (ws : List (Nat × Nat × Nat)) : Prop := w.ownsRow base 78 3 v ws.length (cellsW s ws)

theorem isW_nil (w : World) (base : Nat) (s : ByteArray) : IsW w base s (.slice none 0 0) [] := World.ownsRow_nil w base 78 3

theorem ownsRow_of_block {w w' : World} {base : Nat} {E : TypeId} {k : Nat} {v : Value} {n : Nat} {cs : List Value} (h : w.ownsRow base E k v n cs) (hb : ∀ i, v.ownBlock = some i → w'.heap[i]? = w.heap[i]?) : w'.ownsRow base E k v n cs := by
  refine ⟨h.1, ?_⟩
  rcases h.2 with hn | ⟨g, cap, cur, rfl, hg, hh, r⟩
  · exact .inl hn
  · exact .inr ⟨g, cap, cur, rfl, hg, by rw [hb g rfl]; exact hh, r⟩

theorem IsW.below {w w' : World} {base : Nat} {s : ByteArray} {v : Value} {ws : List (Nat × Nat × Nat)} (h : IsW w base s v ws) (hb : Below w.heap.size w w') : IsW w' base s v ws :=
  ownsRow_of_block h (fun i hi => hb.block i (World.ownsRow.lt h i hi).2)

/-- One word more. -/
theorem IsW.add {w : World} {base : Nat} {s : ByteArray} {v : Value} {ws : List (Nat × Nat × Nat)} (h : IsW w base s v ws) (hb : base ≤ w.heap.size) (hn : ws.length ≤ 1048577) (k i e : Nat) :
    ∃ ao n c w', (Builtin.append_ #[74, 74] 74 #[v, .slice (some ⟨w.heap.size, 0, none⟩) 1 1]).run Tryd.prog (w.alloc (.cells #[.int .i64 k, .string (s.extract i e), .int .i64 i] 78)) = .ok (.slice ao n c) w' ∧
      IsW w' base s (.slice ao n c) (ws ++ [(k, i, e)]) ∧ Below base w w' := by
  obtain ⟨i0, hi, hz0, hz1, hz2⟩ := info_parts Tryd.info78
  have hA : (w.alloc (.cells #[.int .i64 k, .string (s.extract i e), .int .i64 i] 78)).ownsRow base 78 3 v ws.length (cellsW s ws) := World.ownsRow.alloc h _
  have hnews : ∀ j u, (wcells s (k, i, e))[j]? = some u → (w.alloc (.cells #[.int .i64 k, .string (s.extract i e), .int .i64 i] 78)).cell? ((⟨w.heap.size, 0, none⟩ : Addr).add j) = some u := by
    intro j u hu
    rw [Addr.add_lit, Nat.zero_add]
    have := World.cell?_alloc_mark w #[.int .i64 k, .string (s.extract i e), .int .i64 i] 78 (0, 0) j
    rw [this, ← hu]
    unfold wcells
    simp
  obtain ⟨v', w', hr, h2, h3, -⟩ := run_append_own (P := Tryd.prog) (w.alloc (.cells #[.int .i64 k, .string (s.extract i e), .int .i64 i] 78)) base 74 74 78 i0 _ 3 32 Tryd.underlying74 hi hz0 hz1 hz2 rfl (by decide) v ws.length _ hA ⟨w.heap.size, 0, none⟩ 1 1 (wcells s (k, i, e)) rfl hnews
    (fun u hu => by unfold wcells at hu; simp at hu; rcases hu with rfl | rfl | rfl <;> rfl) (by unfold maxLen; omega) (by omega) (by simp; omega)
  have hB : Below base w w' := ((Below.refl base w).alloc hb _).grown h3 (by simp; omega) (fun g hg => (World.ownsRow.lt h g hg).1)
  have hW : IsW w' base s v' (ws ++ [(k, i, e)]) := by
    unfold IsW
    rw [cellsW_append, List.length_append]
    exact h2
  rcases h2.2 with ⟨rfl, h0⟩ | ⟨g, cap, cur, rfl, -⟩
  · omega
  · exact ⟨_, _, _, w', hr, hW, hB⟩

theorem extract_size (s : ByteArray) (a b : Nat) : (s.extract a b).size ≤ s.size := by
  rw [← by8_length, by8_extract, ← by8_length]
  unfold part
  rw [List.length_take, List.length_drop]
  omega

/-- What a scan leaves. -/
def Scanned (s : ByteArray) (w w' : World) (e : Ending) : Prop := ∃ v, e = .returned (.tuple #[v, .int .i64 (scan (by8 s)).2]) ∧ IsW w' w.heap.size s v (scan (by8 s)).1 ∧ Below w.heap.size w w'

theorem extract_end (s : ByteArray) : s.extract s.size s.size = ⟨#[]⟩ := by
  apply ByteArray.ext
  apply Array.eq_empty_of_size_eq_zero
  have := by8_extract s s.size s.size
  have h2 : (by8 (s.extract s.size s.size)).length = 0 := by rw [this]; unfold part; simp
  rw [by8_length] at h2
  exact h2

set_option maxHeartbeats 4000000 in
theorem scan_calls (s : ByteArray) (w : World) (hs : s.size ≤ 1048576) : Calls Tryd.prog 46 #[.string s] w fun e w' => Scanned s w w' e := by
  have HL : Hid ((by8 s).length = s.size) := by8_length s
  have HS0 : Hid (∀ W : World, Calls Tryd.prog 57 #[.string s, .int .i64 0] W fun e w' => e = .returned (.int .i64 (skip (by8 s) 0)) ∧ w' = W) := fun W => skip_calls s 0 W (Nat.zero_le _) hs
  have h00 : skip (by8 s) 0 ≤ s.size := by rw [← by8_length]; exact (skip_le (Nat.zero_le _)).2
  obtain ⟨R, HR⟩ : ∃ R, Hid (scan (by8 s) = R) := ⟨_, rfl⟩
  have HR0 : Hid (scanF (s.size + 1) (by8 s) (skip (by8 s) 0) [] = R) := by
    have := HR.out
    unfold scan at this
    rwa [HL.out] at this
  unfold Scanned
  rw [HR.out]
  generalize skip (by8 s) 0 = a0 at HS0 h00 HR0
  go_enter Tryd.func46, Tryd.ntmps46
  go_wp2_with (go_at_call 57; refine (HS0.out _).mono ?_; rintro e w' ⟨rfl, rfl⟩)
  go_loopg [4, 5] s.size (fun kx s4 s5 wr => ∃ (k : Nat) (ml : Nat × Option Addr × Nat), s4 = .slice ml.2.1 ml.1 ml.2.2 ∧ s5 = .int .i64 k ∧ k ≤ s.size ∧ s.size - k ≤ kx ∧ Hid (∃ f acc, s.size < k + f ∧ acc.length ≤ k ∧ scanF f (by8 s) k acc = R ∧ IsW wr w'.heap.size s (.slice ml.2.1 ml.1 ml.2.2) acc ∧ Below w'.heap.size w' wr))
  case atStart => exact ⟨a0, (0, none, 0), rfl, rfl, h00, by omega, (⟨s.size + 1, [], by omega, Nat.zero_le _, HR0.out, isW_nil _ _ _, Below.refl _ _⟩ : ∃ f acc, s.size < a0 + f ∧ acc.length ≤ a0 ∧ scanF f (by8 s) a0 acc = R ∧ IsW w' w'.heap.size s (.slice none 0 0) acc ∧ Below w'.heap.size w' w')⟩
  case round =>
    obtain ⟨k, ⟨nl, al, cl⟩, rfl, rfl, hk, hg, J⟩ := hrel
    simp only at J
    by_cases hlt : k < s.size
    · have hl : k < (by8 s).length := by rw [HL.out]; exact hlt
      have HW : Hid (∀ W : World, Calls Tryd.prog 58 #[.string s, .int .i64 k] W fun e w' => e = ansW (wordP (by8 s) k) ∧ w' = W) := fun W => word_calls s k W hlt hs
      have hwr := wordP_range hl
      rw [HL.out] at hwr
      by_cases hz : (wordP (by8 s) k).1 = 0
      · have HR2 : Hid (R = ([], (k : Int))) := by
          obtain ⟨f, acc, hf, -, he, -⟩ := J.out
          obtain ⟨f, rfl⟩ : ∃ g, f = g + 1 := ⟨f - 1, by omega⟩
          rw [scan_bad hl hz] at he
          exact he.symm
        have HB : Hid (Below w'.heap.size w' wr) := by obtain ⟨f, acc, -, -, -, -, hb⟩ := J.out; exact hb
        have HW2 : Hid (∀ W : World, Calls Tryd.prog 58 #[.string s, .int .i64 k] W fun e w' => e = .returned (.tuple #[.int .i64 0, .int .i64 (wordP (by8 s) k).2]) ∧ w' = W) := fun W => by
          have := HW.out W
          unfold ansW at this
          rwa [hz] at this
        generalize (wordP (by8 s) k).2 = e0 at HW2
        clear HW J hwr hz hl
        go_wp2_with (go_at_call 58; refine (HW2.out _).mono ?_; rintro e w' ⟨rfl, rfl⟩)
        go_ret2
        exact ⟨_, by rw [HR2.out]; rfl, by rw [HR2.out]; exact isW_nil _ _ _, HB.out⟩
      · have hZ : (((wordP (by8 s) k).1 : Int) == 0) = false := by simpa using hz
        have hadv := hwr.2.2.1 hz
        have hle := hwr.2.1
        have HSk : Hid (∀ W : World, Calls Tryd.prog 57 #[.string s, .int .i64 (wordP (by8 s) k).2] W fun e w' => e = .returned (.int .i64 (skip (by8 s) (wordP (by8 s) k).2)) ∧ w' = W) := fun W => skip_calls s _ W hle hs
        have hsk := skip_le (l := by8 s) (i := (wordP (by8 s) k).2) (by rw [HL.out]; exact hle)
        rw [HL.out] at hsk
        have J2 : Hid (∃ f acc, s.size < skip (by8 s) (wordP (by8 s) k).2 + f ∧ acc.length ≤ k ∧ scanF f (by8 s) (skip (by8 s) (wordP (by8 s) k).2) (acc ++ [((wordP (by8 s) k).1, k, (wordP (by8 s) k).2)]) = R ∧ IsW wr w'.heap.size s (.slice al nl cl) acc ∧ Below w'.heap.size w' wr) := by
          obtain ⟨f, acc, hf, ha, he, hI, hB⟩ := J.out
          obtain ⟨f, rfl⟩ : ∃ g, f = g + 1 := ⟨f - 1, by omega⟩
          rw [scan_next hl hz] at he
          exact ⟨f, acc, by omega, ha, he, hI, hB⟩
        have HW2 : Hid (∀ W : World, Calls Tryd.prog 58 #[.string s, .int .i64 k] W fun e w' => e = .returned (.tuple #[.int .i64 (wordP (by8 s) k).1, .int .i64 (wordP (by8 s) k).2]) ∧ w' = W) := HW.out
        have HC : Hid (∀ W : World, Calls Tryd.prog 59 #[.string (s.extract k (wordP (by8 s) k).2)] W fun e w' => e = .returned (.string (s.extract k (wordP (by8 s) k).2)) ∧ Below W.heap.size W w') := fun W => clone_calls _ W (by have := extract_size s k (wordP (by8 s) k).2; omega)
        generalize skip (by8 s) (wordP (by8 s) k).2 = a1 at HSk hsk J2
        generalize wordP (by8 s) k = pr at HW2 hZ hadv hle HSk hsk J2 HC
        obtain ⟨K, e0⟩ := pr
        simp only at HW2 hZ hadv hle HSk hsk J2 HC
        clear HW J hwr hz hl
        go_wp2_with fail
        refine (HW2.out _).mono ?_
        rintro e w9 ⟨rfl, rfl⟩
        go_wp2_with fail
        refine (HC.out _).mono ?_
        rintro e w1 ⟨rfl, hB1⟩
        have HA : Hid (∃ ao n c w2 f acc, (Builtin.append_ #[74, 74] 74 #[.slice al nl cl, .slice (some ⟨w1.heap.size, 0, none⟩) 1 1]).run Tryd.prog (w1.alloc (.cells #[.int .i64 K, .string (s.extract k e0), .int .i64 k] 78)) = .ok (.slice ao n c) w2 ∧
            s.size < a1 + f ∧ acc.length ≤ a1 ∧ scanF f (by8 s) a1 acc = R ∧ IsW w2 w'.heap.size s (.slice ao n c) acc ∧ Below w'.heap.size w' w2) := by
          obtain ⟨f, acc, hf, ha, he, hI, hB⟩ := J2.out
          have hb := hB.size
          obtain ⟨ao, n, c, w2, hr, h2, h3⟩ := (hI.below hB1).add (by have := hB1.size; omega) (by omega) K k e0
          exact ⟨ao, n, c, w2, f, acc ++ [(K, k, e0)], hr, hf, by rw [List.length_append]; simp; omega, he, h2, (hB.trans (hB1.mono hb)).trans h3⟩
        clear J2 HC HW2 hB1
        obtain ⟨a2, n2, c2, w2, f2, acc2, hr, J3'⟩ := HA.out
        have J3 : Hid (s.size < a1 + f2 ∧ acc2.length ≤ a1 ∧ scanF f2 (by8 s) a1 acc2 = R ∧ IsW w2 w'.heap.size s (.slice a2 n2 c2) acc2 ∧ Below w'.heap.size w' w2) := J3'
        clear HA J3'
        go_wp2_with (first | (at_builtin; refine Lib.wpList_append_run _ rfl _ _ _ _ rfl _ _ rfl rfl _ _ hr ?_) | (go_at_call 57; refine (HSk.out _).mono ?_; rintro e w9 ⟨rfl, rfl⟩))
        go_roundg (s.size - a1)
        case measure => omega
        case rel => exact ⟨a1, (n2, a2, c2), rfl, rfl, hsk.2, Nat.le_refl _, (⟨f2, acc2, J3.out⟩ : ∃ f acc, s.size < a1 + f ∧ acc.length ≤ a1 ∧ scanF f (by8 s) a1 acc = R ∧ IsW _ w'.heap.size s (.slice a2 n2 c2) acc ∧ Below w'.heap.size w' _)⟩
    · obtain rfl : k = s.size := by omega
      have HA : Hid (∃ ao n c w2, (Builtin.append_ #[74, 74] 74 #[.slice al nl cl, .slice (some ⟨wr.heap.size, 0, none⟩) 1 1]).run Tryd.prog (wr.alloc (.cells #[.int .i64 5, .string ⟨#[]⟩, .int .i64 s.size] 78)) = .ok (.slice ao n c) w2 ∧
          R.2 = -1 ∧ IsW w2 w'.heap.size s (.slice ao n c) R.1 ∧ Below w'.heap.size w' w2) := by
        obtain ⟨f, acc, hf, ha, he, hI, hB⟩ := J.out
        obtain ⟨f, rfl⟩ : ∃ g, f = g + 1 := ⟨f - 1, by omega⟩
        rw [scan_out (by rw [HL.out]; exact Nat.le_refl _), HL.out] at he
        have hb := hB.size
        obtain ⟨ao, n, c, w2, hr, h2, h3⟩ := hI.add hb (by omega) 5 s.size s.size
        rw [extract_end] at hr
        exact ⟨ao, n, c, w2, hr, by rw [← he], by rw [← he]; exact h2, hB.trans h3⟩
      clear J
      obtain ⟨a2, n2, c2, w2, hr, J3'⟩ := HA.out
      have J3 : Hid (R.2 = -1 ∧ IsW w2 w'.heap.size s (.slice a2 n2 c2) R.1 ∧ Below w'.heap.size w' w2) := J3'
      clear HA J3'
      go_wp2_with (at_builtin; refine Lib.wpList_append_run _ rfl _ _ _ _ rfl _ _ rfl rfl _ _ hr ?_)
      go_ret2
      exact ⟨_, by rw [J3.out.1]; rfl, J3.out.2.1, J3.out.2.2⟩

theorem own_slice {w : World} {base k n : Nat} {E : TypeId} {v : Value} {cs : List Value} (h : w.ownsRow base E k v n cs) :
    ∃ ao cap, v = .slice ao n cap ∧ n ≤ cap ∧ cap ≤ maxLen ∧ ((ao = none ∧ n = 0 ∧ cap = 0) ∨ ∃ g, ao = some ⟨g, 0, none⟩) := by
  rcases h.2 with ⟨rfl, rfl⟩ | ⟨g, cap, cur, rfl, hg, hh, hn, hm, hs, ht⟩
  · exact ⟨none, 0, rfl, Nat.le_refl _, Nat.zero_le _, .inl ⟨rfl, rfl, rfl⟩⟩
  · exact ⟨some ⟨g, 0, none⟩, cap, rfl, hn, hm, .inr ⟨g, rfl⟩⟩

theorem cellsW_at (s : ByteArray) : ∀ (ws : List (Nat × Nat × Nat)) (i : Nat) (x : Nat × Nat × Nat), ws[i]? = some x →
    (cellsW s ws)[i * 3]? = some (.int .i64 x.1) ∧ (cellsW s ws)[i * 3 + 1]? = some (.string (s.extract x.2.1 x.2.2)) ∧ (cellsW s ws)[i * 3 + 2]? = some (.int .i64 x.2.1)
  | [], i, x, h => by cases h
  | y :: r, 0, x, h => by
    cases h
    exact ⟨rfl, rfl, rfl⟩
  | y :: r, i + 1, x, h => by
    have := cellsW_at s r i x h
    have e : cellsW s (y :: r) = wcells s y ++ cellsW s r := rfl
    have hl : (wcells s y).length = 3 := rfl
    rw [e, List.getElem?_append_right (by omega), List.getElem?_append_right (by omega), List.getElem?_append_right (by omega), hl]
    rw [show (i + 1) * 3 - 3 = i * 3 by omega, show (i + 1) * 3 + 1 - 3 = i * 3 + 1 by omega, show (i + 1) * 3 + 2 - 3 = i * 3 + 2 by omega]
    exact this

/-- A word of a slice of words. -/
theorem IsW.at {w : World} {base : Nat} {s : ByteArray} {g n cap : Nat} {ws : List (Nat × Nat × Nat)} (h : IsW w base s (.slice (some ⟨g, 0, none⟩) n cap) ws) {i : Nat} {x : Nat × Nat × Nat} (hx : ws[i]? = some x) :
    w.cell? ⟨g, i * 3, none⟩ = some (.int .i64 x.1) ∧ w.cell? ⟨g, i * 3 + 1, none⟩ = some (.string (s.extract x.2.1 x.2.2)) ∧ w.cell? ⟨g, i * 3 + 2, none⟩ = some (.int .i64 x.2.1) := by
  obtain ⟨c0, c1, c2⟩ := cellsW_at s ws i x hx
  have hc := World.ownsRow.cells h (g := g) rfl
  refine ⟨?_, ?_, ?_⟩
  · have := hc _ _ c0; rwa [Addr.add_lit, Nat.zero_add] at this
  · have := hc _ _ c1; rwa [Addr.add_lit, Nat.zero_add] at this
  · have := hc _ _ c2; rwa [Addr.add_lit, Nat.zero_add] at this


end Go.Proofs.YtdgadamkiililaaDoor
