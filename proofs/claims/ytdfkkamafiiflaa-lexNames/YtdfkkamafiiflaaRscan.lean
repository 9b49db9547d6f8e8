/-
  The walk of the reference's Scan: the same words, or none and the same fault.
-/
import Derived.Test.YtdfkkamafiiflaaScan
namespace Go.Proofs.Ytdfkkamafiiflaa
open Go.RowKit

/-- The word that is being made. -/
structure Box (w wq : World) (b : Nat) (K : Int) (t : ByteArray) (i : Nat) : Prop where
  head : wq.heap[b]? = some (.cells #[.int .i64 K, .string t, .int .i64 i] 30 (0, 0))
  below : Below w.heap.size w wq
  lo : w.heap.size ≤ b

theorem Box.lt {w wq : World} {b : Nat} {K : Int} {t : ByteArray} {i : Nat} (h : Box w wq b K t i) : b < wq.heap.size := (Array.getElem?_eq_some_iff.1 h.head).1
theorem Box.c0 {w wq : World} {b : Nat} {K : Int} {t : ByteArray} {i : Nat} (h : Box w wq b K t i) : wq.cell? ⟨b, 0, none⟩ = some (.int .i64 K) := by simp [World.cell?, h.head]
theorem Box.c1 {w wq : World} {b : Nat} {K : Int} {t : ByteArray} {i : Nat} (h : Box w wq b K t i) : wq.cell? ⟨b, 1, none⟩ = some (.string t) := by simp [World.cell?, h.head]
theorem Box.c2 {w wq : World} {b : Nat} {K : Int} {t : ByteArray} {i : Nat} (h : Box w wq b K t i) : wq.cell? ⟨b, 2, none⟩ = some (.int .i64 i) := by simp [World.cell?, h.head]
theorem Box.fz {w wq : World} {b : Nat} {K : Int} {t : ByteArray} {i : Nat} (h : Box w wq b K t i) (j : Nat) : wq.frozen? ⟨b, j, none⟩ = false := by simp [World.frozen?, h.head]
theorem Box.step {w wq w' : World} {b : Nat} {K : Int} {t : ByteArray} {i : Nat} (h : Box w wq b K t i) (hb : Below wq.heap.size wq w') : Box w w' b K t i :=
  ⟨by rw [hb.block b h.lt]; exact h.head, below_step h.below hb, h.lo⟩
theorem Box.set0 {w wq : World} {b : Nat} {K : Int} {t : ByteArray} {i : Nat} (h : Box w wq b K t i) (K' : Int) : Box w (wq.setCell ⟨b, 0, none⟩ (.int .i64 K')) b K' t i :=
  ⟨by rw [setCell_eq_setRow wq b 0 _ 30 (0, 0) _ h.head]; exact setRow_heap wq b _ _ 30 _ h.head, h.below.setCell (p := ⟨b, 0, none⟩) h.lo _, h.lo⟩
theorem Box.set1 {w wq : World} {b : Nat} {K : Int} {t : ByteArray} {i : Nat} (h : Box w wq b K t i) (t' : ByteArray) : Box w (wq.setCell ⟨b, 1, none⟩ (.string t')) b K t' i :=
  ⟨by rw [setCell_eq_setRow wq b 1 _ 30 (0, 0) _ h.head]; exact setRow_heap wq b _ _ 30 _ h.head, h.below.setCell (p := ⟨b, 1, none⟩) h.lo _, h.lo⟩

/-- How far the scan has come. -/
def Way (s : ByteArray) (R : List (Nat × Nat × Nat) × Int) (w0 w : World) (k : Nat) (v : Value) : Prop :=
  ∃ f acc, s.size < k + f ∧ acc.length ≤ k ∧ scanF f (by8 s) k acc = R ∧ IsW w w0.heap.size s v acc ∧ Below w0.heap.size w0 w

theorem Way.bad {s : ByteArray} {R : List (Nat × Nat × Nat) × Int} {w0 w : World} {k : Nat} {v : Value} (h : Way s R w0 w k v) (hk : k < s.size) (hz : (wordP (by8 s) k).1 = 0) : R = ([], (k : Int)) := by
  obtain ⟨f, acc, hf, -, he, -⟩ := h
  obtain ⟨f, rfl⟩ : ∃ g, f = g + 1 := ⟨f - 1, by omega⟩
  rw [scan_bad (by rw [by8_length]; exact hk) hz] at he
  exact he.symm

/-- One word is laid to the others. -/
theorem Way.next {s : ByteArray} {R : List (Nat × Nat × Nat) × Int} {w0 w wq : World} {k : Nat} {v : Value} (h : Way s R w0 w k v) (hs : s.size ≤ 1048576) (hk : k < s.size) {K e : Nat} (hw : wordP (by8 s) k = (K, e)) (hK : K ≠ 0) (hB : Below w.heap.size w wq) :
    ∃ ao n c w2, (Builtin.append_ #[26, 26] 26 #[v, .slice (some ⟨wq.heap.size, 0, none⟩) 1 1]).run Try.prog (wq.alloc (.cells #[.int .i64 K, .string (s.extract k e), .int .i64 k] 30)) = .ok (.slice ao n c) w2 ∧
      Way s R w0 w2 (skip (by8 s) e) (.slice ao n c) := by
  obtain ⟨f, acc, hf, ha, he, hI, hb⟩ := h
  obtain ⟨f, rfl⟩ : ∃ g, f = g + 1 := ⟨f - 1, by omega⟩
  have hl : k < (by8 s).length := by rw [by8_length]; exact hk
  have hwr := wordP_range hl
  rw [scan_next hl (by rw [hw]; exact hK)] at he
  rw [hw] at he hwr
  simp only at he hwr
  have hlt := hwr.2.2.1 hK
  have hsk := (skip_le (l := by8 s) (i := e) hwr.2.1).1
  have h0 := hb.size
  have h1 := hB.size
  obtain ⟨ao, n, c, w2, hr, h2, h3⟩ := (hI.below hB).add (by omega) (by omega) K k e
  exact ⟨ao, n, c, w2, hr, f, acc ++ [(K, k, e)], by omega, by rw [List.length_append]; simp; omega, he, h2, (hb.trans (hB.mono h0)).trans h3⟩

set_option maxHeartbeats 4000000 in
set_option maxRecDepth 20000 in
theorem rscan_calls (s : ByteArray) (w : World) (hs : s.size ≤ 1048576) : Calls Try.prog 19 #[.string s] w fun e w' => Scanned s w w' e := by
  have HL : Hid ((by8 s).length = s.size) := by8_length s
  have HS0 : Hid (∀ W : World, Calls Try.prog 27 #[.string s, .int .i64 0] W fun e w' => e = .returned (.int .i64 (skip (by8 s) 0)) ∧ w' = W) := fun W => rskip_calls s 0 W (Nat.zero_le _) hs
  have h00 : skip (by8 s) 0 ≤ s.size := by rw [← by8_length]; exact (skip_le (Nat.zero_le _)).2
  obtain ⟨R, HR⟩ : ∃ R, Hid (scan (by8 s) = R) := ⟨_, rfl⟩
  have HR0 : Hid (scanF (s.size + 1) (by8 s) (skip (by8 s) 0) [] = R) := by
    have := HR.out
    unfold scan at this
    rwa [HL.out] at this
  unfold Scanned
  rw [HR.out]
  generalize skip (by8 s) 0 = a0 at HS0 h00 HR0
  go_enter Try.func19, Try.ntmps19
  go_wp2_with (go_at_call 27; refine (HS0.out _).mono ?_; rintro e w' ⟨rfl, rfl⟩)
  go_loopg [4, 5] s.size (fun kx s4 s5 wr => ∃ (k : Nat) (ml : Nat × Option Addr × Nat), s4 = .slice ml.2.1 ml.1 ml.2.2 ∧ s5 = .int .i64 k ∧ k ≤ s.size ∧ s.size - k ≤ kx ∧ Hid (Way s R w' wr k (.slice ml.2.1 ml.1 ml.2.2)))
  case atStart => exact ⟨a0, (0, none, 0), rfl, rfl, h00, by omega, (⟨s.size + 1, [], by omega, Nat.zero_le _, HR0.out, isW_nil _ _ _, Below.refl _ _⟩ : Way s R w' w' a0 (.slice none 0 0))⟩
  case round =>
    obtain ⟨k, ⟨nl, al, cl⟩, rfl, rfl, hk, hg, J⟩ := hrel
    simp only at J
    by_cases hlt : k < s.size
    · have hl : k < (by8 s).length := by rw [HL.out]; exact hlt
      have hix := run_index_bt s k hlt
      go_wp2_with fail
      have HB0 : Hid (Box wr (wr.alloc (.cells #[.int .i64 0, .string ⟨#[]⟩, .int .i64 k] 30)) wr.heap.size 0 ⟨#[]⟩ k) :=
        ⟨heap_alloc_new wr _, (Below.refl _ _).alloc (Nat.le_refl _) _, Nat.le_refl _⟩
      generalize wr.alloc (.cells #[.int .i64 0, .string ⟨#[]⟩, .int .i64 k] 30) = w1 at HB0 ⊢
      generalize wr.heap.size = b at HB0 ⊢
      have q0 := HB0.out.c0
      have q1 := HB0.out.c1
      have q2 := HB0.out.c2
      have z0 := HB0.out.fz 0
      have z1 := HB0.out.fz 1
      by_cases h1 : isL (bt (by8 s) k) = true
      · have HE : Hid (∀ W : World, Calls Try.prog 28 #[.string s, .int .i64 k] W fun e w' => e = .returned (.int .i64 (runEnd isN (by8 s) k)) ∧ w' = W) := fun W => run_calls s k W hk hs
        have hm1 : k < runEnd isN (by8 s) k := by rw [runEnd_step hl (by unfold isN; rw [h1]; rfl)]; exact le_runEnd _ _ _
        have hm2 : runEnd isN (by8 s) k ≤ s.size := by rw [← HL.out]; exact runEnd_le (by omega)
        have HWP : Hid (wordP (by8 s) k = if 12 < runEnd isN (by8 s) k - k then (0, k) else (1, runEnd isN (by8 s) k)) := wordP_name h1
        refine (letter_calls _ _).mono ?_
        rintro e w9 ⟨rfl, rfl⟩
        rw [h1]
        generalize runEnd isN (by8 s) k = m at HE hm1 hm2 HWP
        generalize bt (by8 s) k = c at hix
        clear h1 hl
        by_cases h12 : 12 < m - k
        · have h12' : (12 : Int) < (m : Int) - k := by omega
          have HRB : Hid (R = ([], (k : Int))) := J.out.bad hlt (by rw [HWP.out, if_pos h12])
          have HBB : Hid (Below w'.heap.size w' (w9.setCell ⟨b, 0, none⟩ (.int .i64 1))) := by
            obtain ⟨f, acc, -, -, -, -, hb⟩ := J.out
            exact below_step hb (HB0.out.set0 1).below
          clear J HWP HB0 h12
          go_wp2_with (go_at_call 28; refine (HE.out _).mono ?_; rintro e w8 ⟨rfl, rfl⟩)
          go_ret2
          exact ⟨_, by rw [HRB.out]; rfl, by rw [HRB.out]; exact isW_nil _ _ _, HBB.out⟩
        · have h12' : ¬ (12 : Int) < (m : Int) - k := by omega
          have HWP2 : Hid (wordP (by8 s) k = (1, m)) := by have := HWP.out; rwa [if_neg h12] at this
          clear HWP h12
          go_upto_region 22 with (go_at_call 28; refine (HE.out _).mono ?_; rintro e w8 ⟨rfl, rfl⟩)
          have HB3 : Hid (Box wr ((w8.setCell ⟨b, 0, none⟩ (.int .i64 1)).setCell ⟨b, 1, none⟩ (.string (s.extract k m))) b 1 (s.extract k m) k) := (HB0.out.set0 1).set1 _
          have hA := J.out.next hs hlt HWP2.out (by decide) HB3.out.below
          have HSk : Hid (∀ W : World, Calls Try.prog 27 #[.string s, .int .i64 m] W fun e w' => e = .returned (.int .i64 (skip (by8 s) m)) ∧ w' = W) := fun W => rskip_calls s m W hm2 hs
          have hsk := skip_le (l := by8 s) (i := m) (by rw [HL.out]; exact hm2)
          rw [HL.out] at hsk
          generalize skip (by8 s) m = a1 at hA HSk hsk
          generalize (w8.setCell ⟨b, 0, none⟩ (.int .i64 1)).setCell ⟨b, 1, none⟩ (.string (s.extract k m)) = wq at HB3 hA ⊢
          obtain ⟨a2, n2, c2, w2, hr', J3'⟩ := hA
          have hr : (Builtin.append_ #[26, 26] 26 #[.slice al nl cl, .slice (some ⟨wq.heap.size, 0, none⟩) 1 1]).run Try.prog (wq.alloc (.cells #[.int .i64 1, .string (s.extract k m), .int .i64 k] 30)) = .ok (.slice a2 n2 c2) w2 := hr'
          have J3 : Hid (Way s R w' w2 a1 (.slice a2 n2 c2)) := J3'
          clear J3' hr' J q0 q1 q2 z0 z1 HWP2 HB0
          have q0 := HB3.out.c0
          have q1 := HB3.out.c1
          have q2 := HB3.out.c2
          clear HB3
          go_wp2_with (first | (at_builtin; refine Lib.wpList_append_run _ rfl _ _ _ _ rfl _ _ rfl rfl _ _ hr ?_) | (go_at_call 27; refine (HSk.out _).mono ?_; rintro e w7 ⟨rfl, rfl⟩))
          go_roundg (s.size - a1)
          case measure => omega
          case rel => exact ⟨a1, (n2, a2, c2), rfl, rfl, hsk.2, Nat.le_refl _, J3⟩
      · have h1 : isL (bt (by8 s) k) = false := by simpa using h1
        refine (letter_calls _ _).mono ?_
        rintro e w9 ⟨rfl, rfl⟩
        rw [h1]
        by_cases h2 : isD (bt (by8 s) k) = true
        · have HE : Hid (∀ W : World, Calls Try.prog 29 #[.string s, .int .i64 k] W fun e w' => e = .returned (.int .i64 (keyR (numberP (by8 s) k))) ∧ w' = W) := fun W => rnumber_calls s k W hlt hs
          have hm1 : k < runEnd isD (by8 s) k := by rw [runEnd_step hl h2]; exact le_runEnd _ _ _
          have hm2 : runEnd isD (by8 s) k ≤ s.size := by rw [← HL.out]; exact runEnd_le (by omega)
          have HWP : Hid (wordP (by8 s) k = numberP (by8 s) k) := wordP_num h1 h2
          have HNP : Hid (numberP (by8 s) k = if numBad (by8 s) k (runEnd isD (by8 s) k) = true then (0, k) else (2, runEnd isD (by8 s) k)) := rfl
          by_cases hb : numBad (by8 s) k (runEnd isD (by8 s) k) = true
          · have HNP2 : numberP (by8 s) k = (0, k) := by have := HNP.out; rwa [if_pos hb] at this
            have HRB : Hid (R = ([], (k : Int))) := J.out.bad hlt (by rw [HWP.out, HNP2])
            rw [HNP2] at HE
            have HE2 : Hid (∀ W : World, Calls Try.prog 29 #[.string s, .int .i64 k] W fun e w' => e = .returned (.int .i64 (-1)) ∧ w' = W) := HE.out
            generalize bt (by8 s) k = c at hix h2
            clear HWP HNP HNP2 HE hb hm1 hm2 h1 hl
            have HBB : Hid (Below w'.heap.size w' (w9.setCell ⟨b, 0, none⟩ (.int .i64 2))) := by
              obtain ⟨f, acc, -, -, -, -, hb⟩ := J.out
              exact below_step hb (HB0.out.set0 2).below
            clear J HB0
            go_wp2_with (first | (go_at_call 15; refine (rdigit_calls _ _).mono ?_; rintro e w7 ⟨rfl, rfl⟩; rw [h2]) | (go_at_call 29; refine (HE2.out _).mono ?_; rintro e w8 ⟨rfl, rfl⟩))
            go_ret2
            exact ⟨_, by rw [HRB.out]; rfl, by rw [HRB.out]; exact isW_nil _ _ _, HBB.out⟩
          · have HNP2 : numberP (by8 s) k = (2, runEnd isD (by8 s) k) := by have := HNP.out; rwa [if_neg hb] at this
            have HWP2 : Hid (wordP (by8 s) k = (2, runEnd isD (by8 s) k)) := by have := HWP.out; rwa [HNP2] at this
            rw [HNP2] at HE
            have HE2 : Hid (∀ W : World, Calls Try.prog 29 #[.string s, .int .i64 k] W fun e w' => e = .returned (.int .i64 (runEnd isD (by8 s) k)) ∧ w' = W) := HE.out
            clear HWP HNP HNP2 HE hb
            generalize runEnd isD (by8 s) k = m at HE2 hm1 hm2 HWP2
            generalize bt (by8 s) k = c at hix h2
            clear h1 hl
            go_upto_region 22 with (first | (go_at_call 15; refine (rdigit_calls _ _).mono ?_; rintro e w7 ⟨rfl, rfl⟩; rw [h2]) | (go_at_call 29; refine (HE2.out _).mono ?_; rintro e w8 ⟨rfl, rfl⟩))
            have HB3 : Hid (Box wr ((w8.setCell ⟨b, 0, none⟩ (.int .i64 2)).setCell ⟨b, 1, none⟩ (.string (s.extract k m))) b 2 (s.extract k m) k) := (HB0.out.set0 2).set1 _
            have hA := J.out.next hs hlt HWP2.out (by decide) HB3.out.below
            have HSk : Hid (∀ W : World, Calls Try.prog 27 #[.string s, .int .i64 m] W fun e w' => e = .returned (.int .i64 (skip (by8 s) m)) ∧ w' = W) := fun W => rskip_calls s m W hm2 hs
            have hsk := skip_le (l := by8 s) (i := m) (by rw [HL.out]; exact hm2)
            rw [HL.out] at hsk
            generalize skip (by8 s) m = a1 at hA HSk hsk
            generalize (w8.setCell ⟨b, 0, none⟩ (.int .i64 2)).setCell ⟨b, 1, none⟩ (.string (s.extract k m)) = wq at HB3 hA ⊢
            obtain ⟨a2, n2, c2, w2, hr', J3'⟩ := hA
            have hr : (Builtin.append_ #[26, 26] 26 #[.slice al nl cl, .slice (some ⟨wq.heap.size, 0, none⟩) 1 1]).run Try.prog (wq.alloc (.cells #[.int .i64 2, .string (s.extract k m), .int .i64 k] 30)) = .ok (.slice a2 n2 c2) w2 := hr'
            have J3 : Hid (Way s R w' w2 a1 (.slice a2 n2 c2)) := J3'
            clear J3' hr' J q0 q1 q2 z0 z1 HWP2 HB0
            have q0 := HB3.out.c0
            have q1 := HB3.out.c1
            have q2 := HB3.out.c2
            clear HB3
            go_wp2_with (first | (at_builtin; refine Lib.wpList_append_run _ rfl _ _ _ _ rfl _ _ rfl rfl _ _ hr ?_) | (go_at_call 27; refine (HSk.out _).mono ?_; rintro e w7 ⟨rfl, rfl⟩))
            go_roundg (s.size - a1)
            case measure => omega
            case rel => exact ⟨a1, (n2, a2, c2), rfl, rfl, hsk.2, Nat.le_refl _, J3⟩
        · have h2 : isD (bt (by8 s) k) = false := by simpa using h2
          by_cases h3 : (bt (by8 s) k == 37) = true
          · have HE : Hid (∀ W : World, Calls Try.prog 30 #[.string s, .int .i64 k] W fun e w' => e = .returned (.int .i64 (keyR (keyP (by8 s) k))) ∧ Below W.heap.size W w') := fun W => rkey_calls s k W hlt h3 hs
            have HWP : Hid (wordP (by8 s) k = keyP (by8 s) k) := wordP_key h1 h2 h3
            have hrg := wordP_range hl
            rw [HWP.out, HL.out] at hrg
            have hK4 : (keyP (by8 s) k).1 = 0 ∨ (keyP (by8 s) k).1 = 4 := by
              unfold keyP
              split
              · exact .inr rfl
              · split
                · exact .inr rfl
                · exact .inl rfl
            generalize bt (by8 s) k = c at hix h1 h2 h3
            clear h1 hl
            go_wp2_with (go_at_call 15; refine (rdigit_calls _ _).mono ?_; rintro e w7 ⟨rfl, rfl⟩; rw [h2])
            refine (HE.out _).mono ?_
            rintro e w3 ⟨rfl, hB3⟩
            have HB1 : Hid (Box wr w3 b 0 ⟨#[]⟩ k) := HB0.out.step hB3
            clear HE hB3 q0 q1 q2 z0 z1 HB0
            have HB0 : Hid (Box wr w3 b 0 ⟨#[]⟩ k) := HB1
            clear HB1
            have q0 := HB0.out.c0
            have q1 := HB0.out.c1
            have q2 := HB0.out.c2
            have z0 := HB0.out.fz 0
            have z1 := HB0.out.fz 1
            rcases hK4 with hK | hK
            · have HRB : Hid (R = ([], (k : Int))) := J.out.bad hlt (by rw [HWP.out, hK])
              have hkr : keyR (keyP (by8 s) k) = -1 := by unfold keyR; rw [if_pos hK]
              rw [hkr]
              clear HWP hrg hK hkr
              have HBB : Hid (Below w'.heap.size w' (w3.setCell ⟨b, 0, none⟩ (.int .i64 4))) := by
                obtain ⟨f, acc, -, -, -, -, hb⟩ := J.out
                exact below_step hb (HB0.out.set0 4).below
              clear J HB0
              go_wp2_with fail
              go_ret2
              exact ⟨_, by rw [HRB.out]; rfl, by rw [HRB.out]; exact isW_nil _ _ _, HBB.out⟩
            · have hkr : keyR (keyP (by8 s) k) = ((keyP (by8 s) k).2 : Int) := by unfold keyR; rw [if_neg (by rw [hK]; decide)]
              rw [hkr]
              have HWP2 : Hid (wordP (by8 s) k = (4, (keyP (by8 s) k).2)) := by
                have := HWP.out
                rw [this]
                exact Prod.ext hK rfl
              have hm1 := hrg.2.2.1 (by rw [hK]; decide)
              have hm2 := hrg.2.1
              clear HWP hrg hK hkr
              generalize (keyP (by8 s) k).2 = m at hm1 hm2 HWP2 ⊢
              go_upto_region 22 with fail
              have HB3 : Hid (Box wr ((w3.setCell ⟨b, 0, none⟩ (.int .i64 4)).setCell ⟨b, 1, none⟩ (.string (s.extract k m))) b 4 (s.extract k m) k) := (HB0.out.set0 4).set1 _
              have hA := J.out.next hs hlt HWP2.out (by decide) HB3.out.below
              have HSk : Hid (∀ W : World, Calls Try.prog 27 #[.string s, .int .i64 m] W fun e w' => e = .returned (.int .i64 (skip (by8 s) m)) ∧ w' = W) := fun W => rskip_calls s m W hm2 hs
              have hsk := skip_le (l := by8 s) (i := m) (by rw [HL.out]; exact hm2)
              rw [HL.out] at hsk
              generalize skip (by8 s) m = a1 at hA HSk hsk
              generalize (w3.setCell ⟨b, 0, none⟩ (.int .i64 4)).setCell ⟨b, 1, none⟩ (.string (s.extract k m)) = wq at HB3 hA ⊢
              obtain ⟨a2, n2, c2, w2, hr', J3'⟩ := hA
              have hr : (Builtin.append_ #[26, 26] 26 #[.slice al nl cl, .slice (some ⟨wq.heap.size, 0, none⟩) 1 1]).run Try.prog (wq.alloc (.cells #[.int .i64 4, .string (s.extract k m), .int .i64 k] 30)) = .ok (.slice a2 n2 c2) w2 := hr'
              have J3 : Hid (Way s R w' w2 a1 (.slice a2 n2 c2)) := J3'
              clear J3' hr' J q0 q1 q2 z0 z1 HWP2 HB0
              have q0 := HB3.out.c0
              have q1 := HB3.out.c1
              have q2 := HB3.out.c2
              clear HB3
              go_wp2_with (first | (at_builtin; refine Lib.wpList_append_run _ rfl _ _ _ _ rfl _ _ rfl rfl _ _ hr ?_) | (go_at_call 27; refine (HSk.out _).mono ?_; rintro e w7 ⟨rfl, rfl⟩))
              go_roundg (s.size - a1)
              case measure => omega
              case rel => exact ⟨a1, (n2, a2, c2), rfl, rfl, hsk.2, Nat.le_refl _, J3⟩
          · have h3 : (bt (by8 s) k == 37) = false := by simpa using h3
            by_cases h4 : isS (bt (by8 s) k) = true
            · obtain ⟨m, hm⟩ : ∃ m, m = k + 1 := ⟨_, rfl⟩
              have hm' : (k : Int) + 1 = m := by omega
              have HWP2 : Hid (wordP (by8 s) k = (3, m)) := by have := wordP_sign h1 h2 h3 h4; rw [← hm] at this; exact this
              have hm1 : k < m := by omega
              have hm2 : m ≤ s.size := by omega
              have h4 := isS_parts h4
              rw [hm']
              generalize bt (by8 s) k = c at hix h1 h2 h3 h4
              clear h1 hl hm' hm
              rcases h4 with h4 | ⟨h4, h5⟩ | ⟨h4, h5, h6⟩
              all_goals
                go_upto_region 22 with (go_at_call 15; refine (rdigit_calls _ _).mono ?_; rintro e w7 ⟨rfl, rfl⟩; rw [h2])
                have HB3 : Hid (Box wr ((w7.setCell ⟨b, 0, none⟩ (.int .i64 3)).setCell ⟨b, 1, none⟩ (.string (s.extract k m))) b 3 (s.extract k m) k) := (HB0.out.set0 3).set1 _
                have hA := J.out.next hs hlt HWP2.out (by decide) HB3.out.below
                have HSk : Hid (∀ W : World, Calls Try.prog 27 #[.string s, .int .i64 m] W fun e w' => e = .returned (.int .i64 (skip (by8 s) m)) ∧ w' = W) := fun W => rskip_calls s m W hm2 hs
                have hsk := skip_le (l := by8 s) (i := m) (by rw [HL.out]; exact hm2)
                rw [HL.out] at hsk
                generalize skip (by8 s) m = a1 at hA HSk hsk
                generalize (w7.setCell ⟨b, 0, none⟩ (.int .i64 3)).setCell ⟨b, 1, none⟩ (.string (s.extract k m)) = wq at HB3 hA ⊢
                obtain ⟨a2, n2, c2, w2, hr', J3'⟩ := hA
                have hr : (Builtin.append_ #[26, 26] 26 #[.slice al nl cl, .slice (some ⟨wq.heap.size, 0, none⟩) 1 1]).run Try.prog (wq.alloc (.cells #[.int .i64 3, .string (s.extract k m), .int .i64 k] 30)) = .ok (.slice a2 n2 c2) w2 := hr'
                have J3 : Hid (Way s R w' w2 a1 (.slice a2 n2 c2)) := J3'
                clear J3' hr' J q0 q1 q2 z0 z1 HWP2 HB0
                have q0 := HB3.out.c0
                have q1 := HB3.out.c1
                have q2 := HB3.out.c2
                clear HB3
                go_wp2_with (first | (at_builtin; refine Lib.wpList_append_run _ rfl _ _ _ _ rfl _ _ rfl rfl _ _ hr ?_) | (go_at_call 27; refine (HSk.out _).mono ?_; rintro e w7 ⟨rfl, rfl⟩))
                go_roundg (s.size - a1)
                case measure => omega
                case rel => exact ⟨a1, (n2, a2, c2), rfl, rfl, hsk.2, Nat.le_refl _, J3⟩
            · have h4 : isS (bt (by8 s) k) = false := by simpa using h4
              have HRB : Hid (R = ([], (k : Int))) := J.out.bad hlt (by rw [wordP_none h1 h2 h3 h4])
              obtain ⟨h5, h6, h7⟩ := isS_none h4
              generalize bt (by8 s) k = c at hix h1 h2 h3 h4 h5 h6 h7
              clear h1 hl h4
              have HBB : Hid (Below w'.heap.size w' (w9)) := by
                obtain ⟨f, acc, -, -, -, -, hb⟩ := J.out
                exact below_step hb HB0.out.below
              clear J HB0
              go_wp2_with (go_at_call 15; refine (rdigit_calls _ _).mono ?_; rintro e w7 ⟨rfl, rfl⟩; rw [h2])
              go_ret2
              exact ⟨_, by rw [HRB.out]; rfl, by rw [HRB.out]; exact isW_nil _ _ _, HBB.out⟩
    · obtain rfl : k = s.size := by omega
      have HA : Hid (∃ ao n c w2, (Builtin.append_ #[26, 26] 26 #[.slice al nl cl, .slice (some ⟨wr.heap.size, 0, none⟩) 1 1]).run Try.prog (wr.alloc (.cells #[.int .i64 5, .string ⟨#[]⟩, .int .i64 s.size] 30)) = .ok (.slice ao n c) w2 ∧
          R.2 = -1 ∧ IsW w2 w'.heap.size s (.slice ao n c) R.1 ∧ Below w'.heap.size w' w2) := by
        obtain ⟨f, acc, hf, ha, he, hI, hB⟩ := J.out
        obtain ⟨f, rfl⟩ : ∃ g, f = g + 1 := ⟨f - 1, by omega⟩
        rw [scan_out (by rw [HL.out]; exact Nat.le_refl _), HL.out] at he
        have hb := hB.size
        obtain ⟨ao, n, c, w2, hr, h2, h3⟩ := hI.add hb (by omega) 5 s.size s.size
        rw [extract_end] at hr
        exact ⟨ao, n, c, w2, hr, by rw [← he], by rw [← he]; exact h2, hB.trans h3⟩
      clear J
      obtain ⟨a2, n2, c2, w2, hr, J3'⟩ := HA.out
      have J3 : Hid (R.2 = -1 ∧ IsW w2 w'.heap.size s (.slice a2 n2 c2) R.1 ∧ Below w'.heap.size w' w2) := J3'
      clear HA J3'
      go_wp2_with (at_builtin; refine Lib.wpList_append_run _ rfl _ _ _ _ rfl _ _ rfl rfl _ _ hr ?_)
      go_ret2
      exact ⟨_, by rw [J3.out.1]; rfl, J3.out.2.1, J3.out.2.2⟩

end Go.Proofs.Ytdfkkamafiiflaa
