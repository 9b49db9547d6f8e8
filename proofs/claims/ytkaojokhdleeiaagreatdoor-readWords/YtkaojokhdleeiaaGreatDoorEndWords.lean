/-
  ReadWords: for every grammar, two numbers and a text, read.Read and the document's answer agree on the text with one word turned (the call returns true), under no condition but the tied tables and sentinels.
-/
import Derived.Test.YtkaojokhdleeiaaGreatDoorOwn12
import Derived.ChangeSlices
import Derived.Test.YtkaojokhdleeiaaGreatDoorOwn10
import Derived.Deep.RegionWith
import Derived.Test.YtkaojokhdleeiaaGreatDoorCards
import Derived.Test.YtkaojokhdleeiaaGreatDoorTie
import Derived.OpenShut
import Derived.ShutString
import Derived.ChangeOld
import Derived.Below
import Derived.SevenTiedAt
/-
  Numbers that came in.
-/
namespace Go.Proofs.YtkaojokhdleeiaaGreatDoor
open Go.RowKit

set_option maxRecDepth 20000

/-- Numbers that a slice shows. -/
structure RawI (w : World) (ao : Option Addr) (n cap : Nat) (zs : List Int) : Prop where
  le : n ≤ cap ∧ cap ≤ 9223372036854775807
  get : ∀ i, i < n → ∃ b o, ao = some ⟨b, o, none⟩ ∧ w.cell? ⟨b, o + i, none⟩ = some (.int .i64 (zs.getD i 0))

theorem RawI.below {w w' : World} {ao : Option Addr} {n cap : Nat} {zs : List Int} (h : RawI w ao n cap zs) (hb : Below w.heap.size w w') : RawI w' ao n cap zs :=
  ⟨h.le, fun i hi => by obtain ⟨b, o, e, c⟩ := h.get i hi; exact ⟨b, o, e, cell_below hb c⟩⟩

theorem open_nums {H : Type} {enc : TypeId × Value → H} {W : World} {ao : Option Addr} {n cap : Nat} {d : DataW H} {ps : List MemPlace} (h : DataW.Trod enc Tryz.prog W 0 (fun _ => true) true 37 (.slice ao n cap) d ps) : ∃ zs, RawI W ao n cap zs := by
  obtain ⟨fuel, hf⟩ := h
  rcases ChangeShapes.open_ints Tryz.underlying37 Tryz.underlying3 (by kernel_rfl) hf with ⟨hcs, _⟩ | ⟨x, l, c, zs, hcs, _, hl, hm, hz, _, hcell, hwz⟩
  · simp [Value.cells] at hcs
    obtain ⟨rfl, rfl, rfl⟩ := hcs
    exact ⟨[], ⟨Nat.le_refl _, by omega⟩, fun i hi => absurd hi (Nat.not_lt_zero _)⟩
  · simp [Value.cells] at hcs
    obtain ⟨rfl, rfl, rfl⟩ := hcs
    have hz' : zs.length = cap := by simpa using hz
    refine ⟨zs, ⟨hl, by unfold maxLen at hm; omega⟩, fun i hi => ?_⟩
    have hc := hcell i (by omega)
    have h0 := hcell 0 (by omega)
    obtain ⟨b, off, spot⟩ := x
    have hspot : spot = none := by simpa [Addr.add] using World.cell?_spot h0
    subst hspot
    rw [Addr.add_lit] at hc
    exact ⟨b, off, rfl, hc⟩

/-- A number's rest by m, from nought on. -/
theorem rem_range (z : Int) (m : Int) (hm : 0 < m) : -m < z.tmod m ∧ z.tmod m < m := by
  refine ⟨?_, Int.tmod_lt_of_pos z hm⟩
  have h := Int.tmod_lt_of_pos (-z) hm
  rw [Int.neg_tmod] at h
  omega

end Go.Proofs.YtkaojokhdleeiaaGreatDoor

/-
  How long the text of a grammar that was cut can be; where its words stand. Plain mathematics.
-/
namespace Go.Proofs.YtkaojokhdleeiaaGreatDoor
open Go.RowKit

set_option maxRecDepth 20000

theorem sp20 (l : List (List UInt8)) (h : ∀ x ∈ l, x.length ≤ 20) : (sp l).length ≤ 21 * l.length := by
  induction l with
  | nil => simp [sp]
  | cons x r ih =>
    have h1 := ih (fun y hy => h y (List.mem_cons_of_mem _ hy))
    have h2 := h x List.mem_cons_self
    have e : sp (x :: r) = (32 :: x) ++ sp r := rfl
    rw [e, List.length_append, List.length_cons, List.length_cons]
    omega

/-- Lines of at most fifty words of at most twenty bytes. -/
def OkW (ws : List (List UInt8)) : Prop := ws.length ≤ 50 ∧ ∀ x ∈ ws, x.length ≤ 20

theorem line20 {ws : List (List UInt8)} (h : OkW ws) : (lineT ws).length ≤ 1100 := by
  unfold lineT
  rw [List.length_append]
  cases ws with
  | nil => decide
  | cons x r =>
    have e : jn (x :: r) = x ++ sp r := rfl
    have h1 := sp20 r (fun y hy => h.2 y (List.mem_cons_of_mem _ hy))
    have h2 := h.2 x List.mem_cons_self
    have h3 := h.1
    rw [List.length_cons] at h3
    rw [e, List.length_append, List.length_cons, List.length_nil]
    omega

theorem tx20 : ∀ (L : List (List (List UInt8))), (∀ ws ∈ L, OkW ws) → (tx L).length ≤ 1100 * L.length
  | [], _ => by simp [tx]
  | ws :: r, h => by
    have h1 := tx20 r (fun y hy => h y (List.mem_cons_of_mem _ hy))
    have h2 := line20 (h ws List.mem_cons_self)
    have e : tx (ws :: r) = lineT ws ++ tx r := rfl
    rw [e, List.length_append, List.length_cons]
    omega

theorem dg6 : ∀ (f n : Nat) (t : List UInt8), (dg f n t).length ≤ f + t.length
  | 0, n, t => by simp [dg]
  | f + 1, n, t => by
    unfold dg
    split
    · rw [List.length_cons]; omega
    · have := dg6 f (n / 10) (UInt8.ofNat (48 + n % 10) :: t)
      rw [List.length_cons] at this
      omega

theorem by8_le {s : ByteArray} {n : Nat} (h : s.size ≤ n) : (by8 s).length ≤ n := by rw [by8_length]; exact h

theorem keyA20 (a : Int) : (keyA a).size ≤ 20 := by
  unfold keyA
  split
  · exact (by decide : (⟨#[37, 108, 101, 102, 116]⟩ : ByteArray).size ≤ 20)
  · split
    · exact (by decide : (⟨#[37, 114, 105, 103, 104, 116]⟩ : ByteArray).size ≤ 20)
    · exact (by decide : (⟨#[37, 110, 111, 110, 97, 115, 115, 111, 99]⟩ : ByteArray).size ≤ 20)

theorem okW_map {l : List ByteArray} (h1 : l.length ≤ 50) (h2 : ∀ x ∈ l, x.size ≤ 20) : OkW (l.map by8) := by
  refine ⟨by rw [List.length_map]; exact h1, fun x hx => ?_⟩
  obtain ⟨y, hy, rfl⟩ := List.mem_map.1 hx
  exact by8_le (h2 y hy)

/-- A grammar of few and short names. -/
structure Tiny (G : Gm) : Prop where
  nt : G.ts.length ≤ 42
  nr : G.rs.length ≤ 105
  st : G.s.size ≤ 15
  tk : ∀ t ∈ G.ts, t.n.size ≤ 15
  rl : ∀ r ∈ G.rs, r.l.size ≤ 15 ∧ r.p.size ≤ 15 ∧ r.r.length ≤ 22 ∧ ∀ x ∈ r.r, x.size ≤ 15

theorem cut_tiny (G : Gm) : Tiny (cutG G) := by
  have h := fun s : ByteArray => cutS_size s 15
  refine ⟨?_, ?_, h G.s, ?_, ?_⟩
  · simp only [cutG, List.length_map, List.length_take]; omega
  · simp only [cutG, List.length_map, List.length_take]; omega
  · intro t ht
    simp only [cutG] at ht
    obtain ⟨u, -, rfl⟩ := List.mem_map.1 ht
    exact h u.n
  · intro r hr
    simp only [cutG] at hr
    obtain ⟨u, -, rfl⟩ := List.mem_map.1 hr
    refine ⟨h u.l, h u.p, by simp only [cutR, List.length_map, List.length_take]; omega, ?_⟩
    intro x hx
    simp only [cutR] at hx
    obtain ⟨y, -, rfl⟩ := List.mem_map.1 hx
    exact h y

theorem levLs_ok {G : Gm} (h : Tiny G) (l : List Int) : ∀ k, (levLs G.ts l k).length ≤ k ∧ ∀ ws ∈ levLs G.ts l k, OkW ws
  | 0 => ⟨by simp [levLs], fun ws hw => by simp [levLs] at hw⟩
  | k + 1 => by
    obtain ⟨h1, h2⟩ := levLs_ok h l k
    have h3 : (levLn G.ts l (k + 1)).length ≤ 1 ∧ ∀ ws ∈ levLn G.ts l (k + 1), OkW ws := by
      unfold levLn
      split
      · exact ⟨by decide, fun ws hw => by cases hw⟩
      · refine ⟨Nat.le_refl 1, fun ws hw => ?_⟩
        rw [List.mem_singleton] at hw
        subst hw
        refine okW_map ?_ (fun x hx => ?_)
        · have := h.nt
          have h4 : (namesAt G.ts ((k + 1 : Nat) : Int)).length ≤ G.ts.length := by
            unfold namesAt
            rw [List.length_map]
            exact List.length_filter_le _ _
          rw [List.length_cons]
          omega
        · rcases List.mem_cons.1 hx with rfl | hx
          · exact keyA20 _
          · unfold namesAt at hx
            obtain ⟨t, ht, rfl⟩ := List.mem_map.1 hx
            have := h.tk t (List.mem_filter.1 ht).1
            omega
    rw [levLs_succ]
    refine ⟨by rw [List.length_append]; omega, fun ws hw => ?_⟩
    rcases List.mem_append.1 hw with hw | hw
    · exact h2 ws hw
    · exact h3.2 ws hw

theorem ruleL_ok {r : Ru} (h : r.l.size ≤ 15 ∧ r.p.size ≤ 15 ∧ r.r.length ≤ 22 ∧ ∀ x ∈ r.r, x.size ≤ 15) : OkW ((ruleL r).map by8) := by
  obtain ⟨h1, h2, h3, h4⟩ := h
  refine okW_map ?_ (fun x hx => ?_)
  · unfold ruleL
    split <;> simp <;> omega
  · unfold ruleL at hx
    rcases List.mem_append.1 hx with hx | hx
    · rcases List.mem_append.1 hx with hx | hx
      · rcases List.mem_append.1 hx with hx | hx
        · rcases List.mem_cons.1 hx with rfl | hx
          · omega
          · rw [List.mem_singleton] at hx
            subst hx
            decide
        · have := h4 x hx
          omega
      · split at hx
        · cases hx
        · rcases List.mem_cons.1 hx with rfl | hx
          · decide
          · rw [List.mem_singleton] at hx
            subst hx
            omega
    · rw [List.mem_singleton] at hx
      subst hx
      decide

theorem lines_ok {G : Gm} (h : Tiny G) (l : List Int) : (linesG G l).length ≤ 120 ∧ ∀ ws ∈ linesG G l, OkW ws := by
  obtain ⟨v1, v2⟩ := levLs_ok h l 8
  have t1 : (tokLn G.ts).length ≤ 1 ∧ ∀ ws ∈ tokLn G.ts, OkW ws := by
    unfold tokLn
    split
    · exact ⟨by decide, fun ws hw => by cases hw⟩
    · refine ⟨Nat.le_refl 1, fun ws hw => ?_⟩
      rw [List.mem_singleton] at hw
      subst hw
      refine okW_map ?_ (fun x hx => ?_)
      · have := h.nt
        rw [List.length_cons, List.length_map]
        omega
      · rcases List.mem_cons.1 hx with rfl | hx
        · decide
        · obtain ⟨t, ht, rfl⟩ := List.mem_map.1 hx
          have := h.tk t ht
          omega
  have s1 : (startLn G.s).length ≤ 1 ∧ ∀ ws ∈ startLn G.s, OkW ws := by
    unfold startLn
    split
    · exact ⟨by decide, fun ws hw => by cases hw⟩
    · refine ⟨Nat.le_refl 1, fun ws hw => ?_⟩
      rw [List.mem_singleton] at hw
      subst hw
      refine okW_map (by decide : (2 : Nat) ≤ 50) (fun x hx => ?_)
      rcases List.mem_cons.1 hx with rfl | hx
      · decide
      · rw [List.mem_singleton] at hx
        subst hx
        have := h.st
        omega
  have e1 : (expLn G.e).length ≤ 1 ∧ ∀ ws ∈ expLn G.e, OkW ws := by
    unfold expLn
    split
    · exact ⟨by decide, fun ws hw => by cases hw⟩
    · refine ⟨Nat.le_refl 1, fun ws hw => ?_⟩
      rw [List.mem_singleton] at hw
      subst hw
      refine ⟨(by decide : (2 : Nat) ≤ 50), fun x hx => ?_⟩
      rcases List.mem_cons.1 hx with rfl | hx
      · decide
      · rw [List.mem_singleton] at hx
        subst hx
        have := dg6 6 G.e.toNat []
        rw [List.length_nil] at this
        omega
  have two : OkW [by8 ⟨#[37, 37]⟩] := ⟨by decide, fun x hx => by rw [List.mem_singleton] at hx; subst hx; decide⟩
  unfold linesG headLn
  refine ⟨?_, fun ws hw => ?_⟩
  · simp only [List.length_append, List.length_map, List.length_cons, List.length_nil]
    have := h.nr
    omega
  · rcases List.mem_append.1 hw with hw | hw
    · rcases List.mem_append.1 hw with hw | hw
      · rcases List.mem_append.1 hw with hw | hw
        · rcases List.mem_append.1 hw with hw | hw
          · rcases List.mem_append.1 hw with hw | hw
            · exact t1.2 ws hw
            · exact v2 ws hw
          · exact s1.2 ws hw
        · exact e1.2 ws hw
      · rw [List.mem_singleton] at hw
        subst hw
        exact two
    · obtain ⟨r, hr, rfl⟩ := List.mem_map.1 hw
      exact ruleL_ok (h.rl r hr)

theorem text_size {G : Gm} {T : ByteArray} (h : TextP (cutG G) T) : T.size ≤ 140000 := by
  rcases Classical.em (MayP (cutG G)) with hm | hm
  · obtain ⟨l, hl, -⟩ := hm.tk.2
    have e := h.1 hm l hl
    rw [← by8_length, e]
    obtain ⟨h1, h2⟩ := lines_ok (cut_tiny G) l
    have := tx20 _ h2
    omega
  · rw [h.2 hm]
    exact Nat.zero_le _

/-- Words stand within their text. -/
theorem scanF_pos {l : List UInt8} : ∀ (f i : Nat) (a : List (Nat × Nat × Nat)), (∀ x ∈ a, x.2.1 ≤ x.2.2 ∧ x.2.2 ≤ l.length) → i ≤ l.length → ∀ x ∈ (scanF f l i a).1, x.2.1 ≤ x.2.2 ∧ x.2.2 ≤ l.length
  | 0, i, a, ha, _ => fun x hx => by simp [scanF] at hx; exact ha x hx
  | f + 1, i, a, ha, hi => by
    by_cases h : i < l.length
    · by_cases hK : (wordP l i).1 = 0
      · rw [scan_bad h hK]
        intro x hx
        cases hx
      · rw [scan_next h hK]
        have h2 := wordP_range h
        refine scanF_pos f _ _ (fun x hx => ?_) (skip_le h2.2.1).2
        rcases List.mem_append.1 hx with hx | hx
        · exact ha x hx
        · rw [List.mem_singleton] at hx
          subst hx
          exact ⟨h2.1, h2.2.1⟩
    · rw [scan_out (by omega)]
      intro x hx
      rcases List.mem_append.1 hx with hx | hx
      · exact ha x hx
      · rw [List.mem_singleton] at hx
        subst hx
        exact ⟨Nat.le_refl _, Nat.le_refl _⟩

theorem scan_pos (l : List UInt8) : ∀ x ∈ (scan l).1, x.2.1 ≤ x.2.2 ∧ x.2.2 ≤ l.length :=
  scanF_pos _ _ _ (fun x hx => by cases hx) (skip_le (Nat.zero_le _)).2

end Go.Proofs.YtkaojokhdleeiaaGreatDoor

/-
  ReadWords: whatever the input, the call returns true and leaves all that was there as it was.
-/
namespace Go.Proofs.YtkaojokhdleeiaaGreatDoor.Words
open Go.RowKit

set_option maxRecDepth 20000

set_option maxHeartbeats 8000000 in
theorem walk (h : Hd) (G : Gm) (a1 : Int) (a2 : ByteArray) (a3 : Int) (w : World) (hp : Pow w) (hG : RawG w h G) : Calls Tryz.prog 4 #[gv h G, .int .i64 a1, .string a2, .int .i64 a3] w fun e w' => e = .returned (.bool true) ∧ Below w.heap.size w w' := by
  obtain ⟨ts, st, ex, rs⟩ := G
  obtain ⟨ta, tc, ra, rc⟩ := h
  have hB0 := below_alloc w (.cells #[.slice ta ts.length tc, .string st, .int .i64 ex, .slice ra rs.length rc] 28)
  have hb0 := heap_alloc_new w (.cells #[.slice ta ts.length tc, .string st, .int .i64 ex, .slice ra rs.length rc] 28)
  have HR : Hid (∀ V : World, Below w.heap.size w V → RawG V ⟨ta, tc, ra, rc⟩ ⟨ts, st, ex, rs⟩ ∧ Pow V) := fun V hV => ⟨hG.below hV, hp.below hV⟩
  have HS : Hid (∀ W : World, Below w.heap.size w W → ∀ t : ByteArray, t.size ≤ 1000000 → Calls Tryz.prog 10 #[.string t] W fun e w' => e = .returned (.bool true) ∧ Below w.heap.size w w') := fun W hW t ht => (same_calls t W (by omega)).mono fun e w' h => ⟨h.1, below_step hW h.2⟩
  clear hG hp
  unfold gv
  simp only
  go_enter Tryz.func4, Tryz.ntmps4
  go_upto_region 1 with fail
  obtain ⟨nb, hnb⟩ : ∃ nb, nb = w.heap.size := ⟨_, rfl⟩
  rw [← hnb] at hb0 ⊢
  generalize w.alloc (.cells #[.slice ta ts.length tc, .string st, .int .i64 ex, .slice ra rs.length rc] 28) = W at hB0 hb0 ⊢
  have HW : Hid (Below w.heap.size w W ∧ W.heap[nb]? = some (.cells #[.slice ta ts.length tc, .string st, .int .i64 ex, .slice ra rs.length rc] 28 (0, 0))) := ⟨hB0, hb0⟩
  clear hB0 hb0 hnb
  go_wp2_with fail
  refine (begun6_calls W (HR.out W HW.out.1).2).mono ?_
  rintro e w1 ⟨rfl, hB⟩
  have H1 : Hid (Below w.heap.size w w1) := below_step HW.out.1 hB
  obtain ⟨y0, y1, y2, y3, -, -, -, -⟩ := box_cells (block_below hB HW.out.2)
  have HC : Hid (Calls Tryz.prog 13 #[.agg #[.slice ta ts.length tc, .string st, .int .i64 ex, .slice ra rs.length rc]] w1 fun e w' => ∃ h' qs, e = .returned (gv h' (cutG ⟨ts, st, ex, rs⟩)) ∧ OwnG w' w1.heap.size h' (cutG ⟨ts, st, ex, rs⟩) qs ∧ Below w1.heap.size w1 w') := cutG_calls ⟨ts, st, ex, rs⟩ ⟨ta, tc, ra, rc⟩ w1 (HR.out w1 H1.out).1
  clear hB HW
  generalize ts.length = tn at *
  generalize rs.length = rn at *
  go_wp2_with fail
  refine HC.out.mono ?_
  rintro e w2 ⟨h', qs, rfl, hO, hB⟩
  have H2 : Hid (Below w.heap.size w w2) := below_step H1.out hB
  obtain ⟨T, hT⟩ := textP_ex (cutG ⟨ts, st, ex, rs⟩)
  have HTX : Hid (Calls Tryz.prog 12 #[gv h' (cutG ⟨ts, st, ex, rs⟩)] w2 fun e w' => e = .returned (.string T) ∧ Below w2.heap.size w2 w') := rtext_calls _ h' w2 T (hO.isG (cut_small _)) (HR.out w2 H2.out).2 hT
  have hTs := text_size hT
  have hTs' : (T.size : Int) ≤ 140000 := by omega
  clear hB hO hT HC y0 y1 y2 y3
  generalize gv h' (cutG ⟨ts, st, ex, rs⟩) = gw at *
  go_wp2_with fail
  refine HTX.out.mono ?_
  rintro e w3 ⟨rfl, hB⟩
  have H3 : Hid (Below w.heap.size w w3) := below_step H2.out hB
  clear hB HTX
  have HSC : Hid (Calls Tryz.prog 14 #[.string T] w3 fun e w' => Scanned T w3 w' e) := rscan_calls T w3 (by omega)
  go_wp2_with fail
  refine HSC.out.mono ?_
  rintro e w4 ⟨v, rfl, hW, hB⟩
  have H4 : Hid (Below w.heap.size w w4 ∧ IsW w4 w3.heap.size T v (scan (by8 T)).1) := ⟨below_step H3.out hB, hW⟩
  obtain ⟨ao, n, cap, rfl, hn, hnc, hcm⟩ : ∃ ao n cap, v = .slice ao n cap ∧ n = (scan (by8 T)).1.length ∧ n ≤ cap ∧ cap ≤ 9223372036854775807 := by
    unfold IsW at hW
    obtain ⟨ao, c, e, q1, q2, q3⟩ := own_slice hW
    exact ⟨ao, _, c, e, rfl, q1, by unfold maxLen at q2; exact q2⟩
  have HN : Hid (n = (scan (by8 T)).1.length) := hn
  generalize (scan (by8 T)).2 = bad
  clear hB hW HSC hn
  have HCU : Hid (∀ W : World, Calls Tryz.prog 11 #[.string a2, .int .i64 14] W fun e w' => e = .returned (.string (cutS a2 14)) ∧ w' = W) := fun W => cut_calls a2 14 W
  have hcz := cutS_size a2 14
  generalize cutS a2 14 = cw at *
  go_wp2_with fail
  refine (HCU.out _).mono ?_
  rintro e w5 ⟨rfl, hw5⟩
  subst w5
  by_cases hn2 : n < 2
  · have hn2' : (n : Int) < 2 := by omega
    go_wp2_with fail
    go_ret
    exact ⟨rfl, H4.out.1⟩
  have hn2' : ¬ (n : Int) < 2 := by omega
  by_cases ha0 : a1 < 0
  · go_wp2_with fail
    go_ret
    exact ⟨rfl, H4.out.1⟩
  obtain ⟨m, rfl⟩ : ∃ m : Nat, n = m + 2 := ⟨n - 2, by omega⟩
  have hr := Int.emod_nonneg a1 (show (m : Int) + 2 - 1 ≠ 0 by omega)
  have hr3 := Int.emod_lt_of_pos a1 (show 0 < (m : Int) + 2 - 1 by omega)
  obtain ⟨q, hq⟩ : ∃ q : Nat, a1 % ((m : Int) + 2 - 1) = (q : Int) := ⟨(a1 % ((m : Int) + 2 - 1)).toNat, by omega⟩
  have hqm : q < m + 2 := by omega
  clear hr hr3
  obtain ⟨x, hx⟩ : ∃ x, (scan (by8 T)).1[q]? = some x := ⟨(scan (by8 T)).1[q]'(by rw [← HN.out]; exact hqm), List.getElem?_eq_getElem _⟩
  have hpos := scan_pos (by8 T) x (List.mem_of_getElem? hx)
  rw [by8_length] at hpos
  obtain ⟨xk, xi, xe⟩ := x
  simp only at hpos
  obtain ⟨b, rfl, c0, c1, c2⟩ : ∃ b, ao = some ⟨b, 0, none⟩ ∧ w4.cell? ⟨b, q * 3, none⟩ = some (.int .i64 xk) ∧ w4.cell? ⟨b, q * 3 + 1, none⟩ = some (.string (T.extract xi xe)) ∧ w4.cell? ⟨b, q * 3 + 2, none⟩ = some (.int .i64 xi) := by
    have ho := H4.out.2
    unfold IsW at ho
    rw [cellsW_eq, ← HN.out] at ho
    obtain ⟨ao', c, e, q1, q2, q3⟩ := own_slice ho
    cases e
    obtain ⟨b, rfl⟩ : ∃ b, ao = some ⟨b, 0, none⟩ := by
      rcases q3 with ⟨-, q3, -⟩ | q3
      · omega
      · exact q3
    have hat : ((scan (by8 T)).1.map (wdOf T))[q]? = some ⟨(xk : Int), T.extract xi xe, (xi : Int)⟩ := by rw [List.getElem?_map, hx]; rfl
    have cell : ∀ j u, (wdC ((scan (by8 T)).1.map (wdOf T)))[j]? = some u → w4.cell? ⟨b, j, none⟩ = some u := fun j u hu => by
      have := World.ownsRow.cells ho (g := b) rfl j u hu
      rwa [Addr.add_lit, Nat.zero_add] at this
    have e3 : ∀ j, j < 3 → (wdC ((scan (by8 T)).1.map (wdOf T)))[q * 3 + j]? = ([.int .i64 (xk : Int), .string (T.extract xi xe), .int .i64 (xi : Int)] : List Value)[j]? := fun j hj => three_at (fun x : Wd => [.int .i64 x.k, .string x.t, .int .i64 x.a]) (fun _ => rfl) _ q _ j hat hj
    exact ⟨b, rfl, cell _ _ (e3 0 (by omega)), cell _ _ (e3 1 (by omega)), cell _ _ (e3 2 (by omega))⟩
  have hxs : (T.extract xi xe).size = xe - xi := by rw [ByteArray.size_extract]; omega
  have HB5 : Hid (Below w.heap.size w (w4.alloc (.cells #[.int .i64 xk, .string (T.extract xi xe), .int .i64 xi] 35))) := below_step H4.out.1 (below_alloc _ _)
  have hb5 := heap_alloc_new w4 (.cells #[.int .i64 xk, .string (T.extract xi xe), .int .i64 xi] 35)
  generalize T.extract xi xe = xw at *
  go_upto_region 10 with fail
  obtain ⟨tb, htb⟩ : ∃ tb, tb = w4.heap.size := ⟨_, rfl⟩
  rw [← htb] at hb5 ⊢
  generalize w4.alloc (.cells #[.int .i64 xk, .string xw, .int .i64 xi] 35) = w5 at HB5 hb5 ⊢
  obtain ⟨p0, p1, p2⟩ := box35 hb5
  have HP5 : Hid (w5.heap[tb]? = some (.cells #[.int .i64 xk, .string xw, .int .i64 xi] 35 (0, 0))) := hb5
  have hs1 : (xi : Int) ≤ (T.size : Int) := by omega
  have hs2 : (xi : Int) + (xw.size : Int) ≤ (T.size : Int) := by omega
  have hs3 : xi + xw.size ≤ T.size := by omega
  clear c0 c1 c2 hb5 htb hxs hpos hq hqm H4 hx
  go_quiet (fail)
  have HB6 : Hid (Below w.heap.size w (w5.drewN nq)) := below_drewN HB5.out nq
  have p1' : (w5.drewN nq).cell? ⟨tb, 1, none⟩ = some (.string xw) := p1
  generalize w5.drewN nq = w6 at *
  clear p0 p1 p2 HP5 HB5
  have hA : (T.extract 0 xi).size ≤ xi := by rw [ByteArray.size_extract]; omega
  have hBs : (T.extract (xi + xw.size) T.size).size ≤ T.size := by rw [ByteArray.size_extract]; omega
  generalize T.extract 0 xi = A at *
  generalize T.extract (xi + xw.size) T.size = B at *
  have hxw : xw.size ≤ 140000 := by omega
  have hAz : A.size ≤ 140000 := by omega
  have hBz : B.size ≤ 140000 := by omega
  go_upto_region 12 with fail
  generalize bits BinOp.and IntKind.i64 a3 3 = x
  by_cases x0 : x = 0
  · have hx0 : (x == 0) = true := by simp [x0]
    clear x0
    have H9 : Hid (Calls Tryz.prog 10 #[.string (A ++ (⟨#[32]⟩ : ByteArray) ++ B)] w6 fun e w' => e = .returned (.bool true) ∧ Below w.heap.size w w') := HS.out w6 HB6.out _ (by have e1 : (⟨#[32]⟩ : ByteArray).size = 1 := rfl; rw [ByteArray.size_append, ByteArray.size_append]; omega)
    clear HS HB6
    go_wp2_with fail
    refine H9.out.mono ?_
    rintro e w7 ⟨rfl, hB⟩
    have HB7 : Hid (Below w.heap.size w w7) := hB
    clear hB
    go_wp2_with fail
    go_ret
    exact ⟨rfl, HB7.out⟩
  have hx0 : (x == 0) = false := by simp [x0]
  by_cases x1 : x = 1
  · have hx1 : (x == 1) = true := by simp [x1]
    clear x0 x1
    have H9 : Hid (Calls Tryz.prog 10 #[.string (A ++ (⟨#[32]⟩ : ByteArray) ++ cw ++ ⟨#[32]⟩ ++ B)] w6 fun e w' => e = .returned (.bool true) ∧ Below w.heap.size w w') := HS.out w6 HB6.out _ (by have e1 : (⟨#[32]⟩ : ByteArray).size = 1 := rfl; rw [ByteArray.size_append, ByteArray.size_append, ByteArray.size_append, ByteArray.size_append]; omega)
    clear HS HB6
    go_wp2_with fail
    refine H9.out.mono ?_
    rintro e w7 ⟨rfl, hB⟩
    have HB7 : Hid (Below w.heap.size w w7) := hB
    clear hB
    go_wp2_with fail
    go_ret
    exact ⟨rfl, HB7.out⟩
  have hx1 : (x == 1) = false := by simp [x1]
  by_cases x2 : x = 2
  · have hx2 : (x == 2) = true := by simp [x2]
    clear x0 x1 x2
    have H9 : Hid (Calls Tryz.prog 10 #[.string (A ++ xw ++ ⟨#[32]⟩ ++ xw ++ B)] w6 fun e w' => e = .returned (.bool true) ∧ Below w.heap.size w w') := HS.out w6 HB6.out _ (by have e1 : (⟨#[32]⟩ : ByteArray).size = 1 := rfl; rw [ByteArray.size_append, ByteArray.size_append, ByteArray.size_append, ByteArray.size_append]; omega)
    clear HS HB6
    go_wp2_with fail
    refine H9.out.mono ?_
    rintro e w7 ⟨rfl, hB⟩
    have HB7 : Hid (Below w.heap.size w w7) := hB
    clear hB
    go_wp2_with fail
    go_ret
    exact ⟨rfl, HB7.out⟩
  have hx2 : (x == 2) = false := by simp [x2]
  clear x0 x1 x2
  have H9 : Hid (Calls Tryz.prog 10 #[.string A] w6 fun e w' => e = .returned (.bool true) ∧ Below w.heap.size w w') := HS.out w6 HB6.out _ (by omega)
  clear HS HB6
  go_wp2_with fail
  refine H9.out.mono ?_
  rintro e w7 ⟨rfl, hB⟩
  have HB7 : Hid (Below w.heap.size w w7) := hB
  clear hB
  go_wp2_with fail
  go_ret
  exact ⟨rfl, HB7.out⟩

end Go.Proofs.YtkaojokhdleeiaaGreatDoor.Words

/-
  ReadWords: for every grammar, two numbers and a text, read.Read and the document's answer agree on the text with one word turned (the call returns true), under no condition but the tied tables and sentinels.
-/
namespace Go.Proofs.YtkaojokhdleeiaaGreatDoor.Words
open Go.ChangeShapes Go.WideShapes Go.ChangeAt Go.RowKit
open Go.ChangeMaps (open_string shut_string)

set_option maxRecDepth 100000 in
theorem lifted (os : Os) (started : os.Started) (H : Type) (enc : TypeId × Value → H) :
    ReturnsInHanded {} Tryz.checked os 4 .any (fun w args => (Rows.readWordsSpec.pre enc Tryz.prog Tryz.f4 [] false w args ∧ laidMetH Tryz.prog laid5 w) ∧ sizedMet enc Tryz.prog Tryz.f4 (OpenSpec.ofChange Rows.readWordsSpec) false w args) (Rows.readWordsSpec.post enc Tryz.prog Tryz.f4 false true false false) := by
  refine returnsInHanded_of_change_and (C := Tryz.checked) (X := fun w _ => laidMetH Tryz.prog laid5 w) (fun _ _ _ hh h => h.of_heap hh) own started (by kernel_rfl) Tryz.func4
    (ChangeSpec.witness_shaped (enc := enc) (C := Tryz.checked) (os := os) (X := fun w _ => laidMetH Tryz.prog laid5 w) false (World.doorLaid Tryz.prog 64 os) #[.agg #[.slice none 0 0, .string ⟨#[]⟩, .int .i64 0, .slice none 0 0], .int .i64 0, .string ⟨#[]⟩, .int .i64 0] 8 rfl (World.shaped_of_RefB (by kernel_rfl) (by kernel_rfl)) (by kernel_rfl) (by kernel_rfl) (by kernel_rfl) (door_met os _)) ?_
  intro W base args ds gs before hval0 hW _ _ hL _
  have hval : ∀ (j : Nat) t v, Tryz.f4.params[j]? = some t → args[j]? = some v → Value.okWide Tryz.prog W .any base t v := hval0
  have hW' := hW
  obtain ⟨p, q, hA0, hV, rfl, _, _⟩ := hW
  have hA : DataW.TrodAll enc Tryz.prog W 0 (fun _ => true) true Tryz.f4.params.toList args.toList ds p := hA0
  rw [Tryz.params4] at hA hval
  obtain ⟨v0, vs0, d0, ds0, p0, q0, _, rfl, rfl, h0, r0⟩ := trodAll_cons hA
  obtain ⟨v1, vs1, d1, ds1, p1, q1, rfl, rfl, rfl, h1, r1⟩ := trodAll_cons r0
  obtain ⟨v2, vs2, d2, ds2, p2, q2, rfl, rfl, rfl, h2, r2⟩ := trodAll_cons r1
  obtain ⟨v3, vs3, d3, ds3, p3, q3, rfl, rfl, rfl, h3, r3⟩ := trodAll_cons r2
  obtain ⟨rfl, rfl, rfl⟩ := trodAll_nil r3
  obtain rfl : args = #[v0, v1, v2, v3] := by cases args; simp_all
  obtain ⟨rfl, rfl⟩ := trodVars_none hV
  have k0 := h0
  have lt0 : ∀ x ∈ p0, x.block < W.heap.size := by obtain ⟨m, hm⟩ := k0; exact DataW.trod_lt m _ _ _ hm
  obtain ⟨H0, G0, rfl, raw0⟩ := open_gram (hval 0 28 v0 rfl rfl) h0
  obtain ⟨a1, rfl, rfl, rfl, w1⟩ := open_int Tryz.underlying3 (hval 1 3 v1 rfl rfl) h1
  obtain ⟨a2, rfl, rfl, rfl, w2⟩ := open_string Tryz.underlying9 (hval 2 9 v2 rfl rfl) h2
  obtain ⟨a3, rfl, rfl, rfl, w3⟩ := open_int Tryz.underlying3 (hval 3 3 v3 rfl rfl) h3
  clear hA0 hval0
  simp only [List.append_nil] at hW'
  refine (walk H0 G0 a1 a2 a3 W (pow_of_laid hL) raw0 ).mono fun e W' ⟨he, bel⟩ => ?_
  subst he
  exact ⟨_, rfl, _, _, _, [], _, [], hW', trodAll_mk1 (shut_bool Tryz.underlying4 _), (trodAll_cons_mk (Below.trod laidOut (by kernel_rfl) (of_decide_eq_true (by kernel_rfl)) k0 bel lt0) (trodAll_cons_mk (shut_int Tryz.underlying3 w1) (trodAll_cons_mk (shut_string Tryz.underlying9 w2) (trodAll_cons_mk (shut_int Tryz.underlying3 w3) trodAll_mk0)))), rfl, bel.frame _, fun h => by cases h⟩

theorem over : Rows.readWordsRow.holds Tryz.pinned (OpenSpec.ofChange Rows.readWordsSpec) :=
  OpenClaim.holds_of_wide 4 Tryz.f4 rfl rfl rfl rfl rfl rfl rfl ⟨rfl, rfl, rfl, rfl, rfl⟩ rfl rfl rfl rfl rfl (by kernel_rfl) Tryz.func4 (by kernel_rfl)
    (of_decide_eq_true (by kernel_rfl)) (by unfold Func.isWrapper; first | (rw [if_pos (by decide +kernel)]; kernel_rfl) | (rw [if_neg (by decide +kernel)]; exact ⟨rfl, rfl⟩))
    (fun os started H enc _ => lifted os started H enc)

theorem card : Claim7.holds Tryz.pinned (.plain (OpenSpec.ofChange Rows.readWordsSpec)) Rows.readWordsCard :=
  Claim7.holds_tied_plain_at .later [] [.data, .data, .data, .sentinel, .sentinel] true (true, "a34ec45f1bf4a802a45acaf3f737525841640676f706a3d95b9ddd94c0393142") true
    over (fun _ h => by cases h) (by kernel_rfl) (fun _ h => by cases h) readWords_row_tie rfl ⟨rfl, rfl⟩ (by kernel_rfl) rfl
    (fun f fn hf hfn => by
      obtain rfl : f = 4 := Option.some.inj ((show Tryz.prog.funcNamed "donatus/donatuslaw6.ReadWords" = some 4 by kernel_rfl).symm.trans hf) |>.symm
      obtain rfl : fn = Tryz.f4 := (Option.some.inj (Tryz.func4.symm.trans hfn)).symm
      exact ⟨by kernel_rfl, fun j t ht => by
        rw [Tryz.params4] at ht
        have hm : t ∈ [28, 3, 9, 3] := by simpa using Array.mem_of_getElem? ht
        have hall : ([28, 3, 9, 3].all fun u => !Tryz.prog.wantsStandIn u) = true := by kernel_rfl
        exact (show Tryz.prog.wantsStandIn t = false by simpa using List.all_eq_true.1 hall t hm)⟩)
    (by kernel_rfl)

end Go.Proofs.YtkaojokhdleeiaaGreatDoor.Words
namespace Go.Proofs.YtkaojokhdleeiaaGreatDoor
theorem readWords_holds : Rows.ReadWordsCardSaid := Words.card
#print axioms readWords_holds
end Go.Proofs.YtkaojokhdleeiaaGreatDoor
