/-
  A grammar in a box of the call's own of which one part is turned; names of any length.
-/
import Derived.Test.YtdgadamkiililaaDoorTwoG
namespace Go.Proofs.YtdgadamkiililaaDoor
open Go.RowKit

theorem GB.setS {w W : World} {gb : Nat} {h : Hd} {G : Gm} {qs : List (Ru × Option Addr × Nat)} (g : GB w W gb h G qs) (s : ByteArray) : GB w (W.setCell ⟨gb, 1, none⟩ (.string s)) gb h ⟨G.ts, s, G.e, G.rs⟩ qs :=
  ⟨setCell_heap (cs := boxC h G) (.string s) g.box, by
    have o := g.own.box (j := 1) (u := .string s) g.box (by decide) (by decide) (by decide)
    exact ⟨o.tok, o.rul, o.map, o.row⟩, g.bel.setCell (p := ⟨gb, 1, none⟩) g.new _, g.new⟩

theorem GB.setR {w W : World} {gb : Nat} {h : Hd} {G : Gm} {qs : List (Ru × Option Addr × Nat)} (g : GB w W gb h G qs) {i j : Nat} {r : Ru} (hr : G.rs[i]? = some r) (hj : j < 3) (r' : Ru) (s : ByteArray) (hrr : r'.r = r.r)
    (hc : ∀ v : Value, ([.string r.l, v, .string r.p] : List Value).set j (.string s) = [.string r'.l, v, .string r'.p]) :
    ∃ b u, h.ra = some ⟨b, 0, none⟩ ∧ W.cell? ⟨b, i * 3 + j, none⟩ = some u ∧ W.frozen? ⟨b, i * 3 + j, none⟩ = false ∧ b ≠ gb ∧ ∃ qs', GB w (W.setCell ⟨b, i * 3 + j, none⟩ (.string s)) gb h ⟨G.ts, G.s, G.e, G.rs.set i r'⟩ qs' := by
  have hm := g.own.map
  have hq : ∃ q, qs[i]? = some q ∧ q.1 = r := by
    rw [← hm, List.getElem?_map] at hr
    obtain ⟨q, h1, h2⟩ := Option.map_eq_some_iff.1 hr
    exact ⟨q, h1, h2⟩
  obtain ⟨q, hq, rfl⟩ := hq
  have hi : i < G.rs.length := (List.getElem?_eq_some_iff.1 hr).1
  obtain ⟨ao, c, e, h1, h2, h3⟩ := own_slice g.own.rul
  have hra : ∃ b, h.ra = some ⟨b, 0, none⟩ := by
    cases e
    rcases h3 with ⟨-, h3, -⟩ | ⟨b, h3⟩
    · omega
    · exact ⟨b, h3⟩
  obtain ⟨b, hra⟩ := hra
  have hrul := g.own.rul
  rw [hra] at hrul
  obtain ⟨u, hu⟩ : ∃ u, (rulC qs)[i * 3 + j]? = some u := by
    unfold rulC
    rw [three_at _ (fun _ => rfl) qs i q j hq hj]
    exact ⟨_, List.getElem?_eq_getElem (by simpa using hj)⟩
  obtain ⟨c1, c2⟩ := own_cell hrul hu
  have hne : b ≠ gb := fun e => own_ne_block hrul g.box (by decide) (by rw [e]; rfl)
  have hb : w.heap.size ≤ b := (World.ownsRow.lt hrul b rfl).1
  refine ⟨b, u, hra, c1, c2, hne, qs.set i (r', q.2), ?_, ?_, g.bel.setCell (p := ⟨b, i * 3 + j, none⟩) hb _, g.new⟩
  · rw [Below.heap_setCell _ _ _ _ (fun e => hne e.symm), g.box]
    unfold boxC
    simp only [List.length_set]
  · exact g.own.setRule hra hq hj r' (.string s) hrr (by rw [hc, hrr])

theorem GB.setT {w W : World} {gb : Nat} {h : Hd} {G : Gm} {qs : List (Ru × Option Addr × Nat)} (g : GB w W gb h G qs) {i : Nat} {t : Tk} (ht : G.ts[i]? = some t) (s : ByteArray) :
    ∃ b u, h.ta = some ⟨b, 0, none⟩ ∧ W.cell? ⟨b, i * 3, none⟩ = some u ∧ W.frozen? ⟨b, i * 3, none⟩ = false ∧ b ≠ gb ∧ GB w (W.setCell ⟨b, i * 3, none⟩ (.string s)) gb h ⟨G.ts.set i ⟨s, t.l, t.a⟩, G.s, G.e, G.rs⟩ qs := by
  have hi : i < G.ts.length := (List.getElem?_eq_some_iff.1 ht).1
  obtain ⟨ao, c, e, h1, h2, h3⟩ := own_slice g.own.tok
  have hta : ∃ b, h.ta = some ⟨b, 0, none⟩ := by
    cases e
    rcases h3 with ⟨-, h3, -⟩ | ⟨b, h3⟩
    · omega
    · exact ⟨b, h3⟩
  obtain ⟨b, hta⟩ := hta
  have htok := g.own.tok
  rw [hta] at htok
  obtain ⟨u, hu⟩ : ∃ u, (tokC G.ts)[i * 3 + 0]? = some u := by
    unfold tokC
    rw [three_at _ (fun _ => rfl) G.ts i t 0 ht (by omega)]
    exact ⟨_, rfl⟩
  obtain ⟨c1, c2⟩ := own_cell htok hu
  have hne : b ≠ gb := fun e => own_ne_block htok g.box (by decide) (by rw [e]; rfl)
  have hb : w.heap.size ≤ b := (World.ownsRow.lt htok b rfl).1
  refine ⟨b, u, hta, c1, c2, hne, ?_, g.own.setTok hta ht s, g.bel.setCell (p := ⟨b, i * 3, none⟩) hb _, g.new⟩
  rw [Below.heap_setCell _ _ _ _ (fun e => hne e.symm), g.box]
  unfold boxC
  simp only [List.length_set]

/-- A grammar that the call owns, as one that came in. -/
theorem OwnG.raw {w : World} {base : Nat} {h : Hd} {G : Gm} {qs : List (Ru × Option Addr × Nat)} (o : OwnG w base h G qs) : RawG w h G := by
  have ht := Row.of_own o.tok
  have hr : RulesAt w h.ra G.rs.length h.rc G.rs := ⟨qs, o.map, Row.of_own o.rul, fun q hq => (o.row q hq).row rfl⟩
  refine ⟨?_, rules_le hr, fun i t hi => tok_at ht hi, fun i r hi => ?_⟩
  · have h1 := ht.le
    have h2 := ht.max
    unfold maxLen at h2
    omega
  · obtain ⟨b, o, xa, xc, e, c0, c1, c2, c3⟩ := hr.at hi
    refine ⟨b, o, xa, xc, e, c0, c1, c2, rfl, ?_, fun k s hk => str_at c3 hk⟩
    have h1 := c3.le
    have h2 := c3.max
    unfold maxLen at h2
    omega

set_option maxHeartbeats 2000000 in
theorem rname_big (s : ByteArray) (w : World) (hs : s.size ≤ 9223372036854775807) : Calls Tryd.prog 17 #[.string s] w fun e w' => e = .returned (.bool (nameOk (by8 s))) ∧ w' = w := by
  have HL : Hid ((by8 s).length = s.size) := by8_length s
  obtain ⟨r, HR⟩ : ∃ r, Hid (nameOk (by8 s) = r) := ⟨_, rfl⟩
  rw [HR.out]
  go_enter Tryd.func17, Tryd.ntmps17
  go_wp2
  go_loop [3] (fun v => ∃ k : Nat, k ≤ s.size ∧ v = .int .i64 k ∧ Hid (∀ i, i < k → isL (bt (by8 s) i) = true ∨ (i ≠ 0 ∧ isD (bt (by8 s) i) = true))) (fun v => s.size - (intOf v).toNat)
  case atStart => exact ⟨0, Nat.zero_le _, rfl, (fun i hi => absurd hi (Nat.not_lt_zero _) : ∀ i, i < 0 → isL (bt (by8 s) i) = true ∨ (i ≠ 0 ∧ isD (bt (by8 s) i) = true))⟩
  case round =>
    obtain ⟨k, hk, rfl, J⟩ := hrel
    by_cases hlt : k < s.size
    · have hix := run_index_bt s k hlt
      have hl : k < (by8 s).length := by rw [HL.out]; exact hlt
      by_cases h1 : isL (bt (by8 s) k) = true
      · have J2 : Hid (∀ i, i < k + 1 → isL (bt (by8 s) i) = true ∨ (i ≠ 0 ∧ isD (bt (by8 s) i) = true)) := fun i hi => by
          rcases Nat.lt_or_ge i k with h | h
          · exact J.out i h
          · rw [show i = k by omega]; exact .inl h1
        generalize bt (by8 s) k = c at hix h1
        clear hl J
        go_wp2_with (go_at_call 33; refine (letter_calls _ _).mono ?_; rintro e w' ⟨rfl, rfl⟩; rw [h1])
        go_round
        case rel => exact ⟨k + 1, by omega, by go_num, J2⟩
        case measure => simp [intOf]; omega
      · have h1 : isL (bt (by8 s) k) = false := by simpa using h1
        by_cases h0 : k = 0
        · have HF : Hid (r = false) := by show _ = _; rw [← HR.out]; exact nameOk_not hl h1 (.inl h0)
          generalize bt (by8 s) k = c at hix h1
          have hz : ((k : Int) == 0) = true := by simpa using h0
          clear hl J h0
          go_wp2_with (go_at_call 33; refine (letter_calls _ _).mono ?_; rintro e w' ⟨rfl, rfl⟩; rw [h1])
          go_ret
          exact ⟨by rw [HF.out]; rfl, rfl⟩
        · have hz : ((k : Int) == 0) = false := by simpa using h0
          by_cases h2 : isD (bt (by8 s) k) = true
          · have J2 : Hid (∀ i, i < k + 1 → isL (bt (by8 s) i) = true ∨ (i ≠ 0 ∧ isD (bt (by8 s) i) = true)) := fun i hi => by
              rcases Nat.lt_or_ge i k with h | h
              · exact J.out i h
              · rw [show i = k by omega]; exact .inr ⟨h0, h2⟩
            generalize bt (by8 s) k = c at hix h1 h2
            clear hl J h0
            go_wp2_with (first | (go_at_call 33; refine (letter_calls _ _).mono ?_; rintro e w' ⟨rfl, rfl⟩; rw [h1]) | (go_at_call 34; refine (rdigit_calls _ _).mono ?_; rintro e w' ⟨rfl, rfl⟩; rw [h2]))
            go_round
            case rel => exact ⟨k + 1, by omega, by go_num, J2⟩
            case measure => simp [intOf]; omega
          · have h2 : isD (bt (by8 s) k) = false := by simpa using h2
            have HF : Hid (r = false) := by show _ = _; rw [← HR.out]; exact nameOk_not hl h1 (.inr h2)
            generalize bt (by8 s) k = c at hix h1 h2
            clear hl J h0
            go_wp2_with (first | (go_at_call 33; refine (letter_calls _ _).mono ?_; rintro e w' ⟨rfl, rfl⟩; rw [h1]) | (go_at_call 34; refine (rdigit_calls _ _).mono ?_; rintro e w' ⟨rfl, rfl⟩; rw [h2]))
            go_ret
            exact ⟨by rw [HF.out]; rfl, rfl⟩
    · obtain rfl : k = s.size := by omega
      have HF : Hid (r = (decide ((1 : Int) ≤ (s.size : Int)) && decide ((s.size : Int) ≤ 12))) := by
        show _ = _
        rw [← HR.out, nameOk_all (by rw [HL.out]; exact J.out), HL.out]
      clear J
      by_cases h1 : (1 : Int) ≤ (s.size : Int)
      · have HF2 : Hid (r = decide ((s.size : Int) ≤ 12)) := by have := HF.out; rwa [decide_eq_true h1, Bool.true_and] at this
        clear HF
        go_wp2
        go_ret
        exact ⟨by rw [HF2.out]; rfl, rfl⟩
      · have HF2 : Hid (r = false) := by have := HF.out; rwa [decide_eq_false h1, Bool.false_and] at this
        clear HF
        go_wp2
        go_ret
        exact ⟨by rw [HF2.out]; rfl, rfl⟩

end Go.Proofs.YtdgadamkiililaaDoor
