/-
  The walk of gram's Text.
-/
import Derived.Test.YtdgadamkiililaaDoorPut
namespace Go.Proofs.YtdgadamkiililaaDoor
open Go.RowKit

def startLn (s : ByteArray) : List (List (List UInt8)) := if s = ⟨#[]⟩ then [] else [([⟨#[37, 115, 116, 97, 114, 116]⟩, s] : List ByteArray).map by8]
def expLn (e : Int) : List (List (List UInt8)) := if e = 0 then [] else [[by8 ⟨#[37, 101, 120, 112, 101, 99, 116]⟩, dg 6 e.toNat []]]
def headLn (G : Gm) (l : List Int) : List (List (List UInt8)) := tokLn G.ts ++ levLs G.ts l 8 ++ startLn G.s ++ expLn G.e ++ [[by8 ⟨#[37, 37]⟩]]

/-- All lines of a grammar. -/
def linesG (G : Gm) (l : List Int) : List (List (List UInt8)) := headLn G l ++ G.rs.map fun r => (ruleL r).map by8

/-- What is the text of a grammar. -/
def TextP (G : Gm) (t : ByteArray) : Prop := (MayP G → ∀ l, levF G.ts = some l → by8 t = tx (linesG G l)) ∧ (¬ MayP G → t = ⟨#[]⟩)

theorem textP_ex (G : Gm) : ∃ t, TextP G t := by
  rcases Classical.em (MayP G) with h | h
  · obtain ⟨l, hl, -⟩ := h.tk.2
    exact ⟨⟨(tx (linesG G l)).toArray⟩, fun _ l' hl' => by rw [hl] at hl'; cases hl'; rfl, fun h' => absurd h h'⟩
  · exact ⟨⟨#[]⟩, fun h' => absurd h' h, fun _ => rfl⟩

/-- A builder in new memory, its lines told. -/
def NewL (w wr : World) (b : Nat) (L : List (List (List UInt8))) : Prop := ∃ v, Bld wr b v (tx L) ∧ OkL L ∧ Below w.heap.size w wr ∧ ∀ k, Foot b v k → w.heap.size ≤ k

theorem dg_len_all : ((List.range 10000).all fun n => decide ((dg 6 n []).length ≤ 100)) = true := by kernel_rfl
theorem dg_len (n : Nat) (h : n ≤ 9999) : (dg 6 n []).length ≤ 100 := by
  have := List.all_eq_true.1 dg_len_all n (List.mem_range.2 (by omega))
  simpa using this

theorem NewL.put {w wr wr' : World} {b : Nat} {v v' : Value} {L : List (List (List UInt8))} (hb : Below w.heap.size w wr) (hf : ∀ k, Foot b v k → w.heap.size ≤ k) (h1 : Bld wr' b v' (tx L)) (h2 : OkL L) (hm : Moved wr b v wr' v') : NewL w wr' b L := by
  obtain ⟨-, -, h4, -⟩ := NewB.step hb hf h1 hm
  refine ⟨v', h1, h2, h4, ?_⟩
  rintro k (rfl | hk)
  · exact hf k (.inl rfl)
  · rcases hm.2 k hk with h7 | h7
    · exact hf k (.inr h7)
    · exact Nat.le_trans hb.size h7

theorem NewL.below {w wr wr' : World} {b : Nat} {L : List (List (List UInt8))} (h : NewL w wr b L) (hb : Below wr.heap.size wr wr') : NewL w wr' b L := by
  obtain ⟨v, h1, h2, h3, h4⟩ := h
  exact ⟨v, h1.below hb, h2, below_step h3 hb, h4⟩

theorem NewL.bel {w wr : World} {b : Nat} {L : List (List (List UInt8))} (h : NewL w wr b L) : Below w.heap.size w wr := by
  obtain ⟨v, -, -, h3, -⟩ := h
  exact h3

/-- One line more into a builder in new memory. -/
theorem putLine_new (l : List ByteArray) (ao : Option Addr) (n cap b : Nat) (L : List (List (List UInt8))) (w W : World) (hr : Row W 1 ao n cap (strC l)) (hn : n = l.length) (h1 : 1 ≤ n) (hnn : n ≤ 1000) (hs : ∀ x ∈ l, x.size ≤ 100) (hB : NewL w W b L) (hl : L.length ≤ 400) :
    Calls Tryd.prog 25 #[.pointer (some ⟨b, 0, none⟩), .slice ao n cap] W fun e w' => e = .returned (.tuple #[]) ∧ NewL w w' b (L ++ [l.map by8]) := by
  obtain ⟨v, b1, b2, b3, b4⟩ := hB
  refine (putLine_l l ao n cap b v L W hr hn h1 hnn hs b1 b2 hl).mono ?_
  rintro e w' ⟨v', rfl, c1, c2, c3⟩
  exact ⟨rfl, NewL.put b3 b4 c1 c2 c3⟩

theorem putRule_new (r : Ru) (xa : Option Addr) (xc b : Nat) (L : List (List (List UInt8))) (w W : World) (hr : Row W 1 xa r.r.length xc (strC r.r)) (hs : r.l.size ≤ 100 ∧ r.p.size ≤ 100 ∧ r.r.length ≤ 100 ∧ ∀ x ∈ r.r, x.size ≤ 100) (hB : NewL w W b L) (hl : L.length ≤ 400) :
    Calls Tryd.prog 27 #[.pointer (some ⟨b, 0, none⟩), .agg #[.string r.l, .slice xa r.r.length xc, .string r.p]] W fun e w' => e = .returned (.tuple #[]) ∧ NewL w w' b (L ++ [(ruleL r).map by8]) := by
  obtain ⟨v, b1, b2, b3, b4⟩ := hB
  refine (putRule_calls r xa xc b v L W hr hs b1 b2 hl).mono ?_
  rintro e w' ⟨v', rfl, c1, c2, c3⟩
  exact ⟨rfl, NewL.put b3 b4 c1 c2 c3⟩

theorem newL_fresh (w : World) : NewL w (w.alloc (.cells #[.pointer none, .slice none 0 0] 50)) w.heap.size [] := by
  obtain ⟨h1, h2, h3⟩ := freshB_alloc w w (Below.refl _ _)
  exact ⟨.slice none 0 0, h1, fun _ h => (by cases h), h2, h3⟩

theorem putTokens_new (ts : List Tk) (l : List Int) (ao : Option Addr) (n cap b : Nat) (w W : World) (hr : Row w 3 ao n cap (tokC ts)) (hn : n = ts.length) (hnn : n ≤ 100) (hs : ∀ t ∈ ts, t.n.size ≤ 100) (hlf : levF ts = some l) (hng : NoGap l) (hB : NewL w W b []) :
    Calls Tryd.prog 24 #[.pointer (some ⟨b, 0, none⟩), .slice ao n cap] W fun e w' => e = .returned (.tuple #[]) ∧ NewL w w' b (tokLn ts ++ levLs ts l 8) := by
  obtain ⟨v, b1, b2, b3, b4⟩ := hB
  refine (putTokens_calls ts l ao n cap b v [] W (hr.below b3) hn hnn hs hlf hng (fun h0 a ha hf => ?_) b1 b2 (by simp)).mono ?_
  · obtain ⟨g, o, e, hc⟩ := hr.at h0
    rw [ha] at e
    cases e
    have h1 := b4 _ hf
    have h2 : (tokC ts)[0]? = some ((tokC ts)[0]'(by rw [hr.len]; omega)) := List.getElem?_eq_getElem _
    have h3 := World.block_lt_of_cell? w _ (hc 0 _ h2)
    simp only at h1 h3
    omega
  · rintro e w' ⟨v', rfl, c1, c2, c3⟩
    rw [List.nil_append] at c1 c2
    exact ⟨rfl, NewL.put b3 b4 c1 c2 c3⟩

/-- Text of a grammar in memory. -/
def TextCalls (F : Nat) : Prop := ∀ (G : Gm) (h : Hd) (w : World) (T : ByteArray), IsG w h G → Pow w → TextP G T → Calls Tryd.prog F #[gv h G] w fun e w' => e = .returned (.string T) ∧ Below w.heap.size w w'

set_option maxHeartbeats 4000000 in
set_option maxRecDepth 20000 in
theorem text_calls : TextCalls 12 := by
  intro G h w T hG hpow hT
  obtain ⟨r, hr⟩ := bool_of (MayP G)
  have HM : Hid (∀ W : World, Below w.heap.size w W → Calls Tryd.prog 10 #[gv h G] W fun e w' => e = .returned (.bool r) ∧ Below W.heap.size W w') := fun W hW => may_calls G h W r (hG.below hW) hr
  obtain ⟨ts, st, ex, rs⟩ := G
  obtain ⟨ta, tc, ra, rc⟩ := h
  have hm1 : ts.length ≤ tc ∧ tc ≤ 9223372036854775807 := by have h1 := hG.tok.le; have h2 := hG.tok.max; simp only at h1 h2; unfold maxLen at h2; omega
  have hm2 := rules_le hG.rul
  simp only at hm2
  have hs1 : ts.length ≤ 100 := hG.small.nt
  have hs2 : rs.length ≤ 200 := hG.small.nr
  have HG : Hid (IsG w ⟨ta, tc, ra, rc⟩ ⟨ts, st, ex, rs⟩) := hG
  have HP : Hid (Pow w) := hpow
  have HT : Hid (TextP ⟨ts, st, ex, rs⟩ T) := hT
  have HR : Hid (r = true ↔ MayP ⟨ts, st, ex, rs⟩) := hr
  unfold gv at HM ⊢
  simp only at HM ⊢
  clear hG hpow hT hr
  obtain ⟨tn, hTN⟩ : ∃ n, ts.length = n := ⟨_, rfl⟩
  have HTN : Hid (ts.length = tn) := hTN
  obtain ⟨rn, hRN⟩ : ∃ n, rs.length = n := ⟨_, rfl⟩
  have HRN : Hid (rs.length = rn) := hRN
  rw [hTN] at hm1 hs1 HM ⊢
  rw [hRN] at hm2 hs2 HM ⊢
  clear hTN hRN
  go_enter Tryd.func12, Tryd.ntmps12
  go_upto_region 1 with fail
  have c0 : (w.alloc (.cells #[.slice ta tn tc, .string st, .int .i64 ex, .slice ra rn rc] 25)).cell? ⟨w.heap.size, 0, none⟩ = some (.slice ta tn tc) := by rw [World.cell?_alloc_mark]; rfl
  have c1 : (w.alloc (.cells #[.slice ta tn tc, .string st, .int .i64 ex, .slice ra rn rc] 25)).cell? ⟨w.heap.size, 1, none⟩ = some (.string st) := by rw [World.cell?_alloc_mark]; rfl
  have c2 : (w.alloc (.cells #[.slice ta tn tc, .string st, .int .i64 ex, .slice ra rn rc] 25)).cell? ⟨w.heap.size, 2, none⟩ = some (.int .i64 ex) := by rw [World.cell?_alloc_mark]; rfl
  have c3 : (w.alloc (.cells #[.slice ta tn tc, .string st, .int .i64 ex, .slice ra rn rc] 25)).cell? ⟨w.heap.size, 3, none⟩ = some (.slice ra rn rc) := by rw [World.cell?_alloc_mark]; rfl
  have HB : Hid (Below w.heap.size w (w.alloc (.cells #[.slice ta tn tc, .string st, .int .i64 ex, .slice ra rn rc] 25))) := below_alloc _ _
  generalize w.alloc (.cells #[.slice ta tn tc, .string st, .int .i64 ex, .slice ra rn rc] 25) = wq at c0 c1 c2 c3 HB ⊢
  obtain ⟨gb, hgb⟩ : ∃ gb, gb = w.heap.size := ⟨_, rfl⟩
  rw [← hgb] at c0 c1 c2 c3 ⊢
  clear hgb
  go_wp2_with fail
  refine (HM.out _ HB.out).mono ?_
  rintro e w1 ⟨rfl, hB1⟩
  have C0 : Hid (∀ W : World, Below w1.heap.size w1 W → W.cell? ⟨gb, 0, none⟩ = some (.slice ta tn tc) ∧ W.cell? ⟨gb, 1, none⟩ = some (.string st) ∧ W.cell? ⟨gb, 2, none⟩ = some (.int .i64 ex) ∧ W.cell? ⟨gb, 3, none⟩ = some (.slice ra rn rc)) := fun W hW => ⟨cell_below (below_step hB1 hW) c0, cell_below (below_step hB1 hW) c1, cell_below (below_step hB1 hW) c2, cell_below (below_step hB1 hW) c3⟩
  have HB1 : Hid (Below w.heap.size w w1) := below_step HB.out hB1
  clear c0 c1 c2 c3 HB hB1 HM
  cases r
  · have HF : Hid (T = ⟨#[]⟩) := HT.out.2 (fun h => by have := HR.out.2 h; cases this)
    go_wp2_with fail
    go_ret
    exact ⟨by rw [HF.out]; rfl, HB1.out⟩
  · have hMay : MayP ⟨ts, st, ex, rs⟩ := HR.out.1 rfl
    obtain ⟨l, hl1, hl2⟩ := hMay.tk.2
    have HTX : Hid (by8 T = tx (linesG ⟨ts, st, ex, rs⟩ l)) := HT.out.1 hMay l hl1
    have HGW : Hid (IsG w1 ⟨ta, tc, ra, rc⟩ ⟨ts, st, ex, rs⟩ ∧ Pow w1) := ⟨HG.out.below HB1.out, HP.out.below HB1.out⟩
    have he0 : 0 ≤ ex := hMay.e0
    have he1 : ex ≤ 9999 := hMay.e1
    have HN0 : Hid (NewL w1 (w1.alloc (.cells #[.pointer none, .slice none 0 0] 50)) w1.heap.size []) := newL_fresh w1
    have HTK : Hid (∀ (W : World) (b : Nat), NewL w1 W b [] → Calls Tryd.prog 24 #[.pointer (some ⟨b, 0, none⟩), .slice ta tn tc] W fun e w' => e = .returned (.tuple #[]) ∧ NewL w1 w' b (tokLn ts ++ levLs ts l 8)) := fun W b hW => by
      have := putTokens_new ts l ta ts.length tc b w1 W HGW.out.1.tok rfl HGW.out.1.small.nt HGW.out.1.small.tk hl1 hl2 hW
      rwa [HTN.out] at this
    clear hMay hl1 hl2 HG HP HT HR
    go_upto_region 4 with fail
    generalize w1.alloc (.cells #[.pointer none, .slice none 0 0] 50) = w2 at HN0 ⊢
    obtain ⟨pb, hpb⟩ : ∃ pb, pb = w1.heap.size := ⟨_, rfl⟩
    rw [← hpb] at HN0 ⊢
    clear hpb
    obtain ⟨c0, -, -, -⟩ := C0.out w2 HN0.out.bel
    go_wp2_with fail
    refine (HTK.out _ _ HN0.out).mono ?_
    rintro e w3 ⟨rfl, hN3⟩
    have HN3 : Hid (NewL w1 w3 pb (tokLn ts ++ levLs ts l 8)) := hN3
    have HLN3 : Hid ((tokLn ts ++ levLs ts l 8).length ≤ 9) := by
      show _ ≤ _
      rw [List.length_append]
      have := levLs_length ts l 8
      have h2 : (tokLn ts).length ≤ 1 := by unfold tokLn; split <;> simp
      omega
    clear hN3 HTK HN0 c0
    obtain ⟨-, c1, -, -⟩ := C0.out w3 HN3.out.bel
    obtain ⟨se, hse⟩ : ∃ pe : Bool, (st.toList == []) = pe := ⟨_, rfl⟩
    go_upto_if 14 with fail
    have HSE : Hid (se = true ↔ st = ⟨#[]⟩) := by show _ ↔ _; rw [← hse]; exact toList_nil st
    clear hse
    go_cut [15] (fun s15 wd => Hid (NewL w1 wd pb (tokLn ts ++ levLs ts l 8 ++ startLn st)))
    case first =>
      by_cases hst : st = ⟨#[]⟩
      · have h1 : se = true := HSE.out.2 hst
        subst h1
        have HF : Hid (NewL w1 w3 pb (tokLn ts ++ levLs ts l 8 ++ startLn st)) := by
          have e : startLn st = [] := by unfold startLn; rw [if_pos hst]
          rw [e, List.append_nil]; exact HN3.out
        clear hst
        go_wp2_with fail
        go_meet
        exact HF
      · have h1 : se = false := b_false HSE.out hst
        subst h1
        have HC : Hid (Calls Tryd.prog 25 #[.pointer (some ⟨pb, 0, none⟩), .slice (some ⟨w3.heap.size, 0, none⟩) 2 2] (w3.alloc (.cells #[.string ⟨#[37, 115, 116, 97, 114, 116]⟩, .string st] 9)) fun e w' => e = .returned (.tuple #[]) ∧ NewL w1 w' pb (tokLn ts ++ levLs ts l 8 ++ startLn st)) := by
          have e : startLn st = [([⟨#[37, 115, 116, 97, 114, 116]⟩, st] : List ByteArray).map by8] := by unfold startLn; rw [if_neg hst]
          rw [e]
          exact putLine_new [⟨#[37, 115, 116, 97, 114, 116]⟩, st] _ 2 2 pb _ w1 _ (new_row w3 [⟨#[37, 115, 116, 97, 114, 116]⟩, st] (by simp)) rfl (by omega) (by omega) (fun x hx => by
            simp only [List.mem_cons, List.not_mem_nil, or_false] at hx
            rcases hx with rfl | rfl
            · exact (by decide : (⟨#[37, 115, 116, 97, 114, 116]⟩ : ByteArray).size ≤ 100)
            · exact HGW.out.1.small.st) (HN3.out.below (below_alloc _ _)) (by have := HLN3.out; omega)
        clear hst
        go_wp2_with fail
        refine HC.out.mono ?_
        rintro e w4 ⟨rfl, hN4⟩
        have HN4 : Hid (NewL w1 w4 pb (tokLn ts ++ levLs ts l 8 ++ startLn st)) := hN4
        clear hN4 HC
        go_wp2_with fail
        go_meet
        exact HN4
    case rest =>
      obtain ⟨w4, hw4⟩ : ∃ w4, w4 = wc := ⟨_, rfl⟩
      subst wc
      have HN4 : Hid (NewL w1 w4 pb (tokLn ts ++ levLs ts l 8 ++ startLn st)) := hcut
      have HLN4 : Hid ((tokLn ts ++ levLs ts l 8 ++ startLn st).length ≤ 10) := by
        show _ ≤ _
        rw [List.length_append]
        have h2 : (startLn st).length ≤ 1 := by unfold startLn; split <;> simp
        have := HLN3.out
        omega
      clear hcut HN3 HLN3 c1 HSE
      obtain ⟨-, -, c2, -⟩ := C0.out w4 HN4.out.bel
      go_upto_if 21 with fail
      go_cut [22] (fun s22 wd => Hid (NewL w1 wd pb (tokLn ts ++ levLs ts l 8 ++ startLn st ++ expLn ex)))
      case first =>
        by_cases hex : ex = 0
        · have h1 : (ex != 0) = false := by simpa using hex
          have HF : Hid (NewL w1 w4 pb (tokLn ts ++ levLs ts l 8 ++ startLn st ++ expLn ex)) := by
            have e : expLn ex = [] := by unfold expLn; rw [if_pos hex]
            rw [e, List.append_nil]; exact HN4.out
          clear hex
          go_wp2_with fail
          go_meet
          exact HF
        · have h1 : (ex != 0) = true := by simpa using hex
          have HC : Hid (Calls Tryd.prog 26 #[.int .i64 ex] w4 fun e w' => ∃ t, e = .returned (.string t) ∧ by8 t = dg 6 ex.toNat [] ∧ Below w4.heap.size w4 w') := by
            have := itoa_calls ex.toNat w4 (by omega) (HGW.out.2.below HN4.out.bel)
            rwa [show ((ex.toNat : Nat) : Int) = ex by omega] at this
          go_wp2_with fail
          refine HC.out.mono ?_
          rintro e w5 ⟨t, rfl, ht, hB5⟩
          have hts : t.size ≤ 100 := by
            rw [← by8_length, ht]
            exact dg_len _ (by omega)
          have HC2 : Hid (Calls Tryd.prog 25 #[.pointer (some ⟨pb, 0, none⟩), .slice (some ⟨w5.heap.size, 0, none⟩) 2 2] (w5.alloc (.cells #[.string ⟨#[37, 101, 120, 112, 101, 99, 116]⟩, .string t] 9)) fun e w' => e = .returned (.tuple #[]) ∧ NewL w1 w' pb (tokLn ts ++ levLs ts l 8 ++ startLn st ++ expLn ex)) := by
            have e : expLn ex = [([⟨#[37, 101, 120, 112, 101, 99, 116]⟩, t] : List ByteArray).map by8] := by unfold expLn; rw [if_neg hex, ← ht]; rfl
            rw [e]
            exact putLine_new [⟨#[37, 101, 120, 112, 101, 99, 116]⟩, t] _ 2 2 pb _ w1 _ (new_row w5 [⟨#[37, 101, 120, 112, 101, 99, 116]⟩, t] (by simp)) rfl (by omega) (by omega) (fun x hx => by
              simp only [List.mem_cons, List.not_mem_nil, or_false] at hx
              rcases hx with rfl | rfl
              · exact (by decide : (⟨#[37, 101, 120, 112, 101, 99, 116]⟩ : ByteArray).size ≤ 100)
              · exact hts) ((HN4.out.below hB5).below (below_alloc _ _)) (by have := HLN4.out; omega)
          clear hex ht hB5 HC
          go_wp2_with fail
          refine HC2.out.mono ?_
          rintro e w6 ⟨rfl, hN6⟩
          have HN6 : Hid (NewL w1 w6 pb (tokLn ts ++ levLs ts l 8 ++ startLn st ++ expLn ex)) := hN6
          clear hN6 HC2
          go_wp2_with fail
          go_meet
          exact HN6
      case rest =>
        obtain ⟨w6, hw6⟩ : ∃ w6, w6 = wc := ⟨_, rfl⟩
        subst wc
        have HN6 : Hid (NewL w1 w6 pb (tokLn ts ++ levLs ts l 8 ++ startLn st ++ expLn ex)) := hcut
        have HLN6 : Hid ((tokLn ts ++ levLs ts l 8 ++ startLn st ++ expLn ex).length ≤ 11) := by
          show _ ≤ _
          rw [List.length_append]
          have h2 : (expLn ex).length ≤ 1 := by unfold expLn; split <;> simp
          have := HLN4.out
          omega
        have HC : Hid (Calls Tryd.prog 25 #[.pointer (some ⟨pb, 0, none⟩), .slice (some ⟨w6.heap.size, 0, none⟩) 1 1] (w6.alloc (.cells #[.string ⟨#[37, 37]⟩] 9)) fun e w' => e = .returned (.tuple #[]) ∧ NewL w1 w' pb (headLn ⟨ts, st, ex, rs⟩ l)) :=
          putLine_new [⟨#[37, 37]⟩] _ 1 1 pb _ w1 _ (new_row w6 [⟨#[37, 37]⟩] (by simp)) rfl (by omega) (by omega) (fun x hx => by
            rw [List.mem_singleton] at hx
            subst hx
            exact (by decide : (⟨#[37, 37]⟩ : ByteArray).size ≤ 100)) (HN6.out.below (below_alloc _ _)) (by have := HLN6.out; simp only; omega)
        have HLH : Hid ((headLn ⟨ts, st, ex, rs⟩ l).length ≤ 12) := by
          show _ ≤ _
          unfold headLn
          rw [List.length_append]
          have := HLN6.out
          simp only [List.length_cons, List.length_nil]
          omega
        clear hcut HN4 HLN4 c2 HN6 HLN6
        go_wp2_with fail
        refine HC.out.mono ?_
        rintro e w7 ⟨rfl, hN7⟩
        have HN7 : Hid (NewL w1 w7 pb (headLn ⟨ts, st, ex, rs⟩ l)) := hN7
        clear hN7 HC
        obtain ⟨-, -, -, c3⟩ := C0.out w7 HN7.out.bel
        go_upto_block 0 with fail
        go_cut [32] (fun s32 wd => Hid (NewL w1 wd pb (linesG ⟨ts, st, ex, rs⟩ l)))
        case first =>
          go_wp2_with fail
          go_loopg [32] rn (fun kx s32 wr => ∃ k : Nat, s32 = .int .i64 k ∧ k ≤ rn ∧ rn - k ≤ kx ∧ Hid (NewL w1 wr pb (headLn ⟨ts, st, ex, rs⟩ l ++ (rs.take k).map fun r => (ruleL r).map by8)))
          case atStart => exact ⟨0, rfl, Nat.zero_le _, by omega, (by rw [List.take_zero, List.map_nil, List.append_nil]; exact HN7)⟩
          case round =>
            obtain ⟨k, rfl, hk, hg, J⟩ := hrel
            clear HN7 c3
            by_cases hlt : k < rn
            · obtain ⟨x, hx⟩ : ∃ x, rs[k]? = some x := ⟨rs[k]'(by rw [HRN.out]; exact hlt), List.getElem?_eq_getElem _⟩
              have hrul := HGW.out.1.rul.below J.out.bel
              simp only at hrul
              obtain ⟨rb, o, xa, xc, hra, p0, p1, p2, hrow⟩ := hrul.at hx
              subst hra
              have HSX : Hid (x.l.size ≤ 100 ∧ x.p.size ≤ 100 ∧ x.r.length ≤ 100 ∧ ∀ y ∈ x.r, y.size ≤ 100) := HGW.out.1.small.rl x (List.mem_of_getElem? hx)
              have HE : Hid ((headLn ⟨ts, st, ex, rs⟩ l ++ (rs.take k).map fun r => (ruleL r).map by8) ++ [(ruleL x).map by8] = headLn ⟨ts, st, ex, rs⟩ l ++ (rs.take (k + 1)).map fun r => (ruleL r).map by8) := by
                show _ = _
                rw [take_succ hx, List.map_append, ← List.append_assoc]
                rfl
              have HC : Hid (∀ W : World, Below wr.heap.size wr W → Calls Tryd.prog 27 #[.pointer (some ⟨pb, 0, none⟩), .agg #[.string x.l, .slice xa x.r.length xc, .string x.p]] W fun e w' => e = .returned (.tuple #[]) ∧ NewL w1 w' pb (headLn ⟨ts, st, ex, rs⟩ l ++ (rs.take (k + 1)).map fun r => (ruleL r).map by8)) := fun W hW => by
                have := putRule_new x xa xc pb _ w1 W (hrow.below hW) HSX.out (J.out.below hW) (by rw [List.length_append, List.length_map, List.length_take, HRN.out]; have := HLH.out; omega)
                rwa [HE.out] at this
              clear hx hrow hrul HE
              go_wp2_with fail
              refine (HC.out _ (below_alloc _ _)).mono ?_
              rintro e w8 ⟨rfl, hN8⟩
              have HN8 : Hid (NewL w1 w8 pb (headLn ⟨ts, st, ex, rs⟩ l ++ (rs.take (k + 1)).map fun r => (ruleL r).map by8)) := hN8
              clear hN8 HC J
              go_wp2_with fail
              go_roundg (rn - (k + 1))
              case measure => omega
              case rel => exact ⟨k + 1, by simp, by omega, Nat.le_refl _, HN8⟩
            · obtain rfl : k = rn := by omega
              have HF : Hid (NewL w1 wr pb (linesG ⟨ts, st, ex, rs⟩ l)) := by
                have := J.out
                rwa [← HRN.out, List.take_length] at this
              clear J
              go_wp2_with fail
              go_meet
              exact HF
        case rest =>
          obtain ⟨v, hB, hok, hbel, hfoot⟩ := hcut.out
          have hne : tx (linesG ⟨ts, st, ex, rs⟩ l) ≠ [] := by
            unfold linesG headLn
            rw [tx_append, tx_append]
            intro h
            have := congrArg List.length h
            simp [tx, lineT] at this
          have hlen : (tx (linesG ⟨ts, st, ex, rs⟩ l)).length ≤ 100000000 := by
            have h1 := tx_length hok
            have h2 : (linesG ⟨ts, st, ex, rs⟩ l).length ≤ 212 := by
              unfold linesG
              rw [List.length_append, List.length_map]
              have := HLH.out
              simp only
              rw [HRN.out]
              omega
            omega
          have HC : Hid (Calls Tryd.prog 28 #[.pointer (some ⟨pb, 0, none⟩)] wc fun e w' => e = .returned (.string T) ∧ Kept (Foot pb v) wc w') := by
            have := bstring_calls pb v _ wc hB hne hlen
            have e : (⟨(tx (linesG ⟨ts, st, ex, rs⟩ l)).toArray⟩ : ByteArray) = T := by rw [← HTX.out]; apply by8_inj; rfl
            rwa [e] at this
          have HK : Hid (∀ w', Kept (Foot pb v) wc w' → Below w.heap.size w w') := fun w' hk => HB1.out.trans ((hbel.trans (hk.below hbel.size (fun k hk hf => by have := hfoot k hf; omega))).mono HB1.out.size)
          clear hB hok hbel hfoot hne hlen hcut
          go_wp2_with fail
          refine HC.out.mono ?_
          rintro e w9 ⟨rfl, hK⟩
          have HF : Hid (Below w.heap.size w w9) := HK.out _ hK
          clear hK HC
          go_wp2_with fail
          go_ret
          exact ⟨rfl, HF.out⟩

end Go.Proofs.YtdgadamkiililaaDoor
