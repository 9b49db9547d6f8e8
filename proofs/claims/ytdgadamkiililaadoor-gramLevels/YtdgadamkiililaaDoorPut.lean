/-
  The walks of putRule and putTokens.
-/
import Derived.Test.YtdgadamkiililaaDoorLine
namespace Go.Proofs.YtdgadamkiililaaDoor
open Go.RowKit

/-- A rule's words. -/
def ruleL (r : Ru) : List ByteArray := [r.l, ⟨#[58]⟩] ++ r.r ++ (if r.p = ⟨#[]⟩ then [] else [⟨#[37, 112, 114, 101, 99]⟩, r.p]) ++ [⟨#[59]⟩]

/-- What a call that writes one line leaves. -/
def Put (w : World) (b : Nat) (v : Value) (L M : List (List (List UInt8))) (w' : World) (e : Ending) : Prop := ∃ v', e = .returned (.tuple #[]) ∧ Bld w' b v' (tx (L ++ M)) ∧ OkL (L ++ M) ∧ Moved w b v w' v'

set_option maxHeartbeats 4000000 in
set_option maxRecDepth 20000 in
theorem putRule_calls (r : Ru) (xa : Option Addr) (xc b : Nat) (v : Value) (L : List (List (List UInt8))) (w : World) (hr : Row w 1 xa r.r.length xc (strC r.r)) (hs : r.l.size ≤ 100 ∧ r.p.size ≤ 100 ∧ r.r.length ≤ 100 ∧ ∀ x ∈ r.r, x.size ≤ 100) (hB : Bld w b v (tx L)) (hL : OkL L) (hl : L.length ≤ 400) :
    Calls Tryd.prog 27 #[.pointer (some ⟨b, 0, none⟩), .agg #[.string r.l, .slice xa r.r.length xc, .string r.p]] w fun e w' => Put w b v L [(ruleL r).map by8] w' e := by
  obtain ⟨nl, nr, np⟩ := r
  simp only at hr hs ⊢
  have hlen := hs.2.2.1
  have HS : Hid (nl.size ≤ 100 ∧ np.size ≤ 100 ∧ ∀ x ∈ nr, x.size ≤ 100) := ⟨hs.1, hs.2.1, hs.2.2.2⟩
  have HB : Hid (Bld w b v (tx L) ∧ OkL L ∧ L.length ≤ 400) := ⟨hB, hL, hl⟩
  obtain ⟨n, hn⟩ : ∃ n, nr.length = n := ⟨_, rfl⟩
  have HN : Hid (nr.length = n) := hn
  rw [hn] at hr hlen ⊢
  have hle := hr.le
  have hmx : xc ≤ 9223372036854775807 := by have := hr.max; unfold maxLen at this; omega
  have HR : Hid (Row w 1 xa n xc (strC nr)) := hr
  clear hs hB hL hl hn hr
  go_enter Tryd.func27, Tryd.ntmps27
  go_upto_region 1 with fail
  have d0 : (w.alloc (.cells #[.string nl, .slice xa n xc, .string np] 39)).cell? ⟨w.heap.size, 0, none⟩ = some (.string nl) := by rw [World.cell?_alloc_mark]; rfl
  have d1 : (w.alloc (.cells #[.string nl, .slice xa n xc, .string np] 39)).cell? ⟨w.heap.size, 1, none⟩ = some (.slice xa n xc) := by rw [World.cell?_alloc_mark]; rfl
  have d2 : (w.alloc (.cells #[.string nl, .slice xa n xc, .string np] 39)).cell? ⟨w.heap.size, 2, none⟩ = some (.string np) := by rw [World.cell?_alloc_mark]; rfl
  have HW : Hid (Below w.heap.size w (w.alloc (.cells #[.string nl, .slice xa n xc, .string np] 39))) := below_alloc _ _
  generalize w.alloc (.cells #[.string nl, .slice xa n xc, .string np] 39) = w1 at d0 d1 d2 HW ⊢
  obtain ⟨tb, htb⟩ : ∃ tb, tb = w.heap.size := ⟨_, rfl⟩
  rw [← htb] at d0 d1 d2 ⊢
  clear htb
  have hA := (new_own w1 [nl, ⟨#[58]⟩] (by simp)).addRow (HR.out.below (below_step HW.out (below_alloc w1 (.cells (strC [nl, ⟨#[58]⟩]).toArray 9)))) (by simp) (by rw [HN.out]; simp; omega) HN.out.symm
  obtain ⟨a2, n2, k2, w2, hr2, hn2, ho2, hb2⟩ := hA
  have hr2' : (Builtin.append_ #[37, 37] 37 #[.slice (some ⟨w1.heap.size, 0, none⟩) 2 2, .slice xa n xc]).run Tryd.prog (w1.alloc (.cells #[.string nl, .string ⟨#[58]⟩] 9)) = .ok (.slice a2 n2 k2) w2 := hr2
  have hbw : Below w1.heap.size w1 w2 := (below_alloc w1 _).trans hb2
  have H2 : Hid (OwnS w2 w1.heap.size (.slice a2 n2 k2) ([nl, ⟨#[58]⟩] ++ nr) ∧ n2 = ([nl, ⟨#[58]⟩] ++ nr).length ∧ Below w1.heap.size w1 w2) := ⟨ho2, hn2, hbw⟩
  have d1' := cell_alloc d1
  have e2 := cell_below hbw d2
  clear hr2 hn2 ho2 hb2 hbw
  go_upto_region 2 with (at_builtin; refine Lib.wpList_append_run _ rfl _ _ _ _ rfl _ _ rfl rfl _ _ hr2' ?_)
  clear hr2' d0 d1 d2 d1'
  obtain ⟨pe, hpe⟩ : ∃ pe : Bool, (np.toList == []) = pe := ⟨_, rfl⟩
  go_upto_if 13 with fail
  have HPE : Hid (pe = true ↔ np = ⟨#[]⟩) := by show _ ↔ _; rw [← hpe]; exact toList_nil np
  clear hpe
  go_cut [4] (fun s4 wd => ∃ ml : Option Addr × Nat × Nat, s4 = .slice ml.1 ml.2.1 ml.2.2 ∧ Hid (∃ l : List ByteArray, l = [nl, ⟨#[58]⟩] ++ nr ++ (if np = ⟨#[]⟩ then [] else [⟨#[37, 112, 114, 101, 99]⟩, np]) ∧ ml.2.1 = l.length ∧ OwnS wd w1.heap.size (.slice ml.1 ml.2.1 ml.2.2) l ∧ Below w1.heap.size w1 wd))
  case first =>
    by_cases hp : np = ⟨#[]⟩
    · have h1 : pe = true := HPE.out.2 hp
      subst h1
      have HF : Hid (∃ l : List ByteArray, l = [nl, ⟨#[58]⟩] ++ nr ++ (if np = ⟨#[]⟩ then [] else [⟨#[37, 112, 114, 101, 99]⟩, np]) ∧ n2 = l.length ∧ OwnS w2 w1.heap.size (.slice a2 n2 k2) l ∧ Below w1.heap.size w1 w2) := ⟨_, rfl, by rw [if_pos hp, List.append_nil]; exact H2.out.2.1, by rw [if_pos hp, List.append_nil]; exact H2.out.1, H2.out.2.2⟩
      clear hp
      go_wp2_with fail
      go_meet
      exact ⟨(a2, n2, k2), rfl, HF⟩
    · have h1 : pe = false := b_false HPE.out hp
      subst h1
      have hA := (H2.out.1.below (below_alloc w2 (.cells (strC [⟨#[37, 112, 114, 101, 99]⟩, np]).toArray 9))).addRow (new_row w2 [⟨#[37, 112, 114, 101, 99]⟩, np] (by simp)) (by have := H2.out.2.2.size; simp; omega) (by rw [List.length_append, HN.out]; simp; omega) rfl
      obtain ⟨a3, n3, k3, w3, hr3, hn3, ho3, hb3⟩ := hA
      have hr3' : (Builtin.append_ #[37, 37] 37 #[.slice a2 n2 k2, .slice (some ⟨w2.heap.size, 0, none⟩) 2 2]).run Tryd.prog (w2.alloc (.cells #[.string ⟨#[37, 112, 114, 101, 99]⟩, .string np] 9)) = .ok (.slice a3 n3 k3) w3 := hr3
      have HF : Hid (∃ l : List ByteArray, l = [nl, ⟨#[58]⟩] ++ nr ++ (if np = ⟨#[]⟩ then [] else [⟨#[37, 112, 114, 101, 99]⟩, np]) ∧ n3 = l.length ∧ OwnS w3 w1.heap.size (.slice a3 n3 k3) l ∧ Below w1.heap.size w1 w3) := ⟨_, rfl, by rw [if_neg hp]; exact hn3, by rw [if_neg hp]; exact ho3, (below_step H2.out.2.2 (below_alloc w2 _)).trans hb3⟩
      clear hp hr3 hn3 ho3 hb3
      go_wp2_with (at_builtin; refine Lib.wpList_append_run _ rfl _ _ _ _ rfl _ _ rfl rfl _ _ hr3' ?_)
      go_meet
      exact ⟨(a3, n3, k3), rfl, HF⟩
  case rest =>
    obtain ⟨⟨a4, n4, k4⟩, rfl, HF⟩ := hcut
    simp only at HF
    obtain ⟨l, hl, hn4, ho4, hb4⟩ := HF.out
    have hll : l.length ≤ 104 := by
      rw [hl, List.length_append, List.length_append, HN.out]
      simp only [List.length_cons, List.length_nil]
      split <;> simp <;> omega
    have hls : ∀ x ∈ l ++ [⟨#[59]⟩], x.size ≤ 100 := by
      intro x hx
      rw [hl] at hx
      simp only [List.mem_append, List.mem_cons, List.not_mem_nil, or_false] at hx
      have h58 : (⟨#[58]⟩ : ByteArray).size ≤ 100 := by decide
      have h59 : (⟨#[59]⟩ : ByteArray).size ≤ 100 := by decide
      have hpr : (⟨#[37, 112, 114, 101, 99]⟩ : ByteArray).size ≤ 100 := by decide
      rcases hx with ((( rfl | rfl) | hx) | hx) | rfl
      · exact HS.out.1
      · exact h58
      · exact HS.out.2.2 x hx
      · split at hx
        · cases hx
        · simp only [List.mem_cons, List.not_mem_nil, or_false] at hx
          rcases hx with rfl | rfl
          · exact hpr
          · exact HS.out.2.1
      · exact h59
    have hA := (ho4.below (below_alloc wc (.cells (strC [⟨#[59]⟩]).toArray 9))).addRow (new_row wc [⟨#[59]⟩] (by simp)) (by have := hb4.size; simp; omega) (by simp; omega) rfl
    obtain ⟨a5, n5, k5, w5, hr5, hn5, ho5, hb5⟩ := hA
    have hr5' : (Builtin.append_ #[37, 37] 37 #[.slice a4 n4 k4, .slice (some ⟨wc.heap.size, 0, none⟩) 1 1]).run Tryd.prog (wc.alloc (.cells #[.string ⟨#[59]⟩] 9)) = .ok (.slice a5 n5 k5) w5 := hr5
    have hb6 : Below w.heap.size w w5 := by
      have h1 : Below w1.heap.size w1 w5 := (below_step hb4 (below_alloc wc _)).trans hb5
      exact below_step HW.out h1
    have HC : Hid (Calls Tryd.prog 25 #[.pointer (some ⟨b, 0, none⟩), .slice a5 n5 k5] w5 fun e w' => ∃ v', e = .returned (.tuple #[]) ∧ Bld w' b v' (tx (L ++ [(ruleL ⟨nl, nr, np⟩).map by8])) ∧ OkL (L ++ [(ruleL ⟨nl, nr, np⟩).map by8]) ∧ Moved w5 b v w' v') := by
      have e : ruleL ⟨nl, nr, np⟩ = l ++ [⟨#[59]⟩] := by rw [hl]; rfl
      rw [e]
      exact putLine_l (l ++ [⟨#[59]⟩]) a5 n5 k5 b v L w5 (ho5.row hn5) hn5 (by rw [hn5, List.length_append]; simp) (by rw [hn5, List.length_append]; simp; omega) hls (HB.out.1.below hb6) HB.out.2.1 HB.out.2.2
    have HM : Hid (Moved w b v w5 v) := Moved.of_below hb6
    clear hr5 hn5 ho5 hb5 hb6 hls hll hl hn4 ho4 hb4 HF
    go_wp2_with (first | (at_builtin; refine Lib.wpList_append_run _ rfl _ _ _ _ rfl _ _ rfl rfl _ _ hr5' ?_))
    refine HC.out.mono ?_
    rintro e w6 ⟨v6, rfl, h1, h2, h3⟩
    have HE : Hid (Bld w6 b v6 (tx (L ++ [(ruleL ⟨nl, nr, np⟩).map by8])) ∧ OkL (L ++ [(ruleL ⟨nl, nr, np⟩).map by8]) ∧ Moved w b v w6 v6) := ⟨h1, h2, HM.out.trans h3⟩
    clear h1 h2 h3 HC
    go_wp2_with fail
    go_end0
    exact ⟨v6, rfl, HE.out⟩

/-- A row that no write into a builder reaches. -/
theorem rowF {w w' : World} {b : Nat} {v v' : Value} {k : Nat} {ao : Option Addr} {n cap : Nat} {cs : List Value} (h : Row w k ao n cap cs) (hm : Moved w b v w' v') (hf : ∀ a, ao = some a → ¬ Foot b v a.block) : Row w' k ao n cap cs := by
  refine ⟨h.len, h.le, h.max, h.lies.imp id ?_⟩
  rintro ⟨g, o, rfl, hc⟩
  refine ⟨g, o, rfl, fun j u hu => ?_⟩
  have h1 := hc j u hu
  have hl := World.block_lt_of_cell? w _ h1
  rw [← h1]
  unfold World.cell?
  rw [hm.1.block _ hl (hf ⟨g, o, none⟩ rfl)]

/-- The lines of tokens, their levels told. -/
def levLn (ts : List Tk) (l : List Int) (k : Nat) : List (List (List UInt8)) := if (l[k]?).getD 0 = 0 then [] else [(keyA ((l[k]?).getD 0) :: namesAt ts k).map by8]
def levLs (ts : List Tk) (l : List Int) (k : Nat) : List (List (List UInt8)) := (List.range k).flatMap fun i => levLn ts l (i + 1)
def tokLn (ts : List Tk) : List (List (List UInt8)) := if ts = [] then [] else [((⟨#[37, 116, 111, 107, 101, 110]⟩ : ByteArray) :: ts.map (·.n)).map by8]

theorem levLs_succ (ts : List Tk) (l : List Int) (k : Nat) : levLs ts l (k + 1) = levLs ts l k ++ levLn ts l (k + 1) := by
  unfold levLs
  rw [List.range_succ, List.flatMap_append]
  simp

theorem levLs_length (ts : List Tk) (l : List Int) (k : Nat) : (levLs ts l k).length ≤ k := by
  induction k with
  | zero => simp [levLs]
  | succ k ih =>
    rw [levLs_succ, List.length_append]
    unfold levLn
    split <;> simp <;> omega

/-- The lines of all levels below k are written; the levels' own block is as it was. -/
def LvB (ts : List Tk) (l : List Int) (L : List (List (List UInt8))) (w : World) (b : Nat) (v : Value) (wr : World) (lb k : Nat) : Prop :=
  ∃ v', Bld wr b v' (tx (L ++ tokLn ts ++ levLs ts l (k - 1))) ∧ OkL (L ++ tokLn ts ++ levLs ts l (k - 1)) ∧ Moved w b v wr v' ∧ wr.heap[lb]? = some (.cells (ar9 l) 61 (0, 0)) ∧ ¬ Foot b v' lb

set_option maxHeartbeats 4000000 in
set_option maxRecDepth 20000 in
theorem putTokens_calls (ts : List Tk) (l : List Int) (ao : Option Addr) (n cap b : Nat) (v : Value) (L : List (List (List UInt8))) (w : World) (hr : Row w 3 ao n cap (tokC ts)) (hn : n = ts.length) (hnn : n ≤ 100) (hs : ∀ t ∈ ts, t.n.size ≤ 100) (hlf : levF ts = some l) (hng : NoGap l) (hfr : 0 < n → ∀ a, ao = some a → ¬ Foot b v a.block) (hB : Bld w b v (tx L)) (hL : OkL L) (hl : L.length ≤ 300) :
    Calls Tryd.prog 24 #[.pointer (some ⟨b, 0, none⟩), .slice ao n cap] w fun e w' => Put w b v L (tokLn ts ++ levLs ts l 8) w' e := by
  have HN : Hid (n = ts.length) := hn
  have HR : Hid (Row w 3 ao n cap (tokC ts)) := hr
  have HS : Hid (∀ t ∈ ts, t.n.size ≤ 100) := hs
  have HB : Hid (Bld w b v (tx L) ∧ OkL L ∧ L.length ≤ 300) := ⟨hB, hL, hl⟩
  have HLF : Hid (levF ts = some l ∧ NoGap l) := ⟨hlf, hng⟩
  have HFR0 : Hid (0 < n → ∀ a, ao = some a → ¬ Foot b v a.block) := hfr
  have hle := hr.le
  have hmx : cap ≤ 9223372036854775807 := by have := hr.max; unfold maxLen at this; omega
  clear hr hn hs hB hL hl hlf hng hfr
  by_cases h0 : n = 0
  · have e0 : ((n : Int) == 0) = true := by simpa using h0
    have HF : Hid (tokLn ts ++ levLs ts l 8 = []) := by
      have e : ts = [] := List.eq_nil_of_length_eq_zero (by rw [← HN.out]; exact h0)
      subst e
      have e2 : l = zero9 := by have := HLF.out.1; cases this; rfl
      subst e2
      rfl
    have HE : Hid (Bld w b v (tx L) ∧ OkL L) := ⟨HB.out.1, HB.out.2.1⟩
    clear HB HLF h0
    go_enter Tryd.func24, Tryd.ntmps24
    go_wp2_with fail
    refine bodyPost_ret (results_none rfl _ _ _) rfl ?_
    exact ⟨v, rfl, by rw [HF.out, List.append_nil]; exact HE.out.1, by rw [HF.out, List.append_nil]; exact HE.out.2, Moved.refl _ _ _⟩
  · have e0 : ((n : Int) == 0) = false := by simpa using h0
    have HFR : Hid (∀ a, ao = some a → ¬ Foot b v a.block) := HFR0.out (by omega)
    clear HFR0
    have HTL : Hid (tokLn ts = [((⟨#[37, 116, 111, 107, 101, 110]⟩ : ByteArray) :: ts.map (·.n)).map by8]) := by
      show _ = _
      unfold tokLn
      rw [if_neg (fun e => h0 (by rw [HN.out, e]; rfl))]
    have HO : Hid (OwnS (w.alloc (.cells #[.string ⟨#[37, 116, 111, 107, 101, 110]⟩] 9)) w.heap.size (.slice (some ⟨w.heap.size, 0, none⟩) 1 1) [⟨#[37, 116, 111, 107, 101, 110]⟩] ∧ Below w.heap.size w (w.alloc (.cells #[.string ⟨#[37, 116, 111, 107, 101, 110]⟩] 9))) := ⟨new_own w [⟨#[37, 116, 111, 107, 101, 110]⟩] (by simp), below_alloc _ _⟩
    obtain ⟨ka, hka⟩ : ∃ ka : ByteArray, ka = ⟨#[37, 116, 111, 107, 101, 110]⟩ := ⟨_, rfl⟩
    have HKS : Hid (ka.size ≤ 100) := by show _ ≤ _; rw [hka]; decide
    rw [← hka] at HTL
    go_enter Tryd.func24, Tryd.ntmps24
    go_upto_region 2 with fail
    rw [← hka] at HO ⊢
    clear hka
    generalize hw1 : w.alloc (.cells #[.string ka] 9) = w1 at HO ⊢
    clear hw1
    go_upto_block 0 with fail
    go_cut [4] (fun s4 wd => ∃ ml : Option Addr × Nat × Nat, s4 = .slice ml.1 ml.2.1 ml.2.2 ∧ Hid (ml.2.1 = (ka :: ts.map (·.n)).length ∧ Row wd 1 ml.1 ml.2.1 ml.2.2 (strC (ka :: ts.map (·.n))) ∧ Below w.heap.size w wd))
    case first =>
      go_wp2_with fail
      go_loopg [4, 16] n (fun kx s4 s16 wr => ∃ (i : Nat) (ml : Option Addr × Nat × Nat), s4 = .slice ml.1 ml.2.1 ml.2.2 ∧ s16 = .int .i64 i ∧ i ≤ n ∧ n - i ≤ kx ∧ Hid (∃ q : List ByteArray, q = ka :: (ts.take i).map (·.n) ∧ ml.2.1 = q.length ∧ OwnS wr w.heap.size (.slice ml.1 ml.2.1 ml.2.2) q ∧ Below w.heap.size w wr))
      case atStart => exact ⟨0, (some ⟨w.heap.size, 0, none⟩, 1, 1), rfl, rfl, Nat.zero_le _, by omega, (⟨[ka], rfl, rfl, HO.out.1, HO.out.2⟩ : ∃ q : List ByteArray, q = ka :: (ts.take 0).map (·.n) ∧ 1 = q.length ∧ OwnS w1 w.heap.size (.slice (some ⟨w.heap.size, 0, none⟩) 1 1) q ∧ Below w.heap.size w w1)⟩
      case round =>
        obtain ⟨i, ⟨la, ln, lc⟩, rfl, rfl, hi, hg, J⟩ := hrel
        simp only at J
        obtain ⟨q, hq, hln, hown, hbel⟩ := J.out
        have hll : q.length ≤ 101 := by
          rw [hq, List.length_cons, List.length_map, List.length_take, ← HN.out]
          omega
        clear J HO
        by_cases hlt : i < n
        · obtain ⟨t, ht⟩ : ∃ t, ts[i]? = some t := ⟨ts[i]'(by rw [← HN.out]; exact hlt), List.getElem?_eq_getElem _⟩
          obtain ⟨tb0, o, rfl, c0, c1, c2⟩ := tok_at (HR.out.below hbel) ht
          have HT : Hid (ka :: (ts.take (i + 1)).map (·.n) = q ++ [t.n]) := by show _ = _; rw [take_succ ht, List.map_append, hq]; rfl
          have HLN : Hid (ln = q.length) := hln
          obtain ⟨tn, tl, ta⟩ := t
          simp only at c0 c1 c2 HT
          clear ht
          clear hq hln
          go_upto_region 5 with fail
          have HQ : Hid (OwnS (wr.alloc (.cells #[.string tn, .int .i64 tl, .int .i64 ta] 35)) w.heap.size (.slice la ln lc) q ∧ Below w.heap.size w (wr.alloc (.cells #[.string tn, .int .i64 tl, .int .i64 ta] 35))) := ⟨hown.below (below_alloc _ _), below_step hbel (below_alloc _ _)⟩
          have d0 : (wr.alloc (.cells #[.string tn, .int .i64 tl, .int .i64 ta] 35)).cell? ⟨wr.heap.size, 0, none⟩ = some (.string tn) := by rw [World.cell?_alloc_mark]; rfl
          generalize wr.alloc (.cells #[.string tn, .int .i64 tl, .int .i64 ta] 35) = wq at HQ d0 ⊢
          generalize wr.heap.size = tb at d0 ⊢
          clear c0 c1 c2 hown hbel
          have hA := (HQ.out.1.below (below_alloc wq (.cells #[.string tn] 9))).addRow (new_row wq [tn] (by simp)) (by have := HQ.out.2.size; simp; omega) (by simp; omega) rfl
          obtain ⟨a2, n2, c2, w2, hr, hn2, ho2, hb2⟩ := hA
          have hr' : (Builtin.append_ #[37, 37] 37 #[.slice la ln lc, .slice (some ⟨wq.heap.size, 0, none⟩) 1 1]).run Tryd.prog (wq.alloc (.cells #[.string tn] 9)) = .ok (.slice a2 n2 c2) w2 := hr
          have HF : Hid (∃ q : List ByteArray, q = ka :: (ts.take (i + 1)).map (·.n) ∧ n2 = q.length ∧ OwnS w2 w.heap.size (.slice a2 n2 c2) q ∧ Below w.heap.size w w2) :=
            ⟨q ++ [tn], HT.out.symm, hn2, ho2, (below_step HQ.out.2 (below_alloc _ _)).trans hb2⟩
          clear hr hn2 ho2 hb2 HT
          go_wp2_with (at_builtin; refine Lib.wpList_append_run _ rfl _ _ _ _ rfl _ _ rfl rfl _ _ hr' ?_)
          go_roundg (n - (i + 1))
          case measure => omega
          case rel => exact ⟨i + 1, (a2, n2, c2), rfl, by simp, by omega, Nat.le_refl _, HF⟩
        · obtain rfl : i = n := by omega
          have HF : Hid (ln = (ka :: ts.map (·.n)).length ∧ Row wr 1 la ln lc (strC (ka :: ts.map (·.n))) ∧ Below w.heap.size w wr) := by
            have e : q = ka :: ts.map (·.n) := by rw [hq, HN.out, List.take_length]
            rw [← e]
            exact ⟨hln, hown.row hln, hbel⟩
          clear hq hln hown hbel
          go_wp2_with fail
          go_meet
          exact ⟨(la, ln, lc), rfl, HF⟩
    case rest =>
      obtain ⟨⟨a4, n4, k4⟩, rfl, HF⟩ := hcut
      simp only at HF
      have HC : Hid (Calls Tryd.prog 25 #[.pointer (some ⟨b, 0, none⟩), .slice a4 n4 k4] wc fun e w' => ∃ v', e = .returned (.tuple #[]) ∧ Bld w' b v' (tx (L ++ tokLn ts)) ∧ OkL (L ++ tokLn ts) ∧ Moved wc b v w' v') := by
        rw [HTL.out]
        exact putLine_l (ka :: ts.map (·.n)) a4 n4 k4 b v L wc HF.out.2.1 HF.out.1 (by rw [HF.out.1]; simp) (by rw [HF.out.1, List.length_cons, List.length_map, ← HN.out]; omega) (fun x hx => by
          rw [List.mem_cons, List.mem_map] at hx
          rcases hx with rfl | ⟨t, ht, rfl⟩
          · exact HKS.out
          · exact HS.out t ht) (HB.out.1.below HF.out.2.2) HB.out.2.1 (by have := HB.out.2.2; omega)
      have HLL : Hid ((L ++ tokLn ts).length ≤ 301) := by show _ ≤ _; rw [HTL.out, List.length_append]; have := HB.out.2.2; simp; omega
      have HM0 : Hid (Moved w b v wc v) := Moved.of_below HF.out.2.2
      clear HF HO HB
      go_wp2_with fail
      refine HC.out.mono ?_
      rintro e w5 ⟨v5, rfl, h1, h2, h3⟩
      have H5 : Hid (Bld w5 b v5 (tx (L ++ tokLn ts)) ∧ OkL (L ++ tokLn ts) ∧ Moved w b v w5 v5) := ⟨h1, h2, HM0.out.trans h3⟩
      clear h1 h2 h3 HC HM0
      have HLO : Hid (∀ W : World, Below w.heap.size w W → Calls Tryd.prog 38 #[.slice ao n cap] W fun e w' => ∃ (l : List Int) (r : Int), e = .returned (.tuple #[.agg (ar9 l), .bool (decide (r = 1))]) ∧ LevOf ts l (decide (r = 1)) ∧ Below W.heap.size W w') := fun W hW => levelsOf_calls ts ao n cap W (HR.out.below hW) HN.out (by omega)
      have HBR : Hid (Row w5 3 ao n cap (tokC ts)) := rowF HR.out H5.out.2.2 HFR.out
      have HL5 : Hid (Calls Tryd.prog 38 #[.slice ao n cap] w5 fun e w' => ∃ (l : List Int) (r : Int), e = .returned (.tuple #[.agg (ar9 l), .bool (decide (r = 1))]) ∧ LevOf ts l (decide (r = 1)) ∧ Below w5.heap.size w5 w') := levelsOf_calls ts ao n cap w5 HBR.out HN.out (by omega)
      clear HLO
      go_wp2_with fail
      refine HL5.out.mono ?_
      rintro e w6 ⟨l', ri, rfl, hlo, hB6⟩
      have hri : decide (ri = 1) = true := hlo.2.1.2 ⟨l, HLF.out.1, HLF.out.2⟩
      have hll' : l' = l := by have := hlo.2.2 hri; rw [HLF.out.1] at this; cases this; rfl
      subst hll'
      have hl9 := hlo.1
      obtain ⟨xa, xb, xc, xd, xe, xf, xg, xi, xj, hx9⟩ := nine hl9
      have hA : ar9 l' = #[.int .i64 xa, .int .i64 xb, .int .i64 xc, .int .i64 xd, .int .i64 xe, .int .i64 xf, .int .i64 xg, .int .i64 xi, .int .i64 xj] := by rw [hx9]; rfl
      have HM6 : Hid (Bld w6 b v5 (tx (L ++ tokLn ts)) ∧ OkL (L ++ tokLn ts) ∧ Moved w b v w6 v5) := ⟨H5.out.1.below hB6, H5.out.2.1, H5.out.2.2.trans (Moved.of_below hB6)⟩
      have HB7 : Hid (Bld (w6.alloc (.cells (ar9 l') 61)) b v5 (tx (L ++ tokLn ts ++ levLs ts l' 0)) ∧ OkL (L ++ tokLn ts ++ levLs ts l' 0) ∧ Moved w b v (w6.alloc (.cells (ar9 l') 61)) v5 ∧ (w6.alloc (.cells (ar9 l') 61)).heap[w6.heap.size]? = some (.cells (ar9 l') 61 (0, 0)) ∧ ¬ Foot b v5 w6.heap.size) := by
        have e : L ++ tokLn ts ++ levLs ts l' 0 = L ++ tokLn ts := by simp [levLs]
        rw [e]
        exact ⟨HM6.out.1.below (below_alloc _ _), HM6.out.2.1, HM6.out.2.2.trans (Moved.of_below (below_alloc _ _)), heap_alloc_new _ _, fun hf => by have := HM6.out.1.lt _ hf; omega⟩
      rw [hri]
      clear hlo hB6 HL5 H5 HBR hri
      rw [hA]
      go_upto_region 9 with fail
      rw [← hA]
      clear hx9 hA HM6
      generalize w6.alloc (.cells (ar9 l') 61) = w7 at HB7 ⊢
      generalize w6.heap.size = lb at HB7 ⊢
      have HL9 : Hid (l'.length = 9) := hl9
      clear hl9
      have HSTART : Hid (LvB ts l' L w b v w7 lb 1) := ⟨v5, HB7.out⟩
      clear HB7
      go_wp2_with fail
      go_loopg [9] 9 (fun kx s9 wr => ∃ k : Nat, s9 = .int .i64 k ∧ 1 ≤ k ∧ k ≤ 9 ∧ 9 - k ≤ kx ∧ Hid (LvB ts l' L w b v wr lb k))
      case atStart => exact ⟨1, rfl, Nat.le_refl _, by omega, by omega, HSTART⟩
      case round =>
        obtain ⟨k, rfl, hk1, hk9, hg, J⟩ := hrel
        clear HSTART
        by_cases hlt : k < 9
        · obtain ⟨vk, jB, jO, jM, jH, jF⟩ := J.out
          have hx : wr.cell? ⟨lb, k, none⟩ = some (.int .i64 ((l'[k]?).getD 0)) := by rw [cell_block jH]; exact ar9_at HL9.out hlt
          have HLS : Hid (levLs ts l' k = levLs ts l' (k - 1) ++ levLn ts l' k) := by
            obtain ⟨q, rfl⟩ : ∃ q, k = q + 1 := ⟨k - 1, by omega⟩
            exact levLs_succ ts l' q
          have HJ : Hid (Bld wr b vk (tx (L ++ tokLn ts ++ levLs ts l' (k - 1))) ∧ OkL (L ++ tokLn ts ++ levLs ts l' (k - 1)) ∧ Moved w b v wr vk ∧ wr.heap[lb]? = some (.cells (ar9 l') 61 (0, 0)) ∧ ¬ Foot b vk lb) := ⟨jB, jO, jM, jH, jF⟩
          have HRk : Hid (Row wr 3 ao n cap (tokC ts)) := rowF HR.out jM HFR.out
          have HLN : Hid (levLn ts l' k = if (l'[k]?).getD 0 = 0 then [] else [(keyA ((l'[k]?).getD 0) :: namesAt ts k).map by8]) := rfl
          clear jB jO jM jH jF J
          generalize (l'[k]?).getD 0 = x at hx HLN
          by_cases hx0 : x = 0
          · have e1 : (x != 0) = false := by simpa using hx0
            have HF : Hid (LvB ts l' L w b v wr lb (k + 1)) := by
              refine ⟨vk, ?_⟩
              have e : levLs ts l' (k + 1 - 1) = levLs ts l' (k - 1) := by rw [Nat.add_sub_cancel, HLS.out, HLN.out, if_pos hx0, List.append_nil]
              rw [e]
              exact HJ.out
            clear HJ HLS HLN hx0
            go_wp2_with fail
            go_roundg (9 - (k + 1))
            case measure => omega
            case rel => exact ⟨k + 1, by simp, by omega, by omega, Nat.le_refl _, HF⟩
          · have e1 : (x != 0) = true := by simpa using hx0
            have HC : Hid (Calls Tryd.prog 40 #[.slice ao n cap, .int .i64 k, .int .i64 x] wr fun e w' => ∃ xa m xc, e = .returned (.slice xa m xc) ∧ m = (keyA x :: namesAt ts k).length ∧ Row w' 1 xa m xc (strC (keyA x :: namesAt ts k)) ∧ Below wr.heap.size wr w') := levelLine_calls ts ao n cap k x wr HRk.out HN.out hnn
            go_wp2_with fail
            refine HC.out.mono ?_
            rintro e w8 ⟨ya, ym, yc, rfl, hym, hrow, hB8⟩
            have HP : Hid (Calls Tryd.prog 25 #[.pointer (some ⟨b, 0, none⟩), .slice ya ym yc] w8 fun e w' => ∃ v', e = .returned (.tuple #[]) ∧ Bld w' b v' (tx (L ++ tokLn ts ++ levLs ts l' k)) ∧ OkL (L ++ tokLn ts ++ levLs ts l' k) ∧ Moved w8 b vk w' v') := by
              have e : L ++ tokLn ts ++ levLs ts l' k = (L ++ tokLn ts ++ levLs ts l' (k - 1)) ++ [(keyA x :: namesAt ts k).map by8] := by rw [HLS.out, HLN.out, if_neg hx0, ← List.append_assoc]
              rw [e]
              refine putLine_l (keyA x :: namesAt ts k) ya ym yc b vk _ w8 hrow hym (by rw [hym]; simp) (by rw [hym, List.length_cons]; have := namesAt_length ts (k : Int); rw [← HN.out] at this; omega) (fun z hz => ?_) (HJ.out.1.below hB8) HJ.out.2.1 (by have h1 := levLs_length ts l' (k - 1); have h2 := HLL.out; rw [List.length_append]; omega)
              rw [List.mem_cons] at hz
              rcases hz with rfl | hz
              · exact keyA_size x
              · unfold namesAt at hz
                rw [List.mem_map] at hz
                obtain ⟨t, ht, rfl⟩ := hz
                exact HS.out t (List.mem_filter.1 ht).1
            have HQ : Hid (Moved w b v w8 vk ∧ w8.heap[lb]? = some (.cells (ar9 l') 61 (0, 0)) ∧ lb < w8.heap.size) := by
              have h1 := block_below hB8 HJ.out.2.2.2.1
              exact ⟨HJ.out.2.2.1.trans (Moved.of_below hB8), h1, (Array.getElem?_eq_some_iff.1 h1).1⟩
            have HNF : Hid (¬ Foot b vk lb) := HJ.out.2.2.2.2
            clear hym hrow hB8 HC HJ HLS HLN HRk hx0
            go_wp2_with fail
            refine HP.out.mono ?_
            rintro e w9 ⟨v9, rfl, h1, h2, h3⟩
            have HF : Hid (LvB ts l' L w b v w9 lb (k + 1)) := by
              refine ⟨v9, by rw [Nat.add_sub_cancel]; exact h1, by rw [Nat.add_sub_cancel]; exact h2, HQ.out.1.trans h3, ?_, ?_⟩
              · rw [h3.1.block lb HQ.out.2.2 HNF.out]; exact HQ.out.2.1
              · rintro (rfl | hk)
                · exact HNF.out (.inl rfl)
                · rcases h3.2 lb hk with h4 | h4
                  · exact HNF.out (.inr h4)
                  · have := HQ.out.2.2; omega
            clear h1 h2 h3 HP HQ HNF
            go_wp2_with fail
            go_roundg (9 - (k + 1))
            case measure => omega
            case rel => exact ⟨k + 1, by simp, by omega, by omega, Nat.le_refl _, HF⟩
        · obtain rfl : k = 9 := by omega
          obtain ⟨vk, jB, jO, jM, -, -⟩ := J.out
          have HF : Hid (Bld wr b vk (tx (L ++ (tokLn ts ++ levLs ts l' 8))) ∧ OkL (L ++ (tokLn ts ++ levLs ts l' 8)) ∧ Moved w b v wr vk) := by
            rw [← List.append_assoc]
            exact ⟨jB, jO, jM⟩
          clear jB jO jM J
          go_wp2_with fail
          go_end0
          exact ⟨vk, rfl, HF.out⟩

end Go.Proofs.YtdgadamkiililaaDoor
