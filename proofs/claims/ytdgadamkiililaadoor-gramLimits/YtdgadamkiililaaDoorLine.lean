/-
  Lines of words; the walks of assocKey, levelLine, putRule.
-/
import Derived.Test.YtdgadamkiililaaDoorFmt
import Derived.Test.YtdgadamkiililaaDoorMayG
import Derived.Laws.OwnMore
namespace Go.Proofs.YtdgadamkiililaaDoor
open Go.RowKit

theorem Tryd.info9 : (Tryd.prog.info? 9).map (fun i => (i.zero, i.size, i.bytes)) = some (some (.string ⟨#[]⟩), 1, 16) := by kernel_rfl

/-- Lines, one behind the other; lines that are not too long. -/
def tx (L : List (List (List UInt8))) : List UInt8 := L.flatMap lineT
def OkL (L : List (List (List UInt8))) : Prop := ∀ ws ∈ L, ws.length ≤ 1000 ∧ ∀ x ∈ ws, x.length ≤ 100

theorem tx_append (a b : List (List (List UInt8))) : tx (a ++ b) = tx a ++ tx b := by unfold tx; rw [List.flatMap_append]
theorem tx_one (x : List (List UInt8)) : tx [x] = lineT x := by unfold tx; simp

theorem lineT_length {ws : List (List UInt8)} (h : ws.length ≤ 1000) (h2 : ∀ x ∈ ws, x.length ≤ 100) : (lineT ws).length ≤ 102000 := by
  unfold lineT
  cases ws with
  | nil => simp [jn]
  | cons x r =>
    have h3 := sp_length r (fun y hy => h2 y (List.mem_cons_of_mem _ hy))
    have h4 := h2 x List.mem_cons_self
    unfold jn
    rw [List.length_append, List.length_append]
    rw [List.length_cons] at h
    simp only [List.length_cons, List.length_nil]
    omega

theorem tx_length {L : List (List (List UInt8))} (h : OkL L) : (tx L).length ≤ 102000 * L.length := by
  induction L with
  | nil => simp [tx]
  | cons x r ih =>
    have h1 := ih (fun y hy => h y (List.mem_cons_of_mem _ hy))
    have h2 := h x List.mem_cons_self
    have h3 := lineT_length h2.1 h2.2
    have e : tx (x :: r) = lineT x ++ tx r := rfl
    rw [e, List.length_append, List.length_cons]
    omega

theorem OkL.snoc {L : List (List (List UInt8))} {ws : List (List UInt8)} (h : OkL L) (h1 : ws.length ≤ 1000) (h2 : ∀ x ∈ ws, x.length ≤ 100) : OkL (L ++ [ws]) := fun y hy => by
  rcases List.mem_append.1 hy with h3 | h3
  · exact h y h3
  · rw [List.mem_singleton] at h3; subst h3; exact ⟨h1, h2⟩

/-- One line more into a builder. -/
theorem putLine_l (l : List ByteArray) (ao : Option Addr) (n cap b : Nat) (v : Value) (L : List (List (List UInt8))) (w : World) (hr : Row w 1 ao n cap (strC l)) (hn : n = l.length) (h1 : 1 ≤ n) (hnn : n ≤ 1000) (hs : ∀ x ∈ l, x.size ≤ 100) (hB : Bld w b v (tx L)) (hL : OkL L) (hl : L.length ≤ 400) :
    Calls Tryd.prog 25 #[.pointer (some ⟨b, 0, none⟩), .slice ao n cap] w fun e w' => ∃ v', e = .returned (.tuple #[]) ∧ Bld w' b v' (tx (L ++ [l.map by8])) ∧ OkL (L ++ [l.map by8]) ∧ Moved w b v w' v' := by
  refine (putLine_calls l ao n cap b v (tx L) w hr hn h1 hnn hs hB (by have := tx_length hL; omega)).mono ?_
  rintro e w' ⟨v', rfl, h2, h3⟩
  refine ⟨v', rfl, by rw [tx_append, tx_one]; exact h2, hL.snoc (by rw [List.length_map, ← hn]; exact hnn) (fun x hx => ?_), h3⟩
  rw [List.mem_map] at hx
  obtain ⟨y, hy, rfl⟩ := hx
  rw [by8_length]
  exact hs y hy

theorem strC_append (a b : List ByteArray) : strC (a ++ b) = strC a ++ strC b := by unfold strC; rw [List.map_append]
theorem strC_length (a : List ByteArray) : (strC a).length = a.length := by unfold strC; rw [List.length_map]
theorem strC_one (l : List ByteArray) : ∀ u ∈ strC l, u.oneCell' = true := by
  intro u hu
  unfold strC at hu
  rw [List.mem_map] at hu
  obtain ⟨s, -, rfl⟩ := hu
  rfl

/-- Texts that the call itself owns. -/
def OwnS (w : World) (base : Nat) (v : Value) (l : List ByteArray) : Prop := w.ownsRow base 9 1 v l.length (strC l)

/-- Texts behind owned ones. -/
theorem OwnS.addRow {w : World} {base : Nat} {v : Value} {l ys : List ByteArray} {xa : Option Addr} {m xc : Nat} (h : OwnS w base v l) (hr : Row w 1 xa m xc (strC ys)) (hb : base ≤ w.heap.size) (hn : l.length + ys.length ≤ 100000) (hm : m = ys.length) :
    ∃ ao n c w', (Builtin.append_ #[37, 37] 37 #[v, .slice xa m xc]).run Tryd.prog w = .ok (.slice ao n c) w' ∧ n = (l ++ ys).length ∧ OwnS w' base (.slice ao n c) (l ++ ys) ∧ Below base w w' := by
  obtain ⟨i0, hi, hz0, hz1, hz2⟩ := info_parts Tryd.info9
  rcases hr.lies with ⟨rfl, h0, h0c⟩ | ⟨b, o, rfl, hc⟩
  · have hys : ys = [] := List.eq_nil_of_length_eq_zero (by omega)
    subst hys h0 h0c
    have hrun := run_append_owned_none (P := Tryd.prog) (w := w) base 37 37 9 i0 1 Tryd.underlying37 hi v l.length (strC l) h
    obtain ⟨ao, c, rfl, -⟩ := own_slice h
    exact ⟨ao, l.length, c, w, hrun, by simp, by rw [List.append_nil]; exact h, Below.refl _ _⟩
  · subst hm
    obtain ⟨v', w', hr', h2, h3, -⟩ := run_append_own (P := Tryd.prog) w base 37 37 9 i0 _ 1 16 Tryd.underlying37 hi hz0 hz1 hz2 rfl (by decide) v l.length (strC l) h ⟨b, o, none⟩ ys.length xc (strC ys) (by rw [strC_length, Nat.mul_one])
      (fun j u hu => by rw [Addr.add_lit]; exact hc j u hu) (strC_one ys) (by unfold maxLen; omega) (by omega) hb
    have h2' : OwnS w' base v' (l ++ ys) := by unfold OwnS; rw [strC_append, List.length_append]; exact h2
    obtain ⟨ao, c, rfl, -⟩ := own_slice h2'
    exact ⟨ao, _, c, w', hr', rfl, h2', (Below.refl base w).grown h3 (by omega) (fun g hg => (World.ownsRow.lt h g hg).1)⟩

theorem OwnS.row {w : World} {base n : Nat} {ao : Option Addr} {c : Nat} {l : List ByteArray} (h : OwnS w base (.slice ao n c) l) (hn : n = l.length) : Row w 1 ao n c (strC l) := by subst hn; exact Row.of_own h

theorem OwnS.below {w w' : World} {base : Nat} {v : Value} {l : List ByteArray} (h : OwnS w base v l) (hb : Below w.heap.size w w') : OwnS w' base v l :=
  ownsRow_of_block h (fun i hi => hb.block i (World.ownsRow.lt h i hi).2)

/-- Texts that were just laid. -/
theorem new_row (w : World) (l : List ByteArray) (h : l.length ≤ 1000) : Row (w.alloc (.cells (strC l).toArray 9)) 1 (some ⟨w.heap.size, 0, none⟩) l.length l.length (strC l) := by
  refine ⟨by rw [strC_length, Nat.mul_one], Nat.le_refl _, by unfold maxLen; omega, .inr ⟨_, _, rfl, fun j u hu => ?_⟩⟩
  rw [World.cell?_alloc_mark, Nat.zero_add, List.getElem?_toArray]
  exact hu

theorem new_own (w : World) (l : List ByteArray) (h : l.length ≤ 1000) : OwnS (w.alloc (.cells (strC l).toArray 9)) w.heap.size (.slice (some ⟨w.heap.size, 0, none⟩) l.length l.length) l := by
  refine ⟨by rw [strC_length, Nat.mul_one], .inr ⟨w.heap.size, l.length, (strC l).toArray, rfl, Nat.le_refl _, heap_alloc_new _ _, Nat.le_refl _, by unfold maxLen; omega, by simp [strC_length], ?_⟩⟩
  rw [List.toList_toArray, List.take_of_length_le (by rw [strC_length]; omega)]

/-- A kind's key. -/
def keyA (a : Int) : ByteArray := if a = 1 then ⟨#[37, 108, 101, 102, 116]⟩ else if a = 2 then ⟨#[37, 114, 105, 103, 104, 116]⟩ else ⟨#[37, 110, 111, 110, 97, 115, 115, 111, 99]⟩
theorem keyA_size (a : Int) : (keyA a).size ≤ 100 := by
  unfold keyA
  split
  · exact (by decide : (⟨#[37, 108, 101, 102, 116]⟩ : ByteArray).size ≤ 100)
  · split
    · exact (by decide : (⟨#[37, 114, 105, 103, 104, 116]⟩ : ByteArray).size ≤ 100)
    · exact (by decide : (⟨#[37, 110, 111, 110, 97, 115, 115, 111, 99]⟩ : ByteArray).size ≤ 100)

theorem assocKey_calls (a : Int) (w : World) : Calls Tryd.prog 53 #[.int .i64 a] w fun e w' => e = .returned (.string (keyA a)) ∧ w' = w := by
  by_cases h1 : a = 1
  · subst h1
    go_enter Tryd.func53, Tryd.ntmps53
    go_wp2
    go_ret
    exact ⟨rfl, rfl⟩
  · by_cases h2 : a = 2
    · subst h2
      go_enter Tryd.func53, Tryd.ntmps53
      go_wp2
      go_ret
      exact ⟨rfl, rfl⟩
    · have e1 : (a == 1) = false := by simpa using h1
      have e2 : (a == 2) = false := by simpa using h2
      have HK : Hid (keyA a = ⟨#[37, 110, 111, 110, 97, 115, 115, 111, 99]⟩) := by show _ = _; unfold keyA; rw [if_neg h1, if_neg h2]
      go_enter Tryd.func53, Tryd.ntmps53
      go_wp2
      go_ret
      exact ⟨by rw [HK.out]; rfl, rfl⟩

/-- The names of a level. -/
def namesAt (ts : List Tk) (k : Int) : List ByteArray := (ts.filter fun t => t.l == k).map (·.n)

theorem namesAt_snoc (ts : List Tk) (t : Tk) (k : Int) : namesAt (ts ++ [t]) k = namesAt ts k ++ (if t.l == k then [t.n] else []) := by
  unfold namesAt
  rw [List.filter_append, List.map_append]
  congr 1
  cases h : (t.l == k) <;> simp [h]

theorem namesAt_length (ts : List Tk) (k : Int) : (namesAt ts k).length ≤ ts.length := by
  unfold namesAt
  rw [List.length_map]
  exact List.length_filter_le _ _

set_option maxHeartbeats 4000000 in
set_option maxRecDepth 20000 in
theorem levelLine_calls (ts : List Tk) (ao : Option Addr) (n cap : Nat) (k a : Int) (w : World) (hr : Row w 3 ao n cap (tokC ts)) (hn : n = ts.length) (hnn : n ≤ 100) :
    Calls Tryd.prog 40 #[.slice ao n cap, .int .i64 k, .int .i64 a] w fun e w' => ∃ xa m xc, e = .returned (.slice xa m xc) ∧ m = (keyA a :: namesAt ts k).length ∧ Row w' 1 xa m xc (strC (keyA a :: namesAt ts k)) ∧ Below w.heap.size w w' := by
  have HN : Hid (n = ts.length) := hn
  have HR : Hid (Row w 3 ao n cap (tokC ts)) := hr
  have hle := hr.le
  have hmx : cap ≤ 9223372036854775807 := by have := hr.max; unfold maxLen at this; omega
  have HK : Hid (∀ W : World, Calls Tryd.prog 53 #[.int .i64 a] W fun e w' => e = .returned (.string (keyA a)) ∧ w' = W) := fun W => assocKey_calls a W
  have HO : Hid (OwnS (w.alloc (.cells #[.string (keyA a)] 9)) w.heap.size (.slice (some ⟨w.heap.size, 0, none⟩) 1 1) [keyA a] ∧ Below w.heap.size w (w.alloc (.cells #[.string (keyA a)] 9))) := ⟨new_own w [keyA a] (by simp), below_alloc _ _⟩
  generalize keyA a = ka at HK HO ⊢
  clear hr hn
  go_enter Tryd.func40, Tryd.ntmps40
  go_wp2_with fail
  refine (HK.out _).mono ?_
  rintro e w9 ⟨rfl, hww⟩
  subst w9
  go_upto_region 2 with fail
  generalize hw1 : w.alloc (.cells #[.string ka] 9) = w1 at HO ⊢
  clear hw1
  go_wp2
  go_loopg [7, 15] n (fun kx s7 s15 wr => ∃ (i : Nat) (ml : Option Addr × Nat × Nat), s7 = .slice ml.1 ml.2.1 ml.2.2 ∧ s15 = .int .i64 i ∧ i ≤ n ∧ n - i ≤ kx ∧ Hid (∃ l : List ByteArray, l = ka :: namesAt (ts.take i) k ∧ ml.2.1 = l.length ∧ OwnS wr w.heap.size (.slice ml.1 ml.2.1 ml.2.2) l ∧ Below w.heap.size w wr))
  case atStart => exact ⟨0, (some ⟨w.heap.size, 0, none⟩, 1, 1), rfl, rfl, Nat.zero_le _, by omega, (⟨[ka], rfl, rfl, HO.out.1, HO.out.2⟩ : ∃ l : List ByteArray, l = ka :: namesAt (ts.take 0) k ∧ 1 = l.length ∧ OwnS w1 w.heap.size (.slice (some ⟨w.heap.size, 0, none⟩) 1 1) l ∧ Below w.heap.size w w1)⟩
  case round =>
    obtain ⟨i, ⟨la, ln, lc⟩, rfl, rfl, hi, hg, J⟩ := hrel
    simp only at J
    obtain ⟨l, hl, hln, hown, hbel⟩ := J.out
    have HL : Hid (l = ka :: namesAt (ts.take i) k ∧ ln = l.length ∧ OwnS wr w.heap.size (.slice la ln lc) l ∧ Below w.heap.size w wr) := ⟨hl, hln, hown, hbel⟩
    have hll : l.length ≤ 101 := by
      rw [hl, List.length_cons]
      have := namesAt_length (ts.take i) k
      rw [List.length_take, ← HN.out] at this
      omega
    clear J HO
    by_cases hlt : i < n
    · obtain ⟨t, ht⟩ : ∃ t, ts[i]? = some t := ⟨ts[i]'(by rw [← HN.out]; exact hlt), List.getElem?_eq_getElem _⟩
      obtain ⟨b, o, rfl, c0, c1, c2⟩ := tok_at (HR.out.below hbel) ht
      have HT : Hid (namesAt (ts.take (i + 1)) k = namesAt (ts.take i) k ++ (if t.l == k then [t.n] else [])) := by show _ = _; rw [take_succ ht, namesAt_snoc]
      obtain ⟨tn, tl, ta⟩ := t
      simp only at c0 c1 c2
      clear ht
      clear hl hln
      go_upto_region 5 with fail
      have HQ : Hid (OwnS (wr.alloc (.cells #[.string tn, .int .i64 tl, .int .i64 ta] 35)) w.heap.size (.slice la ln lc) l ∧ Below w.heap.size w (wr.alloc (.cells #[.string tn, .int .i64 tl, .int .i64 ta] 35))) := ⟨hown.below (below_alloc _ _), below_step hbel (below_alloc _ _)⟩
      have d0 : (wr.alloc (.cells #[.string tn, .int .i64 tl, .int .i64 ta] 35)).cell? ⟨wr.heap.size, 0, none⟩ = some (.string tn) := by rw [World.cell?_alloc_mark]; rfl
      have d1 : (wr.alloc (.cells #[.string tn, .int .i64 tl, .int .i64 ta] 35)).cell? ⟨wr.heap.size, 1, none⟩ = some (.int .i64 tl) := by rw [World.cell?_alloc_mark]; rfl
      generalize wr.alloc (.cells #[.string tn, .int .i64 tl, .int .i64 ta] 35) = wq at HQ d0 d1 ⊢
      generalize wr.heap.size = tb at d0 d1 ⊢
      clear c0 c1 c2 hown hbel
      by_cases htl : tl = k
      · have e1 : (tl == k) = true := by simpa using htl
        have hA := (HQ.out.1.below (below_alloc wq (.cells #[.string tn] 9))).addRow (new_row wq [tn] (by simp)) (by have := HQ.out.2.size; simp; omega) (by simp; omega) rfl
        obtain ⟨a2, n2, c2, w2, hr, hn2, ho2, hb2⟩ := hA
        have hr' : (Builtin.append_ #[37, 37] 37 #[.slice la ln lc, .slice (some ⟨wq.heap.size, 0, none⟩) 1 1]).run Tryd.prog (wq.alloc (.cells #[.string tn] 9)) = .ok (.slice a2 n2 c2) w2 := hr
        have HF : Hid (∃ l : List ByteArray, l = ka :: namesAt (ts.take (i + 1)) k ∧ n2 = l.length ∧ OwnS w2 w.heap.size (.slice a2 n2 c2) l ∧ Below w.heap.size w w2) := by
          refine ⟨l ++ [tn], ?_, hn2, ho2, ?_⟩
          · have e : namesAt (ts.take (i + 1)) k = namesAt (ts.take i) k ++ [tn] := by rw [HT.out]; simp [e1]
            rw [e, HL.out.1]; rfl
          · have h1 : Below w.heap.size w (wq.alloc (.cells #[.string tn] 9)) := below_step HQ.out.2 (below_alloc _ _)
            exact h1.trans hb2
        clear hr hn2 ho2 hb2 HT HL htl
        go_wp2_with (at_builtin; refine Lib.wpList_append_run _ rfl _ _ _ _ rfl _ _ rfl rfl _ _ hr' ?_)
        go_roundg (n - (i + 1))
        case measure => omega
        case rel => exact ⟨i + 1, (a2, n2, c2), rfl, by simp, by omega, Nat.le_refl _, HF⟩
      · have e1 : (tl == k) = false := by simpa using htl
        have HF : Hid (∃ l : List ByteArray, l = ka :: namesAt (ts.take (i + 1)) k ∧ ln = l.length ∧ OwnS wq w.heap.size (.slice la ln lc) l ∧ Below w.heap.size w wq) := by
          refine ⟨l, ?_, HL.out.2.1, HQ.out.1, HQ.out.2⟩
          have e : namesAt (ts.take (i + 1)) k = namesAt (ts.take i) k := by rw [HT.out]; simp [e1]
          rw [e]; exact HL.out.1
        clear HT HL htl
        go_wp2_with fail
        go_roundg (n - (i + 1))
        case measure => omega
        case rel => exact ⟨i + 1, (la, ln, lc), rfl, by simp, by omega, Nat.le_refl _, HF⟩
    · obtain rfl : i = n := by omega
      have HF : Hid (l = ka :: namesAt ts k ∧ ln = l.length ∧ Row wr 1 la ln lc (strC l) ∧ Below w.heap.size w wr) := by
        refine ⟨?_, hln, hown.row hln, hbel⟩
        rw [hl, HN.out, List.take_length]
      clear HL hl hln hown hbel
      go_wp2_with fail
      go_ret
      obtain ⟨h1, h2, h3, h4⟩ := HF.out
      exact ⟨la, ln, lc, rfl, by rw [h2, h1, List.length_cons], by rw [← h1]; exact h3, h4⟩

end Go.Proofs.YtdgadamkiililaaDoor
