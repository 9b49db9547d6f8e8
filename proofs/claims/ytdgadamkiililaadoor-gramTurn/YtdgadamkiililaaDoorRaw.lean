/-
  Grammars of any size as they come in: what their cells hold.
-/
import Derived.Test.YtdgadamkiililaaDoorLim
import Derived.Deep.SlicePairs
import Derived.Deep.Strs
namespace Go.Proofs.YtdgadamkiililaaDoor
open Go.RowKit Go.ChangeShapes Go.WideShapes


/-- Texts that a slice shows. -/
structure RawS (w : World) (ao : Option Addr) (n cap : Nat) (l : List ByteArray) : Prop where
  len : n = l.length
  le : n ≤ cap ∧ cap ≤ 9223372036854775807
  get : ∀ (i : Nat) (s : ByteArray), l[i]? = some s → ∃ b o, ao = some ⟨b, o, none⟩ ∧ w.cell? ⟨b, o + i, none⟩ = some (.string s)

/-- A grammar that came in. -/
structure RawG (w : World) (h : Hd) (G : Gm) : Prop where
  tl : G.ts.length ≤ h.tc ∧ h.tc ≤ 9223372036854775807
  rl : G.rs.length ≤ h.rc ∧ h.rc ≤ 9223372036854775807
  tok : ∀ (i : Nat) (t : Tk), G.ts[i]? = some t → ∃ b o, h.ta = some ⟨b, o, none⟩ ∧ w.cell? ⟨b, o + i * 3, none⟩ = some (.string t.n) ∧ w.cell? ⟨b, o + i * 3 + 1, none⟩ = some (.int .i64 t.l) ∧ w.cell? ⟨b, o + i * 3 + 2, none⟩ = some (.int .i64 t.a)
  rul : ∀ (i : Nat) (r : Ru), G.rs[i]? = some r → ∃ b o xa xc, h.ra = some ⟨b, o, none⟩ ∧ w.cell? ⟨b, o + i * 3, none⟩ = some (.string r.l) ∧ w.cell? ⟨b, o + i * 3 + 1, none⟩ = some (.slice xa r.r.length xc) ∧ w.cell? ⟨b, o + i * 3 + 2, none⟩ = some (.string r.p) ∧ RawS w xa r.r.length xc r.r

theorem RawS.below {w w' : World} {ao : Option Addr} {n cap : Nat} {l : List ByteArray} (h : RawS w ao n cap l) (hb : Below w.heap.size w w') : RawS w' ao n cap l :=
  ⟨h.len, h.le, fun i s hs => by obtain ⟨b, o, e, c⟩ := h.get i s hs; exact ⟨b, o, e, cell_below hb c⟩⟩

theorem RawG.below {w w' : World} {h : Hd} {G : Gm} (g : RawG w h G) (hb : Below w.heap.size w w') : RawG w' h G :=
  ⟨g.tl, g.rl, fun i t ht => by obtain ⟨b, o, e, c0, c1, c2⟩ := g.tok i t ht; exact ⟨b, o, e, cell_below hb c0, cell_below hb c1, cell_below hb c2⟩,
    fun i r hr => by obtain ⟨b, o, xa, xc, e, c0, c1, c2, c3⟩ := g.rul i r hr; exact ⟨b, o, xa, xc, e, cell_below hb c0, cell_below hb c1, cell_below hb c2, c3.below hb⟩⟩

theorem open_strs' {H : Type} {enc : TypeId × Value → H} {W : World} {fuel : Nat} {cs : List Value} {x : DataW H × List MemPlace} (h : DataW.trod enc Tryd.prog W 0 (fun _ => true) true fuel 37 cs = some x) :
    ∃ (ao : Option Addr) (n cap : Nat) (l : List ByteArray), cs = [.slice ao n cap] ∧ RawS W ao n cap l := by
  rcases Go.Deep.open_strs Tryd.underlying37 Tryd.underlying9 (by kernel_rfl) h with ⟨hcs, _⟩ | ⟨a, len, cap, m, Sx, hcs, _, hl, hm, hmm, _, hx⟩
  · exact ⟨none, 0, 0, [], hcs, rfl, ⟨Nat.le_refl _, by omega⟩, fun i s hs => by cases hs⟩
  · refine ⟨some a, len, cap, (List.range len).map Sx, hcs, by simp, ⟨hl, by unfold maxLen at hm; omega⟩, fun i s hs => ?_⟩
    obtain ⟨hi, rfl⟩ := range_map_at Sx len i s hs
    have hm' : m = cap := by simpa using hmm
    have hc := (hx i (by omega)).1
    have h0 := (hx 0 (by omega)).1
    obtain ⟨b, off, spot⟩ := a
    have hspot : spot = none := by simpa [Addr.add] using World.cell?_spot h0
    subst hspot
    rw [Addr.add_lit] at hc
    exact ⟨b, off, rfl, hc⟩

theorem rule_fields : Tryd.prog.underlying 39 = some (.struct #[⟨"Left", 9, 0, false, "", "", 0⟩, ⟨"Right", 37, 1, false, "", "", 16⟩, ⟨"Prec", 9, 2, false, "", "", 40⟩]) := by kernel_rfl
theorem tok_fields : Tryd.prog.underlying 35 = some (.struct #[⟨"Name", 9, 0, false, "", "", 0⟩, ⟨"Level", 3, 1, false, "", "", 16⟩, ⟨"Assoc", 3, 2, false, "", "", 24⟩]) := by kernel_rfl
theorem c9 : Tryd.prog.cellsOf 9 = 1 := by kernel_rfl
theorem c3' : Tryd.prog.cellsOf 3 = 1 := by kernel_rfl
theorem c37 : Tryd.prog.cellsOf 37 = 1 := by kernel_rfl
theorem c35 : Tryd.prog.cellsOf 35 = 3 := by kernel_rfl
theorem c39 : Tryd.prog.cellsOf 39 = 3 := by kernel_rfl
theorem c22 : Tryd.prog.cellsOf 22 = 1 := by kernel_rfl
theorem c23 : Tryd.prog.cellsOf 23 = 1 := by kernel_rfl
theorem c25 : Tryd.prog.cellsOf 25 = 4 := by kernel_rfl

/-- Three cells behind an address. -/
theorem three_cells {W : World} {a : Addr} {i : Nat} {cs : List Value} (h : W.cells? 0 (a.add (i * 3)) 3 = some cs) : ∃ v0 v1 v2, cs = [v0, v1, v2] ∧ W.cell? (a.add (i * 3)) = some v0 ∧ W.cell? (a.add (i * 3 + 1)) = some v1 ∧ W.cell? (a.add (i * 3 + 2)) = some v2 := by
  obtain ⟨_, hlen, hcell⟩ := World.cells?_some h
  match cs, hlen with
  | [v0, v1, v2], _ =>
    have e0 := hcell 0 (by omega)
    have e1 := hcell 1 (by omega)
    have e2 := hcell 2 (by omega)
    rw [Go.Deep.add_add] at e0 e1 e2
    exact ⟨v0, v1, v2, rfl, by simpa using e0, by simpa using e1, by simpa using e2⟩

theorem open_toks {H : Type} {enc : TypeId × Value → H} {W : World} {fuel : Nat} {cs : List Value} {x : DataW H × List MemPlace} (h : DataW.trod enc Tryd.prog W 0 (fun _ => true) true fuel 22 cs = some x) :
    ∃ (ao : Option Addr) (n cap : Nat) (ts : List Tk), cs = [.slice ao n cap] ∧ n = ts.length ∧ (n ≤ cap ∧ cap ≤ 9223372036854775807) ∧
      ∀ (i : Nat) (t : Tk), ts[i]? = some t → ∃ b o, ao = some ⟨b, o, none⟩ ∧ W.cell? ⟨b, o + i * 3, none⟩ = some (.string t.n) ∧ W.cell? ⟨b, o + i * 3 + 1, none⟩ = some (.int .i64 t.l) ∧ W.cell? ⟨b, o + i * 3 + 2, none⟩ = some (.int .i64 t.a) := by
  rcases Go.Deep.open_slice Tryd.underlying22 h with ⟨hcs, _⟩ | ⟨a, len, cap, m, n, D, Pl, hcs, _, hl, hm, hmm, _, hx⟩
  · exact ⟨none, 0, 0, [], hcs, rfl, ⟨Nat.le_refl _, by omega⟩, fun i s hs => by cases hs⟩
  · have hm' : m = cap := by simpa using hmm
    rw [c35] at hx
    have each : ∀ i, i < len → ∃ t : Tk, W.cell? (a.add (i * 3)) = some (.string t.n) ∧ W.cell? (a.add (i * 3 + 1)) = some (.int .i64 t.l) ∧ W.cell? (a.add (i * 3 + 2)) = some (.int .i64 t.a) := fun i hi => by
      obtain ⟨cs', h1, h2⟩ := hx i (by omega)
      obtain ⟨v0, v1, v2, rfl, e0, e1, e2⟩ := three_cells h1
      obtain ⟨y0, y1, y2, k, _, _, f0, f1, f2⟩ := Go.Deep.trod_struct3 tok_fields h2
      simp [c9, c3'] at f0 f1 f2
      obtain ⟨s, hs, -⟩ := DataW.trod_string Tryd.underlying9 f0
      obtain ⟨i1, g1, -⟩ := DataW.trod_int Tryd.underlying3 f1
      obtain ⟨i2, g2, -⟩ := DataW.trod_int Tryd.underlying3 f2
      simp only [List.cons.injEq, and_true] at hs g1 g2
      exact ⟨⟨s, i1, i2⟩, by rw [e0, hs], by rw [e1, g1], by rw [e2, g2]⟩
    haveI : Inhabited Tk := ⟨⟨⟨#[]⟩, 0, 0⟩⟩
    obtain ⟨f, hf⟩ := Go.Deep.choose_lt each
    refine ⟨some a, len, cap, (List.range len).map f, hcs, by simp, ⟨hl, by unfold maxLen at hm; omega⟩, fun i t ht => ?_⟩
    obtain ⟨hi, rfl⟩ := range_map_at f len i t ht
    obtain ⟨k0, k1, k2⟩ := hf i hi
    obtain ⟨b, off, spot⟩ := a
    have hspot : spot = none := by simpa [Addr.add] using World.cell?_spot (hf 0 (by omega)).1
    subst hspot
    rw [Addr.add_lit] at k0 k1 k2
    exact ⟨b, off, rfl, k0, k1, k2⟩

theorem open_ruls {H : Type} {enc : TypeId × Value → H} {W : World} {fuel : Nat} {cs : List Value} {x : DataW H × List MemPlace} (h : DataW.trod enc Tryd.prog W 0 (fun _ => true) true fuel 23 cs = some x) :
    ∃ (ao : Option Addr) (n cap : Nat) (rs : List Ru), cs = [.slice ao n cap] ∧ n = rs.length ∧ (n ≤ cap ∧ cap ≤ 9223372036854775807) ∧
      ∀ (i : Nat) (r : Ru), rs[i]? = some r → ∃ b o xa xc, ao = some ⟨b, o, none⟩ ∧ W.cell? ⟨b, o + i * 3, none⟩ = some (.string r.l) ∧ W.cell? ⟨b, o + i * 3 + 1, none⟩ = some (.slice xa r.r.length xc) ∧ W.cell? ⟨b, o + i * 3 + 2, none⟩ = some (.string r.p) ∧ RawS W xa r.r.length xc r.r := by
  rcases Go.Deep.open_slice Tryd.underlying23 h with ⟨hcs, _⟩ | ⟨a, len, cap, m, n, D, Pl, hcs, _, hl, hm, hmm, _, hx⟩
  · exact ⟨none, 0, 0, [], hcs, rfl, ⟨Nat.le_refl _, by omega⟩, fun i s hs => by cases hs⟩
  · have hm' : m = cap := by simpa using hmm
    rw [c39] at hx
    have each : ∀ i, i < len → ∃ r : Ru, ∃ xa xc, W.cell? (a.add (i * 3)) = some (.string r.l) ∧ W.cell? (a.add (i * 3 + 1)) = some (.slice xa r.r.length xc) ∧ W.cell? (a.add (i * 3 + 2)) = some (.string r.p) ∧ RawS W xa r.r.length xc r.r := fun i hi => by
      obtain ⟨cs', h1, h2⟩ := hx i (by omega)
      obtain ⟨v0, v1, v2, rfl, e0, e1, e2⟩ := three_cells h1
      obtain ⟨y0, y1, y2, k, _, _, f0, f1, f2⟩ := Go.Deep.trod_struct3 rule_fields h2
      simp [c9, c37] at f0 f1 f2
      obtain ⟨s, hs, -⟩ := DataW.trod_string Tryd.underlying9 f0
      obtain ⟨xa, xn, xc, l, g1, hl⟩ := open_strs' f1
      obtain ⟨p, hp, -⟩ := DataW.trod_string Tryd.underlying9 f2
      simp only [List.cons.injEq, and_true] at hs g1 hp
      have hln := hl.len
      subst hln
      exact ⟨⟨s, l, p⟩, xa, xc, by rw [e0, hs], by rw [e1, g1], by rw [e2, hp], hl⟩
    haveI : Inhabited Ru := ⟨⟨⟨#[]⟩, [], ⟨#[]⟩⟩⟩
    obtain ⟨f, hf⟩ := Go.Deep.choose_lt each
    refine ⟨some a, len, cap, (List.range len).map f, hcs, by simp, ⟨hl, by unfold maxLen at hm; omega⟩, fun i t ht => ?_⟩
    obtain ⟨hi, rfl⟩ := range_map_at f len i t ht
    obtain ⟨xa, xc, k0, k1, k2, k3⟩ := hf i hi
    obtain ⟨b, off, spot⟩ := a
    have hspot : spot = none := by
      obtain ⟨_, _, z0, -⟩ := hf 0 (by omega)
      simpa [Addr.add] using World.cell?_spot z0
    subst hspot
    rw [Addr.add_lit] at k0 k1 k2
    exact ⟨b, off, xa, xc, rfl, k0, k1, k2, k3⟩

theorem gram_fields : Tryd.prog.underlying 25 = some (.struct #[⟨"Tokens", 22, 0, false, "", "", 0⟩, ⟨"Start", 9, 1, false, "", "", 24⟩, ⟨"Expect", 3, 2, false, "", "", 40⟩, ⟨"Rules", 23, 3, false, "", "", 48⟩]) := by kernel_rfl

theorem four_array {cs : Array Value} (h : cs.size = 4) : ∃ a0 a1 a2 a3, cs = #[a0, a1, a2, a3] := by
  match cs, h with
  | ⟨[a0, a1, a2, a3]⟩, _ => exact ⟨a0, a1, a2, a3, rfl⟩

set_option maxRecDepth 20000 in
/-- A grammar among the arguments. -/
theorem open_gram {H : Type} {enc : TypeId × Value → H} {W : World} {b0 : Nat} {v : Value} {d : DataW H} {ps : List MemPlace} (hval : Value.okWide Tryd.prog W .any b0 25 v) (hd : DataW.Trod enc Tryd.prog W 0 (fun _ => true) true 25 v d ps) : ∃ h G, v = gv h G ∧ RawG W h G := by
  obtain ⟨cs, rfl, hsz⟩ := okWide_struct gram_fields hval
  rw [c25] at hsz
  obtain ⟨fuel, hf⟩ := hd
  obtain ⟨xs, n, _, _, hl, hlen, hfs⟩ := DataW.trod_struct gram_fields hf
  obtain ⟨a0, a1, a2, a3, rfl⟩ := four_array hsz
  match xs, hlen with
  | [y0, y1, y2, y3], _ =>
    have g0 := hfs 0 _ rfl
    have g1 := hfs 1 _ rfl
    have g2 := hfs 2 _ rfl
    have g3 := hfs 3 _ rfl
    simp [Value.cells, c22, c9, c3', c23] at g0 g1 g2 g3
    obtain ⟨ta, tn, tc, ts, e0, htn, htl, htok⟩ := open_toks g0
    obtain ⟨s, hs, -⟩ := DataW.trod_string Tryd.underlying9 g1
    obtain ⟨e, he, -⟩ := DataW.trod_int Tryd.underlying3 g2
    obtain ⟨ra, rn, rc, rs, e3, hrn, hrl, hrul⟩ := open_ruls g3
    simp only [List.cons.injEq, and_true] at e0 hs he e3
    subst e0 hs he e3 htn hrn
    exact ⟨⟨ta, tc, ra, rc⟩, ⟨ts, s, e, rs⟩, rfl, htl, hrl, htok, hrul⟩
end Go.Proofs.YtdgadamkiililaaDoor
