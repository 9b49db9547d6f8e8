/-
  WellRules: whatever the numbers, of the Spec that they build what yields something and what is reached are told alike by the program and by the reference, so the call returns true and leaves all that was there as it was; its conditions are those of the row: rows of numbers that lie in memory as Go lays them, and the five tables as the program lays them.
-/
import Derived.Test.YtebehlmidoencaaGreatDoorOwn13
import Derived.ChangeSlices
import Derived.Deep.Matrix
import Derived.Test.YtebehlmidoencaaGreatDoorCards
import Derived.Test.YtebehlmidoencaaGreatDoorTie
import Derived.OpenShut
import Derived.ShutString
import Derived.ChangeOld
import Derived.Below
import Derived.SevenTiedAt
/-
  Specs that Rules builds: two lists that grow at once; a right side that grows.
-/
namespace Go.Proofs.YtebehlmidoencaaGreatDoor
open Go.RowKit

set_option maxRecDepth 20000

/-- A number laid behind an owned row, from wherever it lies. -/
theorem ap_int {W : World} {B n nc p : Nat} {na : Option Addr} {x : Int} {cs : List Value} (h : W.ownsRow B 3 1 (.slice na n nc) n cs) (hB : B ≤ W.heap.size) (hn : n < 100000) (hp : W.cell? ⟨p, 0, none⟩ = some (.int .i64 x)) :
    ∃ g c W', (Builtin.append_ #[29, 29] 29 #[.slice na n nc, .slice (some ⟨p, 0, none⟩) 1 1]).run Tryz.prog W = .ok (.slice (some ⟨g, 0, none⟩) (n + 1) c) W' ∧ W'.ownsRow B 3 1 (.slice (some ⟨g, 0, none⟩) (n + 1) c) (n + 1) (cs ++ [.int .i64 x]) ∧ Kept (fun k => blk na = some k) W W' ∧ (blk na = some g ∨ W.heap.size ≤ g) := by
  obtain ⟨i0, hi, hz0, hz1, hz2⟩ := info_parts i3
  have hnews : ∀ j u, ([.int .i64 x] : List Value)[j]? = some u → W.cell? ((⟨p, 0, none⟩ : Addr).add j) = some u := by
    intro j u hu
    match j, hu with
    | 0, hu => cases hu; exact hp
  have hone : ∀ u ∈ ([.int .i64 x] : List Value), u.oneCell' = true := fun u hu => by rw [List.mem_singleton] at hu; subst hu; rfl
  obtain ⟨v', w', hr, h2, h3, -⟩ := run_append_own (P := Tryz.prog) W B 29 29 3 i0 _ 1 8 u29 hi hz0 hz1 hz2 rfl (by decide) _ n _ h ⟨p, 0, none⟩ 1 1 [.int .i64 x] rfl hnews hone (by unfold maxLen; omega) (by omega) hB
  obtain ⟨v1, w1, hr1, -, hk1, hl1⟩ := append_known (P := Tryz.prog) W 29 29 3 i0 _ 1 8 u29 hi hz0 hz1 hz2 rfl (by decide) _ n _ (own_mono h (Nat.zero_le _)) ⟨p, 0, none⟩ 1 1 [.int .i64 x] rfl hnews hone (by unfold maxLen; omega) (by omega)
  rw [hr] at hr1
  injection hr1 with e1 e2
  subst e1 e2
  obtain ⟨ao, c, rfl, h4, h5, h6⟩ := own_slice h2
  obtain ⟨g, rfl⟩ : ∃ g, ao = some ⟨g, 0, none⟩ := by
    rcases h6 with ⟨-, h6, -⟩ | h6
    · omega
    · exact h6
  refine ⟨g, c, w', hr, h2, hk1.weaken (fun k e => blk_own e), ?_⟩
  rcases hl1 g rfl with h7 | h7
  · exact .inl (blk_own h7)
  · exact .inr h7

/-- A Spec whose levels were told once more, not yet its kinds. -/
structure PA (w U : World) (sb : Nat) (h : SHd) (S : Sp) (n g c : Nat) : Prop where
  box : U.heap[sb]? = some (.cells (sC h S) 32 (0, 0))
  nm : U.ownsRow w.heap.size 9 1 (.slice h.na S.nm.length h.nc) S.nm.length (strC S.nm)
  lv : U.ownsRow w.heap.size 3 1 (.slice (some ⟨g, 0, none⟩) (n + 1) c) (n + 1) (intC (S.lv ++ [0]))
  az : U.ownsRow w.heap.size 3 1 (.slice h.aa n h.ac) n (intC S.az)
  rl : U.ownsRow w.heap.size 62 4 (.slice h.ra S.rs.length h.rc) S.rs.length []
  rs : S.rs = []
  dis : ∀ k, blk h.aa = some k → g ≠ k
  bel : Below w.heap.size w U
  new : w.heap.size ≤ sb
  len : S.lv.length = n ∧ S.az.length = n

theorem PA.step {w U U' : World} {sb : Nat} {h : SHd} {S : Sp} {n g c : Nat} (s : PA w U sb h S n g c) (hb : Below U.heap.size U U') : PA w U' sb h S n g c :=
  ⟨block_below hb s.box, own_step s.nm hb, own_step s.lv hb, own_step s.az hb, own_step s.rl hb, s.rs, s.dis, below_step s.bel hb, s.new, s.len⟩

theorem SB.begin {w W : World} {sb : Nat} {h : SHd} {S : Sp} (s : SB w W sb h S []) (n : Nat) (e1 : S.lv.length = n) (e2 : S.az.length = n) (e3 : S.rs = []) (hn : n < 10000) (p : Nat) (hp : W.cell? ⟨p, 0, none⟩ = some (.int .i64 0)) :
    ∃ g c V, (Builtin.append_ #[29, 29] 29 #[.slice h.la n h.lc, .slice (some ⟨p, 0, none⟩) 1 1]).run Tryz.prog W = .ok (.slice (some ⟨g, 0, none⟩) (n + 1) c) V ∧ PA w V sb h S n g c ∧ Kept (fun k => blk h.la = some k) W V ∧
      (∀ (b T : Nat) (d : Array Value), W.heap[b]? = some (.cells d T (0, 0)) → T ≠ 3 → V.heap[b]? = some (.cells d T (0, 0))) ∧ (∀ (b : Nat) (u : Value), W.cell? ⟨b, 0, none⟩ = some u → blk h.la ≠ some b → V.cell? ⟨b, 0, none⟩ = some u) := by
  have hlv := s.lv
  rw [e1] at hlv
  have haz := s.az
  rw [e2] at haz
  obtain ⟨g, c, V, hr, ho, hk, hg⟩ := ap_int hlv s.bel.size (by omega) hp
  have stay : ∀ {E k n : Nat} {v : Value} {cs : List Value}, W.ownsRow w.heap.size E k v n cs → E ≠ 3 → V.ownsRow w.heap.size E k v n cs := fun ho hE => own_kept ho hk (fun i hi e => loc_ne (own_loc ho hi) (own_blt hlv e).2.2 hE rfl)
  have far : ∀ (b T : Nat) (d : Array Value), W.heap[b]? = some (.cells d T (0, 0)) → T ≠ 3 → V.heap[b]? = some (.cells d T (0, 0)) := fun b T d hb hT => by
    rw [hk.block b (Array.getElem?_eq_some_iff.1 hb).1 (fun e => loc_ne ⟨_, hb⟩ (own_blt hlv e).2.2 hT rfl)]
    exact hb
  refine ⟨g, c, V, hr, ⟨far sb 32 _ s.box (by decide), stay s.nm (by decide), ?_, own_kept haz hk (fun i hi e => s.dis i e (blk_own hi)), ?_, e3, ?_, ?_, s.new, e1, e2⟩, hk, far, fun b u hc hb => ?_⟩
  · rw [intC_snoc]
    exact ho
  · have := stay s.rl (by decide)
    exact this
  · intro k hk2 e
    subst e
    rcases hg with h1 | h1
    · exact s.dis g h1 hk2
    · have := (own_blt haz hk2).2.1
      omega
  · refine s.bel.trans (hk.below s.bel.size (fun k hk e => ?_))
    have := (own_blt hlv e).1
    omega
  · have hlt := World.block_lt_of_cell? W _ hc
    rw [← hc]
    unfold World.cell?
    rw [hk.block b hlt hb]

theorem PA.second {w U : World} {sb : Nat} {h : SHd} {S : Sp} {n g c : Nat} (s : PA w U sb h S n g c) (hn : n < 10000) (q : Nat) (hq : U.cell? ⟨q, 0, none⟩ = some (.int .i64 0)) :
    ∃ g2 c2 V, (Builtin.append_ #[29, 29] 29 #[.slice h.aa n h.ac, .slice (some ⟨q, 0, none⟩) 1 1]).run Tryz.prog U = .ok (.slice (some ⟨g2, 0, none⟩) (n + 1) c2) V ∧ V.heap[sb]? = some (.cells (sC h S) 32 (0, 0)) ∧
      SB w ((V.setCell ⟨sb, 5, none⟩ (.slice (some ⟨g, 0, none⟩) (n + 1) c)).setCell ⟨sb, 6, none⟩ (.slice (some ⟨g2, 0, none⟩) (n + 1) c2)) sb ⟨h.na, h.nc, some ⟨g, 0, none⟩, c, some ⟨g2, 0, none⟩, c2, h.ra, h.rc⟩ ⟨S.tk, S.nt, S.st, S.ex, S.nm, S.lv ++ [0], S.az ++ [0], S.rs⟩ [] ∧
      (∀ (b T : Nat) (d : Array Value), U.heap[b]? = some (.cells d T (0, 0)) → T ≠ 3 → b ≠ sb → ((V.setCell ⟨sb, 5, none⟩ (.slice (some ⟨g, 0, none⟩) (n + 1) c)).setCell ⟨sb, 6, none⟩ (.slice (some ⟨g2, 0, none⟩) (n + 1) c2)).heap[b]? = some (.cells d T (0, 0))) := by
  obtain ⟨g2, c2, V, hr, ho, hk, hg⟩ := ap_int s.az s.bel.size (by omega) hq
  have stay : ∀ {E k n : Nat} {v : Value} {cs : List Value}, U.ownsRow w.heap.size E k v n cs → E ≠ 3 → V.ownsRow w.heap.size E k v n cs := fun ho hE => own_kept ho hk (fun i hi e => loc_ne (own_loc ho hi) (own_blt s.az e).2.2 hE rfl)
  have far : ∀ (b T : Nat) (d : Array Value), U.heap[b]? = some (.cells d T (0, 0)) → T ≠ 3 → V.heap[b]? = some (.cells d T (0, 0)) := fun b T d hb hT => by
    rw [hk.block b (Array.getElem?_eq_some_iff.1 hb).1 (fun e => loc_ne ⟨_, hb⟩ (own_blt s.az e).2.2 hT rfl)]
    exact hb
  have hbox := far sb 32 _ s.box (by decide)
  have hlv : V.ownsRow w.heap.size 3 1 (.slice (some ⟨g, 0, none⟩) (n + 1) c) (n + 1) (intC (S.lv ++ [0])) := own_kept s.lv hk (fun i hi e => by
    have e2 : g = i := Option.some.inj hi
    exact s.dis i e e2)
  have hbox2 : (V.setCell ⟨sb, 5, none⟩ (.slice (some ⟨g, 0, none⟩) (n + 1) c)).heap[sb]? = some (.cells ((sC h S).setIfInBounds 5 (.slice (some ⟨g, 0, none⟩) (n + 1) c)) 32 (0, 0)) := box_set hbox
  have two : ∀ {E k n' : Nat} {v : Value} {cs : List Value}, V.ownsRow w.heap.size E k v n' cs → E ≠ 32 → ((V.setCell ⟨sb, 5, none⟩ (.slice (some ⟨g, 0, none⟩) (n + 1) c)).setCell ⟨sb, 6, none⟩ (.slice (some ⟨g2, 0, none⟩) (n + 1) c2)).ownsRow w.heap.size E k v n' cs := fun ho hE => own_box (own_box ho hbox hE) hbox2 hE
  refine ⟨g2, c2, V, hr, hbox, ⟨?_, two (stay s.nm (by decide)) (by decide), ?_, ?_, ?_, by rw [s.rs]; rfl, (fun q hq => by cases hq), ?_, ?_, s.new⟩, fun b T d hb hT hne => ?_⟩
  · rw [box_set hbox2]
    unfold sC
    simp [s.len.1, s.len.2]
  · simp only [List.length_append, List.length_cons, List.length_nil, s.len.1]
    exact two hlv (by decide)
  · simp only [List.length_append, List.length_cons, List.length_nil, s.len.2]
    rw [intC_snoc]
    exact two ho (by decide)
  · exact two (stay s.rl (by decide)) (by decide)
  · intro k hk2 e
    cases hk2
    cases e
    rcases hg with h1 | h1
    · exact s.dis _ h1 rfl
    · have h2 := (World.ownsRow.lt s.lv g rfl).2
      have h1' : U.heap.size ≤ g := h1
      omega
  · have hB : Below w.heap.size w V := s.bel.trans (hk.below s.bel.size (fun k hk e => by have := (own_blt s.az e).1; omega))
    exact (hB.setCell (p := ⟨sb, 5, none⟩) s.new _).setCell (p := ⟨sb, 6, none⟩) s.new _
  · rw [Below.heap_setCell _ _ _ _ hne, Below.heap_setCell _ _ _ _ hne]
    exact far b T d hb hT

/-- A right side that grows in a box of its own. -/
structure RQ (w W : World) (bx : Nat) (l : Int) (ys : List Nat) (xa : Option Addr) (xc : Nat) : Prop where
  box : W.heap[bx]? = some (.cells #[.int .i64 l, .slice xa ys.length xc, .int .i64 0, .int .i64 0] 62 (0, 0))
  own : W.ownsRow w.heap.size 3 1 (.slice xa ys.length xc) ys.length (natC ys)
  bel : Below w.heap.size w W
  new : w.heap.size ≤ bx

theorem RQ.add {w W : World} {bx : Nat} {l : Int} {ys : List Nat} {xa : Option Addr} {xc : Nat} (s : RQ w W bx l ys xa xc) (y : Nat) (n : Nat) (en : ys.length = n) (hn : n < 1000) :
    ∃ g c W', (Builtin.append_ #[29, 29] 29 #[.slice xa n xc, .slice (some ⟨W.heap.size, 0, none⟩) 1 1]).run Tryz.prog (W.alloc (.cells #[.int .i64 (y : Int)] 3)) = .ok (.slice (some ⟨g, 0, none⟩) (n + 1) c) W' ∧
      W'.cell? ⟨bx, 1, none⟩ = some (.slice xa n xc) ∧ W'.frozen? ⟨bx, 1, none⟩ = false ∧ RQ w (W'.setCell ⟨bx, 1, none⟩ (.slice (some ⟨g, 0, none⟩) (n + 1) c)) bx l (ys ++ [y]) (some ⟨g, 0, none⟩) c := by
  subst en
  obtain ⟨g, c, W', hr, ho, hk, hg⟩ := ap_gen (us := [.int .i64 (y : Int)]) u29 i3 rfl (by decide) (by decide) rfl (fun u hu => by rw [List.mem_singleton] at hu; subst hu; rfl) s.own s.bel.size (by omega)
  have hk0 : Kept (fun k => blk xa = some k) W W' := ((Kept.refl _ W).alloc _).trans hk (fun k _ e => blk_own e)
  have y5 : W'.heap[bx]? = some (.cells #[.int .i64 l, .slice xa ys.length xc, .int .i64 0, .int .i64 0] 62 (0, 0)) := by
    rw [hk0.block _ (Array.getElem?_eq_some_iff.1 s.box).1 (fun e => loc_ne ⟨_, s.box⟩ (own_blt s.own e).2.2 (by decide) rfl)]; exact s.box
  refine ⟨g, c, W', hr, by rw [cell_block y5]; rfl, frozen_block y5 1, ?_, ?_, ?_, s.new⟩
  · rw [setCell_eq_setRow W' bx 1 _ 62 (0, 0) _ y5, setRow_heap _ _ _ _ 62 _ y5, List.length_append]
    rfl
  · rw [natC_snoc, List.length_append]
    exact ownsRow_of_block ho (fun i hi => by
      cases hi
      exact Below.heap_setCell _ _ _ _ (loc_ne (own_loc ho rfl) ⟨_, y5⟩ (by decide)))
  · refine (s.bel.trans (hk0.below s.bel.size (fun k hk e => ?_))).setCell (p := ⟨bx, 1, none⟩) s.new _
    have := (own_blt s.own e).1
    omega

end Go.Proofs.YtebehlmidoencaaGreatDoor

/-
  Rows of numbers that came in.
-/
namespace Go.Proofs.YtebehlmidoencaaGreatDoor
open Go.RowKit

set_option maxRecDepth 20000

/-- Numbers that a slice shows. -/
structure RawI (w : World) (ao : Option Addr) (n cap : Nat) (zs : List Int) : Prop where
  le : n ≤ cap ∧ cap ≤ 9223372036854775807
  get : ∀ i, i < n → ∃ b o, ao = some ⟨b, o, none⟩ ∧ w.cell? ⟨b, o + i, none⟩ = some (.int .i64 (zs.getD i 0))

theorem RawI.below {w w' : World} {ao : Option Addr} {n cap : Nat} {zs : List Int} (h : RawI w ao n cap zs) (hb : Below w.heap.size w w') : RawI w' ao n cap zs :=
  ⟨h.le, fun i hi => by obtain ⟨b, o, e, c⟩ := h.get i hi; exact ⟨b, o, e, cell_below hb c⟩⟩

/-- A number's rest by m, from nought on. -/
theorem rem_range (z : Int) (m : Int) (hm : 0 < m) : -m < z.tmod m ∧ z.tmod m < m := by
  refine ⟨?_, Int.tmod_lt_of_pos z hm⟩
  have h := Int.tmod_lt_of_pos (-z) hm
  rw [Int.neg_tmod] at h
  omega

/-- Rows of numbers that a slice shows. -/
structure RawM (w : World) (ao : Option Addr) (n cap : Nat) : Prop where
  le : n ≤ cap ∧ cap ≤ 9223372036854775807
  get : ∀ i, i < n → ∃ b o ai ni ci zs, ao = some ⟨b, o, none⟩ ∧ w.cell? ⟨b, o + i, none⟩ = some (.slice ai ni ci) ∧ RawI w ai ni ci zs

theorem RawM.below {w w' : World} {ao : Option Addr} {n cap : Nat} (h : RawM w ao n cap) (hb : Below w.heap.size w w') : RawM w' ao n cap :=
  ⟨h.le, fun i hi => by obtain ⟨b, o, ai, ni, ci, zs, e, c, r⟩ := h.get i hi; exact ⟨b, o, ai, ni, ci, zs, e, cell_below hb c, r.below hb⟩⟩

theorem open_rows {H : Type} {enc : TypeId × Value → H} {W : World} {ao : Option Addr} {n cap : Nat} {d : DataW H} {ps : List MemPlace} (h : DataW.Trod enc Tryz.prog W 0 (fun _ => true) true 39 (.slice ao n cap) d ps) : ∃ _ : Unit, RawM W ao n cap := by
  obtain ⟨fuel, hf⟩ := h
  rcases Deep.open_int_rows Tryz.underlying39 Tryz.underlying29 Tryz.underlying3 (by kernel_rfl) (by kernel_rfl) hf with ⟨hcs, _⟩ | ⟨x, l, c, A, L, C, Z, hcs, _, hl, hm, _, hx⟩
  · simp [Value.cells] at hcs
    obtain ⟨rfl, rfl, rfl⟩ := hcs
    exact ⟨(), ⟨Nat.le_refl _, by omega⟩, fun i hi => absurd hi (Nat.not_lt_zero _)⟩
  · simp [Value.cells] at hcs
    obtain ⟨rfl, rfl, rfl⟩ := hcs
    refine ⟨(), ⟨hl, by unfold maxLen at hm; omega⟩, fun i hi => ?_⟩
    obtain ⟨hc, hl2, hm2, hz, -, hnone, hsome⟩ := hx i (by omega)
    have h0 := (hx 0 (by omega)).1
    obtain ⟨b, off, spot⟩ := x
    have hspot : spot = none := by simpa [Addr.add] using World.cell?_spot h0
    subst hspot
    rw [Addr.add_lit] at hc
    refine ⟨b, off, A i, L i, C i, Z i, rfl, hc, ⟨hl2, by unfold maxLen at hm2; omega⟩, fun j hj => ?_⟩
    cases ha : A i with
    | none =>
      have := hnone ha
      omega
    | some a =>
      obtain ⟨-, hcell⟩ := hsome a ha
      have h1 := hcell j (by omega)
      have h2 := hcell 0 (by omega)
      obtain ⟨b2, o2, s2⟩ := a
      have hs2 : s2 = none := by simpa [Addr.add] using World.cell?_spot h2
      subst hs2
      rw [Addr.add_lit] at h1
      exact ⟨b2, o2, rfl, h1⟩

/-- A Spec that Rules builds, and the box of its result. -/
structure SZ (w W : World) (rb sb : Nat) (h : SHd) (S : Sp) (qs : List (SR × Option Addr × Nat)) : Prop where
  sp : SB w W sb h S qs
  rx : W.heap[rb]? = some (.cells zC 32 (0, 0))
  ne : rb ≠ sb

theorem SZ.step {w W W' : World} {rb sb : Nat} {h : SHd} {S : Sp} {qs : List (SR × Option Addr × Nat)} (s : SZ w W rb sb h S qs) (hb : Below W.heap.size W W') : SZ w W' rb sb h S qs := ⟨s.sp.step hb, block_below hb s.rx, s.ne⟩

theorem SZ.addNm {w W : World} {rb sb : Nat} {h : SHd} {S : Sp} {qs : List (SR × Option Addr × Nat)} (s : SZ w W rb sb h S qs) (x : ByteArray) (n : Nat) (en : S.nm.length = n) (hn : n < 10000) :
    ∃ g c W', (Builtin.append_ #[28, 28] 28 #[.slice h.na n h.nc, .slice (some ⟨W.heap.size, 0, none⟩) 1 1]).run Tryz.prog (W.alloc (.cells #[.string x] 9)) = .ok (.slice (some ⟨g, 0, none⟩) (n + 1) c) W' ∧
      W'.cell? ⟨sb, 4, none⟩ = some (.slice h.na n h.nc) ∧ W'.frozen? ⟨sb, 4, none⟩ = false ∧ SZ w (W'.setCell ⟨sb, 4, none⟩ (.slice (some ⟨g, 0, none⟩) (n + 1) c)) rb sb ⟨some ⟨g, 0, none⟩, c, h.la, h.lc, h.aa, h.ac, h.ra, h.rc⟩ ⟨S.tk, S.nt, S.st, S.ex, S.nm ++ [x], S.lv, S.az, S.rs⟩ qs := by
  subst en
  obtain ⟨g, c, W', hr, hbox, h2, hk⟩ := s.sp.addNm x hn
  exact ⟨g, c, W', hr, by rw [cell_block hbox]; rfl, frozen_block hbox 4, ⟨h2, far_kept hk s.sp.nm s.rx (by decide) s.ne, s.ne⟩⟩

theorem SZ.addRu {w W : World} {rb sb : Nat} {h : SHd} {S : Sp} {qs : List (SR × Option Addr × Nat)} (s : SZ w W rb sb h S qs) (q : SR × Option Addr × Nat) (n : Nat) (en : S.rs.length = n) (hq : W.ownsRow w.heap.size 3 1 (.slice q.2.1 q.1.r.length q.2.2) q.1.r.length (natC q.1.r)) (hn : n < 10000) :
    ∃ g c W', (Builtin.append_ #[30, 30] 30 #[.slice h.ra n h.rc, .slice (some ⟨W.heap.size, 0, none⟩) 1 1]).run Tryz.prog (W.alloc (.cells #[.int .i64 q.1.l, .slice q.2.1 q.1.r.length q.2.2, .int .i64 q.1.lv, .int .i64 q.1.a] 62)) = .ok (.slice (some ⟨g, 0, none⟩) (n + 1) c) W' ∧
      W'.cell? ⟨sb, 7, none⟩ = some (.slice h.ra n h.rc) ∧ W'.frozen? ⟨sb, 7, none⟩ = false ∧ SZ w (W'.setCell ⟨sb, 7, none⟩ (.slice (some ⟨g, 0, none⟩) (n + 1) c)) rb sb ⟨h.na, h.nc, h.la, h.lc, h.aa, h.ac, some ⟨g, 0, none⟩, c⟩ ⟨S.tk, S.nt, S.st, S.ex, S.nm, S.lv, S.az, S.rs ++ [q.1]⟩ (qs ++ [q]) := by
  subst en
  obtain ⟨g, c, W', hr, hbox, h2, hk⟩ := s.sp.addRu q hq hn
  exact ⟨g, c, W', hr, by rw [cell_block hbox]; rfl, frozen_block hbox 7, ⟨h2, far_keptk hk s.sp.rl s.rx (by decide) s.ne, s.ne⟩⟩

theorem SZ.putSt {w W : World} {rb sb : Nat} {h : SHd} {S : Sp} {qs : List (SR × Option Addr × Nat)} (s : SZ w W rb sb h S qs) (x : Nat) : SZ w (W.setCell ⟨sb, 2, none⟩ (.int .i64 (x : Int))) rb sb h ⟨S.tk, S.nt, x, S.ex, S.nm, S.lv, S.az, S.rs⟩ qs := ⟨s.sp.putSt x, box_far s.rx s.ne, s.ne⟩

/-- Its rules are told anew. -/
theorem SZ.putRs {w W : World} {rb sb n : Nat} {h : SHd} {S : Sp} {qs rs : List (SR × Option Addr × Nat)} (s : SZ w W rb sb h S qs) (ao : Option Addr) (c : Nat) (hn : rs.length = n) (ho : W.ownsRow w.heap.size 62 4 (.slice ao n c) n (srC rs)) (hr : ∀ q ∈ rs, W.ownsRow w.heap.size 3 1 (.slice q.2.1 q.1.r.length q.2.2) q.1.r.length (natC q.1.r)) : SZ w (W.setCell ⟨sb, 7, none⟩ (.slice ao n c)) rb sb ⟨h.na, h.nc, h.la, h.lc, h.aa, h.ac, ao, c⟩ ⟨S.tk, S.nt, S.st, S.ex, S.nm, S.lv, S.az, rs.map (·.1)⟩ rs := by
  have e : (rs.map (·.1)).length = n := by rw [List.length_map]; exact hn
  refine ⟨⟨?_, own_box s.sp.nm s.sp.box (by decide), own_box s.sp.lv s.sp.box (by decide), own_box s.sp.az s.sp.box (by decide), ?_, rfl, fun q hq => own_box (hr q hq) s.sp.box (by decide), s.sp.dis, s.sp.bel.setCell (p := ⟨sb, 7, none⟩) s.sp.new _, s.sp.new⟩, box_far s.rx s.ne, s.ne⟩
  · rw [box_set s.sp.box]
    unfold sC
    simp [hn]
  · simp only [e]
    exact own_box ho s.sp.box (by decide)

end Go.Proofs.YtebehlmidoencaaGreatDoor

/-
  The walk of Rules: whatever the numbers, it builds a Spec that is well formed.
-/
namespace Go.Proofs.YtebehlmidoencaaGreatDoor
open Go.RowKit

set_option maxRecDepth 20000

/-- A Spec that Rules builds, ahead of name i. -/
structure NS (T M i : Nat) (S : Sp) : Prop where
  tk : S.tk = T
  nt : S.nt = M
  st : S.st = 0
  ex : S.ex = 0
  nm : S.nm.length = i
  lv : S.lv.length = min i T
  az : S.az.length = min i T
  rs : S.rs = []

/-- A Spec that Rules builds, behind rule k. -/
structure RS8 (T M n k : Nat) (S : Sp) : Prop where
  tk : S.tk = T
  nt : S.nt = M
  st : S.st = T + 1
  nm : S.nm.length = n
  lv : S.lv.length = T
  az : S.az.length = T
  len : S.rs.length = k + 1
  hd : S.rs[0]? = some ⟨-1, [T + 1], 0, 0⟩
  rl : ∀ (i : Nat) (r : SR), 0 < i → S.rs[i]? = some r → ∃ x : Nat, r.l = (x : Int) ∧ T < x ∧ x < n
  rr : ∀ r ∈ S.rs, r.r.length ≤ 100 ∧ ∀ y ∈ r.r, y < n

theorem RS8.wf {T M n k : Nat} {S : Sp} (t : RS8 T M n k S) (hn : n = T + 1 + M) (hT : T ≤ 5) (hM : M ≤ 5) (hM1 : 1 ≤ M) (hk : k ≤ 10) : WF S := by
  refine ⟨?_, ?_, ?_, ?_, ?_, ?_, ?_, ?_, ?_, ?_⟩
  · rw [t.nm, t.tk, t.nt]; exact hn
  · rw [t.lv, t.tk]
  · rw [t.az, t.tk]
  · rw [t.tk]; omega
  · rw [t.nt]; omega
  · rw [t.len]; omega
  · rw [t.hd, t.st]
  · rw [t.tk, t.nt, t.st]; omega
  · rw [t.tk, t.nt, ← hn]; exact t.rl
  · rw [t.tk, t.nt, ← hn]; exact t.rr

/-- Both lists of a Spec grow by nought. -/
theorem SZ.twice {w U : World} {rb sb : Nat} {h : SHd} {S : Sp} (s : SZ w U rb sb h S []) (n : Nat) (e1 : S.lv.length = n) (e2 : S.az.length = n) (e3 : S.rs = []) (hn : n < 10000) (p : Nat) (hp : U.cell? ⟨p, 0, none⟩ = some (.int .i64 0)) :
    ∃ g c V, (Builtin.append_ #[29, 29] 29 #[.slice h.la n h.lc, .slice (some ⟨p, 0, none⟩) 1 1]).run Tryz.prog U = .ok (.slice (some ⟨g, 0, none⟩) (n + 1) c) V ∧ V.cell? ⟨sb, 6, none⟩ = some (.slice h.aa n h.ac) ∧
      (∀ (b : Nat) (u : Value), U.cell? ⟨b, 0, none⟩ = some u → blk h.la ≠ some b → V.cell? ⟨b, 0, none⟩ = some u) ∧
      (∀ (V' : World) (q : Nat), Below V.heap.size V V' → V'.cell? ⟨q, 0, none⟩ = some (.int .i64 0) → ∃ g2 c2 X, (Builtin.append_ #[29, 29] 29 #[.slice h.aa n h.ac, .slice (some ⟨q, 0, none⟩) 1 1]).run Tryz.prog V' = .ok (.slice (some ⟨g2, 0, none⟩) (n + 1) c2) X ∧ X.cell? ⟨sb, 5, none⟩ = some (.slice h.la n h.lc) ∧ X.cell? ⟨sb, 6, none⟩ = some (.slice h.aa n h.ac) ∧ X.frozen? ⟨sb, 5, none⟩ = false ∧ X.frozen? ⟨sb, 6, none⟩ = false ∧
        ∃ h', SZ w ((X.setCell ⟨sb, 5, none⟩ (.slice (some ⟨g, 0, none⟩) (n + 1) c)).setCell ⟨sb, 6, none⟩ (.slice (some ⟨g2, 0, none⟩) (n + 1) c2)) rb sb h' ⟨S.tk, S.nt, S.st, S.ex, S.nm, S.lv ++ [0], S.az ++ [0], S.rs⟩ []) := by
  obtain ⟨g, c, V, hr, hp1, -, far, cel⟩ := s.sp.begin n e1 e2 e3 hn p hp
  have bx : ∀ X : World, X.heap[sb]? = some (.cells (sC h S) 32 (0, 0)) → X.cell? ⟨sb, 5, none⟩ = some (.slice h.la n h.lc) ∧ X.cell? ⟨sb, 6, none⟩ = some (.slice h.aa n h.ac) := fun X hX => by
    have := sbox hX
    rw [e1, e2] at this
    exact ⟨this.2.2.2.2.2.1, this.2.2.2.2.2.2.1⟩
  refine ⟨g, c, V, hr, (bx V hp1.box).2, cel, fun V' q hb hq => ?_⟩
  obtain ⟨g2, c2, X, hr2, hbox, hs, far2⟩ := (hp1.step hb).second hn q hq
  exact ⟨g2, c2, X, hr2, (bx X hbox).1, (bx X hbox).2, frozen_block hbox 5, frozen_block hbox 6, _, hs, far2 rb 32 _ (block_below hb (far rb 32 _ s.rx (by decide))) (by decide) s.ne, s.ne⟩

set_option maxHeartbeats 16000000 in
theorem rules_calls (a0 a1 : Int) (A : Option Addr) (rn rc : Nat) (w : World) (hr : RawM w A rn rc) : Calls Tryz.prog 14 #[.int .i64 a0, .int .i64 a1, .slice A rn rc] w fun e w' => ∃ h S, e = .returned (.agg (sC h S)) ∧ WF S ∧ IsSp w' h S ∧ Below w.heap.size w w' := by
  have HR : Hid (RawM w A rn rc) := hr
  have hle := hr.le
  clear hr
  have hm0 := rem_range a0 5 (by decide)
  obtain ⟨r0, hr0⟩ : ∃ r, a0.tmod 5 = r := ⟨_, rfl⟩
  rw [hr0] at hm0
  have hm1 : 0 ≤ (r0 + 5).tmod 5 := Int.tmod_nonneg _ (by omega)
  have hm2 := rem_range (r0 + 5) 5 (by decide)
  obtain ⟨T, hT⟩ : ∃ T : Nat, 1 + (r0 + 5).tmod 5 = (T : Int) := ⟨(1 + (r0 + 5).tmod 5).toNat, by omega⟩
  obtain ⟨q0, hq0⟩ : ∃ q0 : Int, (r0 + 5).tmod 5 = q0 := ⟨_, rfl⟩
  rw [hq0] at hm1 hm2 hT
  have hT5 : 1 ≤ T ∧ T ≤ 5 := by omega
  have hn0 := rem_range a1 5 (by decide)
  obtain ⟨r1, hr1⟩ : ∃ r, a1.tmod 5 = r := ⟨_, rfl⟩
  rw [hr1] at hn0
  have hn1 : 0 ≤ (r1 + 5).tmod 5 := Int.tmod_nonneg _ (by omega)
  have hn2 := rem_range (r1 + 5) 5 (by decide)
  obtain ⟨M, hM⟩ : ∃ M : Nat, 1 + (r1 + 5).tmod 5 = (M : Int) := ⟨(1 + (r1 + 5).tmod 5).toNat, by omega⟩
  obtain ⟨q1, hq1⟩ : ∃ q1 : Int, (r1 + 5).tmod 5 = q1 := ⟨_, rfl⟩
  rw [hq1] at hn1 hn2 hM
  have hM5 : 1 ≤ M ∧ M ≤ 5 := by omega
  obtain ⟨n, hn⟩ : ∃ n : Nat, n = T + 1 + M := ⟨_, rfl⟩
  have hnI : (T : Int) + 1 + (M : Int) = (n : Int) := by omega
  have HN : Hid (n = T + 1 + M) := hn
  have hn11 : n ≤ 11 := by omega
  clear hn
  have hB1 : Below w.heap.size w ((w.alloc (.cells zC 32)).alloc (.cells #[.int .i64 (T : Int), .int .i64 (M : Int), .int .i64 0, .int .i64 0, .slice none 0 0, .slice none 0 0, .slice none 0 0, .slice none 0 0] 32)) := below_step (below_alloc _ _) (below_alloc _ _)
  have H0 : Hid (∃ h S, SZ w ((w.alloc (.cells zC 32)).alloc (.cells #[.int .i64 (T : Int), .int .i64 (M : Int), .int .i64 0, .int .i64 0, .slice none 0 0, .slice none 0 0, .slice none 0 0, .slice none 0 0] 32)) w.heap.size (w.heap.size + 1) h S [] ∧ NS T M 0 S) := by
    refine ⟨⟨none, 0, none, 0, none, 0, none, 0⟩, ⟨T, M, 0, 0, [], [], [], []⟩, ⟨SB.first ?_ rfl rfl rfl rfl hB1 (Nat.le_succ _), block_below (w := w.alloc (.cells zC 32)) (below_alloc _ _) (heap_alloc_new _ _), by omega⟩, ⟨rfl, rfl, rfl, rfl, rfl, by simp, by simp, rfl⟩⟩
    have := heap_alloc_new (w.alloc (.cells zC 32)) (.cells #[.int .i64 (T : Int), .int .i64 (M : Int), .int .i64 0, .int .i64 0, .slice none 0 0, .slice none 0 0, .slice none 0 0, .slice none 0 0] 32)
    rw [size_alloc1] at this
    exact this
  clear hB1
  go_enter Tryz.func14, Tryz.ntmps14
  go_upto_region 2 with fail
  have ez : (w.alloc (.cells #[.int .i64 0, .int .i64 0, .int .i64 0, .int .i64 0, .slice none 0 0, .slice none 0 0, .slice none 0 0, .slice none 0 0] 32)).alloc (.cells #[.int .i64 (T : Int), .int .i64 (M : Int), .int .i64 0, .int .i64 0, .slice none 0 0, .slice none 0 0, .slice none 0 0, .slice none 0 0] 32) = (w.alloc (.cells zC 32)).alloc (.cells #[.int .i64 (T : Int), .int .i64 (M : Int), .int .i64 0, .int .i64 0, .slice none 0 0, .slice none 0 0, .slice none 0 0, .slice none 0 0] 32) := rfl
  rw [ez]
  clear ez
  generalize (w.alloc (.cells zC 32)).alloc (.cells #[.int .i64 (T : Int), .int .i64 (M : Int), .int .i64 0, .int .i64 0, .slice none 0 0, .slice none 0 0, .slice none 0 0, .slice none 0 0] 32) = W1 at H0 ⊢
  obtain ⟨rb, HRB⟩ : ∃ rb, Hid (rb = w.heap.size) := ⟨_, rfl⟩
  rw [← HRB.out] at H0 ⊢
  generalize rb + 1 = sb at H0 ⊢
  have CZ : Hid (∀ (V : World) (h : SHd) (S : Sp) (qs : List (SR × Option Addr × Nat)), SZ w V rb sb h S qs → S.tk = T → S.nt = M → V.cell? ⟨sb, 0, none⟩ = some (.int .i64 (T : Int)) ∧ V.cell? ⟨sb, 1, none⟩ = some (.int .i64 (M : Int))) := fun V h S qs s e1 e2 => by
    have := sbox s.sp.box
    rw [e1, e2] at this
    exact ⟨this.1, this.2.1⟩
  obtain ⟨c0, c1⟩ : W1.cell? ⟨sb, 0, none⟩ = some (.int .i64 (T : Int)) ∧ W1.cell? ⟨sb, 1, none⟩ = some (.int .i64 (M : Int)) := by
    obtain ⟨h, S, s, t⟩ := H0.out
    exact CZ.out _ _ _ _ s t.tk t.nt
  clear hr0 hr1 hq0 hq1 hT hM hm0 hm1 hm2 hn0 hn1 hn2
  go_wp2_with fail
  clear c0 c1
  go_loopg [9] n (fun kx s9 wr => ∃ i : Nat, s9 = .int .i64 i ∧ i ≤ n ∧ n - i ≤ kx ∧ Hid (∃ h S, SZ w wr rb sb h S [] ∧ NS T M i S))
  case atStart => exact ⟨0, rfl, Nat.zero_le _, by omega, H0⟩
  case round =>
    clear H0
    obtain ⟨i, rfl, hi, hg, J⟩ := hrel
    by_cases hlt : i < n
    · have hlt' : (i : Int) < (n : Int) := by omega
      obtain ⟨h, S, s, t⟩ := J.out
      have hcv : (convert 42 9 (.slice (some ⟨wr.heap.size, 0, none⟩) 1 1)).run Tryz.prog (wr.alloc (.cells #[.int .u8 (97 + (i : Int))] 5)) = .ok (.string (strOfNums [97 + (i : Int)])) (wr.alloc (.cells #[.int .u8 (97 + (i : Int))] 5)) :=
        run_convert_bytes_arg _ 42 5 Tryz.underlying42 Tryz.underlying5 wr.heap.size 0 1 1 [97 + (i : Int)] rfl (fun j hj => by
          rw [World.cell?_alloc_mark]
          match j, hj with
          | 0, _ => rfl) 9 Tryz.underlying9
      have hv : Below wr.heap.size wr (wr.alloc (.cells #[.int .u8 (97 + (i : Int))] 5)) := below_alloc _ _
      have s6 := s.step hv
      generalize strOfNums [97 + (i : Int)] = nm at hcv
      obtain ⟨c0, c1⟩ := CZ.out _ _ _ _ s6 t.tk t.nt
      obtain ⟨-, -, -, -, c4, -, -, -⟩ := sbox s6.sp.box
      rw [t.nm] at c4
      have HS6 : Hid (SZ w (wr.alloc (.cells #[.int .u8 (97 + (i : Int))] 5)) rb sb h S [] ∧ NS T M i S) := ⟨s6, t⟩
      clear s s6 t J
      go_upto_region 7 with fail
      clear hcv
      generalize wr.alloc (.cells #[.int .u8 (97 + (i : Int))] 5) = W6 at HS6 c0 c1 c4 ⊢
      -- the name, whichever it is
      have HAD : Hid (∀ x : ByteArray, ∃ g c V, (Builtin.append_ #[28, 28] 28 #[.slice h.na i h.nc, .slice (some ⟨W6.heap.size, 0, none⟩) 1 1]).run Tryz.prog (W6.alloc (.cells #[.string x] 9)) = .ok (.slice (some ⟨g, 0, none⟩) (i + 1) c) V ∧ V.cell? ⟨sb, 4, none⟩ = some (.slice h.na i h.nc) ∧ V.frozen? ⟨sb, 4, none⟩ = false ∧ (∃ h2 S2, SZ w (V.setCell ⟨sb, 4, none⟩ (.slice (some ⟨g, 0, none⟩) (i + 1) c)) rb sb h2 S2 [] ∧ S2.tk = T ∧ S2.nt = M ∧ S2.st = 0 ∧ S2.ex = 0 ∧ S2.nm.length = i + 1 ∧ S2.lv.length = min i T ∧ S2.az.length = min i T ∧ S2.rs = [])) := fun x => by
        obtain ⟨g, c, V, hr1, x4, f4, s7⟩ := HS6.out.1.addNm x i HS6.out.2.nm (by omega)
        have t := HS6.out.2
        exact ⟨g, c, V, hr1, x4, f4, _, _, s7, t.tk, t.nt, t.st, t.ex, by simp [t.nm], t.lv, t.az, t.rs⟩
      by_cases hiT : i < T
      · have hiT' : (i : Int) < (T : Int) := by omega
        have hiT2 : ((i : Int) == (T : Int)) = false := by simp; omega
        obtain ⟨g, c, V, hr1, x4, f4, hq⟩ := HAD.out nm
        have HQ : Hid (∃ h2 S2, SZ w (V.setCell ⟨sb, 4, none⟩ (.slice (some ⟨g, 0, none⟩) (i + 1) c)) rb sb h2 S2 [] ∧ S2.tk = T ∧ S2.nt = M ∧ S2.st = 0 ∧ S2.ex = 0 ∧ S2.nm.length = i + 1 ∧ S2.lv.length = min i T ∧ S2.az.length = min i T ∧ S2.rs = []) := hq
        clear hq
        go_upto_region 10 with (at_builtin; refine Lib.wpList_append_run _ rfl _ _ _ _ rfl _ _ rfl rfl _ _ hr1 ?_)
        generalize V.setCell ⟨sb, 4, none⟩ (.slice (some ⟨g, 0, none⟩) (i + 1) c) = Q at HQ ⊢
        clear hr1 x4 f4 c0 c1 c4 HS6 HAD
        obtain ⟨h2, S2, s, e1, e2, e3, e4, e5, e6, e7, e8⟩ := HQ.out
        rw [Nat.min_eq_left (by omega)] at e6 e7
        have fin : ∀ (X : World) (h' : SHd), SZ w X rb sb h' ⟨S2.tk, S2.nt, S2.st, S2.ex, S2.nm, S2.lv ++ [0], S2.az ++ [0], S2.rs⟩ [] → ∃ h S, SZ w X rb sb h S [] ∧ NS T M (i + 1) S := fun X h' hX => ⟨h', _, hX, ⟨e1, e2, e3, e4, e5, by simp [e6]; omega, by simp [e7]; omega, e8⟩⟩
        have hlq : blk h2.la ≠ some Q.heap.size ∧ blk h2.la ≠ some (Q.heap.size + 1) := ⟨fun e => by have := (own_blt s.sp.lv e).2.1; omega, fun e => by have := (own_blt s.sp.lv e).2.1; omega⟩
        obtain ⟨c0, c1⟩ := CZ.out _ _ _ _ s e1 e2
        have y5 : Q.cell? ⟨sb, 5, none⟩ = some (.slice h2.la i h2.lc) := by have := (sbox s.sp.box).2.2.2.2.2.1; rwa [e6] at this
        have y6 : Q.cell? ⟨sb, 6, none⟩ = some (.slice h2.aa i h2.ac) := by have := (sbox s.sp.box).2.2.2.2.2.2.1; rwa [e7] at this
        have y5a := cell_alloc y5 (.cells #[.int .i64 0] 3)
        have y6a := cell_alloc y6 (.cells #[.int .i64 0] 3)
        have y5b := cell_alloc y5a (.cells #[.int .i64 0] 3)
        have y6b := cell_alloc y6a (.cells #[.int .i64 0] 3)
        have ka : (Q.alloc (.cells #[.int .i64 0] 3)).cell? ⟨Q.heap.size, 0, none⟩ = some (.int .i64 0) := by rw [World.cell?_alloc_mark]; rfl
        have kb : ((Q.alloc (.cells #[.int .i64 0] 3)).alloc (.cells #[.int .i64 0] 3)).cell? ⟨Q.heap.size, 0, none⟩ = some (.int .i64 0) := cell_alloc ka _
        have kc : ((Q.alloc (.cells #[.int .i64 0] 3)).alloc (.cells #[.int .i64 0] 3)).cell? ⟨Q.heap.size + 1, 0, none⟩ = some (.int .i64 0) := by
          have : ((Q.alloc (.cells #[.int .i64 0] 3)).alloc (.cells #[.int .i64 0] 3)).cell? ⟨(Q.alloc (.cells #[.int .i64 0] 3)).heap.size, 0, none⟩ = some (.int .i64 0) := by rw [World.cell?_alloc_mark]; rfl
          rwa [size_alloc1] at this
        have sa : SZ w (Q.alloc (.cells #[.int .i64 0] 3)).drew rb sb h2 S2 [] := (s.step (below_alloc _ _)).step (below_drew' _)
        have sb2 : SZ w ((Q.alloc (.cells #[.int .i64 0] 3)).alloc (.cells #[.int .i64 0] 3)).drew rb sb h2 S2 [] := ((s.step (below_alloc _ _)).step (below_alloc _ _)).step (below_drew' _)
        obtain ⟨g1, k1, V1, rA1, z61, cel1, two1⟩ := sa.twice i e6 e7 e8 (by omega) Q.heap.size ka
        obtain ⟨g2, k2, V2, rA2, z62, cel2, two2⟩ := sb2.twice i e6 e7 e8 (by omega) Q.heap.size kb
        obtain ⟨g3, k3, V3, rA3, z63, cel3, two3⟩ := sb2.twice i e6 e7 e8 (by omega) (Q.heap.size + 1) kc
        obtain ⟨l1, m1, X1, rB1, y51, y61, f51, f61, h31, hs1⟩ := two1 (V1.alloc (.cells #[.int .i64 0] 3)) V1.heap.size (below_alloc _ _) (by rw [World.cell?_alloc_mark]; rfl)
        obtain ⟨l2, m2, X2, rB2, y52, y62, f52, f62, h32, hs2⟩ := two2 V2 (Q.heap.size + 1) (Below.refl _ _) (cel2 _ _ kc hlq.2)
        obtain ⟨l3, m3, X3, rB3, y53, y63, f53, f63, h33, hs3⟩ := two3 V3 Q.heap.size (Below.refl _ _) (cel3 _ _ kb hlq.1)
        have z61a := cell_alloc z61 (.cells #[.int .i64 0] 3)
        have HF1 := fin _ _ hs1
        have HF2 := fin _ _ hs2
        have HF3 := fin _ _ hs3
        have HF : Hid ((∃ h S, SZ w ((X1.setCell ⟨sb, 5, none⟩ (.slice (some ⟨g1, 0, none⟩) (i + 1) k1)).setCell ⟨sb, 6, none⟩ (.slice (some ⟨l1, 0, none⟩) (i + 1) m1)) rb sb h S [] ∧ NS T M (i + 1) S) ∧ (∃ h S, SZ w ((X2.setCell ⟨sb, 5, none⟩ (.slice (some ⟨g2, 0, none⟩) (i + 1) k2)).setCell ⟨sb, 6, none⟩ (.slice (some ⟨l2, 0, none⟩) (i + 1) m2)) rb sb h S [] ∧ NS T M (i + 1) S) ∧ (∃ h S, SZ w ((X3.setCell ⟨sb, 5, none⟩ (.slice (some ⟨g3, 0, none⟩) (i + 1) k3)).setCell ⟨sb, 6, none⟩ (.slice (some ⟨l3, 0, none⟩) (i + 1) m3)) rb sb h S [] ∧ NS T M (i + 1) S)) := ⟨HF1, HF2, HF3⟩
        clear fin hlq ka kb kc sa sb2 cel1 cel2 cel3 two1 two2 two3 hs1 hs2 hs3 HF1 HF2 HF3 s e1 e2 e3 e4 e5 e6 e7 e8 HQ hiT
        obtain ⟨na2, nc2, la2, lc2, aa2, ac2, ra2, rc2⟩ := h2
        simp only at rA1 rA2 rA3 rB1 rB2 rB3 y5 y6 y5a y6a y5b y6b z61 z62 z63 z61a y51 y61 y52 y62 y53 y63
        go_upto_region 11 with fail
        go_region_law (first
          | (refine step_append_told rfl (.tmp 57) (.tmp 58) rfl rfl (by simp [Act.eval, Act.put]) (by simp [Act.eval, Act.put]) rA1 ?_)
          | (refine step_append_told rfl (.tmp 57) (.tmp 58) rfl rfl (by simp [Act.eval, Act.put]) rfl rA2 ?_)
          | (refine step_append_told rfl (.tmp 57) (.tmp 58) rfl rfl (by simp [Act.eval, Act.put]) rfl rA3 ?_)
          | (refine step_append_told rfl (.tmp 61) (.tmp 62) rfl rfl (by simp [Act.eval, Act.put]) (by simp [Act.eval, Act.put]) rB1 ?_)
          | (refine step_append_told rfl (.tmp 61) (.tmp 62) rfl rfl (by simp [Act.eval, Act.put]) rfl rB2 ?_)
          | (refine step_append_told rfl (.tmp 61) (.tmp 62) rfl rfl (by simp [Act.eval, Act.put]) rfl rB3 ?_))
        all_goals
          go_wp2_with fail
          go_roundg (n - (i + 1))
          case measure => omega
          case rel => first | exact ⟨i + 1, by simp, by omega, Nat.le_refl _, HF.out.1⟩ | exact ⟨i + 1, by simp, by omega, Nat.le_refl _, HF.out.2.1⟩ | exact ⟨i + 1, by simp, by omega, Nat.le_refl _, HF.out.2.2⟩
      · have hiT' : ¬ (i : Int) < (T : Int) := by omega
        obtain ⟨x, HXC⟩ : ∃ x, Hid (x = if i = T then (⟨#[]⟩ : ByteArray) else nm) := ⟨_, rfl⟩
        obtain ⟨g, c, V, hr1, x4, f4, hq⟩ := HAD.out x
        have HQ : Hid (∃ h S, SZ w (V.setCell ⟨sb, 4, none⟩ (.slice (some ⟨g, 0, none⟩) (i + 1) c)) rb sb h S [] ∧ NS T M (i + 1) S) := by
          obtain ⟨h2, S2, s2, e1, e2, e3, e4, e5, e6, e7, e8⟩ := hq
          exact ⟨h2, S2, s2, ⟨e1, e2, e3, e4, e5, by rw [e6]; omega, by rw [e7]; omega, e8⟩⟩
        have HC0 : Hid ((V.setCell ⟨sb, 4, none⟩ (.slice (some ⟨g, 0, none⟩) (i + 1) c)).cell? ⟨sb, 0, none⟩ = some (.int .i64 (T : Int))) := by
          obtain ⟨h2, S2, s2, e1⟩ := HQ.out
          exact (CZ.out _ _ _ _ s2 e1.tk e1.nt).1
        clear hq HAD
        by_cases hE : i = T
        · have hE2 : ((i : Int) == (T : Int)) = true := by simp [hE]
          have hx : x = ⟨#[]⟩ := by rw [HXC.out, if_pos hE]
          subst hx
          clear hE HXC
          go_upto_region 10 with (at_builtin; refine Lib.wpList_append_run _ rfl _ _ _ _ rfl _ _ rfl rfl _ _ hr1 ?_)
          generalize V.setCell ⟨sb, 4, none⟩ (.slice (some ⟨g, 0, none⟩) (i + 1) c) = Q at HQ HC0 ⊢
          clear hr1 x4 f4 c0 c1 c4 HS6
          have c0 := HC0.out
          go_wp2_with fail
          go_roundg (n - (i + 1))
          case measure => omega
          case rel => exact ⟨i + 1, by simp, by omega, Nat.le_refl _, HQ⟩
        · have hE2 : ((i : Int) == (T : Int)) = false := by simp; omega
          have hx : x = nm := by rw [HXC.out, if_neg hE]
          subst hx
          clear hE HXC
          go_upto_region 10 with (at_builtin; refine Lib.wpList_append_run _ rfl _ _ _ _ rfl _ _ rfl rfl _ _ hr1 ?_)
          generalize V.setCell ⟨sb, 4, none⟩ (.slice (some ⟨g, 0, none⟩) (i + 1) c) = Q at HQ HC0 ⊢
          clear hr1 x4 f4 c0 c1 c4 HS6
          have c0 := HC0.out
          go_wp2_with fail
          go_roundg (n - (i + 1))
          case measure => omega
          case rel => exact ⟨i + 1, by simp, by omega, Nat.le_refl _, HQ⟩
    · have hlt' : ¬ (i : Int) < (n : Int) := by omega
      have hin : i = n := by omega
      subst hin
      obtain ⟨W3, hW3⟩ : ∃ W3, W3 = wr := ⟨_, rfl⟩
      subst wr
      obtain ⟨h, S, s, t⟩ := J.out
      obtain ⟨c0, c1⟩ := CZ.out _ _ _ _ s t.tk t.nt
      have c2 : W3.cell? ⟨sb, 2, none⟩ = some (.int .i64 0) := by
        have := (sbox s.sp.box).2.2.1
        rw [t.st] at this
        exact this
      have f2 := (froz8 s.sp.box).2.2.1
      have HS4 : Hid (∃ h S, SZ w (W3.setCell ⟨sb, 2, none⟩ (.int .i64 ((T : Int) + 1))) rb sb h S [] ∧ S.tk = T ∧ S.nt = M ∧ S.st = T + 1 ∧ S.nm.length = i ∧ S.lv.length = T ∧ S.az.length = T ∧ S.rs = []) := by
        have hps := s.putSt (T + 1)
        have e : (((T + 1 : Nat)) : Int) = (T : Int) + 1 := by simp
        rw [e] at hps
        have := HN.out
        exact ⟨h, _, hps, t.tk, t.nt, rfl, t.nm, by show S.lv.length = T; rw [t.lv]; omega, by show S.az.length = T; rw [t.az]; omega, t.rs⟩
      clear s t J
      go_upto_region 13 with fail
      generalize W3.setCell ⟨sb, 2, none⟩ (.int .i64 ((T : Int) + 1)) = W4 at HS4 ⊢
      clear c0 c1 c2 f2
      obtain ⟨h, S, s, e1, e2, e3, e4, e5, e6, e7⟩ := HS4.out
      have c2 : W4.cell? ⟨sb, 2, none⟩ = some (.int .i64 ((T : Int) + 1)) := by
        have := (sbox s.sp.box).2.2.1
        rw [e3] at this
        simpa using this
      have y7 : W4.cell? ⟨sb, 7, none⟩ = some (.slice h.ra 0 h.rc) := by
        have := (sbox s.sp.box).2.2.2.2.2.2.2
        rw [e7] at this
        exact this
      have f7 := (froz8 s.sp.box).2.2.2.2.2.2.2
      have own1 : (W4.alloc (.cells #[.int .i64 ((T : Int) + 1)] 3)).ownsRow w.heap.size 3 1 (.slice (some ⟨W4.heap.size, 0, none⟩) 1 1) 1 (natC [T + 1]) := by
        have := own_new W4 w.heap.size 3 1 1 [.int .i64 ((T : Int) + 1)] s.sp.bel.size rfl (by omega)
        unfold natC
        have e : (((T + 1 : Nat)) : Int) = (T : Int) + 1 := by simp
        simp only [List.map_cons, List.map_nil, e]
        exact this
      have own2 : ((W4.alloc (.cells #[.int .i64 ((T : Int) + 1)] 3)).alloc (.cells #[.int .i64 (-1), .slice (some ⟨W4.heap.size, 0, none⟩) 1 1, .int .i64 0, .int .i64 0] 62)).ownsRow w.heap.size 62 4 (.slice (some ⟨W4.heap.size + 1, 0, none⟩) 1 1) 1 (srC [(⟨-1, [T + 1], 0, 0⟩, some ⟨W4.heap.size, 0, none⟩, 1)]) := by
        have := own_new (W4.alloc (.cells #[.int .i64 ((T : Int) + 1)] 3)) w.heap.size 62 4 1 [.int .i64 (-1), .slice (some ⟨W4.heap.size, 0, none⟩) 1 1, .int .i64 0, .int .i64 0] (by rw [size_alloc1]; have := s.sp.bel.size; omega) rfl (by omega)
        rw [size_alloc1] at this
        exact this
      have s5 := ((s.step (below_alloc W4 (.cells #[.int .i64 ((T : Int) + 1)] 3))).step (below_alloc _ (.cells #[.int .i64 (-1), .slice (some ⟨W4.heap.size, 0, none⟩) 1 1, .int .i64 0, .int .i64 0] 62))).putRs (rs := [(⟨-1, [T + 1], 0, 0⟩, some ⟨W4.heap.size, 0, none⟩, 1)]) (n := 1) (some ⟨W4.heap.size + 1, 0, none⟩) 1 rfl own2 (fun q hq => by
        rw [List.mem_singleton] at hq
        subst hq
        exact own_step own1 (below_alloc _ _))
      have HS5 : Hid (∃ h S qs, SZ w (((W4.alloc (.cells #[.int .i64 ((T : Int) + 1)] 3)).alloc (.cells #[.int .i64 (-1), .slice (some ⟨W4.heap.size, 0, none⟩) 1 1, .int .i64 0, .int .i64 0] 62)).setCell ⟨sb, 7, none⟩ (.slice (some ⟨W4.heap.size + 1, 0, none⟩) 1 1)) rb sb h S qs ∧ RS8 T M i 0 S) :=
        ⟨_, _, _, s5, ⟨e1, e2, e3, e4, e5, e6, rfl, rfl, fun k r hk hr => (by have := (List.getElem?_eq_some_iff.1 hr).1; simp at this; omega), fun r hr => (by
          have hr : r = ⟨-1, [T + 1], 0, 0⟩ := by simpa using hr
          subst hr
          exact ⟨by simp, fun y hy => by have hy : y = T + 1 := by simpa using hy
                                         have := HN.out
                                         omega⟩)⟩⟩
      have y7' : ((W4.alloc (.cells #[.int .i64 ((T : Int) + 1)] 3)).alloc (.cells #[.int .i64 (-1), .slice (some ⟨W4.heap.size, 0, none⟩) 1 1, .int .i64 0, .int .i64 0] 62)).cell? ⟨sb, 7, none⟩ = some (.slice h.ra 0 h.rc) := cell_alloc (cell_alloc y7 _) _
      have f7' := (froz8 ((s.step (below_alloc W4 (.cells #[.int .i64 ((T : Int) + 1)] 3))).step (below_alloc _ (.cells #[.int .i64 (-1), .slice (some ⟨W4.heap.size, 0, none⟩) 1 1, .int .i64 0, .int .i64 0] 62))).sp.box).2.2.2.2.2.2.2
      clear s s5 own1 own2 e1 e2 e3 e4 e5 e6 e7 HS4
      go_upto_region 14 with fail
      obtain ⟨W5, hW5⟩ : ∃ W5, W5 = ((W4.alloc (.cells #[.int .i64 ((T : Int) + 1)] 3)).alloc (.cells #[.int .i64 (-1), .slice (some ⟨W4.heap.size, 0, none⟩) 1 1, .int .i64 0, .int .i64 0] 62)).setCell ⟨sb, 7, none⟩ (.slice (some ⟨W4.heap.size + 1, 0, none⟩) 1 1) := ⟨_, rfl⟩
      rw [← hW5] at HS5 ⊢
      clear hW5 c2 y7 f7 y7' f7'
      go_wp2_with fail
      go_loopg [11] 10 (fun kx s11 wr => ∃ k : Nat, s11 = .int .i64 k ∧ k ≤ 10 ∧ k ≤ rn ∧ 10 - k ≤ kx ∧ Hid (∃ h S qs, SZ w wr rb sb h S qs ∧ RS8 T M i k S))
      case atStart => exact ⟨0, rfl, Nat.zero_le _, Nat.zero_le _, by omega, HS5⟩
      case round =>
        clear HS5 hg hlt hlt' hi
        obtain ⟨k, rfl, hk10, hkn, hg, J⟩ := hrel
        by_cases hk1 : k < rn
        · have hk1' : (k : Int) < (rn : Int) := by omega
          by_cases hk2 : k < 10
          · have hk2' : (k : Int) < 10 := by omega
            obtain ⟨h, S, qs, s, t⟩ := J.out
            obtain ⟨b, o, ai, ni, ci, zs, rfl, crow0, hrow0⟩ := HR.out.get k hk1
            have HRW : Hid (w.cell? ⟨b, o + k, none⟩ = some (.slice ai ni ci) ∧ RawI w ai ni ci zs) := ⟨crow0, hrow0⟩
            have hni := hrow0.le
            clear crow0 hrow0
            obtain ⟨c0, c1⟩ := CZ.out _ _ _ _ s t.tk t.nt
            obtain ⟨l, hl⟩ : ∃ l : Nat, l = T + 1 + k % M := ⟨_, rfl⟩
            have hkm : k % M < M := Nat.mod_lt _ hM5.1
            have HLB : Hid (T < l ∧ l < i) := by have := HN.out; exact ⟨by omega, by omega⟩
            have hMz : ((M : Int) == 0) = false := by simp; omega
            have HLE : Hid ((l : Int) = IntKind.i64.wrap ((T : Int) + 1 + (k : Int) % (M : Int))) := by
              show _ = _
              have e1 : (k : Int) % (M : Int) = ((k % M : Nat) : Int) := by simp
              rw [e1, IntKind.wrap_i64]
              omega
            have HSW : Hid (∃ h S qs, SZ w wr rb sb h S qs ∧ RS8 T M i k S) := ⟨_, _, _, s, t⟩
            clear s t J hl hkm
            obtain ⟨wo, hwo⟩ : ∃ wo, wo = wr := ⟨_, rfl⟩
            subst wr
            go_upto_region 17 with fail
            go_cut [11, 12] from 76 to 141 (fun s11 s12 wd => s11 = .int .i64 (k : Int) ∧ ∃ bx : Nat, s12 = .pointer (some ⟨bx, 0, none⟩) ∧ Hid (RQ wo wd bx (l : Int) [] none 0))
            case first =>
              go_region_held (fun w' => w'.cell? ⟨sb, 0, none⟩ = some (.int .i64 (T : Int)) ∧ w'.cell? ⟨sb, 1, none⟩ = some (.int .i64 (M : Int))) (go_keep) (fail)
              all_goals
                go_wp2_with fail
                go_meet
                refine ⟨rfl, _, rfl, ?_⟩
                rw [← HLE.out]
                exact ⟨heap_alloc_new _ _, World.ownsRow_nil _ _ _ _, below_step (below_alloc _ _) (below_drew' _), Nat.le_refl _⟩
            case rest =>
              obtain ⟨rfl, bx, rfl, R0⟩ := hcut
              obtain ⟨V0, hV0⟩ : ∃ V0, V0 = wc := ⟨_, rfl⟩
              subst wc
              clear c0 c1 HLE hMz
              have HBo : Hid (Below w.heap.size w wo) := by
                obtain ⟨h, S, qs, s, t⟩ := HSW.out
                exact s.sp.bel
              have c0 : ∀ V, Below wo.heap.size wo V → V.cell? ⟨sb, 0, none⟩ = some (.int .i64 (T : Int)) := fun V hV => by
                obtain ⟨h, S, qs, s, t⟩ := HSW.out
                exact cell_below hV (CZ.out _ _ _ _ s t.tk t.nt).1
              have HC0 : Hid (∀ V, Below wo.heap.size wo V → V.cell? ⟨sb, 0, none⟩ = some (.int .i64 (T : Int))) := c0
              clear c0
              have hi2 : 3 ≤ i := by have := HN.out; omega
              have hiz : ((i : Int) - 1 == 0) = false := by simp; omega
              go_wp2_with fail
              go_loopg [13] 4 (fun kx s13 wr => ∃ m : Nat, s13 = .int .i64 m ∧ m ≤ 4 ∧ m ≤ ni ∧ 4 - m ≤ kx ∧ Hid (∃ ys xa xc, RQ wo wr bx (l : Int) ys xa xc ∧ ys.length = m ∧ ∀ y ∈ ys, y < i))
              case atStart => exact ⟨0, rfl, Nat.zero_le _, Nat.zero_le _, by omega, (⟨[], _, _, R0.out, rfl, fun y hy => by cases hy⟩ : ∃ ys xa xc, RQ wo V0 bx (l : Int) ys xa xc ∧ ys.length = 0 ∧ ∀ y ∈ ys, y < i)⟩
              case round =>
                clear R0
                obtain ⟨m, rfl, hm4, hmn, hg2, K⟩ := hrel
                have HBr : Hid (Below wo.heap.size wo wr ∧ Below w.heap.size w wr) := by
                  obtain ⟨ys, xa, xc, R, -⟩ := K.out
                  exact ⟨R.bel, below_step HBo.out R.bel⟩
                have crow := cell_below HBr.out.2 HRW.out.1
                by_cases hmk : m < ni
                · have hmk' : (m : Int) < (ni : Int) := by omega
                  by_cases hm : m < 4
                  · have hm' : (m : Int) < 4 := by omega
                    obtain ⟨zb, zo, rfl, cz⟩ := (HRW.out.2.below HBr.out.2).get m hmk
                    generalize zs.getD m 0 = z at cz
                    have c0 := HC0.out wr HBr.out.1
                    have hr := rem_range z ((i : Int) - 1) (by omega)
                    obtain ⟨r, hr0⟩ : ∃ r, z.tmod ((i : Int) - 1) = r := ⟨_, rfl⟩
                    rw [hr0] at hr
                    have hr2 := rem_range (r + (i : Int) - 1) ((i : Int) - 1) (by omega)
                    have hr3 : 0 ≤ (r + (i : Int) - 1).tmod ((i : Int) - 1) := Int.tmod_nonneg _ (by omega)
                    obtain ⟨q, hq⟩ : ∃ q : Nat, (r + (i : Int) - 1).tmod ((i : Int) - 1) = (q : Int) := ⟨((r + (i : Int) - 1).tmod ((i : Int) - 1)).toNat, by omega⟩
                    have hqi : q + 1 < i := by omega
                    obtain ⟨hr4, hr5⟩ := hr
                    clear hr2 hr3
                    obtain ⟨ys, xa, xc, R, el, hy⟩ := K.out
                    have HK : Hid (ys.length = m ∧ ∀ y ∈ ys, y < i) := ⟨el, hy⟩
                    have y1 : wr.cell? ⟨bx, 1, none⟩ = some (.slice xa m xc) := by
                      have := (box4 R.box).2.1
                      rwa [el] at this
                    by_cases hqT : T ≤ q
                    · have hqT' : (T : Int) ≤ (q : Int) := by omega
                      obtain ⟨g, c, V, hr1, x1, f1, R2⟩ := R.add (q + 1) m el (by omega)
                      have eq1 : (((q + 1 : Nat)) : Int) = (q : Int) + 1 := by simp
                      rw [eq1] at hr1
                      have HF : Hid (∃ ys xa xc, RQ wo (V.setCell ⟨bx, 1, none⟩ (.slice (some ⟨g, 0, none⟩) (m + 1) c)) bx (l : Int) ys xa xc ∧ ys.length = m + 1 ∧ ∀ y ∈ ys, y < i) := ⟨_, _, _, R2, by simp [HK.out.1], fun y hy => by
                        rcases List.mem_append.1 hy with h1 | h1
                        · exact HK.out.2 y h1
                        · rw [List.mem_singleton] at h1; omega⟩
                      clear R R2 K el hy
                      go_wp2_with (at_builtin; refine Lib.wpList_append_run _ rfl _ _ _ _ rfl _ _ rfl rfl _ _ hr1 ?_)
                      go_roundg (4 - (m + 1))
                      case measure => omega
                      case rel => exact ⟨m + 1, by simp, by omega, by omega, Nat.le_refl _, HF⟩
                    · have hqT' : ¬ (T : Int) ≤ (q : Int) := by omega
                      obtain ⟨g, c, V, hr1, x1, f1, R2⟩ := R.add q m el (by omega)
                      have HF : Hid (∃ ys xa xc, RQ wo (V.setCell ⟨bx, 1, none⟩ (.slice (some ⟨g, 0, none⟩) (m + 1) c)) bx (l : Int) ys xa xc ∧ ys.length = m + 1 ∧ ∀ y ∈ ys, y < i) := ⟨_, _, _, R2, by simp [HK.out.1], fun y hy => by
                        rcases List.mem_append.1 hy with h1 | h1
                        · exact HK.out.2 y h1
                        · rw [List.mem_singleton] at h1; omega⟩
                      clear R R2 K el hy
                      go_wp2_with (at_builtin; refine Lib.wpList_append_run _ rfl _ _ _ _ rfl _ _ rfl rfl _ _ hr1 ?_)
                      go_roundg (4 - (m + 1))
                      case measure => omega
                      case rel => exact ⟨m + 1, by simp, by omega, by omega, Nat.le_refl _, HF⟩
                  · have hm' : ¬ (m : Int) < 4 := by omega
                    obtain ⟨ys, xa, xc, R, el, hy⟩ := K.out
                    obtain ⟨h, S, qs, s, t⟩ := HSW.out
                    obtain ⟨g, c, V, hr1, x7, f7, s2⟩ := (s.step R.bel).addRu (⟨(l : Int), ys, 0, 0⟩, xa, xc) (k + 1) t.len (own_mono R.own HBo.out.size) (by omega)
                    have y7 : wr.cell? ⟨sb, 7, none⟩ = some (.slice h.ra (k + 1) h.rc) := by
                      have := (sbox (s.step R.bel).sp.box).2.2.2.2.2.2.2
                      rwa [t.len] at this
                    obtain ⟨y0, y1, y2, y3⟩ := box4 R.box
                    simp only at hr1
                    rw [el] at hr1 y1
                    have HF : Hid (∃ h S qs, SZ w (V.setCell ⟨sb, 7, none⟩ (.slice (some ⟨g, 0, none⟩) (k + 1 + 1) c)) rb sb h S qs ∧ RS8 T M i (k + 1) S) := by
                      refine ⟨_, _, _, s2, ⟨t.tk, t.nt, t.st, t.nm, t.lv, t.az, by simp [t.len], ?_, ?_, ?_⟩⟩
                      · show (S.rs ++ _)[0]? = _
                        rw [List.getElem?_append_left (by rw [t.len]; omega)]
                        exact t.hd
                      · intro j r hj hr
                        have hr : (S.rs ++ [⟨(l : Int), ys, 0, 0⟩])[j]? = some r := hr
                        rcases Nat.lt_or_ge j S.rs.length with h1 | h1
                        · rw [List.getElem?_append_left h1] at hr
                          exact t.rl j r hj hr
                        · rw [List.getElem?_append_right h1] at hr
                          have hr2 := List.mem_of_getElem? hr
                          rw [List.mem_singleton] at hr2
                          subst hr2
                          exact ⟨l, rfl, HLB.out.1, HLB.out.2⟩
                      · intro r hr
                        have hr : r ∈ S.rs ++ [⟨(l : Int), ys, 0, 0⟩] := hr
                        rcases List.mem_append.1 hr with h1 | h1
                        · exact t.rr r h1
                        · rw [List.mem_singleton] at h1
                          subst h1
                          exact ⟨by show ys.length ≤ 100; omega, hy⟩
                    clear R K s s2 t el hy
                    go_wp2_with (at_builtin; refine Lib.wpList_append_run _ rfl _ _ _ _ rfl _ _ rfl rfl _ _ hr1 ?_)
                    go_roundg (10 - (k + 1))
                    case measure => omega
                    case rel => exact ⟨k + 1, by simp, by omega, by omega, Nat.le_refl _, HF⟩
                · have hmk' : ¬ (m : Int) < (ni : Int) := by omega
                  obtain ⟨ys, xa, xc, R, el, hy⟩ := K.out
                  obtain ⟨h, S, qs, s, t⟩ := HSW.out
                  obtain ⟨g, c, V, hr1, x7, f7, s2⟩ := (s.step R.bel).addRu (⟨(l : Int), ys, 0, 0⟩, xa, xc) (k + 1) t.len (own_mono R.own HBo.out.size) (by omega)
                  have y7 : wr.cell? ⟨sb, 7, none⟩ = some (.slice h.ra (k + 1) h.rc) := by
                    have := (sbox (s.step R.bel).sp.box).2.2.2.2.2.2.2
                    rwa [t.len] at this
                  obtain ⟨y0, y1, y2, y3⟩ := box4 R.box
                  simp only at hr1
                  rw [el] at hr1 y1
                  have HF : Hid (∃ h S qs, SZ w (V.setCell ⟨sb, 7, none⟩ (.slice (some ⟨g, 0, none⟩) (k + 1 + 1) c)) rb sb h S qs ∧ RS8 T M i (k + 1) S) := by
                    refine ⟨_, _, _, s2, ⟨t.tk, t.nt, t.st, t.nm, t.lv, t.az, by simp [t.len], ?_, ?_, ?_⟩⟩
                    · show (S.rs ++ _)[0]? = _
                      rw [List.getElem?_append_left (by rw [t.len]; omega)]
                      exact t.hd
                    · intro j r hj hr
                      have hr : (S.rs ++ [⟨(l : Int), ys, 0, 0⟩])[j]? = some r := hr
                      rcases Nat.lt_or_ge j S.rs.length with h1 | h1
                      · rw [List.getElem?_append_left h1] at hr
                        exact t.rl j r hj hr
                      · rw [List.getElem?_append_right h1] at hr
                        have hr2 := List.mem_of_getElem? hr
                        rw [List.mem_singleton] at hr2
                        subst hr2
                        exact ⟨l, rfl, HLB.out.1, HLB.out.2⟩
                    · intro r hr
                      have hr : r ∈ S.rs ++ [⟨(l : Int), ys, 0, 0⟩] := hr
                      rcases List.mem_append.1 hr with h1 | h1
                      · exact t.rr r h1
                      · rw [List.mem_singleton] at h1
                        subst h1
                        exact ⟨by show ys.length ≤ 100; omega, hy⟩
                  clear R K s s2 t el hy
                  go_wp2_with (at_builtin; refine Lib.wpList_append_run _ rfl _ _ _ _ rfl _ _ rfl rfl _ _ hr1 ?_)
                  go_roundg (10 - (k + 1))
                  case measure => omega
                  case rel => exact ⟨k + 1, by simp, by omega, by omega, Nat.le_refl _, HF⟩
          · have hk2' : ¬ (k : Int) < 10 := by omega
            obtain ⟨h, S, qs, s, t⟩ := J.out
            obtain ⟨z0, z1, z2, z3, z4, z5, z6, z7⟩ := box8 s.rx
            obtain ⟨f0, f1, f2, f3, f4, f5, f6, f7⟩ := froz8 s.rx
            obtain ⟨c0, c1, c2, c3, c4, c5, c6, c7⟩ := sbox s.sp.box
            have HF : Hid (∀ v0 v1 v2 v3 v4 v5 v6 v7, WF S ∧ IsSp (set8 wr rb v0 v1 v2 v3 v4 v5 v6 v7) h S ∧ Below w.heap.size w (set8 wr rb v0 v1 v2 v3 v4 v5 v6 v7)) := fun v0 v1 v2 v3 v4 v5 v6 v7 => ⟨t.wf HN.out hT5.2 hM5.2 hM5.1 hk10, (s.sp.own.set8 ⟨_, s.rx⟩).isSp, below_set8 s.sp.bel (Nat.le_of_eq HRB.out.symm)⟩
            clear s t J
            go_wp2_with fail
            refine bodyPost_ret (v := .agg (sC h S)) (by unfold sC; simp [results, Tryz.results14, go_sem, *]) rfl ?_
            exact ⟨h, S, rfl, HF.out _ _ _ _ _ _ _ _⟩
        · have hk1' : ¬ (k : Int) < (rn : Int) := by omega
          obtain ⟨h, S, qs, s, t⟩ := J.out
          obtain ⟨z0, z1, z2, z3, z4, z5, z6, z7⟩ := box8 s.rx
          obtain ⟨f0, f1, f2, f3, f4, f5, f6, f7⟩ := froz8 s.rx
          obtain ⟨c0, c1, c2, c3, c4, c5, c6, c7⟩ := sbox s.sp.box
          have HF : Hid (∀ v0 v1 v2 v3 v4 v5 v6 v7, WF S ∧ IsSp (set8 wr rb v0 v1 v2 v3 v4 v5 v6 v7) h S ∧ Below w.heap.size w (set8 wr rb v0 v1 v2 v3 v4 v5 v6 v7)) := fun v0 v1 v2 v3 v4 v5 v6 v7 => ⟨t.wf HN.out hT5.2 hM5.2 hM5.1 hk10, (s.sp.own.set8 ⟨_, s.rx⟩).isSp, below_set8 s.sp.bel (Nat.le_of_eq HRB.out.symm)⟩
          clear s t J
          go_wp2_with fail
          refine bodyPost_ret (v := .agg (sC h S)) (by unfold sC; simp [results, Tryz.results14, go_sem, *]) rfl ?_
          exact ⟨h, S, rfl, HF.out _ _ _ _ _ _ _ _⟩

end Go.Proofs.YtebehlmidoencaaGreatDoor

/-
  WellRules: whatever the numbers, the call returns true and leaves all that was there as it was.
-/
namespace Go.Proofs.YtebehlmidoencaaGreatDoor.Rules
open Go.RowKit

set_option maxHeartbeats 8000000 in
set_option maxRecDepth 20000 in
theorem walk (a0 a1 : Int) (A : Option Addr) (rn rc : Nat) (w : World) (hp : Pow w) (hr : RawM w A rn rc) : Calls Tryz.prog 5 #[.int .i64 a0, .int .i64 a1, .slice A rn rc] w fun e w' => e = .returned (.bool true) ∧ Below w.heap.size w w' := by
  have HP : Hid (Pow w ∧ RawM w A rn rc) := ⟨hp, hr⟩
  clear hp hr
  go_enter Tryz.func5, Tryz.ntmps5
  go_wp2_with fail
  refine (begun7_calls w HP.out.1).mono ?_
  rintro e V1 ⟨rfl, hB⟩
  have HV1 : Hid (Below w.heap.size w V1) := hB
  have HR : Hid (Calls Tryz.prog 14 #[.int .i64 a0, .int .i64 a1, .slice A rn rc] V1 fun e w' => ∃ h S, e = .returned (.agg (sC h S)) ∧ WF S ∧ IsSp w' h S ∧ Below V1.heap.size V1 w') := rules_calls a0 a1 A rn rc V1 (HP.out.2.below hB)
  clear hB HP
  go_wp2_with fail
  refine HR.out.mono ?_
  rintro e V2 ⟨h, S, rfl, hwf, hs, hB⟩
  have HV2 : Hid (Below w.heap.size w V2) := below_step HV1.out hB
  have HC : Hid (Calls Tryz.prog 13 #[.agg (sC h S)] V2 fun e w' => e = .returned (.bool true) ∧ Below V2.heap.size V2 w') := sets_calls V2 h S hwf hs
  clear hwf hs hB HR HV1
  generalize sC h S = cs at HC ⊢
  go_wp2_with fail
  refine HC.out.mono ?_
  rintro e V3 ⟨rfl, hB3⟩
  have HE : Hid (Below w.heap.size w V3) := below_step HV2.out hB3
  clear hB3
  go_wp2_with fail
  go_ret
  exact ⟨rfl, HE.out⟩

end Go.Proofs.YtebehlmidoencaaGreatDoor.Rules

/-
  WellRules: whatever the numbers, of the Spec that they build what yields something and what is reached are told alike by the program and by the reference, so the call returns true and leaves all that was there as it was; its conditions are those of the row: rows of numbers that lie in memory as Go lays them, and the five tables as the program lays them.
-/
namespace Go.Proofs.YtebehlmidoencaaGreatDoor.Rules
open Go.ChangeShapes Go.WideShapes Go.ChangeAt Go.RowKit
open Go.ChangeMaps (open_string shut_string)

set_option maxRecDepth 100000 in
theorem lifted (os : Os) (started : os.Started) (H : Type) (enc : TypeId × Value → H) :
    ReturnsInHanded {} Tryz.checked os 5 .any (fun w args => (Rows.wellRulesSpec.pre enc Tryz.prog Tryz.f5 [] false w args ∧ laidMetH Tryz.prog laid5 w) ∧ sizedMet enc Tryz.prog Tryz.f5 (OpenSpec.ofChange Rows.wellRulesSpec) false w args) (Rows.wellRulesSpec.post enc Tryz.prog Tryz.f5 false true false false) := by
  refine returnsInHanded_of_change_and (C := Tryz.checked) (X := fun w _ => laidMetH Tryz.prog laid5 w) (fun _ _ _ hh h => h.of_heap hh) own started (by kernel_rfl) Tryz.func5
    (ChangeSpec.witness_shaped (enc := enc) (C := Tryz.checked) (os := os) (X := fun w _ => laidMetH Tryz.prog laid5 w) false (World.doorLaid Tryz.prog 97 os) #[.int .i64 0, .int .i64 0, .slice none 0 0] 8 rfl (World.shaped_of_RefB (by kernel_rfl) (by kernel_rfl)) (by kernel_rfl) (by kernel_rfl) (by kernel_rfl) (door_met os _)) ?_
  intro W base args ds gs before hval0 hW _ _ hL _
  have hval : ∀ (j : Nat) t v, Tryz.f5.params[j]? = some t → args[j]? = some v → Value.okWide Tryz.prog W .any base t v := hval0
  have hW' := hW
  obtain ⟨p, q, hA0, hV, rfl, _, _⟩ := hW
  have hA : DataW.TrodAll enc Tryz.prog W 0 (fun _ => true) true Tryz.f5.params.toList args.toList ds p := hA0
  rw [Tryz.params5] at hA hval
  obtain ⟨v0, vs0, d0, ds0, p0, q0, _, rfl, rfl, h0, r0⟩ := trodAll_cons hA
  obtain ⟨v1, vs1, d1, ds1, p1, q1, rfl, rfl, rfl, h1, r1⟩ := trodAll_cons r0
  obtain ⟨v2, vs2, d2, ds2, p2, q2, rfl, rfl, rfl, h2, r2⟩ := trodAll_cons r1
  obtain ⟨rfl, rfl, rfl⟩ := trodAll_nil r2
  obtain rfl : args = #[v0, v1, v2] := by cases args; simp_all
  obtain ⟨rfl, rfl⟩ := trodVars_none hV
  obtain ⟨a0, rfl, rfl, rfl, w0⟩ := open_int Tryz.underlying3 (hval 0 3 v0 rfl rfl) h0
  obtain ⟨a1, rfl, rfl, rfl, w1⟩ := open_int Tryz.underlying3 (hval 1 3 v1 rfl rfl) h1
  have k2 := h2
  have lt2 : ∀ x ∈ p2, x.block < W.heap.size := by obtain ⟨m, hm⟩ := k2; exact DataW.trod_lt m _ _ _ hm
  obtain ⟨A2, n2, c2, rfl⟩ := okWide_slice Tryz.underlying39 (hval 2 39 v2 rfl rfl)
  obtain ⟨-, raw2⟩ := open_rows h2
  clear hA0 hval0
  simp only [List.append_nil] at hW'
  refine (walk a0 a1 A2 n2 c2 W (pow_of_laid hL) raw2 ).mono fun e W' ⟨he, bel⟩ => ?_
  subst he
  exact ⟨_, rfl, _, _, _, [], _, [], hW', trodAll_mk1 (shut_bool Tryz.underlying4 _), (trodAll_cons_mk (shut_int Tryz.underlying3 w0) (trodAll_cons_mk (shut_int Tryz.underlying3 w1) (trodAll_cons_mk (Below.trod laidOut (by kernel_rfl) (of_decide_eq_true (by kernel_rfl)) k2 bel lt2) trodAll_mk0))), rfl, bel.frame _, fun h => by cases h⟩

theorem over : Rows.wellRulesRow.holds Tryz.pinned (OpenSpec.ofChange Rows.wellRulesSpec) :=
  OpenClaim.holds_of_wide 5 Tryz.f5 rfl rfl rfl rfl rfl rfl rfl ⟨rfl, rfl, rfl, rfl, rfl⟩ rfl rfl rfl rfl rfl (by kernel_rfl) Tryz.func5 (by kernel_rfl)
    (of_decide_eq_true (by kernel_rfl)) (by unfold Func.isWrapper; first | (rw [if_pos (by decide +kernel)]; kernel_rfl) | (rw [if_neg (by decide +kernel)]; exact ⟨rfl, rfl⟩))
    (fun os started H enc _ => lifted os started H enc)

theorem card : Claim7.holds Tryz.pinned (.plain (OpenSpec.ofChange Rows.wellRulesSpec)) Rows.wellRulesCard :=
  Claim7.holds_tied_plain_at .later [] [.data, .data, .data, .sentinel, .sentinel] true (true, "08a893462700bd46a194e27f97dd7829a9dfa3398a209d6b1c2ae5fb9c9a65e3") true
    over (fun _ h => by cases h) (by kernel_rfl) (fun _ h => by cases h) wellRules_row_tie rfl ⟨rfl, rfl⟩ (by kernel_rfl) rfl
    (fun f fn hf hfn => by
      obtain rfl : f = 5 := Option.some.inj ((show Tryz.prog.funcNamed "donatus/donatuslaw7.WellRules" = some 5 by kernel_rfl).symm.trans hf) |>.symm
      obtain rfl : fn = Tryz.f5 := (Option.some.inj (Tryz.func5.symm.trans hfn)).symm
      exact ⟨by kernel_rfl, fun j t ht => by
        rw [Tryz.params5] at ht
        have hm : t ∈ [3, 3, 39] := by simpa using Array.mem_of_getElem? ht
        have hall : ([3, 3, 39].all fun u => !Tryz.prog.wantsStandIn u) = true := by kernel_rfl
        exact (show Tryz.prog.wantsStandIn t = false by simpa using List.all_eq_true.1 hall t hm)⟩)
    (by kernel_rfl)

end Go.Proofs.YtebehlmidoencaaGreatDoor.Rules
namespace Go.Proofs.YtebehlmidoencaaGreatDoor
theorem wellRules_holds : Rows.WellRulesCardSaid := Rules.card
#print axioms wellRules_holds
end Go.Proofs.YtebehlmidoencaaGreatDoor
