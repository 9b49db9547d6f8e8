/-
  Texts that the proof of the Read statements stands on, part Own07.
-/
import Derived.Test.YtkaojokhdleeiaaGreatDoorOwn06
import Derived.Test.YtkaojokhdleeiaaGreatDoorOwn05
import Derived.Lib.ConvBytes
/-
  The reference's reader in memory; the walks of now, fault, is, take, sign.
-/
namespace Go.Proofs.YtkaojokhdleeiaaGreatDoor
open Go.RowKit

set_option maxRecDepth 20000

/-- Where the reference's lists lie. -/
structure FHd where
  lb : Nat
  lo : Nat
  lc : Nat
  ta : Option Addr
  tc : Nat
  ra : Option Addr
  rc : Nat
  ba : Option Addr
  bc : Nat

def rfC (h : FHd) (n i : Nat) (f : Flt) (S : St) (sd : Bool) : Array Value :=
  #[.slice (some ⟨h.lb, h.lo, none⟩) n h.lc, .int .i64 i, .int .i64 f.1, .int .i64 f.2, .slice h.ta S.ts.length h.tc, .string S.st, .int .i64 S.ex, .slice h.ra S.rs.length h.rc, .slice h.ba S.ls.length h.bc, .bool sd, .bool S.ed, .int .i64 S.lv]

/-- A state that a text can lead to. -/
structure StF (S : St) : Prop where
  ends : Ends S.ws
  nt : S.ts.length ≤ 40
  lv : S.lv ≤ 8
  nr : S.rs.length ≤ 100

theorem StF.next {S : St} (h : StF S) (he : Ends S.ws.tail) : StF S.next := ⟨he, h.nt, h.lv, h.nr⟩

def bolC (l : List Bool) : List Value := l.map Value.bool

structure RF (w W : World) (rb : Nat) (h : FHd) (wl : List Wd) (i : Nat) (f : Flt) (S : St) (sd : Bool) (qs : List (Ru × Option Addr × Nat)) : Prop where
  box : W.heap[rb]? = some (.cells (rfC h wl.length i f S sd) 68 (0, 0))
  wds : Row w 3 (some ⟨h.lb, h.lo, none⟩) wl.length h.lc (wdC wl)
  at_ : S.ws = wl.drop i
  tok : W.ownsRow w.heap.size 50 3 (.slice h.ta S.ts.length h.tc) S.ts.length (tokC S.ts)
  bls : W.ownsRow w.heap.size 4 1 (.slice h.ba S.ls.length h.bc) S.ls.length (bolC S.ls)
  rul : W.ownsRow w.heap.size 58 3 (.slice h.ra S.rs.length h.rc) S.rs.length (rulC qs)
  map : qs.map (·.1) = S.rs
  row : ∀ q ∈ qs, OwnT W w.heap.size (.slice q.2.1 q.1.r.length q.2.2) q.1.r
  bel : Below w.heap.size w W
  new : w.heap.size ≤ rb
  ok : StF S

theorem RF.step {w W W' : World} {rb : Nat} {h : FHd} {wl : List Wd} {i : Nat} {f : Flt} {S : St} {sd : Bool} {qs : List (Ru × Option Addr × Nat)} (r : RF w W rb h wl i f S sd qs) (hb : Below W.heap.size W W') : RF w W' rb h wl i f S sd qs :=
  ⟨block_below hb r.box, r.wds, r.at_, ownsRow_of_block r.tok (fun i hi => hb.block i (World.ownsRow.lt r.tok i hi).2), ownsRow_of_block r.bls (fun i hi => hb.block i (World.ownsRow.lt r.bls i hi).2), ownsRow_of_block r.rul (fun i hi => hb.block i (World.ownsRow.lt r.rul i hi).2), r.map, fun q hq => (r.row q hq).below hb, below_step r.bel hb, r.new, r.ok⟩

theorem RF.lt {w W : World} {rb : Nat} {h : FHd} {wl : List Wd} {i : Nat} {f : Flt} {S : St} {sd : Bool} {qs : List (Ru × Option Addr × Nat)} (r : RF w W rb h wl i f S sd qs) : i < wl.length := by
  have h1 := r.ok.ends.pos
  rw [r.at_, List.length_drop] at h1
  omega

theorem RF.lens {w W : World} {rb : Nat} {h : FHd} {wl : List Wd} {i : Nat} {f : Flt} {S : St} {sd : Bool} {qs : List (Ru × Option Addr × Nat)} (r : RF w W rb h wl i f S sd qs) : i < wl.length ∧ wl.length ≤ h.lc ∧ h.lc ≤ 9223372036854775807 := by
  have h1 := r.wds.le
  have h2 := r.wds.max
  have h3 := r.lt
  unfold maxLen at h2
  omega

theorem RF.hdAt {w W : World} {rb : Nat} {h : FHd} {wl : List Wd} {i : Nat} {f : Flt} {S : St} {sd : Bool} {qs : List (Ru × Option Addr × Nat)} (r : RF w W rb h wl i f S sd qs) : wl[i]? = some S.hd := by
  have hi := r.lt
  unfold St.hd headW
  rw [r.at_, List.drop_eq_getElem_cons hi, List.headD_cons]
  exact List.getElem?_eq_getElem hi

theorem RF.head {w W : World} {rb : Nat} {h : FHd} {wl : List Wd} {i : Nat} {f : Flt} {S : St} {sd : Bool} {qs : List (Ru × Option Addr × Nat)} (r : RF w W rb h wl i f S sd qs) :
    W.cell? ⟨h.lb, h.lo + i * 3, none⟩ = some (.int .i64 S.hd.k) ∧ W.cell? ⟨h.lb, h.lo + i * 3 + 1, none⟩ = some (.string S.hd.t) ∧ W.cell? ⟨h.lb, h.lo + i * 3 + 2, none⟩ = some (.int .i64 S.hd.a) := by
  have hw := r.wds.below r.bel
  obtain ⟨b, o, he, hc⟩ := hw.at (by have := r.lt; omega)
  cases he
  have e : ∀ j, j < 3 → (wdC wl)[i * 3 + j]? = ([.int .i64 S.hd.k, .string S.hd.t, .int .i64 S.hd.a] : List Value)[j]? := fun j hj => three_at (fun x : Wd => [.int .i64 x.k, .string x.t, .int .i64 x.a]) (fun _ => rfl) wl i S.hd j r.hdAt hj
  exact ⟨hc _ _ (e 0 (by omega)), hc _ _ (e 1 (by omega)), hc _ _ (e 2 (by omega))⟩

set_option maxHeartbeats 2000000 in
theorem rfNow_calls (w W : World) (rb : Nat) (h : FHd) (wl : List Wd) (i : Nat) (f : Flt) (S : St) (sd : Bool) (qs : List (Ru × Option Addr × Nat)) (r : RF w W rb h wl i f S sd qs) :
    Calls Tryz.prog 34 #[.pointer (some ⟨rb, 0, none⟩)] W fun e W' => e = .returned (wv S.hd) ∧ Below W.heap.size W W' := by
  obtain ⟨c0, c1, c2⟩ := r.head
  obtain ⟨l1, l2, l3⟩ := r.lens
  have b0 : W.cell? ⟨rb, 0, none⟩ = some (.slice (some ⟨h.lb, h.lo, none⟩) wl.length h.lc) := by rw [cell_block r.box]; rfl
  have b1 : W.cell? ⟨rb, 1, none⟩ = some (.int .i64 i) := by rw [cell_block r.box]; rfl
  obtain ⟨wb, wo, wc, ta, tc, ra, rc, ba, bc⟩ := h
  simp only at c0 c1 c2 l1 l2 l3 b0
  generalize S.hd = x at *
  obtain ⟨xk, xt, xa⟩ := x
  simp only at c0 c1 c2
  unfold wv
  simp only
  generalize wl.length = n at *
  have c0' := cell_alloc c0
  have c1' := cell_alloc c1
  have c2' := cell_alloc c2
  have b0' := cell_alloc b0
  have b1' := cell_alloc b1
  clear r c0 c1 c2 b0 b1
  have l1' : (i : Int) < (n : Int) := by omega
  go_enter Tryz.func34, Tryz.ntmps34
  go_upto_region 1 with fail
  go_region
  all_goals
    go_wp2_with fail
    refine bodyPost_ret (v := .agg #[.int .i64 xk, .string xt, .int .i64 xa]) (by simp [results, Tryz.results34, go_sem, *]) rfl ?_
    refine ⟨rfl, ?_⟩
    exact below_step (below_alloc _ _) (below_drew' _)

theorem run_wa (k a : Int) (t : ByteArray) (W : World) : (Instr.field 35 (.agg #[.int .i64 k, .string t, .int .i64 a]) 2).run Tryz.prog W = .ok (.int .i64 a) W := by kernel_rfl

/-- A cell of the reader's box is stored into. -/
theorem RF.put {w W : World} {rb : Nat} {h : FHd} {wl : List Wd} {i i' : Nat} {f f' : Flt} {S S' : St} {sd sd' : Bool} {qs : List (Ru × Option Addr × Nat)} (r : RF w W rb h wl i f S sd qs) (j : Nat) (u : Value)
    (hc : (rfC h wl.length i f S sd).setIfInBounds j u = rfC h wl.length i' f' S' sd') (h1 : S'.ts = S.ts) (h2 : S'.ls = S.ls) (h3 : S'.rs = S.rs) (h4 : S'.ws = wl.drop i') (h5 : StF S') :
    RF w (W.setCell ⟨rb, j, none⟩ u) rb h wl i' f' S' sd' qs := by
  have apart : ∀ {E k n : Nat} {v : Value} {cs : List Value}, W.ownsRow w.heap.size E k v n cs → E ≠ 68 → (W.setCell ⟨rb, j, none⟩ u).ownsRow w.heap.size E k v n cs := by
    intro E k n v cs ho hE
    exact ownsRow_of_block ho (fun i hi => Below.heap_setCell _ _ _ _ (loc_ne (own_loc ho hi) ⟨_, r.box⟩ hE))
  refine ⟨?_, r.wds, h4, ?_, ?_, ?_, ?_, fun q hq => apart (r.row q hq) (by decide), r.bel.setCell (p := ⟨rb, j, none⟩) r.new _, r.new, h5⟩
  · rw [setCell_eq_setRow W rb j _ 68 (0, 0) _ r.box, hc]
    exact setRow_heap _ _ _ _ 68 _ r.box
  · rw [h1]; exact apart r.tok (by decide)
  · rw [h2]; exact apart r.bls (by decide)
  · rw [h3]; exact apart r.rul (by decide)
  · rw [h3]; exact r.map

/-- Behind the next word. -/
theorem RF.next {w W : World} {rb : Nat} {h : FHd} {wl : List Wd} {i : Nat} {f : Flt} {S : St} {sd : Bool} {qs : List (Ru × Option Addr × Nat)} (r : RF w W rb h wl i f S sd qs) (he : Ends S.ws.tail) :
    RF w (W.setCell ⟨rb, 1, none⟩ (.int .i64 ((i : Int) + 1))) rb h wl (i + 1) f S.next sd qs := by
  refine r.put (i' := i + 1) (S' := S.next) 1 _ ?_ rfl rfl rfl ?_ (r.ok.next he)
  · unfold rfC
    simp [St.next]
  · show S.ws.tail = _
    rw [r.at_, List.tail_drop]

/-- The fault is laid in. -/
theorem RF.fail {w W : World} {rb : Nat} {h : FHd} {wl : List Wd} {i : Nat} {f : Flt} {S : St} {sd : Bool} {qs : List (Ru × Option Addr × Nat)} (r : RF w W rb h wl i f S sd qs) (k a : Int) :
    RF w ((W.setCell ⟨rb, 2, none⟩ (.int .i64 k)).setCell ⟨rb, 3, none⟩ (.int .i64 a)) rb h wl i (k, a) S sd qs := by
  have r1 := r.put (i' := i) (S' := S) (sd' := sd) (f' := (k, f.2)) 2 (.int .i64 k) (by unfold rfC; simp) rfl rfl rfl r.at_ r.ok
  exact r1.put (i' := i) (S' := S) (sd' := sd) (f' := (k, a)) 3 (.int .i64 a) (by unfold rfC; simp) rfl rfl rfl r.at_ r.ok

/-- The first fault stays. -/
def faultW (W : World) (rb : Nat) (f : Flt) (k a : Int) : World := if f.1 = 0 then (W.setCell ⟨rb, 2, none⟩ (.int .i64 k)).setCell ⟨rb, 3, none⟩ (.int .i64 a) else W

set_option maxHeartbeats 2000000 in
theorem rfFault_calls (k a : Int) (w W : World) (rb : Nat) (h : FHd) (wl : List Wd) (i : Nat) (f : Flt) (S : St) (sd : Bool) (qs : List (Ru × Option Addr × Nat)) (r : RF w W rb h wl i f S sd qs) :
    Calls Tryz.prog 53 #[.pointer (some ⟨rb, 0, none⟩), .int .i64 k, .int .i64 a] W fun e W' => e = .returned (.tuple #[]) ∧ W' = faultW W rb f k a := by
  have b2 : W.cell? ⟨rb, 2, none⟩ = some (.int .i64 f.1) := by rw [cell_block r.box]; rfl
  have b3 : W.cell? ⟨rb, 3, none⟩ = some (.int .i64 f.2) := by rw [cell_block r.box]; rfl
  have z2 : W.frozen? ⟨rb, 2, none⟩ = false := frozen_block r.box 2
  have z3 : W.frozen? ⟨rb, 3, none⟩ = false := frozen_block r.box 3
  obtain ⟨f1, f2⟩ := f
  simp only at b2 b3
  unfold faultW
  simp only
  clear r
  by_cases h0 : f1 = 0
  · rw [if_pos h0]
    have hq : (f1 == 0) = true := by simp [h0]
    clear h0
    go_enter Tryz.func53, Tryz.ntmps53
    go_wp2_with fail
    go_end0
    exact ⟨rfl, rfl⟩
  · rw [if_neg h0]
    have hq : (f1 == 0) = false := by simp [h0]
    clear h0
    go_enter Tryz.func53, Tryz.ntmps53
    go_wp2_with fail
    go_end0
    exact ⟨rfl, rfl⟩

set_option maxHeartbeats 4000000 in
theorem rfIs_calls (t : ByteArray) (ht : t ≠ ⟨#[]⟩) (w W : World) (rb : Nat) (h : FHd) (wl : List Wd) (i : Nat) (f : Flt) (S : St) (sd : Bool) (qs : List (Ru × Option Addr × Nat)) (r : RF w W rb h wl i f S sd qs) (b : Bool) (hb : b = true ↔ f.1 = 0 ∧ S.hd.t = t) :
    Calls Tryz.prog 32 #[.pointer (some ⟨rb, 0, none⟩), .string t] W fun e W' => e = .returned (.bool b) ∧ Below W.heap.size W W' := by
  have H1 : Hid (∀ V : World, Below W.heap.size W V → Calls Tryz.prog 34 #[.pointer (some ⟨rb, 0, none⟩)] V fun e W' => e = .returned (wv S.hd) ∧ Below V.heap.size V W') := fun V hV => rfNow_calls w V rb h wl i f S sd qs (r.step hV)
  have b2 : W.cell? ⟨rb, 2, none⟩ = some (.int .i64 f.1) := by rw [cell_block r.box]; rfl
  have hk5 : S.hd.t = t → S.hd.k ≠ 5 := fun e => by
    have h1 := (r.ok.ends.tail_of_text (by rw [show (headW S.ws).t = t from e]; exact ht)).1.kind
    have h2 : (headW S.ws).k = S.hd.k := rfl
    omega
  obtain ⟨f1, f2⟩ := f
  simp only at b2 hb
  unfold wv at H1
  generalize S.hd = x at *
  obtain ⟨xk, xt, xa⟩ := x
  simp only at H1 hb hk5
  clear r
  by_cases h0 : f1 = 0
  · have hq : (f1 == 0) = true := by simp [h0]
    by_cases ht' : xt = t
    · have hb1 : b = true := hb.2 ⟨h0, ht'⟩
      have hk := hk5 ht'
      have hq2 := toList_beq_eq ht'
      have hq3 : (xk != 5) = true := by simp [hk]
      have hf := run_wt xk xa xt
      have hg := run_wk xk xa xt
      rw [hb1]
      clear h0 ht' hb hb1 hk hk5 ht
      go_enter Tryz.func32, Tryz.ntmps32
      go_wp2_with fail
      refine (H1.out _ (Below.refl _ _)).mono ?_
      rintro e W1 ⟨rfl, hB⟩
      have HB : Hid (Below W.heap.size W W1) := hB
      clear hB
      go_wp2_with fail
      refine (H1.out _ HB.out).mono ?_
      rintro e W2 ⟨rfl, hB⟩
      have HB2 : Hid (Below W.heap.size W W2) := below_step HB.out hB
      clear hB
      go_wp2_with fail
      go_ret
      exact ⟨rfl, HB2.out⟩
    · have hb1 : b = false := by
        cases b
        · rfl
        · exact absurd (hb.1 rfl).2 ht'
      have hq2 := toList_beq_ne ht'
      have hf := run_wt xk xa xt
      rw [hb1]
      clear h0 ht' hb hb1 hk5 ht
      go_enter Tryz.func32, Tryz.ntmps32
      go_wp2_with fail
      refine (H1.out _ (Below.refl _ _)).mono ?_
      rintro e W1 ⟨rfl, hB⟩
      have HB : Hid (Below W.heap.size W W1) := hB
      clear hB
      go_wp2_with fail
      go_ret
      exact ⟨rfl, HB.out⟩
  · have hq : (f1 == 0) = false := by simp [h0]
    have hb1 : b = false := by
      cases b
      · rfl
      · exact absurd (hb.1 rfl).1 h0
    rw [hb1]
    clear h0 hb hb1 hk5 ht
    go_enter Tryz.func32, Tryz.ntmps32
    go_wp2_with fail
    go_ret
    exact ⟨rfl, Below.refl _ _⟩

/-- A box of the caller's own is stored into. -/
theorem RF.far {w W : World} {rb b j T : Nat} {h : FHd} {wl : List Wd} {i : Nat} {f : Flt} {S : St} {sd : Bool} {qs : List (Ru × Option Addr × Nat)} {u : Value} (r : RF w W rb h wl i f S sd qs) (hb : Loc W b T) (h1 : T ≠ 68 ∧ T ≠ 50 ∧ T ≠ 4 ∧ T ≠ 58 ∧ T ≠ 9) (hw : w.heap.size ≤ b) : RF w (W.setCell ⟨b, j, none⟩ u) rb h wl i f S sd qs := by
  have apart : ∀ {E k n : Nat} {v : Value} {cs : List Value}, W.ownsRow w.heap.size E k v n cs → E ≠ T → (W.setCell ⟨b, j, none⟩ u).ownsRow w.heap.size E k v n cs := by
    intro E k n v cs ho hE
    exact ownsRow_of_block ho (fun i hi => Below.heap_setCell _ _ _ _ (loc_ne (own_loc ho hi) hb hE))
  refine ⟨?_, r.wds, r.at_, apart r.tok (Ne.symm h1.2.1), apart r.bls (Ne.symm h1.2.2.1), apart r.rul (Ne.symm h1.2.2.2.1), r.map, fun q hq => apart (r.row q hq) (Ne.symm h1.2.2.2.2), r.bel.setCell (p := ⟨b, j, none⟩) hw _, r.new, r.ok⟩
  rw [Below.heap_setCell _ _ _ _ (loc_ne ⟨_, r.box⟩ hb (Ne.symm h1.1))]
  exact r.box

/-- What a word's taking leaves. -/
def Took (w W : World) (rb : Nat) (h : FHd) (wl : List Wd) (i : Nat) (f : Flt) (S : St) (sd : Bool) (qs : List (Ru × Option Addr × Nat)) (k : Int) (W' : World) : Prop :=
  Kept (One rb) W W' ∧ (f.1 ≠ 0 → RF w W' rb h wl i f S sd qs) ∧ (f.1 = 0 → S.hd.k = k → RF w W' rb h wl (i + 1) f S.next sd qs) ∧ (f.1 = 0 → S.hd.k ≠ k → RF w W' rb h wl i (1, S.hd.a) S sd qs)

theorem box35z {W : World} {b : Nat} {a c d : Value} (h : W.heap[b]? = some (.cells #[a, c, d] 35 (0, 0))) : W.frozen? ⟨b, 0, none⟩ = false ∧ W.frozen? ⟨b, 1, none⟩ = false ∧ W.frozen? ⟨b, 2, none⟩ = false :=
  ⟨frozen_block h 0, frozen_block h 1, frozen_block h 2⟩

set_option maxHeartbeats 4000000 in
theorem rfTake_calls (k : Int) (hk : k ≠ 5) (w W : World) (rb : Nat) (h : FHd) (wl : List Wd) (i : Nat) (f : Flt) (S : St) (sd : Bool) (qs : List (Ru × Option Addr × Nat)) (r : RF w W rb h wl i f S sd qs) :
    Calls Tryz.prog 51 #[.pointer (some ⟨rb, 0, none⟩), .int .i64 k] W fun e W' => e = .returned (wv S.hd) ∧ Took w W rb h wl i f S sd qs k W' := by
  have HR : Hid (∀ V : World, Below W.heap.size W V → RF w V rb h wl i f S sd qs) := fun V hV => r.step hV
  have H1 : Hid (∀ V : World, Below W.heap.size W V → Calls Tryz.prog 34 #[.pointer (some ⟨rb, 0, none⟩)] V fun e W' => e = .returned (wv S.hd) ∧ Below V.heap.size V W') := fun V hV => rfNow_calls w V rb h wl i f S sd qs (r.step hV)
  have HA : Hid (Below W.heap.size W (W.alloc (.cells #[.int .i64 0, .string ⟨#[]⟩, .int .i64 0] 35))) := below_alloc _ _
  have hb0 : (W.alloc (.cells #[.int .i64 0, .string ⟨#[]⟩, .int .i64 0] 35)).heap[W.heap.size]? = some (.cells #[.int .i64 0, .string ⟨#[]⟩, .int .i64 0] 35 (0, 0)) := heap_alloc_new _ _
  have hrb : rb < W.heap.size := (Array.getElem?_eq_some_iff.1 r.box).1
  have HWW : Hid (w.heap.size ≤ W.heap.size) := r.bel.size
  have HEN : Hid (S.hd.k ≠ 5 → Ends S.ws.tail) := fun hh => (r.ok.ends.tail_of_kind hh).2
  obtain ⟨l1, l2, l3⟩ := r.lens
  have hi63 : (i : Int) + 1 ≤ 9223372036854775807 := by omega
  clear r l1 l2 l3
  obtain ⟨f1, f2⟩ := f
  unfold Took
  generalize hx : S.hd = x at *
  obtain ⟨xk, xt, xa⟩ := x
  unfold wv at *
  simp only at H1 HEN ⊢
  clear hx
  go_enter Tryz.func51, Tryz.ntmps51
  go_upto_region 1 with fail
  generalize W.alloc (.cells #[.int .i64 0, .string ⟨#[]⟩, .int .i64 0] 35) = W1 at HA hb0 ⊢
  obtain ⟨nb, hnb⟩ : ∃ nb, nb = W.heap.size := ⟨_, rfl⟩
  rw [← hnb] at hb0 ⊢
  have HN : Hid (nb = W.heap.size ∧ rb < nb) := ⟨hnb, by rw [hnb]; exact hrb⟩
  have HBX : Hid (W1.heap[nb]? = some (.cells #[.int .i64 0, .string ⟨#[]⟩, .int .i64 0] 35 (0, 0))) := hb0
  clear hb0 hrb hnb
  go_wp2_with fail
  refine (H1.out _ HA.out).mono ?_
  rintro e W2 ⟨rfl, hB⟩
  have hB3 := below_step hB (below_alloc W2 (.cells #[.int .i64 xk, .string xt, .int .i64 xa] 35))
  have hb1 := heap_alloc_new W2 (.cells #[.int .i64 xk, .string xt, .int .i64 xa] 35)
  have hsz : nb < W2.heap.size := Nat.lt_of_lt_of_le (Array.getElem?_eq_some_iff.1 HBX.out).1 hB.size
  go_upto_region 2 with fail
  obtain ⟨tb, htb⟩ : ∃ tb, tb = W2.heap.size := ⟨_, rfl⟩
  rw [← htb] at hb1 hsz ⊢
  generalize W2.alloc (.cells #[.int .i64 xk, .string xt, .int .i64 xa] 35) = W3 at hB3 hb1 ⊢
  have hbn := block_below hB3 HBX.out
  have HB3 : Hid (Below W.heap.size W W3 ∧ nb < tb) := ⟨below_step HA.out hB3, hsz⟩
  have HBN : Hid (W3.heap[nb]? = some (.cells #[.int .i64 0, .string ⟨#[]⟩, .int .i64 0] 35 (0, 0)) ∧ W3.heap[tb]? = some (.cells #[.int .i64 xk, .string xt, .int .i64 xa] 35 (0, 0))) := ⟨hbn, hb1⟩
  have r3 := HR.out W3 HB3.out.1
  have HR3 : Hid (RF w W3 rb h wl i (f1, f2) S sd qs) := r3
  have b1 : W3.cell? ⟨rb, 1, none⟩ = some (.int .i64 i) := by rw [cell_block r3.box]; rfl
  have b2 : W3.cell? ⟨rb, 2, none⟩ = some (.int .i64 f1) := by rw [cell_block r3.box]; rfl
  have y1 : W3.frozen? ⟨rb, 1, none⟩ = false := frozen_block r3.box 1
  have hne : rb ≠ nb ∧ rb ≠ tb ∧ nb ≠ tb := ⟨by have := HN.out.2; omega, by have := HN.out.2; omega, by omega⟩
  obtain ⟨n1, n2, n3⟩ := hne
  have n1' := n1.symm
  have n2' := n2.symm
  have n3' := n3.symm
  obtain ⟨p0, p1, p2⟩ := box35 hb1
  obtain ⟨q0, q1, q2⟩ := box35 hbn
  obtain ⟨z0, z1, z2⟩ := box35z hbn
  have HL : Hid (Loc W3 nb 35) := ⟨_, hbn⟩
  clear r3 hB hB3 hb1 hbn hsz htb H1 HA HBX HR
  by_cases h0 : f1 = 0
  · have hq0 : (f1 != 0) = false := by simp [h0]
    by_cases hkk : xk = k
    · have hq : (xk != k) = false := by simp [hkk]
      have HE : Hid (Ends S.ws.tail) := HEN.out (by rw [hkk]; exact hk)
      have HC : Hid (f1 = 0 ∧ xk = k) := ⟨h0, hkk⟩
      clear h0 hkk HEN
      go_wp2_with fail
      refine bodyPost_ret (v := .agg #[.int .i64 xk, .string xt, .int .i64 xa]) (by simp [results, Tryz.results51, go_sem, *]) rfl ?_
      refine ⟨rfl, ?_, fun hh => absurd HC.out.1 hh, fun _ _ => ?_, fun _ hh => absurd HC.out.2 hh⟩
      · exact ((((kept_of_below (S := One rb) HB3.out.1).setCell ⟨rb, 1, none⟩ _ (fun _ => rfl)).setCell ⟨nb, 0, none⟩ _ (fun hlt => absurd hlt (by have := HN.out.1; simp only; omega))).setCell ⟨nb, 1, none⟩ _ (fun hlt => absurd hlt (by have := HN.out.1; simp only; omega))).setCell ⟨nb, 2, none⟩ _ (fun hlt => absurd hlt (by have := HN.out.1; simp only; omega))
      · have hn : w.heap.size ≤ nb := by have := HN.out.1; have := HWW.out; omega
        have l0 := HL.out.set rb 1 (.int .i64 ((i : Int) + 1))
        exact (((HR3.out.next HE.out).far l0 (by decide) hn).far (l0.set _ _ _) (by decide) hn).far ((l0.set _ _ _).set _ _ _) (by decide) hn
    · have hq : (xk != k) = true := by simp [hkk]
      have HC : Hid (f1 = 0 ∧ xk ≠ k) := ⟨h0, hkk⟩
      clear h0 hkk HEN
      go_wp2_with fail
      refine (rfFault_calls 1 xa w W3 rb h wl i (f1, f2) S sd qs HR3.out).mono ?_
      rintro e W4 ⟨rfl, hW4⟩
      have hW5 : W4 = (W3.setCell ⟨rb, 2, none⟩ (.int .i64 1)).setCell ⟨rb, 3, none⟩ (.int .i64 xa) := by
        rw [hW4]
        unfold faultW
        rw [if_pos HC.out.1]
      clear hW4
      have HR4 : Hid (RF w W4 rb h wl i (1, xa) S sd qs ∧ Kept (One rb) W W4) := by
        rw [hW5]
        exact ⟨HR3.out.fail 1 xa, ((kept_of_below (S := One rb) HB3.out.1).setCell ⟨rb, 2, none⟩ _ (fun _ => rfl)).setCell ⟨rb, 3, none⟩ _ (fun _ => rfl)⟩
      have hblk : ∀ b, b ≠ rb → W4.heap[b]? = W3.heap[b]? := fun b hb => by
        rw [hW5, Below.heap_setCell _ _ _ _ hb, Below.heap_setCell _ _ _ _ hb]
      have hbn := HBN.out.1
      have hb1 := HBN.out.2
      rw [← hblk _ n1'] at hbn
      rw [← hblk _ n2'] at hb1
      clear p0 p1 p2 q0 q1 q2 z0 z1 z2 b1 b2 y1 HL hblk hW5
      obtain ⟨p0, p1, p2⟩ := box35 hb1
      obtain ⟨q0, q1, q2⟩ := box35 hbn
      obtain ⟨z0, z1, z2⟩ := box35z hbn
      have HL : Hid (Loc W4 nb 35) := ⟨_, hbn⟩
      clear hbn hb1
      go_wp2_with fail
      refine bodyPost_ret (v := .agg #[.int .i64 xk, .string xt, .int .i64 xa]) (by simp [results, Tryz.results51, go_sem, *]) rfl ?_
      refine ⟨rfl, ?_, fun hh => absurd HC.out.1 hh, fun _ hh => absurd hh HC.out.2, fun _ _ => ?_⟩
      · exact ((HR4.out.2.setCell ⟨nb, 0, none⟩ _ (fun hlt => absurd hlt (by have := HN.out.1; simp only; omega))).setCell ⟨nb, 1, none⟩ _ (fun hlt => absurd hlt (by have := HN.out.1; simp only; omega))).setCell ⟨nb, 2, none⟩ _ (fun hlt => absurd hlt (by have := HN.out.1; simp only; omega))
      · have hn : w.heap.size ≤ nb := by have := HN.out.1; have := HWW.out; omega
        have l0 := HL.out
        exact ((HR4.out.1.far l0 (by decide) hn).far (l0.set _ _ _) (by decide) hn).far ((l0.set _ _ _).set _ _ _) (by decide) hn
  · have hq0 : (f1 != 0) = true := by simp [h0]
    have HC : Hid (f1 ≠ 0) := h0
    clear h0 HEN
    go_wp2_with fail
    refine bodyPost_ret (v := .agg #[.int .i64 xk, .string xt, .int .i64 xa]) (by simp [results, Tryz.results51, go_sem, *]) rfl ?_
    refine ⟨rfl, ?_, fun _ => ?_, fun hh => absurd hh HC.out, fun hh => absurd hh HC.out⟩
    · exact (((kept_of_below (S := One rb) HB3.out.1).setCell ⟨nb, 0, none⟩ _ (fun hlt => absurd hlt (by have := HN.out.1; simp only; omega))).setCell ⟨nb, 1, none⟩ _ (fun hlt => absurd hlt (by have := HN.out.1; simp only; omega))).setCell ⟨nb, 2, none⟩ _ (fun hlt => absurd hlt (by have := HN.out.1; simp only; omega))
    · have hn : w.heap.size ≤ nb := by have := HN.out.1; have := HWW.out; omega
      have l0 := HL.out
      exact ((HR3.out.far l0 (by decide) hn).far (l0.set _ _ _) (by decide) hn).far ((l0.set _ _ _).set _ _ _) (by decide) hn

set_option maxHeartbeats 4000000 in
theorem rfSign_calls (t : ByteArray) (ht : t ≠ ⟨#[]⟩) (w W : World) (rb : Nat) (h : FHd) (wl : List Wd) (i : Nat) (f : Flt) (S : St) (sd : Bool) (qs : List (Ru × Option Addr × Nat)) (r : RF w W rb h wl i f S sd qs) :
    Calls Tryz.prog 54 #[.pointer (some ⟨rb, 0, none⟩), .string t] W fun e W' => e = .returned (.tuple #[]) ∧ Kept (One rb) W W' ∧ (f.1 ≠ 0 → RF w W' rb h wl i f S sd qs) ∧ (f.1 = 0 → S.hd.t = t → RF w W' rb h wl (i + 1) f S.next sd qs) ∧ (f.1 = 0 → S.hd.t ≠ t → RF w W' rb h wl i (1, S.hd.a) S sd qs) := by
  obtain ⟨b, hb⟩ := bool_of (f.1 = 0 ∧ S.hd.t = t)
  have HI : Hid (Calls Tryz.prog 32 #[.pointer (some ⟨rb, 0, none⟩), .string t] W fun e W' => e = .returned (.bool b) ∧ Below W.heap.size W W') := rfIs_calls t ht w W rb h wl i f S sd qs r b hb
  have HR : Hid (∀ V : World, Below W.heap.size W V → RF w V rb h wl i f S sd qs) := fun V hV => r.step hV
  obtain ⟨l1, l2, l3⟩ := r.lens
  have hi63 : (i : Int) + 1 ≤ 9223372036854775807 := by omega
  clear l1 l2 l3
  cases b
  · have HC : Hid (¬ (f.1 = 0 ∧ S.hd.t = t)) := fun hh => by have := hb.2 hh; cases this
    clear hb r
    go_enter Tryz.func54, Tryz.ntmps54
    go_wp2_with fail
    refine HI.out.mono ?_
    rintro e W1 ⟨rfl, hB⟩
    have HB1 : Hid (Below W.heap.size W W1) := hB
    clear hB
    have H1 : Hid (Calls Tryz.prog 34 #[.pointer (some ⟨rb, 0, none⟩)] W1 fun e W' => e = .returned (wv S.hd) ∧ Below W1.heap.size W1 W') := rfNow_calls w W1 rb h wl i f S sd qs (HR.out W1 HB1.out)
    generalize hx : S.hd = x at *
    obtain ⟨xk, xt, xa⟩ := x
    unfold wv at H1
    simp only at H1 HC
    have HX : Hid (S.hd = ⟨xk, xt, xa⟩) := hx
    clear hx
    have hfa := run_wa xk xa xt
    go_wp2_with fail
    refine H1.out.mono ?_
    rintro e W2 ⟨rfl, hB⟩
    have HB2 : Hid (Below W.heap.size W W2) := below_step HB1.out hB
    clear hB
    go_wp2_with fail
    refine (rfFault_calls 1 xa w W2 rb h wl i f S sd qs (HR.out W2 HB2.out)).mono ?_
    rintro e W4 ⟨rfl, hW4⟩
    have HW4 : Hid (W4 = faultW W2 rb f 1 xa) := hW4
    clear hW4
    go_wp2_with fail
    refine bodyPost_ret (results_none rfl _ _ _) rfl ?_
    have r2 := HR.out W2 HB2.out
    have k2 : Kept (One rb) W W2 := kept_of_below HB2.out
    rw [HW4.out, HX.out]
    unfold faultW
    refine ⟨rfl, ?_, fun hh => ?_, fun h1 h2 => absurd ⟨h1, h2⟩ HC.out, fun h1 _ => ?_⟩
    · split
      · exact (k2.setCell ⟨rb, 2, none⟩ _ (fun _ => rfl)).setCell ⟨rb, 3, none⟩ _ (fun _ => rfl)
      · exact k2
    · rw [if_neg hh]
      exact r2
    · rw [if_pos h1]
      exact r2.fail 1 xa
  · have HC : Hid (f.1 = 0 ∧ S.hd.t = t) := hb.1 rfl
    have HE : Hid (Ends S.ws.tail) := (r.ok.ends.tail_of_text (by rw [show (headW S.ws).t = t from HC.out.2]; exact ht)).2
    clear hb r
    go_enter Tryz.func54, Tryz.ntmps54
    go_wp2_with fail
    refine HI.out.mono ?_
    rintro e W1 ⟨rfl, hB⟩
    have HB1 : Hid (Below W.heap.size W W1) := hB
    clear hB
    have r1 := HR.out W1 HB1.out
    have b1 : W1.cell? ⟨rb, 1, none⟩ = some (.int .i64 i) := by rw [cell_block r1.box]; rfl
    have y1 : W1.frozen? ⟨rb, 1, none⟩ = false := frozen_block r1.box 1
    clear r1
    go_wp2_with fail
    go_end0
    refine ⟨rfl, (kept_of_below (S := One rb) HB1.out).setCell ⟨rb, 1, none⟩ _ (fun _ => rfl), fun hh => absurd HC.out.1 hh, fun _ _ => ?_, fun _ hh => absurd HC.out.2 hh⟩
    exact (HR.out W1 HB1.out).next HE.out

end Go.Proofs.YtkaojokhdleeiaaGreatDoor

/-
  The reference's reader: tokens are laid to its lists; the walk of name.
-/
namespace Go.Proofs.YtkaojokhdleeiaaGreatDoor
open Go.RowKit

set_option maxRecDepth 20000

set_option maxHeartbeats 2000000 in
theorem rtokF_calls (ts : List Tk) (ta ra : Option Addr) (tc rn rc : Nat) (st : ByteArray) (ex : Int) (w : World) (hR : Row w 3 ta ts.length tc (tokC ts)) (s : ByteArray) :
    Calls Tryz.prog 37 #[.agg #[.slice ta ts.length tc, .string st, .int .i64 ex, .slice ra rn rc], .string s] w fun e w' => e = .returned (.int .i64 (idxI (findN ts s))) ∧ Below w.heap.size w w' := by
  have hm1 : ts.length ≤ tc ∧ tc ≤ 9223372036854775807 := by have h1 := hR.le; have h2 := hR.max; unfold maxLen at h2; omega
  have HR : Hid (Row w 3 ta ts.length tc (tokC ts)) := hR
  clear hR
  obtain ⟨n, HN⟩ : ∃ n, Hid (ts.length = n) := ⟨_, rfl⟩
  rw [HN.out] at HR hm1 ⊢
  go_enter Tryz.func37, Tryz.ntmps37
  go_upto_region 1 with fail
  have c0 : (w.alloc (.cells #[.slice ta n tc, .string st, .int .i64 ex, .slice ra rn rc] 28)).cell? ⟨w.heap.size, 0, none⟩ = some (.slice ta n tc) := by rw [World.cell?_alloc_mark]; rfl
  have HB : Hid (Below w.heap.size w (w.alloc (.cells #[.slice ta n tc, .string st, .int .i64 ex, .slice ra rn rc] 28)) ∧ Row (w.alloc (.cells #[.slice ta n tc, .string st, .int .i64 ex, .slice ra rn rc] 28)) 3 ta n tc (tokC ts)) := ⟨below_alloc _ _, HR.out.below (below_alloc _ _)⟩
  generalize w.alloc (.cells #[.slice ta n tc, .string st, .int .i64 ex, .slice ra rn rc] 28) = wq at c0 HB ⊢
  generalize w.heap.size = gb at c0 ⊢
  clear HR
  go_wp2
  go_loop [5] (fun v => ∃ i : Nat, i ≤ n ∧ v = .int .i64 i ∧ Hid (∀ j u, j < i → ts[j]? = some u → u.n ≠ s)) (fun v => n - (intOf v).toNat)
  case atStart => exact ⟨0, Nat.zero_le _, rfl, (fun j u h => absurd h (Nat.not_lt_zero _) : ∀ j u, j < 0 → ts[j]? = some u → u.n ≠ s)⟩
  case round =>
    obtain ⟨i, hi, rfl, J⟩ := hrel
    by_cases hlt : i < n
    · obtain ⟨u, hu⟩ : ∃ u, ts[i]? = some u := ⟨ts[i]'(by rw [HN.out]; exact hlt), List.getElem?_eq_getElem _⟩
      obtain ⟨b, o, rfl, p0, -, -⟩ := tok_at HB.out.2 hu
      have HU : Hid (ts[i]? = some u) := hu
      clear hu
      by_cases he : u.n = s
      · have hb := toList_beq_eq he
        have HF : Hid (idxI (findN ts s) = (i : Int)) := by
          show _ = _
          rw [findN_at J.out HU.out he]
          rfl
        generalize u.n = un at p0 hb
        clear he
        go_wp2
        go_ret
        exact ⟨by rw [HF.out]; rfl, HB.out.1⟩
      · have hb := toList_beq_ne he
        have HF : Hid (∀ j u, j < i + 1 → ts[j]? = some u → u.n ≠ s) := fun j v hj hv => by
          rcases Nat.lt_or_ge j i with h | h
          · exact J.out j v h hv
          · have : j = i := by omega
            subst this
            rw [HU.out] at hv
            cases hv
            exact he
        generalize u.n = un at p0 hb
        clear he
        go_wp2
        go_round
        case rel => exact ⟨i + 1, by omega, by go_num, HF⟩
        case measure => simp [intOf]; omega
    · have HF : Hid (idxI (findN ts s) = -1) := by
        show _ = _
        rw [findN_none (fun j t ht => J.out j t (by have := (List.getElem?_eq_some_iff.1 ht).1; rw [HN.out] at this; omega) ht)]
        rfl
      go_wp2
      go_ret
      exact ⟨by rw [HF.out]; rfl, HB.out.1⟩

/-- Blocks of all other types stay. -/
structure KeepF (W W' : World) : Prop where
  size : W.heap.size ≤ W'.heap.size
  loc : ∀ (b : Nat) (c : Array Value) (T : TypeId), W.heap[b]? = some (Obj.cells c T (0, 0)) → T ≠ 68 → T ≠ 50 → T ≠ 4 → T ≠ 58 → T ≠ 9 → W'.heap[b]? = some (Obj.cells c T (0, 0))

theorem KeepF.refl (W : World) : KeepF W W := ⟨Nat.le_refl _, fun _ _ _ h _ _ _ _ _ => h⟩
theorem KeepF.trans {a b c : World} (h : KeepF a b) (k : KeepF b c) : KeepF a c := ⟨Nat.le_trans h.size k.size, fun b c T hb h1 h2 h3 h4 h5 => k.loc b c T (h.loc b c T hb h1 h2 h3 h4 h5) h1 h2 h3 h4 h5⟩
theorem keepF_of_below {W W' : World} (h : Below W.heap.size W W') : KeepF W W' := ⟨h.size, fun _ _ _ hb _ _ _ _ _ => block_below h hb⟩
theorem keepF_of_kept {W W' : World} {rb : Nat} (k : Kept (One rb) W W') (hrb : Loc W rb 68) : KeepF W W' := by
  refine ⟨k.size, fun b c T hb h1 h2 h3 h4 h5 => ?_⟩
  rw [k.block b (Array.getElem?_eq_some_iff.1 hb).1 (fun e => loc_ne ⟨_, hb⟩ hrb h1 e)]
  exact hb
theorem KeepF.set {W W' : World} (k : KeepF W W') {b T : Nat} (hb : Loc W' b T) (hT : T = 68 ∨ T = 50 ∨ T = 4 ∨ T = 58 ∨ T = 9) (j : Nat) (u : Value) : KeepF W (W'.setCell ⟨b, j, none⟩ u) := by
  refine ⟨by have := k.size; simpa using this, fun b' c T' h0 h1 h2 h3 h4 h5 => ?_⟩
  have h6 := k.loc b' c T' h0 h1 h2 h3 h4 h5
  rw [Below.heap_setCell _ _ _ _ (loc_ne ⟨_, h6⟩ hb (fun e => ?_))]
  · exact h6
  · subst e
    rcases hT with e | e | e | e | e
    · exact h1 e
    · exact h2 e
    · exact h3 e
    · exact h4 e
    · exact h5 e
theorem KeepF.far {W W' : World} (k : KeepF W W') {b : Nat} (hb : W.heap.size ≤ b) (j : Nat) (u : Value) : KeepF W (W'.setCell ⟨b, j, none⟩ u) := by
  refine ⟨by have := k.size; simpa using this, fun b' c T' h0 h1 h2 h3 h4 h5 => ?_⟩
  have h6 := (Array.getElem?_eq_some_iff.1 h0).1
  rw [Below.heap_setCell _ _ _ _ (by simp only; omega)]
  exact k.loc b' c T' h0 h1 h2 h3 h4 h5

/-- One token more. -/
theorem RF.addTok {w W : World} {rb : Nat} {h : FHd} {wl : List Wd} {i : Nat} {f : Flt} {S : St} {sd : Bool} {qs : List (Ru × Option Addr × Nat)} (r : RF w W rb h wl i f S sd qs) (nm : ByteArray) (hn : S.ts.length < 40) :
    ∃ tb m c w', (Builtin.append_ #[25, 25] 25 #[.slice h.ta S.ts.length h.tc, .slice (some ⟨W.heap.size, 0, none⟩) 1 1]).run Tryz.prog (W.alloc (.cells #[.string nm, .int .i64 0, .int .i64 0] 50)) = .ok (.slice (some ⟨tb, 0, none⟩) m c) w' ∧ m = S.ts.length + 1 ∧ w'.heap[rb]? = some (.cells (rfC h wl.length i f S sd) 68 (0, 0)) ∧
      RF w (w'.setCell ⟨rb, 4, none⟩ (.slice (some ⟨tb, 0, none⟩) m c)) rb ⟨h.lb, h.lo, h.lc, some ⟨tb, 0, none⟩, c, h.ra, h.rc, h.ba, h.bc⟩ wl i f ⟨S.ws, S.ts ++ [⟨nm, 0, 0⟩], S.ls, S.lv, S.st, S.ed, S.ex, S.rs⟩ sd qs ∧ KeepF W (w'.setCell ⟨rb, 4, none⟩ (.slice (some ⟨tb, 0, none⟩) m c)) := by
  obtain ⟨i0, hi, hz0, hz1, hz2⟩ := info_parts Tryz.info50
  have hb1 := below_alloc W (.cells #[.string nm, .int .i64 0, .int .i64 0] 50)
  have g1 := r.step hb1
  have hnews : ∀ j u, (tokC [(⟨nm, 0, 0⟩ : Tk)])[j]? = some u → (W.alloc (.cells #[.string nm, .int .i64 0, .int .i64 0] 50)).cell? ((⟨W.heap.size, 0, none⟩ : Addr).add j) = some u := by
    intro j u hu
    rw [Addr.add_lit, Nat.zero_add, World.cell?_alloc_mark, ← hu]
    exact List.getElem?_toArray (xs := tokC [(⟨nm, 0, 0⟩ : Tk)]) (i := j)
  obtain ⟨v', w', hr, h2, h3, -⟩ := run_append_own (P := Tryz.prog) (W.alloc (.cells #[.string nm, .int .i64 0, .int .i64 0] 50)) w.heap.size 25 25 50 i0 _ 3 32 Tryz.underlying25 hi hz0 hz1 hz2 rfl (by decide) _ S.ts.length _ g1.tok ⟨W.heap.size, 0, none⟩ 1 1 (tokC [(⟨nm, 0, 0⟩ : Tk)]) rfl hnews
    (fun u hu => by simp [tokC] at hu; rcases hu with rfl | rfl | rfl <;> rfl) (by unfold maxLen; omega) (by omega) (by have := g1.bel.size; exact this)
  obtain ⟨ao, c, rfl, h4, h5, h6⟩ := own_slice h2
  obtain ⟨tb, rfl⟩ : ∃ tb, ao = some ⟨tb, 0, none⟩ := by
    rcases h6 with ⟨-, h6, -⟩ | h6
    · omega
    · exact h6
  have hbox : w'.heap[rb]? = some (.cells (rfC h wl.length i f S sd) 68 (0, 0)) := by
    rw [h3.block rb (Array.getElem?_eq_some_iff.1 g1.box).1 (fun e => loc_ne ⟨_, g1.box⟩ (own_loc g1.tok e.symm) (by decide) rfl)]
    exact g1.box
  have hrt : tokC (S.ts ++ [(⟨nm, 0, 0⟩ : Tk)]) = tokC S.ts ++ tokC [(⟨nm, 0, 0⟩ : Tk)] := by unfold tokC; rw [List.flatMap_append]
  have far : ∀ {E k n : Nat} {v : Value} {cs : List Value}, w'.ownsRow w.heap.size E k v n cs → E ≠ 68 → (w'.setCell ⟨rb, 4, none⟩ (.slice (some ⟨tb, 0, none⟩) (S.ts.length + 1) c)).ownsRow w.heap.size E k v n cs := by
    intro E k n v cs ho hE
    exact ownsRow_of_block ho (fun i hi => Below.heap_setCell _ _ _ _ (loc_ne (own_loc ho hi) ⟨_, hbox⟩ hE))
  refine ⟨tb, _, c, w', hr, rfl, hbox, ⟨?_, r.wds, r.at_, ?_, ?_, ?_, r.map, fun q hq => ?_, ?_, r.new, ?_⟩, ?_⟩
  · rw [setCell_eq_setRow w' rb 4 _ 68 (0, 0) _ hbox]
    have e : (rfC h wl.length i f S sd).setIfInBounds 4 (.slice (some ⟨tb, 0, none⟩) (S.ts.length + 1) c) = rfC ⟨h.lb, h.lo, h.lc, some ⟨tb, 0, none⟩, c, h.ra, h.rc, h.ba, h.bc⟩ wl.length i f ⟨S.ws, S.ts ++ [⟨nm, 0, 0⟩], S.ls, S.lv, S.st, S.ed, S.ex, S.rs⟩ sd := by
      unfold rfC
      simp
    rw [e]
    exact setRow_heap _ _ _ _ 68 _ hbox
  · refine far ?_ (by decide)
    simp only [List.length_append, List.length_cons, List.length_nil]
    rw [hrt]
    exact h2
  · exact far (own_stay g1.bls g1.tok (by decide) h3) (by decide)
  · exact far (own_stay g1.rul g1.tok (by decide) h3) (by decide)
  · exact far (own_stay (g1.row q hq) g1.tok (by decide) h3) (by decide)
  · exact (g1.bel.grown h3 (g1.bel.size) (fun k hk => (World.ownsRow.lt g1.tok k hk).1)).setCell (p := ⟨rb, 4, none⟩) r.new _
  · refine ⟨r.ok.ends, ?_, r.ok.lv, r.ok.nr⟩
    simp only [List.length_append, List.length_cons, List.length_nil]
    omega
  · have k1 : KeepF W w' := by
      refine (keepF_of_below hb1).trans ⟨h3.size, fun b c2 T hb q1 q2 q3 q4 q5 => ?_⟩
      rw [h3.block b (Array.getElem?_eq_some_iff.1 hb).1 (fun e => loc_ne ⟨_, hb⟩ (own_loc g1.tok e.symm) q2 rfl)]
      exact hb
    exact k1.set ⟨_, hbox⟩ (.inl rfl) 4 _

theorem Tryz.info4 : (Tryz.prog.info? 4).map (fun i => (i.zero, i.size, i.bytes)) = some (some (.bool false), 1, 1) := by kernel_rfl
theorem Tryz.underlying43 : Tryz.prog.underlying 43 = some (.slice 4) := by kernel_rfl

/-- One flag more. -/
theorem RF.addBol {w W : World} {rb : Nat} {h : FHd} {wl : List Wd} {i : Nat} {f : Flt} {S : St} {sd : Bool} {qs : List (Ru × Option Addr × Nat)} (r : RF w W rb h wl i f S sd qs) (hn : S.ls.length < 40) :
    ∃ tb m c w', (Builtin.append_ #[43, 43] 43 #[.slice h.ba S.ls.length h.bc, .slice (some ⟨W.heap.size, 0, none⟩) 1 1]).run Tryz.prog (W.alloc (.cells #[.bool false] 4)) = .ok (.slice (some ⟨tb, 0, none⟩) m c) w' ∧ m = S.ls.length + 1 ∧ w'.heap[rb]? = some (.cells (rfC h wl.length i f S sd) 68 (0, 0)) ∧
      RF w (w'.setCell ⟨rb, 8, none⟩ (.slice (some ⟨tb, 0, none⟩) m c)) rb ⟨h.lb, h.lo, h.lc, h.ta, h.tc, h.ra, h.rc, some ⟨tb, 0, none⟩, c⟩ wl i f ⟨S.ws, S.ts, S.ls ++ [false], S.lv, S.st, S.ed, S.ex, S.rs⟩ sd qs ∧ KeepF W (w'.setCell ⟨rb, 8, none⟩ (.slice (some ⟨tb, 0, none⟩) m c)) := by
  obtain ⟨i0, hi, hz0, hz1, hz2⟩ := info_parts Tryz.info4
  have hb1 := below_alloc W (.cells #[.bool false] 4)
  have g1 := r.step hb1
  have hnews : ∀ j u, (bolC [false])[j]? = some u → (W.alloc (.cells #[.bool false] 4)).cell? ((⟨W.heap.size, 0, none⟩ : Addr).add j) = some u := by
    intro j u hu
    rw [Addr.add_lit, Nat.zero_add, World.cell?_alloc_mark, ← hu]
    exact List.getElem?_toArray (xs := bolC [false]) (i := j)
  obtain ⟨v', w', hr, h2, h3, -⟩ := run_append_own (P := Tryz.prog) (W.alloc (.cells #[.bool false] 4)) w.heap.size 43 43 4 i0 _ 1 1 Tryz.underlying43 hi hz0 hz1 hz2 rfl (by decide) _ S.ls.length _ g1.bls ⟨W.heap.size, 0, none⟩ 1 1 (bolC [false]) rfl hnews
    (fun u hu => by simp [bolC] at hu; subst hu; rfl) (by unfold maxLen; omega) (by omega) (by have := g1.bel.size; exact this)
  obtain ⟨ao, c, rfl, h4, h5, h6⟩ := own_slice h2
  obtain ⟨tb, rfl⟩ : ∃ tb, ao = some ⟨tb, 0, none⟩ := by
    rcases h6 with ⟨-, h6, -⟩ | h6
    · omega
    · exact h6
  have hbox : w'.heap[rb]? = some (.cells (rfC h wl.length i f S sd) 68 (0, 0)) := by
    rw [h3.block rb (Array.getElem?_eq_some_iff.1 g1.box).1 (fun e => loc_ne ⟨_, g1.box⟩ (own_loc g1.bls e.symm) (by decide) rfl)]
    exact g1.box
  have hrt : bolC (S.ls ++ [false]) = bolC S.ls ++ bolC [false] := by unfold bolC; rw [List.map_append]
  have far : ∀ {E k n : Nat} {v : Value} {cs : List Value}, w'.ownsRow w.heap.size E k v n cs → E ≠ 68 → (w'.setCell ⟨rb, 8, none⟩ (.slice (some ⟨tb, 0, none⟩) (S.ls.length + 1) c)).ownsRow w.heap.size E k v n cs := by
    intro E k n v cs ho hE
    exact ownsRow_of_block ho (fun i hi => Below.heap_setCell _ _ _ _ (loc_ne (own_loc ho hi) ⟨_, hbox⟩ hE))
  refine ⟨tb, _, c, w', hr, rfl, hbox, ⟨?_, r.wds, r.at_, ?_, ?_, ?_, r.map, fun q hq => ?_, ?_, r.new, ⟨r.ok.ends, r.ok.nt, r.ok.lv, r.ok.nr⟩⟩, ?_⟩
  · rw [setCell_eq_setRow w' rb 8 _ 68 (0, 0) _ hbox]
    have e : (rfC h wl.length i f S sd).setIfInBounds 8 (.slice (some ⟨tb, 0, none⟩) (S.ls.length + 1) c) = rfC ⟨h.lb, h.lo, h.lc, h.ta, h.tc, h.ra, h.rc, some ⟨tb, 0, none⟩, c⟩ wl.length i f ⟨S.ws, S.ts, S.ls ++ [false], S.lv, S.st, S.ed, S.ex, S.rs⟩ sd := by
      unfold rfC
      simp
    rw [e]
    exact setRow_heap _ _ _ _ 68 _ hbox
  · exact far (own_stay g1.tok g1.bls (by decide) h3) (by decide)
  · refine far ?_ (by decide)
    simp only [List.length_append, List.length_cons, List.length_nil]
    rw [hrt]
    exact h2
  · exact far (own_stay g1.rul g1.bls (by decide) h3) (by decide)
  · exact far (own_stay (g1.row q hq) g1.bls (by decide) h3) (by decide)
  · exact (g1.bel.grown h3 (g1.bel.size) (fun k hk => (World.ownsRow.lt g1.bls k hk).1)).setCell (p := ⟨rb, 8, none⟩) r.new _
  · have k1 : KeepF W w' := by
      refine (keepF_of_below hb1).trans ⟨h3.size, fun b c2 T hb q1 q2 q3 q4 q5 => ?_⟩
      rw [h3.block b (Array.getElem?_eq_some_iff.1 hb).1 (fun e => loc_ne ⟨_, hb⟩ (own_loc g1.bls e.symm) q3 rfl)]
      exact hb
    exact k1.set ⟨_, hbox⟩ (.inl rfl) 8 _

/-- A token that was read. -/
theorem RF.tokAt {w W : World} {rb : Nat} {h : FHd} {wl : List Wd} {i : Nat} {f : Flt} {S : St} {sd : Bool} {qs : List (Ru × Option Addr × Nat)} (r : RF w W rb h wl i f S sd qs) {k : Nat} {t : Tk} (ht : S.ts[k]? = some t) :
    ∃ tb, h.ta = some ⟨tb, 0, none⟩ ∧ W.cell? ⟨tb, k * 3, none⟩ = some (.string t.n) ∧ W.cell? ⟨tb, k * 3 + 1, none⟩ = some (.int .i64 t.l) ∧ W.cell? ⟨tb, k * 3 + 2, none⟩ = some (.int .i64 t.a) ∧ (∀ j, W.frozen? ⟨tb, j, none⟩ = false) := by
  have hk : k < S.ts.length := (List.getElem?_eq_some_iff.1 ht).1
  obtain ⟨tb, hta⟩ : ∃ tb, h.ta = some ⟨tb, 0, none⟩ := by
    obtain ⟨ao, c, e, h1, h2, h3⟩ := own_slice r.tok
    cases e
    rcases h3 with ⟨-, h3, -⟩ | ⟨tb, h3⟩
    · omega
    · exact ⟨tb, h3⟩
  have ho := r.tok
  rw [hta] at ho
  have cell : ∀ j u, (tokC S.ts)[j]? = some u → W.cell? ⟨tb, j, none⟩ = some u := fun j u hu => by
    have := World.ownsRow.cells ho (g := tb) rfl j u hu
    rwa [Addr.add_lit, Nat.zero_add] at this
  have fz : ∀ j, W.frozen? ⟨tb, j, none⟩ = false := by
    rcases ho.2 with ⟨hv, -⟩ | ⟨g', cap', cur, hv, hb, hh, -⟩
    · cases hv
    · cases hv
      exact fun j => frozen_block hh j
  refine ⟨tb, hta, cell _ _ ?_, cell _ _ ?_, cell _ _ ?_, fz⟩
  · have := three_at (fun t : Tk => [.string t.n, .int .i64 t.l, .int .i64 t.a]) (fun _ => rfl) S.ts k t 0 ht (by omega)
    rw [Nat.add_zero] at this
    exact this
  · exact three_at (fun t : Tk => [.string t.n, .int .i64 t.l, .int .i64 t.a]) (fun _ => rfl) S.ts k t 1 ht (by omega)
  · exact three_at (fun t : Tk => [.string t.n, .int .i64 t.l, .int .i64 t.a]) (fun _ => rfl) S.ts k t 2 ht (by omega)

/-- A flag. -/
theorem RF.bolAt {w W : World} {rb : Nat} {h : FHd} {wl : List Wd} {i : Nat} {f : Flt} {S : St} {sd : Bool} {qs : List (Ru × Option Addr × Nat)} (r : RF w W rb h wl i f S sd qs) {k : Nat} {b : Bool} (ht : S.ls[k]? = some b) :
    ∃ tb, h.ba = some ⟨tb, 0, none⟩ ∧ W.cell? ⟨tb, k, none⟩ = some (.bool b) ∧ (∀ j, W.frozen? ⟨tb, j, none⟩ = false) := by
  have hk : k < S.ls.length := (List.getElem?_eq_some_iff.1 ht).1
  obtain ⟨tb, hta⟩ : ∃ tb, h.ba = some ⟨tb, 0, none⟩ := by
    obtain ⟨ao, c, e, h1, h2, h3⟩ := own_slice r.bls
    cases e
    rcases h3 with ⟨-, h3, -⟩ | ⟨tb, h3⟩
    · omega
    · exact ⟨tb, h3⟩
  have ho := r.bls
  rw [hta] at ho
  have cell : ∀ j u, (bolC S.ls)[j]? = some u → W.cell? ⟨tb, j, none⟩ = some u := fun j u hu => by
    have := World.ownsRow.cells ho (g := tb) rfl j u hu
    rwa [Addr.add_lit, Nat.zero_add] at this
  have fz : ∀ j, W.frozen? ⟨tb, j, none⟩ = false := by
    rcases ho.2 with ⟨hv, -⟩ | ⟨g', cap', cur, hv, hb, hh, -⟩
    · cases hv
    · cases hv
      exact fun j => frozen_block hh j
  exact ⟨tb, hta, cell _ _ (by unfold bolC; rw [List.getElem?_map, ht]; rfl), fz⟩

/-- A token's cell is stored into. -/
theorem RF.setTok {w W : World} {rb tb : Nat} {h : FHd} {wl : List Wd} {i : Nat} {f : Flt} {S : St} {sd : Bool} {qs : List (Ru × Option Addr × Nat)} (r : RF w W rb h wl i f S sd qs) (hta : h.ta = some ⟨tb, 0, none⟩) {k j : Nat} {t t' : Tk} (ht : S.ts[k]? = some t) (hj : j < 3) (u : Value)
    (hc : ([.string t.n, .int .i64 t.l, .int .i64 t.a] : List Value).set j u = [.string t'.n, .int .i64 t'.l, .int .i64 t'.a]) :
    RF w (W.setCell ⟨tb, k * 3 + j, none⟩ u) rb h wl i f ⟨S.ws, S.ts.set k t', S.ls, S.lv, S.st, S.ed, S.ex, S.rs⟩ sd qs ∧ KeepF W (W.setCell ⟨tb, k * 3 + j, none⟩ u) := by
  have ho := r.tok
  rw [hta] at ho
  have hl : Loc W tb 50 := own_loc ho rfl
  have far : ∀ {E k' n : Nat} {v : Value} {cs : List Value}, W.ownsRow w.heap.size E k' v n cs → E ≠ 50 → (W.setCell ⟨tb, k * 3 + j, none⟩ u).ownsRow w.heap.size E k' v n cs := by
    intro E k' n v cs ho hE
    exact ownsRow_of_block ho (fun i hi => Below.heap_setCell _ _ _ _ (loc_ne (own_loc ho hi) hl hE))
  refine ⟨⟨?_, r.wds, r.at_, ?_, far r.bls (by decide), far r.rul (by decide), r.map, fun q hq => far (r.row q hq) (by decide), ?_, r.new, ?_⟩, (KeepF.refl W).set hl (.inr (.inl rfl)) _ _⟩
  · rw [Below.heap_setCell _ _ _ _ (loc_ne ⟨_, r.box⟩ hl (by decide)), r.box]
    unfold rfC
    simp only [List.length_set]
  · have h1 := own_set (u := u) (j := k * 3 + j) ho
    have h2 : (tokC S.ts).set (k * 3 + j) u = tokC (S.ts.set k t') := three_set _ (fun _ => rfl) t' j u S.ts k t ht hj hc
    rw [h2] at h1
    simp only [List.length_set]
    rw [hta]
    exact h1
  · exact r.bel.setCell (p := ⟨tb, k * 3 + j, none⟩) (World.ownsRow.lt ho tb rfl).1 _
  · exact ⟨r.ok.ends, by simp only [List.length_set]; exact r.ok.nt, r.ok.lv, r.ok.nr⟩

/-- A flag is stored into. -/
theorem RF.setBol {w W : World} {rb tb : Nat} {h : FHd} {wl : List Wd} {i : Nat} {f : Flt} {S : St} {sd : Bool} {qs : List (Ru × Option Addr × Nat)} (r : RF w W rb h wl i f S sd qs) (hta : h.ba = some ⟨tb, 0, none⟩) {k : Nat} (b : Bool) :
    RF w (W.setCell ⟨tb, k, none⟩ (.bool b)) rb h wl i f ⟨S.ws, S.ts, S.ls.set k b, S.lv, S.st, S.ed, S.ex, S.rs⟩ sd qs ∧ KeepF W (W.setCell ⟨tb, k, none⟩ (.bool b)) := by
  have ho := r.bls
  rw [hta] at ho
  have hl : Loc W tb 4 := own_loc ho rfl
  have far : ∀ {E k' n : Nat} {v : Value} {cs : List Value}, W.ownsRow w.heap.size E k' v n cs → E ≠ 4 → (W.setCell ⟨tb, k, none⟩ (.bool b)).ownsRow w.heap.size E k' v n cs := by
    intro E k' n v cs ho hE
    exact ownsRow_of_block ho (fun i hi => Below.heap_setCell _ _ _ _ (loc_ne (own_loc ho hi) hl hE))
  refine ⟨⟨?_, r.wds, r.at_, far r.tok (by decide), ?_, far r.rul (by decide), r.map, fun q hq => far (r.row q hq) (by decide), ?_, r.new, ⟨r.ok.ends, r.ok.nt, r.ok.lv, r.ok.nr⟩⟩, (KeepF.refl W).set hl (.inr (.inr (.inl rfl))) _ _⟩
  · rw [Below.heap_setCell _ _ _ _ (loc_ne ⟨_, r.box⟩ hl (by decide)), r.box]
    unfold rfC
    simp only [List.length_set]
  · have h1 := own_set (u := .bool b) (j := k) ho
    have h2 : (bolC S.ls).set k (.bool b) = bolC (S.ls.set k b) := by unfold bolC; rw [List.map_set]
    rw [h2] at h1
    simp only [List.length_set]
    rw [hta]
    exact h1
  · exact r.bel.setCell (p := ⟨tb, k, none⟩) (World.ownsRow.lt ho tb rfl).1 _

end Go.Proofs.YtkaojokhdleeiaaGreatDoor

/-
  The walk of the reference's name.
-/
namespace Go.Proofs.YtkaojokhdleeiaaGreatDoor
open Go.RowKit

set_option maxRecDepth 20000

/-- One name is read: in a %token, or in a level. -/
def sayP (l a : Int) (x : Wd) (S : St) : Except Flt St := if l = 0 then listP x S else levP l a x S
def oneP (l a : Int) (S : St) : Except Flt St :=
  match takeP 1 S with
  | .error e => .error e
  | .ok (x, S1) => sayP l a x S1

/-- Flags as many as tokens; no level below nought. -/
def InvT (S : St) : Prop := S.ls.length = S.ts.length ∧ ∀ t ∈ S.ts, 0 ≤ t.l

/-- What a call that reads leaves: the state, or the fault. -/
def NDid (w W : World) (rb : Nat) (wl : List Wd) (sd : Bool) (qs : List (Ru × Option Addr × Nat)) (R : Except Flt St) (W' : World) : Prop :=
  KeepF W W' ∧ (∀ S', R = .ok S' → (∃ h' i', RF w W' rb h' wl i' (0, 0) S' sd qs) ∧ InvT S') ∧ (∀ g, R = .error g → ∃ h' i' S', RF w W' rb h' wl i' g S' sd qs)

theorem NDid.bad {w W W' : World} {rb : Nat} {wl : List Wd} {sd : Bool} {qs : List (Ru × Option Addr × Nat)} {R : Except Flt St} {h' : FHd} {i' : Nat} {S' : St} {g : Flt} (k : KeepF W W') (r : RF w W' rb h' wl i' g S' sd qs) (e : R = .error g) : NDid w W rb wl sd qs R W' :=
  ⟨k, fun S1 h1 => (by rw [e] at h1; cases h1), fun g1 h1 => (by rw [e] at h1; cases h1; exact ⟨h', i', S', r⟩)⟩

theorem NDid.good {w W W' : World} {rb : Nat} {wl : List Wd} {sd : Bool} {qs : List (Ru × Option Addr × Nat)} {R : Except Flt St} {h' : FHd} {i' : Nat} {S' : St} (k : KeepF W W') (r : RF w W' rb h' wl i' (0, 0) S' sd qs) (v : InvT S') (e : R = .ok S') : NDid w W rb wl sd qs R W' :=
  ⟨k, fun S1 h1 => (by rw [e] at h1; cases h1; exact ⟨⟨h', i', r⟩, v⟩), fun g1 h1 => (by rw [e] at h1; cases h1)⟩

theorem invT_add {S : St} (v : InvT S) (nm : ByteArray) : InvT ⟨S.ws, S.ts ++ [⟨nm, 0, 0⟩], S.ls ++ [false], S.lv, S.st, S.ed, S.ex, S.rs⟩ := by
  refine ⟨?_, fun t ht => ?_⟩
  · have := v.1
    simp only [List.length_append, List.length_cons, List.length_nil]
    omega
  · simp only at ht
    rcases List.mem_append.1 ht with h | h
    · exact v.2 t h
    · rw [List.mem_singleton] at h
      subst h
      exact Int.le_refl 0

theorem sayP_bad {l a : Int} {x : Wd} {S : St} {f : Flt} (h : tokP x S = .error f) : sayP l a x S = .error f := by
  unfold sayP
  split
  · unfold listP
    rw [h]
  · unfold levP
    rw [h]

set_option maxHeartbeats 8000000 in
theorem rfName_calls (l a : Int) (hl0 : 0 ≤ l) (w W : World) (rb : Nat) (h : FHd) (wl : List Wd) (i : Nat) (S : St) (sd : Bool) (qs : List (Ru × Option Addr × Nat)) (r : RF w W rb h wl i (0, 0) S sd qs) (hv : InvT S) :
    Calls Tryz.prog 85 #[.pointer (some ⟨rb, 0, none⟩), .int .i64 l, .int .i64 a] W fun e W' => e = .returned (.tuple #[]) ∧ NDid w W rb wl sd qs (oneP l a S) W' := by
  have HT : Hid (Calls Tryz.prog 51 #[.pointer (some ⟨rb, 0, none⟩), .int .i64 1] W fun e W' => e = .returned (wv S.hd) ∧ Took w W rb h wl i (0, 0) S sd qs 1 W') := rfTake_calls 1 (by decide) w W rb h wl i (0, 0) S sd qs r
  have HRL : Hid (Loc W rb 68) := ⟨_, r.box⟩
  have HV : Hid (InvT S) := hv
  have HWW : Hid (w.heap.size ≤ W.heap.size) := r.bel.size
  have HL0 : Hid (0 ≤ l) := hl0
  clear r hv
  obtain ⟨R, hR⟩ : ∃ R, oneP l a S = R := ⟨_, rfl⟩
  have HRR : Hid (oneP l a S = R) := hR
  rw [hR]
  clear hR
  generalize hx : S.hd = x at *
  obtain ⟨xk, xt, xa⟩ := x
  have HX : Hid (S.hd = ⟨xk, xt, xa⟩) := hx
  unfold wv at HT
  simp only at HT
  clear hx hl0
  go_enter Tryz.func85, Tryz.ntmps85
  go_wp2_with fail
  refine HT.out.mono ?_
  rintro e W1 ⟨rfl, hk, -, ht2, ht3⟩
  have b0 := heap_alloc_new W1 (.cells #[.int .i64 xk, .string xt, .int .i64 xa] 35)
  have hB := below_alloc W1 (.cells #[.int .i64 xk, .string xt, .int .i64 xa] 35)
  have HK1 : Hid (KeepF W (W1.alloc (.cells #[.int .i64 xk, .string xt, .int .i64 xa] 35))) := (keepF_of_kept hk HRL.out).trans (keepF_of_below hB)
  go_upto_region 1 with fail
  by_cases hk1 : xk = 1
  · have r1 := (ht2 (by trivial) (by rw [HX.out]; exact hk1)).step hB
    have HNP : Hid (R = sayP l a ⟨xk, xt, xa⟩ S.next) := by
      show _ = _
      rw [← HRR.out]
      unfold oneP takeP
      rw [HX.out, if_pos hk1]
    have HV1 : Hid (InvT S.next) := HV.out
    obtain ⟨tb, htb⟩ : ∃ tb, tb = W1.heap.size := ⟨_, rfl⟩
    rw [← htb] at b0 ⊢
    generalize W1.alloc (.cells #[.int .i64 xk, .string xt, .int .i64 xa] 35) = W2 at *
    clear ht2 ht3 hk hB HT HRR HX HV
    generalize S.next = S1 at *
    have HR2 : Hid (RF w W2 rb h wl (i + 1) (0, 0) S1 sd qs) := r1
    have HB0 : Hid (W2.heap[tb]? = some (.cells #[.int .i64 xk, .string xt, .int .i64 xa] 35 (0, 0))) := b0
    have c2 : W2.cell? ⟨rb, 2, none⟩ = some (.int .i64 0) := by rw [cell_block r1.box]; rfl
    have c4 : W2.cell? ⟨rb, 4, none⟩ = some (.slice h.ta S1.ts.length h.tc) := by rw [cell_block r1.box]; rfl
    have c5 : W2.cell? ⟨rb, 5, none⟩ = some (.string S1.st) := by rw [cell_block r1.box]; rfl
    have c6 : W2.cell? ⟨rb, 6, none⟩ = some (.int .i64 S1.ex) := by rw [cell_block r1.box]; rfl
    have c7 : W2.cell? ⟨rb, 7, none⟩ = some (.slice h.ra S1.rs.length h.rc) := by rw [cell_block r1.box]; rfl
    have c1 : W2.cell? ⟨tb, 1, none⟩ = some (.string xt) := (box35 b0).2.1
    have g4 := cell_onto c4
    have g5 := cell_onto c5
    have g6 := cell_onto c6
    have g7 := cell_onto c7
    have g1 := cell_onto c1
    have HC : Hid (∀ n os, Calls Tryz.prog 37 #[.agg #[.slice h.ta S1.ts.length h.tc, .string S1.st, .int .i64 S1.ex, .slice h.ra S1.rs.length h.rc], .string xt] (onto W2 n os) fun e w' => e = .returned (.int .i64 (idxI (findN S1.ts xt))) ∧ Below (onto W2 n os).heap.size (onto W2 n os) w') := fun n os => rtokF_calls _ _ _ _ _ _ _ _ _ ((Row.of_own HR2.out.tok).below (onto_below W2 n os)) xt
    clear r1 b0 c4 c5 c6 c7 c1 htb
    go_upto_region 2 with fail
    refine wp_region_onto (by kernel_rfl) ?_
    repeat (go_big_quiet_step (first | (go_at_call 37; exact calls_onto (HC.out _ _))))
    refine wpQuiet_nil ?_
    intro _ hwq
    obtain ⟨⟨nq, osq⟩, hwe⟩ := hwq
    subst hwe
    simp only
    have HR3 : Hid (RF w (onto W2 nq osq) rb h wl (i + 1) (0, 0) S1 sd qs ∧ KeepF W (onto W2 nq osq) ∧ (onto W2 nq osq).heap[tb]? = some (.cells #[.int .i64 xk, .string xt, .int .i64 xa] 35 (0, 0))) := ⟨HR2.out.step (onto_below _ _ _), HK1.out.trans (keepF_of_below (onto_below _ _ _)), block_below (onto_below _ _ _) HB0.out⟩
    generalize onto W2 nq osq = W3 at *
    clear g1 g4 g5 g6 g7 HC HR2 HK1 HB0 c2
    obtain ⟨q, hq⟩ : ∃ q, idxI (findN S1.ts xt) = q := ⟨_, rfl⟩
    have HQ : Hid (idxI (findN S1.ts xt) = q) := hq
    rw [hq]
    clear hq
    go_upto_if 24 with fail
    go_cut [7] (fun s7 wd => ∃ k : Nat, s7 = .int .i64 k ∧ Hid (∃ h2 S2 u b, RF w wd rb h2 wl (i + 1) (0, 0) S2 sd qs ∧ KeepF W wd ∧ wd.heap[tb]? = some (.cells #[.int .i64 xk, .string xt, .int .i64 xa] 35 (0, 0)) ∧ tokP ⟨xk, xt, xa⟩ S1 = .ok (k, S2) ∧ S2.ts[k]? = some u ∧ S2.ls[k]? = some b ∧ InvT S2))
    case first =>
      cases hf : findN S1.ts xt with
      | some k =>
        have hqk : (k : Int) = q := by rw [← HQ.out, hf]; rfl
        subst hqk
        obtain ⟨u, hu, -⟩ := findN_lt hf
        have hkl : k < S1.ls.length := by have := (List.getElem?_eq_some_iff.1 hu).1; have := HV1.out.1; omega
        have HF : Hid (∃ h2 S2 u b, RF w W3 rb h2 wl (i + 1) (0, 0) S2 sd qs ∧ KeepF W W3 ∧ W3.heap[tb]? = some (.cells #[.int .i64 xk, .string xt, .int .i64 xa] 35 (0, 0)) ∧ tokP ⟨xk, xt, xa⟩ S1 = .ok (k, S2) ∧ S2.ts[k]? = some u ∧ S2.ls[k]? = some b ∧ InvT S2) := by
          refine ⟨h, S1, u, S1.ls[k], HR3.out.1, HR3.out.2.1, HR3.out.2.2, ?_, hu, List.getElem?_eq_getElem hkl, HV1.out⟩
          unfold tokP
          simp only [hf]
        clear hf hu hkl
        go_wp2_with fail
        go_meet
        exact ⟨k, rfl, HF⟩
      | none =>
        have hqk : (-1 : Int) = q := by rw [← HQ.out, hf]; rfl
        subst hqk
        obtain ⟨n, hn⟩ : ∃ n, S1.ts.length = n := ⟨_, rfl⟩
        have HN : Hid (S1.ts.length = n) := hn
        have hn40 : n ≤ 40 := by rw [← hn]; exact HR3.out.1.ok.nt
        have c4 : W3.cell? ⟨rb, 4, none⟩ = some (.slice h.ta n h.tc) := by rw [← hn, cell_block HR3.out.1.box]; rfl
        obtain ⟨-, p1, p2⟩ := box35 HR3.out.2.2
        by_cases h40 : n = 40
        · have hlen : ((n : Int) == 40) = true := by simp [h40]
          have HF : Hid (R = .error (1, xa)) := by
            show _ = _
            rw [HNP.out]
            refine sayP_bad ?_
            unfold tokP
            simp only [hf, hn, h40, if_true]
            rfl
          clear hf hn h40 p1
          go_wp2_with fail
          refine (rfFault_calls 1 xa w W3 rb h wl (i + 1) (0, 0) S1 sd qs HR3.out.1).mono ?_
          rintro e W4 ⟨rfl, hW4⟩
          have HW4 : Hid (RF w W4 rb h wl (i + 1) (1, xa) S1 sd qs ∧ KeepF W W4) := by
            rw [hW4]
            exact ⟨HR3.out.1.fail 1 xa, (HR3.out.2.1.set ⟨_, HR3.out.1.box⟩ (.inl rfl) 2 _).set (Loc.set ⟨_, HR3.out.1.box⟩ _ _ _) (.inl rfl) 3 _⟩
          clear hW4
          go_wp2_with fail
          refine bodyPost_ret (results_none rfl _ _ _) rfl ?_
          exact ⟨rfl, NDid.bad HW4.out.2 HW4.out.1 HF.out⟩
        · have hlen : ((n : Int) == 40) = false := by simp; omega
          have hlt : S1.ts.length < 40 := by omega
          have HF : Hid (tokP ⟨xk, xt, xa⟩ S1 = .ok (n, ⟨S1.ws, S1.ts ++ [⟨xt, 0, 0⟩], S1.ls ++ [false], S1.lv, S1.st, S1.ed, S1.ex, S1.rs⟩)) := by
            show _ = _
            unfold tokP
            simp only [hf, hn]
            rw [if_neg h40]
          obtain ⟨ub, m, c, W4, hrun, hm, hbox, hrd, hkp⟩ := (HR3.out.1.step (below_drew' W3)).addTok xt hlt
          rw [hn] at hrun hm
          have hrun2 : (Builtin.append_ #[25, 25] 25 #[.slice h.ta n h.tc, .slice (some ⟨W3.heap.size, 0, none⟩) 1 1]).run Tryz.prog (W3.alloc (.cells #[.string xt, .int .i64 0, .int .i64 0] 50)).drew = .ok (.slice (some ⟨ub, 0, none⟩) m c) W4 := hrun
          have d4 : W4.cell? ⟨rb, 4, none⟩ = some (.slice h.ta n h.tc) := by rw [← hn, cell_block hbox]; rfl
          have f4 : W4.frozen? ⟨rb, 4, none⟩ = false := frozen_block hbox 4
          have HD : Hid (RF w (W4.setCell ⟨rb, 4, none⟩ (.slice (some ⟨ub, 0, none⟩) m c)) rb ⟨h.lb, h.lo, h.lc, some ⟨ub, 0, none⟩, c, h.ra, h.rc, h.ba, h.bc⟩ wl (i + 1) (0, 0) ⟨S1.ws, S1.ts ++ [⟨xt, 0, 0⟩], S1.ls, S1.lv, S1.st, S1.ed, S1.ex, S1.rs⟩ sd qs ∧ KeepF W3 (W4.setCell ⟨rb, 4, none⟩ (.slice (some ⟨ub, 0, none⟩) m c))) := ⟨hrd, hkp.size, hkp.loc⟩
          subst hm
          have p1' := cell_alloc p1 (.cells #[.string xt, .int .i64 0, .int .i64 0] 50)
          have c4' := cell_alloc c4 (.cells #[.string xt, .int .i64 0, .int .i64 0] 50)
          clear hrun hrd hkp hbox p2 hf h40 hn
          go_upto_region 7 with fail
          go_cut [7] (fun s7 wd => s7 = .int .i64 n ∧ Hid (RF w wd rb ⟨h.lb, h.lo, h.lc, some ⟨ub, 0, none⟩, c, h.ra, h.rc, h.ba, h.bc⟩ wl (i + 1) (0, 0) ⟨S1.ws, S1.ts ++ [⟨xt, 0, 0⟩], S1.ls, S1.lv, S1.st, S1.ed, S1.ex, S1.rs⟩ sd qs ∧ KeepF W3 wd))
          case first =>
            go_region_law (refine step_append_told rfl (.tmp 47) (.tmp 51) rfl rfl (by simp [Act.eval]) (by simp [Act.eval]) hrun2 ?_)
            all_goals (go_wp2_with fail; go_meet; exact ⟨rfl, HD⟩)
          case rest =>
            obtain ⟨rfl, hcut⟩ := hcut
            obtain ⟨W5, hW5⟩ : ∃ W5, W5 = wc := ⟨_, rfl⟩
            subst wc
            have HD5 : Hid (RF w W5 rb ⟨h.lb, h.lo, h.lc, some ⟨ub, 0, none⟩, c, h.ra, h.rc, h.ba, h.bc⟩ wl (i + 1) (0, 0) ⟨S1.ws, S1.ts ++ [⟨xt, 0, 0⟩], S1.ls, S1.lv, S1.st, S1.ed, S1.ex, S1.rs⟩ sd qs ∧ KeepF W3 W5) := hcut
            clear hcut HD d4 f4 p1 p1' c4 c4' hrun2
            obtain ⟨vb, m2, c2, W6, hr8, hm2, hbox8, hrd8, hkp8⟩ := HD5.out.1.addBol (by simp only; have := HV1.out.1; omega)
            simp only at hr8 hm2 hrd8
            have c8 : W5.cell? ⟨rb, 8, none⟩ = some (.slice h.ba S1.ls.length h.bc) := by rw [cell_block HD5.out.1.box]; rfl
            have c8' := cell_alloc c8 (.cells #[.bool false] 4)
            have d8 : W6.cell? ⟨rb, 8, none⟩ = some (.slice h.ba S1.ls.length h.bc) := by rw [cell_block hbox8]; rfl
            have f8 : W6.frozen? ⟨rb, 8, none⟩ = false := frozen_block hbox8 8
            have HZ : Hid (∃ h2 S2 u b, RF w (W6.setCell ⟨rb, 8, none⟩ (.slice (some ⟨vb, 0, none⟩) m2 c2)) rb h2 wl (i + 1) (0, 0) S2 sd qs ∧ KeepF W (W6.setCell ⟨rb, 8, none⟩ (.slice (some ⟨vb, 0, none⟩) m2 c2)) ∧ (W6.setCell ⟨rb, 8, none⟩ (.slice (some ⟨vb, 0, none⟩) m2 c2)).heap[tb]? = some (.cells #[.int .i64 xk, .string xt, .int .i64 xa] 35 (0, 0)) ∧ tokP ⟨xk, xt, xa⟩ S1 = .ok (n, S2) ∧ S2.ts[n]? = some u ∧ S2.ls[n]? = some b ∧ InvT S2) := by
              have hk2 := HD5.out.2.trans hkp8
              refine ⟨_, _, ⟨xt, 0, 0⟩, false, hrd8, HR3.out.2.1.trans hk2, hk2.loc _ _ _ HR3.out.2.2 (by decide) (by decide) (by decide) (by decide) (by decide), HF.out, ?_, ?_, invT_add HV1.out xt⟩
              · simp only
                rw [← HN.out, List.getElem?_append_right (Nat.le_refl _), Nat.sub_self]
                rfl
              · simp only
                rw [← HN.out, ← HV1.out.1, List.getElem?_append_right (Nat.le_refl _), Nat.sub_self]
                rfl
            clear hrd8 hkp8 hbox8 HD5 hm2
            go_wp2_with (at_builtin; refine Lib.wpList_append_run _ rfl _ _ _ _ rfl _ _ rfl rfl _ _ hr8 ?_)
            go_meet
            exact ⟨n, rfl, HZ⟩
    case rest =>
      obtain ⟨k, rfl, HJ⟩ := hcut
      obtain ⟨W4, hW4⟩ : ∃ W4, W4 = wc := ⟨_, rfl⟩
      subst wc
      obtain ⟨h2, S2, u, b, r4, hk4, hb4, htok, hu, hbl, hv2⟩ := HJ.out
      obtain ⟨-, -, p2⟩ := box35 hb4
      have hku : k < S2.ts.length := (List.getElem?_eq_some_iff.1 hu).1
      have hkb : k < S2.ls.length := (List.getElem?_eq_some_iff.1 hbl).1
      have H4 : Hid (RF w W4 rb h2 wl (i + 1) (0, 0) S2 sd qs ∧ KeepF W W4 ∧ InvT S2) := ⟨r4, hk4, hv2⟩
      have htl := r4.ok.nt
      have hll : S2.ls.length ≤ 40 := by rw [hv2.1]; exact htl
      by_cases hl : l = 0
      · have hq : (l == 0) = true := by simp [hl]
        have HRS : Hid (R = if b = true then .error (7, xa) else .ok ⟨S2.ws, S2.ts, S2.ls.set k true, S2.lv, S2.st, S2.ed, S2.ex, S2.rs⟩) := by
          show _ = _
          rw [HNP.out]
          unfold sayP listP
          rw [if_pos hl, htok]
          simp only [hbl, Option.getD_some]
          rfl
        obtain ⟨bb, hba, cb, fz⟩ := r4.bolAt hbl
        have c8 : W4.cell? ⟨rb, 8, none⟩ = some (.slice (some ⟨bb, 0, none⟩) S2.ls.length h2.bc) := by rw [← hba, cell_block r4.box]; rfl
        have hbc : S2.ls.length ≤ h2.bc ∧ h2.bc ≤ 9223372036854775807 := by
          obtain ⟨ao, c, e, h1, h2, h3⟩ := own_slice r4.bls
          cases e
          unfold maxLen at h2
          omega
        have fk := fz k
        have HBA : Hid (h2.ba = some ⟨bb, 0, none⟩ ∧ Loc W4 bb 4) := ⟨hba, own_loc (by have := r4.bls; rw [hba] at this; exact this) rfl⟩
        generalize hn : S2.ls.length = n at *
        have hk' : (k : Int) < (n : Int) := by omega
        have HN : Hid (S2.ls.length = n) := hn
        have HLR : Hid (bb ≠ rb) := loc_ne HBA.out.2 ⟨_, r4.box⟩ (by decide)
        clear HJ r4 hk4 hb4 htok hu hbl hv2 fz hba hl hn htl hku
        cases b
        · have HF : Hid (R = .ok ⟨S2.ws, S2.ts, S2.ls.set k true, S2.lv, S2.st, S2.ed, S2.ex, S2.rs⟩) := by
            show _ = _
            have := HRS.out
            simpa using this
          clear HRS
          go_wp2_with fail
          refine bodyPost_ret (results_none rfl _ _ _) rfl ?_
          have hs := H4.out.1.setBol HBA.out.1 (k := k) true
          refine ⟨rfl, NDid.good (H4.out.2.1.trans hs.2) hs.1 ⟨?_, H4.out.2.2.2⟩ HF.out⟩
          simp only [List.length_set]
          exact H4.out.2.2.1
        · have HF : Hid (R = .error (7, xa)) := by
            show _ = _
            have := HRS.out
            simpa using this
          clear HRS
          go_wp2_with fail
          refine (rfFault_calls 7 xa w W4 rb h2 wl (i + 1) (0, 0) S2 sd qs H4.out.1).mono ?_
          rintro e W5 ⟨rfl, hW5⟩
          have hr5 : RF w W5 rb h2 wl (i + 1) (7, xa) S2 sd qs ∧ KeepF W W5 ∧ Loc W5 bb 4 := by
            rw [hW5]
            exact ⟨H4.out.1.fail 7 xa, (H4.out.2.1.set ⟨_, H4.out.1.box⟩ (.inl rfl) 2 _).set (Loc.set ⟨_, H4.out.1.box⟩ _ _ _) (.inl rfl) 3 _, (HBA.out.2.set _ _ _).set _ _ _⟩
          have H5 : Hid (RF w W5 rb h2 wl (i + 1) (7, xa) S2 sd qs ∧ KeepF W W5) := ⟨hr5.1, hr5.2.1⟩
          clear c8 fk cb
          have c8 : W5.cell? ⟨rb, 8, none⟩ = some (.slice (some ⟨bb, 0, none⟩) n h2.bc) := by rw [← HN.out, ← HBA.out.1, cell_block hr5.1.box]; rfl
          obtain ⟨c0, hc0⟩ := hr5.2.2
          have fk : W5.frozen? ⟨bb, k, none⟩ = false := frozen_block hc0 k
          obtain ⟨v0, ck⟩ : ∃ v0, W5.cell? ⟨bb, k, none⟩ = some v0 := by
            have ho := hr5.1.bls
            rw [HBA.out.1] at ho
            obtain ⟨b2, hb2⟩ : ∃ b2, S2.ls[k]? = some b2 := ⟨_, List.getElem?_eq_getElem (by rw [HN.out]; omega)⟩
            have := World.ownsRow.cells ho (g := bb) rfl k (.bool b2) (by unfold bolC; rw [List.getElem?_map, hb2]; rfl)
            rw [Addr.add_lit, Nat.zero_add] at this
            exact ⟨_, this⟩
          clear hr5 hW5 hc0
          go_wp2_with fail
          refine bodyPost_ret (results_none rfl _ _ _) rfl ?_
          have hs := H5.out.1.setBol HBA.out.1 (k := k) true
          exact ⟨rfl, NDid.bad (H5.out.2.trans hs.2) hs.1 HF.out⟩
      · have hq : (l == 0) = false := by simp [hl]
        have HRS : Hid (R = if u.l ≠ 0 then .error (7, xa) else .ok ⟨S2.ws, S2.ts.set k ⟨u.n, l, a⟩, S2.ls, S2.lv, S2.st, S2.ed, S2.ex, S2.rs⟩) := by
          show _ = _
          rw [HNP.out]
          unfold sayP levP
          rw [if_neg hl, htok]
          simp only [tkAt, hu, Option.getD_some]
          rfl
        obtain ⟨ub, hta, ct0, ct1, ct2, fz⟩ := r4.tokAt hu
        have c4 : W4.cell? ⟨rb, 4, none⟩ = some (.slice (some ⟨ub, 0, none⟩) S2.ts.length h2.tc) := by rw [← hta, cell_block r4.box]; rfl
        have hbc : S2.ts.length ≤ h2.tc ∧ h2.tc ≤ 9223372036854775807 := by
          obtain ⟨ao, c, e, h1, h2, h3⟩ := own_slice r4.tok
          cases e
          unfold maxLen at h2
          omega
        have f1 := fz (k * 3 + 1)
        have f2 := fz (k * 3 + 2)
        have hul := hv2.2 u (List.mem_of_getElem? hu)
        have HTA : Hid (h2.ta = some ⟨ub, 0, none⟩ ∧ S2.ts[k]? = some u) := ⟨hta, hu⟩
        have HLN : Hid (0 ≤ l) := HL0
        generalize hn : S2.ts.length = n at *
        have hk' : (k : Int) < (n : Int) := by omega
        clear HJ r4 hk4 hb4 htok hu hbl hv2 fz hta hl hll hkb hn htl
        obtain ⟨un, uu, ua⟩ := u
        simp only at ct0 ct1 ct2 hul HRS HTA
        by_cases hu0 : uu = 0
        · have hgt : ¬ uu > 0 := by omega
          have HF : Hid (R = .ok ⟨S2.ws, S2.ts.set k ⟨un, l, a⟩, S2.ls, S2.lv, S2.st, S2.ed, S2.ex, S2.rs⟩) := by
            show _ = _
            have := HRS.out
            rwa [if_neg (by simpa using hu0)] at this
          clear HRS p2 hu0
          go_upto_region 15 with fail
          go_region
          all_goals
            go_wp2_with fail
            go_end0
            have hs1 := H4.out.1.setTok HTA.out.1 (k := k) (j := 1) (t' := ⟨un, l, ua⟩) HTA.out.2 (by omega) (.int .i64 l) rfl
            have ht2 : (S2.ts.set k ⟨un, l, ua⟩)[k]? = some ⟨un, l, ua⟩ := List.getElem?_set_self (List.getElem?_eq_some_iff.1 HTA.out.2).1
            have hs2 := hs1.1.setTok HTA.out.1 (k := k) (j := 2) (t' := ⟨un, l, a⟩) ht2 (by omega) (.int .i64 a) rfl
            simp only [List.set_set] at hs2
            refine ⟨rfl, NDid.good (((H4.out.2.1.trans hs1.2).trans hs2.2).trans (keepF_of_below (below_drew' _))) (hs2.1.step (below_drew' _)) ⟨?_, fun t ht => ?_⟩ HF.out⟩
            · simp only [List.length_set]
              exact H4.out.2.2.1
            · rcases List.mem_or_eq_of_mem_set ht with h1 | h1
              · exact H4.out.2.2.2 t h1
              · rw [h1]
                exact HLN.out
        · have hgt : uu > 0 := by omega
          have HF : Hid (R = .error (7, xa)) := by
            show _ = _
            have := HRS.out
            rwa [if_pos hu0] at this
          clear HRS hu0
          go_wp2_with fail
          refine (rfFault_calls 7 xa w W4 rb h2 wl (i + 1) (0, 0) S2 sd qs H4.out.1).mono ?_
          rintro e W5 ⟨rfl, hW5⟩
          have H5 : Hid (RF w W5 rb h2 wl (i + 1) (7, xa) S2 sd qs ∧ KeepF W W5) := by
            rw [hW5]
            exact ⟨H4.out.1.fail 7 xa, (H4.out.2.1.set ⟨_, H4.out.1.box⟩ (.inl rfl) 2 _).set (Loc.set ⟨_, H4.out.1.box⟩ _ _ _) (.inl rfl) 3 _⟩
          clear hW5
          go_wp2_with fail
          refine bodyPost_ret (results_none rfl _ _ _) rfl ?_
          exact ⟨rfl, NDid.bad H5.out.2 H5.out.1 HF.out⟩
  · have r1 := (ht3 (by trivial) (by rw [HX.out]; exact hk1)).step hB
    have HNP : Hid (R = .error (1, xa)) := by
      show _ = _
      rw [← HRR.out]
      unfold oneP takeP
      rw [HX.out, if_neg hk1]
      rfl
    rw [HX.out] at r1
    simp only at r1
    have c2 : (W1.alloc (.cells #[.int .i64 xk, .string xt, .int .i64 xa] 35)).cell? ⟨rb, 2, none⟩ = some (.int .i64 1) := by rw [cell_block r1.box]; rfl
    have HR2 : Hid (RF w (W1.alloc (.cells #[.int .i64 xk, .string xt, .int .i64 xa] 35)) rb h wl i (1, xa) S sd qs) := r1
    clear r1 b0 hB ht2 ht3 hk
    go_wp2_with fail
    refine bodyPost_ret (results_none rfl _ _ _) rfl ?_
    exact ⟨rfl, NDid.bad HK1.out HR2.out HNP.out⟩

end Go.Proofs.YtkaojokhdleeiaaGreatDoor

/-
  The walk of the function within read's level: a token is said in a level.
-/
namespace Go.Proofs.YtkaojokhdleeiaaGreatDoor
open Go.RowKit

set_option maxRecDepth 20000

theorem Did.step {w W W' W'' : World} {rb : Nat} {qs : List (Ru × Option Addr × Nat)} {R : Except Flt St} {e : Ending} (d : Did w W rb qs R e W') (hb : Below W'.heap.size W' W'') : Did w W rb qs R e W'' := by
  obtain ⟨h', S', h1, h2, h3, h4⟩ := d
  exact ⟨h', S', h1, h2.step hb, h3.trans (keep_of_below hb), h4⟩

set_option maxHeartbeats 8000000 in
theorem rdLev1_calls (a : Int) (cr ca : Nat) (x : Wd) (w W : World) (rb : Nat) (h : RHd) (S : St) (qs : List (Ru × Option Addr × Nat)) (r : RD w W rb h S qs) (hcr : W.heap[cr]? = some (.cells #[.pointer (some ⟨rb, 0, none⟩)] 76 (0, 0))) (hca : W.heap[ca]? = some (.cells #[.int .i64 a] 3 (0, 0))) :
    Calls Tryz.prog 91 #[wv x, .pointer (some ⟨cr, 0, none⟩), .pointer (some ⟨ca, 0, none⟩)] W fun e W' => Did w W rb qs (levP (S.lv : Int) a x S) e W' := by
  obtain ⟨xk, xt, xa⟩ := x
  have hB : Below W.heap.size W ((W.alloc (.cells #[.int .i64 xk, .string xt, .int .i64 xa] 35)).alloc (.cells #[.int .i64 0, .int .i64 0] 46)) := below_step (below_alloc _ _) (below_alloc _ _)
  have hb0 : ((W.alloc (.cells #[.int .i64 xk, .string xt, .int .i64 xa] 35)).alloc (.cells #[.int .i64 0, .int .i64 0] 46)).heap[W.heap.size]? = some (.cells #[.int .i64 xk, .string xt, .int .i64 xa] 35 (0, 0)) := block_below (below_alloc _ _) (heap_alloc_new _ _)
  have hb1 : ((W.alloc (.cells #[.int .i64 xk, .string xt, .int .i64 xa] 35)).alloc (.cells #[.int .i64 0, .int .i64 0] 46)).heap[W.heap.size + 1]? = some (.cells #[.int .i64 0, .int .i64 0] 46 (0, 0)) := by
    have := heap_alloc_new (W.alloc (.cells #[.int .i64 xk, .string xt, .int .i64 xa] 35)) (.cells #[.int .i64 0, .int .i64 0] 46)
    rwa [size_alloc1] at this
  have HR : Hid (RD w ((W.alloc (.cells #[.int .i64 xk, .string xt, .int .i64 xa] 35)).alloc (.cells #[.int .i64 0, .int .i64 0] 46)) rb h S qs) := r.step hB
  have HWW : Hid (w.heap.size ≤ W.heap.size) := r.bel.size
  have HOK : Hid (StOk S) := r.ok
  have HCP : Hid (∀ V : World, Keep W V → V.heap[cr]? = some (.cells #[.pointer (some ⟨rb, 0, none⟩)] 76 (0, 0)) ∧ V.heap[ca]? = some (.cells #[.int .i64 a] 3 (0, 0))) := fun V hV => ⟨hV.loc _ _ _ hcr (by decide) (by decide) (by decide) (by decide), hV.loc _ _ _ hca (by decide) (by decide) (by decide) (by decide)⟩
  clear hcr hca
  clear r
  unfold wv
  simp only
  go_enter Tryz.func91, Tryz.ntmps91
  go_upto_region 1 with fail
  generalize (W.alloc (.cells #[.int .i64 xk, .string xt, .int .i64 xa] 35)).alloc (.cells #[.int .i64 0, .int .i64 0] 46) = W1 at hB hb0 hb1 HR ⊢
  obtain ⟨nb, hnb⟩ : ∃ nb, nb = W.heap.size := ⟨_, rfl⟩
  rw [← hnb] at hb0 hb1 ⊢
  have HNB : Hid (W.heap.size ≤ nb) := Nat.le_of_eq hnb.symm
  have HB1 : Hid (Below W.heap.size W W1) := hB
  have HBX : Hid (W1.heap[nb]? = some (.cells #[.int .i64 xk, .string xt, .int .i64 xa] 35 (0, 0)) ∧ W1.heap[nb + 1]? = some (.cells #[.int .i64 0, .int .i64 0] 46 (0, 0))) := ⟨hb0, hb1⟩
  have p0 : W1.cell? ⟨nb, 0, none⟩ = some (.int .i64 xk) := by rw [cell_block hb0]; rfl
  have p1 : W1.cell? ⟨nb, 1, none⟩ = some (.string xt) := by rw [cell_block hb0]; rfl
  have p2 : W1.cell? ⟨nb, 2, none⟩ = some (.int .i64 xa) := by rw [cell_block hb0]; rfl
  clear hb0 hb1 hnb hB
  have s0 : W1.cell? ⟨cr, 0, none⟩ = some (.pointer (some ⟨rb, 0, none⟩)) := by rw [cell_block (HCP.out _ (keep_of_below HB1.out)).1]; rfl
  have HC : Hid (Calls Tryz.prog 89 #[.pointer (some ⟨rb, 0, none⟩), .agg #[.int .i64 xk, .string xt, .int .i64 xa]] W1 fun e W' => TokA w W1 rb qs (tokP ⟨xk, xt, xa⟩ S) e W') := rdToken_calls ⟨xk, xt, xa⟩ w W1 rb h S qs HR.out
  go_wp2_with fail
  refine HC.out.mono ?_
  intro e W2 hA
  clear HC p0 p1 p2 s0
  cases hR : tokP ⟨xk, xt, xa⟩ S with
  | error f =>
    rw [hR] at hA
    obtain ⟨rfl, ⟨h', S', hrd⟩, hkp⟩ := hA
    obtain ⟨f1, f2⟩ := f
    have HF : Hid (levP (S.lv : Int) a ⟨xk, xt, xa⟩ S = .error (f1, f2)) := by
      show _ = _
      unfold levP
      rw [hR]
    have hf1 : (f1 == 0) = false := by
      unfold tokP at hR
      split at hR
      · cases hR
      · split at hR
        · cases hR
          rfl
        · cases hR
    have hf1' : (f1 != 0) = true := by simpa using hf1
    have HD : Hid (RD w W2 rb h' S' qs ∧ Keep W1 W2) := ⟨hrd, hkp⟩
    have t2 := hkp.loc _ _ _ HBX.out.2 (by decide) (by decide) (by decide) (by decide)
    have t3 := block_below (below_alloc W2 (.cells #[.int .i64 f1, .int .i64 f2] 46)) t2
    obtain ⟨q3, q4, z3, z4⟩ := box46 t3
    have HL : Hid (Loc (W2.alloc (.cells #[.int .i64 f1, .int .i64 f2] 46)) (nb + 1) 46) := ⟨_, t3⟩
    clear hrd hkp t2 t3 hf1 hR
    unfold fv
    simp only
    go_wp2_with fail
    refine bodyPost_ret (v := .agg #[.int .i64 f1, .int .i64 f2]) (by simp [results, Tryz.results91, go_sem, *]) rfl ?_
    exact did_fin (HD.out.1.step (below_alloc _ _)) (((keep_of_below HB1.out).trans HD.out.2).trans (keep_of_below (below_alloc _ _))) HL.out (Nat.le_succ_of_le HNB.out) HWW.out (by rw [HF.out]; rfl) (fun S1 h => by rw [HF.out] at h; cases h)
  | ok p =>
    obtain ⟨i, S1⟩ := p
    rw [hR] at hA
    obtain ⟨h', tb, rfl, hta, hrd, hkp⟩ := hA
    obtain ⟨-, hi, -, -⟩ := tokP_ok HOK.out hR
    obtain ⟨t, ht⟩ : ∃ t, S1.ts[i]? = some t := ⟨S1.ts[i], List.getElem?_eq_getElem hi⟩
    obtain ⟨tb', b, hta', hlb, -, c1, c2, -, -⟩ := hrd.tokAt ht
    rw [hta] at hta'
    cases hta'
    have HD : Hid (RD w W2 rb h' S1 qs ∧ Keep W1 W2 ∧ h'.ta = some ⟨tb, 0, none⟩ ∧ S1.ts[i]? = some t ∧ S1.ls[i]? = some b) := ⟨hrd, hkp, hta, ht, hlb⟩
    have hkW : Keep W W2 := (keep_of_below HB1.out).trans hkp
    have t1 := hkp.loc _ _ _ HBX.out.1 (by decide) (by decide) (by decide) (by decide)
    have t2 := hkp.loc _ _ _ HBX.out.2 (by decide) (by decide) (by decide) (by decide)
    have HT : Hid (W2.heap[nb]? = some (.cells #[.int .i64 xk, .string xt, .int .i64 xa] 35 (0, 0)) ∧ W2.heap[nb + 1]? = some (.cells #[.int .i64 0, .int .i64 0] 46 (0, 0)) ∧ Keep W W2) := ⟨t1, t2, hkW⟩
    have c1' := cell_alloc c1 (.cells #[.int .i64 0, .int .i64 0] 46)
    have c2' := cell_alloc c2 (.cells #[.int .i64 0, .int .i64 0] 46)
    have hl78 : Loc W2 tb 78 := own_loc (by have := hrd.tok; rw [hta] at this; exact this) rfl
    obtain ⟨c78, h78⟩ := hl78
    have z5 : (W2.alloc (.cells #[.int .i64 0, .int .i64 0] 46)).frozen? ⟨tb, i * 4 + 1, none⟩ = false := frozen_block (block_below (below_alloc _ _) h78) _
    have z6 : (W2.alloc (.cells #[.int .i64 0, .int .i64 0] 46)).frozen? ⟨tb, i * 4 + 2, none⟩ = false := frozen_block (block_below (below_alloc _ _) h78) _
    obtain ⟨hlv1, hlv2, hlv3, hlv4⟩ := tokP_ok HOK.out hR
    have HLV : Hid (S1.lv = S.lv) := hlv4
    have HLR : Hid (levP (S.lv : Int) a ⟨xk, xt, xa⟩ S = if t.l ≠ 0 then .error (againF ⟨xk, xt, xa⟩) else .ok ⟨S1.ws, S1.ts.set i ⟨t.n, (S.lv : Int), a⟩, S1.ls, S1.lv, S1.st, S1.ed, S1.ex, S1.rs⟩) := by
      show _ = _
      unfold levP
      rw [hR]
      have e : tkAt S1.ts i = t := by unfold tkAt; rw [ht]; rfl
      simp only [e]
    obtain ⟨tn, tl, tA⟩ := t
    simp only at c1 c2 c1' c2' HLR
    clear hrd hkp hta ht hlb hi hR t1 t2 c1 c2 hlv1 hlv2 hlv3 hlv4 hkW h78
    unfold fv
    simp only
    by_cases htl : tl = 0
    · have hq : (tl != 0) = false := by simp [htl]
      have HF : Hid (levP (S.lv : Int) a ⟨xk, xt, xa⟩ S = .ok ⟨S1.ws, S1.ts.set i ⟨tn, (S.lv : Int), a⟩, S1.ls, S1.lv, S1.st, S1.ed, S1.ex, S1.rs⟩) := by
        show _ = _
        have := HLR.out
        rw [if_neg (by simpa using htl)] at this
        exact this
      clear HLR htl
      have hst1 := (HD.out.1.step (below_alloc W2 (.cells #[.int .i64 0, .int .i64 0] 46))).setTok (t' := ⟨tn, (S.lv : Int), tA⟩) (b' := b) (j := 1) HD.out.2.2.1 HD.out.2.2.2.1 HD.out.2.2.2.2 (by omega) (.int .i64 (S.lv : Int)) rfl
      have hst2 := hst1.1.setTok (t := ⟨tn, (S.lv : Int), tA⟩) (t' := ⟨tn, (S.lv : Int), a⟩) (b := b) (b' := b) (i := i) (j := 2) HD.out.2.2.1 (by simp only; rw [List.getElem?_set_self (List.getElem?_eq_some_iff.1 HD.out.2.2.2.1).1]) (by simp only; rw [List.getElem?_set_self (List.getElem?_eq_some_iff.1 HD.out.2.2.2.2).1]) (by omega) (.int .i64 a) rfl
      simp only [List.set_set] at hst2
      rw [set_self HD.out.2.2.2.2] at hst2
      have hkA : Keep W (W2.alloc (.cells #[.int .i64 0, .int .i64 0] 46)) := HT.out.2.2.trans (keep_of_below (below_alloc _ _))
      have s0 : (W2.alloc (.cells #[.int .i64 0, .int .i64 0] 46)).cell? ⟨cr, 0, none⟩ = some (.pointer (some ⟨rb, 0, none⟩)) := by rw [cell_block (HCP.out _ hkA).1]; rfl
      have s1 : (W2.alloc (.cells #[.int .i64 0, .int .i64 0] 46)).cell? ⟨ca, 0, none⟩ = some (.int .i64 a) := by rw [cell_block (HCP.out _ hkA).2]; rfl
      have s2 : (W2.alloc (.cells #[.int .i64 0, .int .i64 0] 46)).cell? ⟨rb, 2, none⟩ = some (.int .i64 (S.lv : Int)) := by
        rw [cell_block (HD.out.1.step (below_alloc _ _)).box, ← HLV.out]; rfl
      have t3 := block_below (below_alloc W2 (.cells #[.int .i64 0, .int .i64 0] 46)) HT.out.2.1
      have t4 := hst2.2.loc _ _ _ (hst1.2.loc _ _ _ t3 (by decide) (by decide) (by decide) (by decide)) (by decide) (by decide) (by decide) (by decide)
      obtain ⟨q3, q4, z3, z4⟩ := box46 t4
      have HS : Hid (RD w (((W2.alloc (.cells #[.int .i64 0, .int .i64 0] 46)).setCell ⟨tb, i * 4 + 1, none⟩ (.int .i64 (S.lv : Int))).setCell ⟨tb, i * 4 + 2, none⟩ (.int .i64 a)) rb h' ⟨S1.ws, S1.ts.set i ⟨tn, (S.lv : Int), a⟩, S1.ls, S1.lv, S1.st, S1.ed, S1.ex, S1.rs⟩ qs ∧ Keep W (((W2.alloc (.cells #[.int .i64 0, .int .i64 0] 46)).setCell ⟨tb, i * 4 + 1, none⟩ (.int .i64 (S.lv : Int))).setCell ⟨tb, i * 4 + 2, none⟩ (.int .i64 a)) ∧ Loc (((W2.alloc (.cells #[.int .i64 0, .int .i64 0] 46)).setCell ⟨tb, i * 4 + 1, none⟩ (.int .i64 (S.lv : Int))).setCell ⟨tb, i * 4 + 2, none⟩ (.int .i64 a)) (nb + 1) 46) := ⟨hst2.1, (hkA.trans hst1.2).trans hst2.2, ⟨_, t4⟩⟩
      clear hst1 hst2 t3 t4 hkA
      go_upto_region 6 with fail
      go_region
      all_goals
        go_wp2_with fail
        refine bodyPost_ret (v := .agg #[.int .i64 0, .int .i64 0]) (by simp [results, Tryz.results91, go_sem, *]) rfl ?_
        exact (did_fin HS.out.1 HS.out.2.1 HS.out.2.2 (Nat.le_succ_of_le HNB.out) HWW.out (by rw [HF.out]; rfl) (fun S1 h => by rw [HF.out] at h; cases h; rfl)).step (below_drew' _)
    · have hq : (tl != 0) = true := by simp [htl]
      have HF : Hid (levP (S.lv : Int) a ⟨xk, xt, xa⟩ S = .error (againF ⟨xk, xt, xa⟩)) := by
        show _ = _
        have := HLR.out
        rw [if_pos htl] at this
        exact this
      clear HLR htl
      obtain ⟨p0, p1, p2⟩ := box35 (block_below (below_alloc W2 (.cells #[.int .i64 0, .int .i64 0] 46)) HT.out.1)
      go_wp2_with fail
      refine (again_calls ⟨xk, xt, xa⟩ _).mono ?_
      rintro e W3 ⟨rfl, hB⟩
      have HB3 : Hid (Below W2.heap.size W2 W3) := below_step (below_alloc _ _) hB
      clear hB p0 p1 p2 c1' c2' z5 z6
      obtain ⟨q3, q4, z3, z4⟩ := box46 (block_below HB3.out HT.out.2.1)
      unfold fv againF
      simp only
      go_wp2_with fail
      refine bodyPost_ret (v := .agg #[.int .i64 7, .int .i64 xa]) (by simp [results, Tryz.results91, go_sem, *]) rfl ?_
      exact did_fin (HD.out.1.step HB3.out) (HT.out.2.2.trans (keep_of_below HB3.out)) ⟨_, block_below HB3.out HT.out.2.1⟩ (Nat.le_succ_of_le HNB.out) HWW.out (by rw [HF.out]; rfl) (fun S1 h => by rw [HF.out] at h; cases h)

end Go.Proofs.YtkaojokhdleeiaaGreatDoor

/-
  The walks of read's names: one name or more, each told to list, or to level's function.
-/
namespace Go.Proofs.YtkaojokhdleeiaaGreatDoor
open Go.RowKit

set_option maxRecDepth 20000

theorem takeP_cases (k : Int) (S : St) : (S.hd.k = k ∧ takeP k S = .ok (S.hd, S.next) ∧ takeW k S = S.hd ∧ takeS k S = S.next ∧ takeF k S = (0, 0)) ∨ (S.hd.k ≠ k ∧ takeP k S = .error (formF S.hd) ∧ takeF k S = formF S.hd ∧ takeS k S = S) := by
  by_cases h : S.hd.k = k
  · left
    unfold takeP takeW takeS takeF
    rw [if_pos h, if_pos h, if_pos h, if_pos h]
    exact ⟨h, rfl, rfl, rfl, rfl⟩
  · right
    unfold takeP takeS takeF
    rw [if_neg h, if_neg h, if_neg h]
    exact ⟨h, rfl, rfl, rfl⟩

/-- No fault is nought. -/
theorem tokP_flt {x : Wd} {S : St} {f : Flt} (h : tokP x S = .error f) : f = formF x := by
  unfold tokP at h
  split at h
  · cases h
  · split at h
    · cases h; rfl
    · cases h
theorem listP_flt {x : Wd} {S : St} {f : Flt} (h : listP x S = .error f) : f.1 ≠ 0 := by
  unfold listP at h
  split at h
  · rename_i f' h'
    cases h
    rw [tokP_flt h']
    show (1 : Int) ≠ 0
    decide
  · split at h
    · cases h
      show (7 : Int) ≠ 0
      decide
    · cases h
theorem levP_flt {l a : Int} {x : Wd} {S : St} {f : Flt} (h : levP l a x S = .error f) : f.1 ≠ 0 := by
  unfold levP at h
  split at h
  · rename_i f' h'
    cases h
    rw [tokP_flt h']
    show (1 : Int) ≠ 0
    decide
  · split at h
    · cases h
      show (7 : Int) ≠ 0
      decide
    · cases h

set_option maxHeartbeats 8000000 in
theorem rdNamesL_calls (w W : World) (rb : Nat) (h : RHd) (S : St) (qs : List (Ru × Option Addr × Nat)) (r : RD w W rb h S qs) (f0 : Nat) (hf0 : S.ws.length ≤ f0) :
    Calls Tryz.prog 65 #[.pointer (some ⟨rb, 0, none⟩), .func (.func 66) #[.pointer (some ⟨rb, 0, none⟩)] #[]] W fun e W' => Did w W rb qs (namesP (listP) f0 S) e W' := by
  have hrb : Loc W rb 63 := ⟨_, r.box⟩
  have HR : Hid (RD w (W.alloc (.cells #[.int .i64 0, .int .i64 0] 46)) rb h S qs) := r.step (below_alloc _ _)
  have HWW : Hid (w.heap.size ≤ W.heap.size) := r.bel.size
  have hb1 : (W.alloc (.cells #[.int .i64 0, .int .i64 0] 46)).heap[W.heap.size]? = some (.cells #[.int .i64 0, .int .i64 0] 46 (0, 0)) := heap_alloc_new _ _
  have HK1 : Hid (Keep W (W.alloc (.cells #[.int .i64 0, .int .i64 0] 46))) := keep_of_below (below_alloc _ _)
  obtain ⟨R, hR⟩ : ∃ R, namesP (listP) f0 S = R := ⟨_, rfl⟩
  rw [hR]
  have HR0 : Hid (namesP (listP) f0 S = R) := hR
  clear r hrb hR
  go_enter Tryz.func65, Tryz.ntmps65
  go_upto_block 0 with fail
  generalize W.alloc (.cells #[.int .i64 0, .int .i64 0] 46) = W1 at HR hb1 HK1 ⊢
  obtain ⟨nb, hnb⟩ : ∃ nb, nb = W.heap.size := ⟨_, rfl⟩
  rw [← hnb] at hb1 ⊢
  have HNB : Hid (W.heap.size ≤ nb) := Nat.le_of_eq hnb.symm
  have HBX : Hid (W1.heap[nb]? = some (.cells #[.int .i64 0, .int .i64 0] 46 (0, 0))) := hb1
  clear hb1 hnb
  go_wp2_with fail
  go_loopg [5] f0 (fun kx s5 wr => ∃ f, f ≤ kx ∧ Hid (∃ S1 h1, S1.ws.length ≤ f ∧ RD w wr rb h1 S1 qs ∧ Keep W1 wr ∧ namesP (listP) f S1 = R ∧ S1.lv = S.lv))
  case atStart => exact ⟨f0, Nat.le_refl _, (⟨S, h, hf0, HR.out, Keep.refl _, HR0.out, rfl⟩ : ∃ S1 h1, S1.ws.length ≤ f0 ∧ RD w W1 rb h1 S1 qs ∧ Keep W1 W1 ∧ namesP (listP) f0 S1 = R ∧ S1.lv = S.lv)⟩
  case round =>
    obtain ⟨f, hfk, J⟩ := hrel
    obtain ⟨S1, h1, hlen, hrd, hkp, hN, hlv⟩ := J.out
    clear J HR HR0
    obtain ⟨f', rfl⟩ : ∃ f', f = f' + 1 := ⟨f - 1, by have := hrd.ok.ends.pos; omega⟩
    have HT : Hid (Calls Tryz.prog 71 #[.pointer (some ⟨rb, 0, none⟩), .int .i64 1] wr fun e W' => e = .returned (.tuple #[wv (takeW 1 S1), fv (takeF 1 S1)]) ∧ Went w wr rb (takeS 1 S1) qs W') := rdTake_calls 1 (by decide) w wr rb h1 S1 qs hrd
    have HJ : Hid (S1.ws.length ≤ f' + 1 ∧ RD w wr rb h1 S1 qs ∧ Keep W1 wr ∧ namesP (listP) (f' + 1) S1 = R ∧ S1.lv = S.lv) := ⟨hlen, hrd, hkp, hN, hlv⟩
    clear hlen hrd hkp hN hlv
    unfold wv fv at HT
    rcases takeP_cases 1 S1 with ⟨hk, hP, hW, hS, hF⟩ | ⟨hk, hP, hF, hS⟩
    · rw [hW, hS, hF] at HT
      generalize hx : S1.hd = x at *
      obtain ⟨xk, xt, xa⟩ := x
      simp only at HT
      have HTK : Hid (takeP 1 S1 = .ok (⟨xk, xt, xa⟩, S1.next) ∧ S1.hd = ⟨xk, xt, xa⟩) := ⟨hP, hx⟩
      clear hk hP hW hS hF hx
      go_wp2_with fail
      refine HT.out.mono ?_
      rintro e W2 ⟨rfl, hwent⟩
      have HW2 : Hid (Went w wr rb S1.next qs W2 ∧ Keep W1 W2) := ⟨hwent, HJ.out.2.2.1.trans (hwent.keep ⟨_, HJ.out.2.1.box⟩)⟩
      clear hwent HT
      obtain ⟨h2, hrd2⟩ := HW2.out.1.rd
      have hb3 : Below W2.heap.size W2 ((W2.alloc (.cells #[.int .i64 xk, .string xt, .int .i64 xa] 35)).alloc (.cells #[.int .i64 0, .int .i64 0] 46)) := below_step (below_alloc _ _) (below_alloc _ _)
      have HRD3 : Hid (RD w ((W2.alloc (.cells #[.int .i64 xk, .string xt, .int .i64 xa] 35)).alloc (.cells #[.int .i64 0, .int .i64 0] 46)) rb h2 S1.next qs ∧ Keep W1 ((W2.alloc (.cells #[.int .i64 xk, .string xt, .int .i64 xa] 35)).alloc (.cells #[.int .i64 0, .int .i64 0] 46))) := ⟨hrd2.step hb3, HW2.out.2.trans (keep_of_below hb3)⟩
      clear hrd2 hb3
      have HSAY : Hid (Calls Tryz.prog 66 #[.pointer (some ⟨rb, 0, none⟩), .agg #[.int .i64 xk, .string xt, .int .i64 xa]] ((W2.alloc (.cells #[.int .i64 xk, .string xt, .int .i64 xa] 35)).alloc (.cells #[.int .i64 0, .int .i64 0] 46)) fun e W' => Did w ((W2.alloc (.cells #[.int .i64 xk, .string xt, .int .i64 xa] 35)).alloc (.cells #[.int .i64 0, .int .i64 0] 46)) rb qs (listP ⟨xk, xt, xa⟩ S1.next) e W') := rdList_calls ⟨xk, xt, xa⟩ w _ rb h2 S1.next qs HRD3.out.1
      go_wp2_with fail
      refine HSAY.out.mono ?_
      intro e W3 hD
      obtain ⟨h3, S3, rfl, hrd3, hkp3, hS3⟩ := hD
      have HD3 : Hid (RD w W3 rb h3 S3 qs ∧ Keep W1 W3) := ⟨hrd3, HRD3.out.2.trans hkp3⟩
      clear hrd3 hkp3 HSAY
      have hNx : namesP (listP) (f' + 1) S1 = (match listP ⟨xk, xt, xa⟩ S1.next with | .error e => .error e | .ok S2 => if S2.hd.k = 1 then namesP (listP) f' S2 else .ok S2) := by
        conv => lhs; unfold namesP
        rw [HTK.out.1]
        rfl
      cases hL : listP ⟨xk, xt, xa⟩ S1.next with
      | error g =>
        obtain ⟨g1, g2⟩ := g
        have hg : g1 ≠ 0 := listP_flt (f := (g1, g2)) hL
        have hg' : (g1 != 0) = true := by simpa using hg
        have HF : Hid (R = .error (g1, g2)) := by
          show _ = _
          rw [← HJ.out.2.2.2.1, hNx, hL]
        have t2 := block_below (below_alloc W3 (.cells #[.int .i64 g1, .int .i64 g2] 46)) (HD3.out.2.loc _ _ _ HBX.out (by decide) (by decide) (by decide) (by decide))
        obtain ⟨q3, q4, z3, z4⟩ := box46 t2
        have HL : Hid (Loc (W3.alloc (.cells #[.int .i64 g1, .int .i64 g2] 46)) nb 46) := ⟨_, t2⟩
        clear hNx hL hS3 hg t2
        unfold fltOf fv
        simp only
        go_wp2_with fail
        refine bodyPost_ret (v := .agg #[.int .i64 g1, .int .i64 g2]) (by simp [results, Tryz.results65, go_sem, *]) rfl ?_
        exact did_fin (HD3.out.1.step (below_alloc _ _)) ((HK1.out.trans HD3.out.2).trans (keep_of_below (below_alloc _ _))) HL.out HNB.out HWW.out (by rw [HF.out]; rfl) (fun S1 h => by rw [HF.out] at h; cases h)
      | ok S4 =>
        have e3 : S3 = S4 := hS3 S4 hL
        subst e3
        have hbA := below_alloc W3 (.cells #[.int .i64 0, .int .i64 0] 46)
        have HWD : Hid (Calls Tryz.prog 44 #[.pointer (some ⟨rb, 0, none⟩)] (W3.alloc (.cells #[.int .i64 0, .int .i64 0] 46)) fun e W' => e = .returned (wv S3.hd) ∧ Below (W3.alloc (.cells #[.int .i64 0, .int .i64 0] 46)).heap.size (W3.alloc (.cells #[.int .i64 0, .int .i64 0] 46)) W') := rdWord_calls w _ rb h3 S3 qs (HD3.out.1.step hbA)
        have hok := listP_ok HRD3.out.1.ok hL
        have HS3 : Hid (S3.ws.length ≤ f' ∧ S3.lv = S.lv) := by
          obtain ⟨o1, o2, o3⟩ := hok
          have n1 := next_len HJ.out.2.1.ok
          refine ⟨?_, ?_⟩
          · rw [o2]
            have := HJ.out.1
            omega
          · rw [o3]
            exact HJ.out.2.2.2.2
        have HNX : Hid (R = if S3.hd.k = 1 then namesP (listP) f' S3 else .ok S3) := by
          show _ = _
          rw [← HJ.out.2.2.2.1, hNx, hL]
        clear hNx hL hS3 hok hbA
        unfold wv at HWD
        generalize hy : S3.hd = y at *
        obtain ⟨yk, yt, ya⟩ := y
        simp only at HWD HNX
        have hfk' := run_wk yk ya yt
        unfold fltOf fv
        simp only
        go_wp2_with fail
        refine HWD.out.mono ?_
        rintro e W4 ⟨rfl, hB⟩
        have HB4 : Hid (Below W3.heap.size W3 W4) := below_step (below_alloc _ _) hB
        clear hB HWD hy
        by_cases hyk : yk = 1
        · have hq : (yk != 1) = false := by simp [hyk]
          have HF : Hid (namesP (listP) f' S3 = R) := by
            show _ = _
            have := HNX.out
            rw [if_pos hyk] at this
            exact this.symm
          clear hyk HNX
          go_wp2_with fail
          go_roundg f'
          case measure => omega
          case rel => exact ⟨f', Nat.le_refl _, (⟨S3, h3, HS3.out.1, HD3.out.1.step HB4.out, HD3.out.2.trans (keep_of_below HB4.out), HF.out, HS3.out.2⟩ : ∃ S1 h1, S1.ws.length ≤ f' ∧ RD w W4 rb h1 S1 qs ∧ Keep W1 W4 ∧ namesP (listP) f' S1 = R ∧ S1.lv = S.lv)⟩
        · have hq : (yk != 1) = true := by simp [hyk]
          have HF : Hid (R = .ok S3) := by
            show _ = _
            have := HNX.out
            rw [if_neg hyk] at this
            exact this
          clear hyk HNX
          have t2 := block_below HB4.out (HD3.out.2.loc _ _ _ HBX.out (by decide) (by decide) (by decide) (by decide))
          obtain ⟨q3, q4, z3, z4⟩ := box46 t2
          have HL : Hid (Loc W4 nb 46) := ⟨_, t2⟩
          clear t2
          go_wp2_with fail
          refine bodyPost_ret (v := .agg #[.int .i64 0, .int .i64 0]) (by simp [results, Tryz.results65, go_sem, *]) rfl ?_
          exact did_fin (HD3.out.1.step HB4.out) ((HK1.out.trans HD3.out.2).trans (keep_of_below HB4.out)) HL.out HNB.out HWW.out (by rw [HF.out]; rfl) (fun S1 h => by rw [HF.out] at h; cases h; rfl)
    · have HN : Hid (R = .error (formF S1.hd)) := by
        show _ = _
        rw [← HJ.out.2.2.2.1]
        conv => lhs; unfold namesP
        rw [hP]
      rw [hF, hS] at HT
      unfold formF at HT HN
      generalize takeW 1 S1 = y at HT
      generalize S1.hd.a = xa at *
      obtain ⟨yk, yt, ya⟩ := y
      simp only at HT
      clear hk hP hF hS
      go_wp2_with fail
      refine HT.out.mono ?_
      rintro e W2 ⟨rfl, hwent⟩
      have HW2 : Hid (Went w wr rb S1 qs W2 ∧ Keep W1 W2) := ⟨hwent, HJ.out.2.2.1.trans (hwent.keep ⟨_, HJ.out.2.1.box⟩)⟩
      clear hwent HT
      have hb3 : Below W2.heap.size W2 ((W2.alloc (.cells #[.int .i64 yk, .string yt, .int .i64 ya] 35)).alloc (.cells #[.int .i64 1, .int .i64 xa] 46)) := below_step (below_alloc _ _) (below_alloc _ _)
      have t2 := block_below hb3 (HW2.out.2.loc _ _ _ HBX.out (by decide) (by decide) (by decide) (by decide))
      obtain ⟨q3, q4, z3, z4⟩ := box46 t2
      have HL : Hid (Loc ((W2.alloc (.cells #[.int .i64 yk, .string yt, .int .i64 ya] 35)).alloc (.cells #[.int .i64 1, .int .i64 xa] 46)) nb 46 ∧ Below W2.heap.size W2 ((W2.alloc (.cells #[.int .i64 yk, .string yt, .int .i64 ya] 35)).alloc (.cells #[.int .i64 1, .int .i64 xa] 46))) := ⟨⟨_, t2⟩, hb3⟩
      clear t2 hb3
      go_wp2_with fail
      refine bodyPost_ret (v := .agg #[.int .i64 1, .int .i64 xa]) (by simp [results, Tryz.results65, go_sem, *]) rfl ?_
      obtain ⟨h2, hrd2⟩ := HW2.out.1.rd
      exact did_fin (hrd2.step HL.out.2) ((HK1.out.trans HW2.out.2).trans (keep_of_below HL.out.2)) HL.out.1 HNB.out HWW.out (by rw [HN.out]; rfl) (fun S1 h => by rw [HN.out] at h; cases h)

set_option maxHeartbeats 8000000 in
theorem rdNamesV_calls (a : Int) (cr ca : Nat) (w W : World) (rb : Nat) (h : RHd) (S : St) (qs : List (Ru × Option Addr × Nat)) (r : RD w W rb h S qs) (f0 : Nat) (hf0 : S.ws.length ≤ f0) (hcr : W.heap[cr]? = some (.cells #[.pointer (some ⟨rb, 0, none⟩)] 76 (0, 0))) (hca : W.heap[ca]? = some (.cells #[.int .i64 a] 3 (0, 0))) :
    Calls Tryz.prog 65 #[.pointer (some ⟨rb, 0, none⟩), .func (.func 91) #[] #[.pointer (some ⟨cr, 0, none⟩), .pointer (some ⟨ca, 0, none⟩)]] W fun e W' => Did w W rb qs (namesP (levP (S.lv : Int) a) f0 S) e W' := by
  have hrb : Loc W rb 63 := ⟨_, r.box⟩
  have HR : Hid (RD w (W.alloc (.cells #[.int .i64 0, .int .i64 0] 46)) rb h S qs) := r.step (below_alloc _ _)
  have HWW : Hid (w.heap.size ≤ W.heap.size) := r.bel.size
  have hb1 : (W.alloc (.cells #[.int .i64 0, .int .i64 0] 46)).heap[W.heap.size]? = some (.cells #[.int .i64 0, .int .i64 0] 46 (0, 0)) := heap_alloc_new _ _
  have HK1 : Hid (Keep W (W.alloc (.cells #[.int .i64 0, .int .i64 0] 46))) := keep_of_below (below_alloc _ _)
  have HCP : Hid (∀ V : World, Keep W V → V.heap[cr]? = some (.cells #[.pointer (some ⟨rb, 0, none⟩)] 76 (0, 0)) ∧ V.heap[ca]? = some (.cells #[.int .i64 a] 3 (0, 0))) := fun V hV => ⟨hV.loc _ _ _ hcr (by decide) (by decide) (by decide) (by decide), hV.loc _ _ _ hca (by decide) (by decide) (by decide) (by decide)⟩
  clear hcr hca
  obtain ⟨R, hR⟩ : ∃ R, namesP (levP (S.lv : Int) a) f0 S = R := ⟨_, rfl⟩
  rw [hR]
  have HR0 : Hid (namesP (levP (S.lv : Int) a) f0 S = R) := hR
  clear r hrb hR
  go_enter Tryz.func65, Tryz.ntmps65
  go_upto_block 0 with fail
  generalize W.alloc (.cells #[.int .i64 0, .int .i64 0] 46) = W1 at HR hb1 HK1 ⊢
  obtain ⟨nb, hnb⟩ : ∃ nb, nb = W.heap.size := ⟨_, rfl⟩
  rw [← hnb] at hb1 ⊢
  have HNB : Hid (W.heap.size ≤ nb) := Nat.le_of_eq hnb.symm
  have HBX : Hid (W1.heap[nb]? = some (.cells #[.int .i64 0, .int .i64 0] 46 (0, 0))) := hb1
  clear hb1 hnb
  go_wp2_with fail
  go_loopg [5] f0 (fun kx s5 wr => ∃ f, f ≤ kx ∧ Hid (∃ S1 h1, S1.ws.length ≤ f ∧ RD w wr rb h1 S1 qs ∧ Keep W1 wr ∧ namesP (levP (S.lv : Int) a) f S1 = R ∧ S1.lv = S.lv))
  case atStart => exact ⟨f0, Nat.le_refl _, (⟨S, h, hf0, HR.out, Keep.refl _, HR0.out, rfl⟩ : ∃ S1 h1, S1.ws.length ≤ f0 ∧ RD w W1 rb h1 S1 qs ∧ Keep W1 W1 ∧ namesP (levP (S.lv : Int) a) f0 S1 = R ∧ S1.lv = S.lv)⟩
  case round =>
    obtain ⟨f, hfk, J⟩ := hrel
    obtain ⟨S1, h1, hlen, hrd, hkp, hN, hlv⟩ := J.out
    clear J HR HR0
    obtain ⟨f', rfl⟩ : ∃ f', f = f' + 1 := ⟨f - 1, by have := hrd.ok.ends.pos; omega⟩
    have HT : Hid (Calls Tryz.prog 71 #[.pointer (some ⟨rb, 0, none⟩), .int .i64 1] wr fun e W' => e = .returned (.tuple #[wv (takeW 1 S1), fv (takeF 1 S1)]) ∧ Went w wr rb (takeS 1 S1) qs W') := rdTake_calls 1 (by decide) w wr rb h1 S1 qs hrd
    have HJ : Hid (S1.ws.length ≤ f' + 1 ∧ RD w wr rb h1 S1 qs ∧ Keep W1 wr ∧ namesP (levP (S.lv : Int) a) (f' + 1) S1 = R ∧ S1.lv = S.lv) := ⟨hlen, hrd, hkp, hN, hlv⟩
    clear hlen hrd hkp hN hlv
    unfold wv fv at HT
    rcases takeP_cases 1 S1 with ⟨hk, hP, hW, hS, hF⟩ | ⟨hk, hP, hF, hS⟩
    · rw [hW, hS, hF] at HT
      generalize hx : S1.hd = x at *
      obtain ⟨xk, xt, xa⟩ := x
      simp only at HT
      have HTK : Hid (takeP 1 S1 = .ok (⟨xk, xt, xa⟩, S1.next) ∧ S1.hd = ⟨xk, xt, xa⟩) := ⟨hP, hx⟩
      clear hk hP hW hS hF hx
      go_wp2_with fail
      refine HT.out.mono ?_
      rintro e W2 ⟨rfl, hwent⟩
      have HW2 : Hid (Went w wr rb S1.next qs W2 ∧ Keep W1 W2) := ⟨hwent, HJ.out.2.2.1.trans (hwent.keep ⟨_, HJ.out.2.1.box⟩)⟩
      clear hwent HT
      obtain ⟨h2, hrd2⟩ := HW2.out.1.rd
      have hb3 : Below W2.heap.size W2 ((W2.alloc (.cells #[.int .i64 xk, .string xt, .int .i64 xa] 35)).alloc (.cells #[.int .i64 0, .int .i64 0] 46)) := below_step (below_alloc _ _) (below_alloc _ _)
      have HRD3 : Hid (RD w ((W2.alloc (.cells #[.int .i64 xk, .string xt, .int .i64 xa] 35)).alloc (.cells #[.int .i64 0, .int .i64 0] 46)) rb h2 S1.next qs ∧ Keep W1 ((W2.alloc (.cells #[.int .i64 xk, .string xt, .int .i64 xa] 35)).alloc (.cells #[.int .i64 0, .int .i64 0] 46))) := ⟨hrd2.step hb3, HW2.out.2.trans (keep_of_below hb3)⟩
      clear hrd2 hb3
      have HSAY : Hid (Calls Tryz.prog 91 #[.agg #[.int .i64 xk, .string xt, .int .i64 xa], .pointer (some ⟨cr, 0, none⟩), .pointer (some ⟨ca, 0, none⟩)] ((W2.alloc (.cells #[.int .i64 xk, .string xt, .int .i64 xa] 35)).alloc (.cells #[.int .i64 0, .int .i64 0] 46)) fun e W' => Did w ((W2.alloc (.cells #[.int .i64 xk, .string xt, .int .i64 xa] 35)).alloc (.cells #[.int .i64 0, .int .i64 0] 46)) rb qs (levP (S.lv : Int) a ⟨xk, xt, xa⟩ S1.next) e W') := by
        have hc := HCP.out _ (HK1.out.trans HRD3.out.2)
        have := rdLev1_calls a cr ca ⟨xk, xt, xa⟩ w _ rb h2 S1.next qs HRD3.out.1 hc.1 hc.2
        rw [show S1.next.lv = S.lv from HJ.out.2.2.2.2] at this
        exact this
      go_wp2_with fail
      refine HSAY.out.mono ?_
      intro e W3 hD
      obtain ⟨h3, S3, rfl, hrd3, hkp3, hS3⟩ := hD
      have HD3 : Hid (RD w W3 rb h3 S3 qs ∧ Keep W1 W3) := ⟨hrd3, HRD3.out.2.trans hkp3⟩
      clear hrd3 hkp3 HSAY
      have hNx : namesP (levP (S.lv : Int) a) (f' + 1) S1 = (match levP (S.lv : Int) a ⟨xk, xt, xa⟩ S1.next with | .error e => .error e | .ok S2 => if S2.hd.k = 1 then namesP (levP (S.lv : Int) a) f' S2 else .ok S2) := by
        conv => lhs; unfold namesP
        rw [HTK.out.1]
        rfl
      cases hL : levP (S.lv : Int) a ⟨xk, xt, xa⟩ S1.next with
      | error g =>
        obtain ⟨g1, g2⟩ := g
        have hg : g1 ≠ 0 := levP_flt (f := (g1, g2)) hL
        have hg' : (g1 != 0) = true := by simpa using hg
        have HF : Hid (R = .error (g1, g2)) := by
          show _ = _
          rw [← HJ.out.2.2.2.1, hNx, hL]
        have t2 := block_below (below_alloc W3 (.cells #[.int .i64 g1, .int .i64 g2] 46)) (HD3.out.2.loc _ _ _ HBX.out (by decide) (by decide) (by decide) (by decide))
        obtain ⟨q3, q4, z3, z4⟩ := box46 t2
        have HL : Hid (Loc (W3.alloc (.cells #[.int .i64 g1, .int .i64 g2] 46)) nb 46) := ⟨_, t2⟩
        clear hNx hL hS3 hg t2
        unfold fltOf fv
        simp only
        go_wp2_with fail
        refine bodyPost_ret (v := .agg #[.int .i64 g1, .int .i64 g2]) (by simp [results, Tryz.results65, go_sem, *]) rfl ?_
        exact did_fin (HD3.out.1.step (below_alloc _ _)) ((HK1.out.trans HD3.out.2).trans (keep_of_below (below_alloc _ _))) HL.out HNB.out HWW.out (by rw [HF.out]; rfl) (fun S1 h => by rw [HF.out] at h; cases h)
      | ok S4 =>
        have e3 : S3 = S4 := hS3 S4 hL
        subst e3
        have hbA := below_alloc W3 (.cells #[.int .i64 0, .int .i64 0] 46)
        have HWD : Hid (Calls Tryz.prog 44 #[.pointer (some ⟨rb, 0, none⟩)] (W3.alloc (.cells #[.int .i64 0, .int .i64 0] 46)) fun e W' => e = .returned (wv S3.hd) ∧ Below (W3.alloc (.cells #[.int .i64 0, .int .i64 0] 46)).heap.size (W3.alloc (.cells #[.int .i64 0, .int .i64 0] 46)) W') := rdWord_calls w _ rb h3 S3 qs (HD3.out.1.step hbA)
        have hok := levP_ok HRD3.out.1.ok hL
        have HS3 : Hid (S3.ws.length ≤ f' ∧ S3.lv = S.lv) := by
          obtain ⟨o1, o2, o3⟩ := hok
          have n1 := next_len HJ.out.2.1.ok
          refine ⟨?_, ?_⟩
          · rw [o2]
            have := HJ.out.1
            omega
          · rw [o3]
            exact HJ.out.2.2.2.2
        have HNX : Hid (R = if S3.hd.k = 1 then namesP (levP (S.lv : Int) a) f' S3 else .ok S3) := by
          show _ = _
          rw [← HJ.out.2.2.2.1, hNx, hL]
        clear hNx hL hS3 hok hbA
        unfold wv at HWD
        generalize hy : S3.hd = y at *
        obtain ⟨yk, yt, ya⟩ := y
        simp only at HWD HNX
        have hfk' := run_wk yk ya yt
        unfold fltOf fv
        simp only
        go_wp2_with fail
        refine HWD.out.mono ?_
        rintro e W4 ⟨rfl, hB⟩
        have HB4 : Hid (Below W3.heap.size W3 W4) := below_step (below_alloc _ _) hB
        clear hB HWD hy
        by_cases hyk : yk = 1
        · have hq : (yk != 1) = false := by simp [hyk]
          have HF : Hid (namesP (levP (S.lv : Int) a) f' S3 = R) := by
            show _ = _
            have := HNX.out
            rw [if_pos hyk] at this
            exact this.symm
          clear hyk HNX
          go_wp2_with fail
          go_roundg f'
          case measure => omega
          case rel => exact ⟨f', Nat.le_refl _, (⟨S3, h3, HS3.out.1, HD3.out.1.step HB4.out, HD3.out.2.trans (keep_of_below HB4.out), HF.out, HS3.out.2⟩ : ∃ S1 h1, S1.ws.length ≤ f' ∧ RD w W4 rb h1 S1 qs ∧ Keep W1 W4 ∧ namesP (levP (S.lv : Int) a) f' S1 = R ∧ S1.lv = S.lv)⟩
        · have hq : (yk != 1) = true := by simp [hyk]
          have HF : Hid (R = .ok S3) := by
            show _ = _
            have := HNX.out
            rw [if_neg hyk] at this
            exact this
          clear hyk HNX
          have t2 := block_below HB4.out (HD3.out.2.loc _ _ _ HBX.out (by decide) (by decide) (by decide) (by decide))
          obtain ⟨q3, q4, z3, z4⟩ := box46 t2
          have HL : Hid (Loc W4 nb 46) := ⟨_, t2⟩
          clear t2
          go_wp2_with fail
          refine bodyPost_ret (v := .agg #[.int .i64 0, .int .i64 0]) (by simp [results, Tryz.results65, go_sem, *]) rfl ?_
          exact did_fin (HD3.out.1.step HB4.out) ((HK1.out.trans HD3.out.2).trans (keep_of_below HB4.out)) HL.out HNB.out HWW.out (by rw [HF.out]; rfl) (fun S1 h => by rw [HF.out] at h; cases h; rfl)
    · have HN : Hid (R = .error (formF S1.hd)) := by
        show _ = _
        rw [← HJ.out.2.2.2.1]
        conv => lhs; unfold namesP
        rw [hP]
      rw [hF, hS] at HT
      unfold formF at HT HN
      generalize takeW 1 S1 = y at HT
      generalize S1.hd.a = xa at *
      obtain ⟨yk, yt, ya⟩ := y
      simp only at HT
      clear hk hP hF hS
      go_wp2_with fail
      refine HT.out.mono ?_
      rintro e W2 ⟨rfl, hwent⟩
      have HW2 : Hid (Went w wr rb S1 qs W2 ∧ Keep W1 W2) := ⟨hwent, HJ.out.2.2.1.trans (hwent.keep ⟨_, HJ.out.2.1.box⟩)⟩
      clear hwent HT
      have hb3 : Below W2.heap.size W2 ((W2.alloc (.cells #[.int .i64 yk, .string yt, .int .i64 ya] 35)).alloc (.cells #[.int .i64 1, .int .i64 xa] 46)) := below_step (below_alloc _ _) (below_alloc _ _)
      have t2 := block_below hb3 (HW2.out.2.loc _ _ _ HBX.out (by decide) (by decide) (by decide) (by decide))
      obtain ⟨q3, q4, z3, z4⟩ := box46 t2
      have HL : Hid (Loc ((W2.alloc (.cells #[.int .i64 yk, .string yt, .int .i64 ya] 35)).alloc (.cells #[.int .i64 1, .int .i64 xa] 46)) nb 46 ∧ Below W2.heap.size W2 ((W2.alloc (.cells #[.int .i64 yk, .string yt, .int .i64 ya] 35)).alloc (.cells #[.int .i64 1, .int .i64 xa] 46))) := ⟨⟨_, t2⟩, hb3⟩
      clear t2 hb3
      go_wp2_with fail
      refine bodyPost_ret (v := .agg #[.int .i64 1, .int .i64 xa]) (by simp [results, Tryz.results65, go_sem, *]) rfl ?_
      obtain ⟨h2, hrd2⟩ := HW2.out.1.rd
      exact did_fin (hrd2.step HL.out.2) ((HK1.out.trans HW2.out.2).trans (keep_of_below HL.out.2)) HL.out.1 HNB.out HWW.out (by rw [HN.out]; rfl) (fun S1 h => by rw [HN.out] at h; cases h)

end Go.Proofs.YtkaojokhdleeiaaGreatDoor

/-
  The walks of read's level and readStart.
-/
namespace Go.Proofs.YtkaojokhdleeiaaGreatDoor
open Go.RowKit

set_option maxRecDepth 20000

/-- A plain cell of the reader's box is stored into. -/
theorem RD.setBox {w W : World} {rb : Nat} {h : RHd} {S : St} {qs : List (Ru × Option Addr × Nat)} (r : RD w W rb h S qs) (j : Nat) (u : Value) (S' : St) (e1 : S'.ws = S.ws) (e2 : S'.ts = S.ts) (e3 : S'.ls = S.ls) (e4 : S'.rs = S.rs) (he : (rdC h S).setIfInBounds j u = rdC h S') (ok : StOk S') :
    RD w (W.setCell ⟨rb, j, none⟩ u) rb h S' qs ∧ Keep W (W.setCell ⟨rb, j, none⟩ u) := by
  have hl : Loc W rb 63 := ⟨_, r.box⟩
  have far : ∀ {E k n : Nat} {v : Value} {cs : List Value}, W.ownsRow w.heap.size E k v n cs → E ≠ 63 → (W.setCell ⟨rb, j, none⟩ u).ownsRow w.heap.size E k v n cs := by
    intro E k n v cs ho hE
    exact ownsRow_of_block ho (fun i hi => Below.heap_setCell _ _ _ _ (loc_ne (own_loc ho hi) hl hE))
  refine ⟨⟨?_, ?_, ?_, ?_, ?_, fun q hq => far (r.row q hq) (by decide), r.bel.setCell (p := ⟨rb, j, none⟩) r.new _, r.new, ok⟩, (Keep.refl W).set hl (.inl rfl) _ _⟩
  · rw [setCell_eq_setRow W rb j _ 63 (0, 0) _ r.box, he]
    exact setRow_heap _ _ _ _ 63 _ r.box
  · rw [e1]; exact r.wds
  · rw [e2, e3]; exact far r.tok (by decide)
  · rw [e4]; exact far r.rul (by decide)
  · rw [e4]; exact r.map

set_option maxHeartbeats 8000000 in
theorem rdLevel_calls (a : Int) (x : Wd) (w W : World) (rb : Nat) (h : RHd) (S : St) (qs : List (Ru × Option Addr × Nat)) (r : RD w W rb h S qs) :
    Calls Tryz.prog 67 #[.pointer (some ⟨rb, 0, none⟩), wv x, .int .i64 a] W fun e W' => Did w W rb qs (levelP x a S) e W' := by
  obtain ⟨xk, xt, xa⟩ := x
  obtain ⟨o1, ho1⟩ : ∃ o : Obj, o = .cells #[.pointer (some ⟨rb, 0, none⟩)] 76 := ⟨_, rfl⟩
  obtain ⟨o2, ho2⟩ : ∃ o : Obj, o = .cells #[.int .i64 xk, .string xt, .int .i64 xa] 35 := ⟨_, rfl⟩
  obtain ⟨o3, ho3⟩ : ∃ o : Obj, o = .cells #[.int .i64 a] 3 := ⟨_, rfl⟩
  obtain ⟨o4, ho4⟩ : ∃ o : Obj, o = .cells #[.int .i64 0, .int .i64 0] 46 := ⟨_, rfl⟩
  have hB : Below W.heap.size W ((((W.alloc o1).alloc o2).alloc o3).alloc o4) := below_step (below_step (below_step (below_alloc _ _) (below_alloc _ _)) (below_alloc _ _)) (below_alloc _ _)
  have hb0 : ((((W.alloc o1).alloc o2).alloc o3).alloc o4).heap[W.heap.size]? = some o1 := block_below (below_step (below_step (below_alloc _ _) (below_alloc _ _)) (below_alloc _ _)) (heap_alloc_new _ _)
  have hb1 : ((((W.alloc o1).alloc o2).alloc o3).alloc o4).heap[W.heap.size + 1]? = some o2 := by
    have := heap_alloc_new (W.alloc o1) o2
    rw [size_alloc1] at this
    exact block_below (below_step (below_alloc _ _) (below_alloc _ _)) this
  have hb2 : ((((W.alloc o1).alloc o2).alloc o3).alloc o4).heap[W.heap.size + 1 + 1]? = some o3 := by
    have := heap_alloc_new ((W.alloc o1).alloc o2) o3
    rw [size_alloc1, size_alloc1] at this
    exact block_below (below_alloc _ _) this
  have hb3 : ((((W.alloc o1).alloc o2).alloc o3).alloc o4).heap[W.heap.size + 1 + 1 + 1]? = some o4 := by
    have := heap_alloc_new (((W.alloc o1).alloc o2).alloc o3) o4
    rw [size_alloc1, size_alloc1, size_alloc1] at this
    exact this
  subst ho1 ho2 ho3 ho4
  have HR : Hid (RD w ((((W.alloc (.cells #[.pointer (some ⟨rb, 0, none⟩)] 76)).alloc (.cells #[.int .i64 xk, .string xt, .int .i64 xa] 35)).alloc (.cells #[.int .i64 a] 3)).alloc (.cells #[.int .i64 0, .int .i64 0] 46)) rb h S qs) := r.step hB
  have HWW : Hid (w.heap.size ≤ W.heap.size) := r.bel.size
  clear r
  unfold wv
  simp only
  go_enter Tryz.func67, Tryz.ntmps67
  go_upto_region 1 with fail
  generalize (((W.alloc (.cells #[.pointer (some ⟨rb, 0, none⟩)] 76)).alloc (.cells #[.int .i64 xk, .string xt, .int .i64 xa] 35)).alloc (.cells #[.int .i64 a] 3)).alloc (.cells #[.int .i64 0, .int .i64 0] 46) = W1 at hB hb0 hb1 hb2 hb3 HR ⊢
  obtain ⟨nb, hnb⟩ : ∃ nb, nb = W.heap.size := ⟨_, rfl⟩
  rw [← hnb] at hb0 hb1 hb2 hb3 ⊢
  have HNB : Hid (W.heap.size ≤ nb + 1 + 1 + 1) := by have := Nat.le_of_eq hnb.symm; show _ ≤ _; omega
  have HK1 : Hid (Keep W W1) := keep_of_below hB
  have HBX : Hid (W1.heap[nb]? = some (.cells #[.pointer (some ⟨rb, 0, none⟩)] 76 (0, 0)) ∧ W1.heap[nb + 1]? = some (.cells #[.int .i64 xk, .string xt, .int .i64 xa] 35 (0, 0)) ∧ W1.heap[nb + 1 + 1]? = some (.cells #[.int .i64 a] 3 (0, 0)) ∧ W1.heap[nb + 1 + 1 + 1]? = some (.cells #[.int .i64 0, .int .i64 0] 46 (0, 0))) := ⟨hb0, hb1, hb2, hb3⟩
  have s0 : W1.cell? ⟨nb, 0, none⟩ = some (.pointer (some ⟨rb, 0, none⟩)) := by rw [cell_block hb0]; rfl
  have s2 : W1.cell? ⟨rb, 2, none⟩ = some (.int .i64 (S.lv : Int)) := by rw [cell_block HR.out.box]; rfl
  have f2 : W1.frozen? ⟨rb, 2, none⟩ = false := frozen_block HR.out.box 2
  have hlv := HR.out.ok.lv
  clear hnb hB hb0 hb2
  by_cases h8 : S.lv = 8
  · have hq : ((S.lv : Int) == 8) = true := by simp [h8]
    have HF : Hid (levelP ⟨xk, xt, xa⟩ a S = .error (formF ⟨xk, xt, xa⟩)) := by
      show _ = _
      unfold levelP
      rw [if_pos h8]
    obtain ⟨p0, p1, p2⟩ := box35 hb1
    clear h8 hb1 hb3 hlv
    generalize (S.lv : Int) = lv at *
    go_wp2_with fail
    refine (form_calls ⟨xk, xt, xa⟩ _).mono ?_
    rintro e W2 ⟨rfl, hB⟩
    have HB2 : Hid (Below W1.heap.size W1 W2) := hB
    clear hB p0 p1 p2 s0 s2 f2
    obtain ⟨q3, q4, z3, z4⟩ := box46 (block_below HB2.out HBX.out.2.2.2)
    unfold fv formF
    simp only
    go_wp2_with fail
    refine bodyPost_ret (v := .agg #[.int .i64 1, .int .i64 xa]) (by simp [results, Tryz.results67, go_sem, *]) rfl ?_
    exact did_fin (HR.out.step HB2.out) (HK1.out.trans (keep_of_below HB2.out)) ⟨_, block_below HB2.out HBX.out.2.2.2⟩ HNB.out HWW.out (by rw [HF.out]; rfl) (fun S1 h => by rw [HF.out] at h; cases h)
  · have hq : ((S.lv : Int) == 8) = false := by simp; omega
    have hst := HR.out.setBox 2 (.int .i64 ((S.lv : Int) + 1)) ⟨S.ws, S.ts, S.ls, S.lv + 1, S.st, S.ed, S.ex, S.rs⟩ rfl rfl rfl rfl (by unfold rdC; simp) ⟨HR.out.ok.ends, HR.out.ok.nt, HR.out.ok.nl, by simp only; omega, HR.out.ok.nr⟩
    have t0 := hst.2.loc _ _ _ HBX.out.1 (by decide) (by decide) (by decide) (by decide)
    have t2 := hst.2.loc _ _ _ HBX.out.2.2.1 (by decide) (by decide) (by decide) (by decide)
    have HC : Hid (Calls Tryz.prog 65 #[.pointer (some ⟨rb, 0, none⟩), .func (.func 91) #[] #[.pointer (some ⟨nb, 0, none⟩), .pointer (some ⟨nb + 1 + 1, 0, none⟩)]] (W1.setCell ⟨rb, 2, none⟩ (.int .i64 ((S.lv : Int) + 1))) fun e W' => Did w (W1.setCell ⟨rb, 2, none⟩ (.int .i64 ((S.lv : Int) + 1))) rb qs (levelP ⟨xk, xt, xa⟩ a S) e W') := by
      have := rdNamesV_calls a nb (nb + 1 + 1) w _ rb h _ qs hst.1 S.ws.length (Nat.le_refl _) t0 t2
      have e : levelP ⟨xk, xt, xa⟩ a S = namesP (levP (((S.lv + 1 : Nat)) : Int) a) S.ws.length ⟨S.ws, S.ts, S.ls, S.lv + 1, S.st, S.ed, S.ex, S.rs⟩ := by
        unfold levelP
        rw [if_neg h8]
        rfl
      rw [e]
      exact this
    have HS : Hid (Keep W1 (W1.setCell ⟨rb, 2, none⟩ (.int .i64 ((S.lv : Int) + 1)))) := hst.2
    have s0' : (W1.setCell ⟨rb, 2, none⟩ (.int .i64 ((S.lv : Int) + 1))).cell? ⟨nb, 0, none⟩ = some (.pointer (some ⟨rb, 0, none⟩)) := by rw [cell_block t0]; rfl
    have hlv2 : (S.lv : Int) ≤ 8 ∧ 0 ≤ (S.lv : Int) := by omega
    clear hst t0 t2 h8 hb1 hb3 hlv
    generalize (S.lv : Int) = lv at *
    go_wp2_with fail
    refine HC.out.mono ?_
    intro e W2 hD
    obtain ⟨h3, S3, rfl, hrd3, hkp3, hS3⟩ := hD
    have HD : Hid (RD w W2 rb h3 S3 qs ∧ Keep W1 W2 ∧ ∀ S1, levelP ⟨xk, xt, xa⟩ a S = .ok S1 → S3 = S1) := ⟨hrd3, HS.out.trans hkp3, hS3⟩
    clear hrd3 hkp3 hS3 HC s0 s0' s2 f2
    have t3 := HD.out.2.1.loc _ _ _ HBX.out.2.2.2 (by decide) (by decide) (by decide) (by decide)
    obtain ⟨q3, q4, z3, z4⟩ := box46 t3
    have HL : Hid (Loc W2 (nb + 1 + 1 + 1) 46) := ⟨_, t3⟩
    obtain ⟨g, hg⟩ : ∃ g, g = fltOf (levelP ⟨xk, xt, xa⟩ a S) := ⟨_, rfl⟩
    have HG : Hid (fltOf (levelP ⟨xk, xt, xa⟩ a S) = g) := hg.symm
    rw [← hg]
    clear hg t3
    obtain ⟨g1, g2⟩ := g
    unfold fv
    simp only
    go_wp2_with fail
    refine bodyPost_ret (v := .agg #[.int .i64 g1, .int .i64 g2]) (by simp [results, Tryz.results67, go_sem, *]) rfl ?_
    exact did_fin HD.out.1 (HK1.out.trans HD.out.2.1) HL.out HNB.out HWW.out HG.out HD.out.2.2

set_option maxHeartbeats 8000000 in
theorem rdStart_calls (x : Wd) (w W : World) (rb : Nat) (h : RHd) (S : St) (qs : List (Ru × Option Addr × Nat)) (r : RD w W rb h S qs) :
    Calls Tryz.prog 68 #[.pointer (some ⟨rb, 0, none⟩), wv x] W fun e W' => Did w W rb qs (startP x S) e W' := by
  obtain ⟨xk, xt, xa⟩ := x
  have hB : Below W.heap.size W ((W.alloc (.cells #[.int .i64 xk, .string xt, .int .i64 xa] 35)).alloc (.cells #[.int .i64 0, .int .i64 0] 46)) := below_step (below_alloc _ _) (below_alloc _ _)
  have hb0 : ((W.alloc (.cells #[.int .i64 xk, .string xt, .int .i64 xa] 35)).alloc (.cells #[.int .i64 0, .int .i64 0] 46)).heap[W.heap.size]? = some (.cells #[.int .i64 xk, .string xt, .int .i64 xa] 35 (0, 0)) := block_below (below_alloc _ _) (heap_alloc_new _ _)
  have hb1 : ((W.alloc (.cells #[.int .i64 xk, .string xt, .int .i64 xa] 35)).alloc (.cells #[.int .i64 0, .int .i64 0] 46)).heap[W.heap.size + 1]? = some (.cells #[.int .i64 0, .int .i64 0] 46 (0, 0)) := by
    have := heap_alloc_new (W.alloc (.cells #[.int .i64 xk, .string xt, .int .i64 xa] 35)) (.cells #[.int .i64 0, .int .i64 0] 46)
    rwa [size_alloc1] at this
  have HR : Hid (RD w ((W.alloc (.cells #[.int .i64 xk, .string xt, .int .i64 xa] 35)).alloc (.cells #[.int .i64 0, .int .i64 0] 46)) rb h S qs) := r.step hB
  have HWW : Hid (w.heap.size ≤ W.heap.size) := r.bel.size
  clear r
  unfold wv
  simp only
  go_enter Tryz.func68, Tryz.ntmps68
  go_upto_region 1 with fail
  generalize (W.alloc (.cells #[.int .i64 xk, .string xt, .int .i64 xa] 35)).alloc (.cells #[.int .i64 0, .int .i64 0] 46) = W1 at hB hb0 hb1 HR ⊢
  obtain ⟨nb, hnb⟩ : ∃ nb, nb = W.heap.size := ⟨_, rfl⟩
  rw [← hnb] at hb0 hb1 ⊢
  have HNB : Hid (W.heap.size ≤ nb + 1) := Nat.le_succ_of_le (Nat.le_of_eq hnb.symm)
  have HK1 : Hid (Keep W W1) := keep_of_below hB
  have HBX : Hid (W1.heap[nb]? = some (.cells #[.int .i64 xk, .string xt, .int .i64 xa] 35 (0, 0)) ∧ W1.heap[nb + 1]? = some (.cells #[.int .i64 0, .int .i64 0] 46 (0, 0))) := ⟨hb0, hb1⟩
  have s3 : W1.cell? ⟨rb, 3, none⟩ = some (.string S.st) := by rw [cell_block HR.out.box]; rfl
  by_cases hst : S.st = ⟨#[]⟩
  · have hq : (S.st.toList == []) = true := (toList_nil _).2 hst
    have HT : Hid (Calls Tryz.prog 71 #[.pointer (some ⟨rb, 0, none⟩), .int .i64 1] W1 fun e W' => e = .returned (.tuple #[wv (takeW 1 S), fv (takeF 1 S)]) ∧ Went w W1 rb (takeS 1 S) qs W') := rdTake_calls 1 (by decide) w W1 rb h S qs HR.out
    have HSP : Hid (startP ⟨xk, xt, xa⟩ S = (match takeP 1 S with | .error e => .error e | .ok (w, S1) => .ok ⟨S1.ws, S1.ts, S1.ls, S1.lv, w.t, S1.ed, S1.ex, S1.rs⟩)) := by
      show _ = _
      unfold startP
      rw [if_neg (by simpa using hst)]
      rfl
    clear hb0 hb1 hnb hB hst
    obtain ⟨f, hf⟩ : ∃ f, f = takeF 1 S := ⟨_, rfl⟩
    obtain ⟨y, hy⟩ : ∃ y, y = takeW 1 S := ⟨_, rfl⟩
    have HFY : Hid (f = takeF 1 S ∧ y = takeW 1 S) := ⟨hf, hy⟩
    rw [← hf, ← hy] at HT
    clear hf hy
    obtain ⟨f1, f2⟩ := f
    obtain ⟨yk, yt, ya⟩ := y
    unfold wv fv at HT
    simp only at HT
    generalize S.st = st at *
    go_wp2_with fail
    refine HT.out.mono ?_
    rintro e W2 ⟨rfl, hwent⟩
    have HW2 : Hid (Went w W1 rb (takeS 1 S) qs W2 ∧ Keep W1 W2) := ⟨hwent, hwent.keep ⟨_, HR.out.box⟩⟩
    clear hwent HT s3
    obtain ⟨h2, hrd2⟩ := HW2.out.1.rd
    have hb3 : Below W2.heap.size W2 ((W2.alloc (.cells #[.int .i64 yk, .string yt, .int .i64 ya] 35)).alloc (.cells #[.int .i64 f1, .int .i64 f2] 46)) := below_step (below_alloc _ _) (below_alloc _ _)
    have hrd3 := hrd2.step hb3
    have s3 : ((W2.alloc (.cells #[.int .i64 yk, .string yt, .int .i64 ya] 35)).alloc (.cells #[.int .i64 f1, .int .i64 f2] 46)).cell? ⟨rb, 3, none⟩ = some (.string (takeS 1 S).st) := by rw [cell_block hrd3.box]; rfl
    have z5 : ((W2.alloc (.cells #[.int .i64 yk, .string yt, .int .i64 ya] 35)).alloc (.cells #[.int .i64 f1, .int .i64 f2] 46)).frozen? ⟨rb, 3, none⟩ = false := frozen_block hrd3.box 3
    have hst := hrd3.setBox 3 (.string yt) ⟨(takeS 1 S).ws, (takeS 1 S).ts, (takeS 1 S).ls, (takeS 1 S).lv, yt, (takeS 1 S).ed, (takeS 1 S).ex, (takeS 1 S).rs⟩ rfl rfl rfl rfl (by unfold rdC; simp) ⟨hrd3.ok.ends, hrd3.ok.nt, hrd3.ok.nl, hrd3.ok.lv, hrd3.ok.nr⟩
    have hkk : Keep W1 (((W2.alloc (.cells #[.int .i64 yk, .string yt, .int .i64 ya] 35)).alloc (.cells #[.int .i64 f1, .int .i64 f2] 46)).setCell ⟨rb, 3, none⟩ (.string yt)) := (HW2.out.2.trans (keep_of_below hb3)).trans hst.2
    have t2 := hkk.loc _ _ _ HBX.out.2 (by decide) (by decide) (by decide) (by decide)
    obtain ⟨q3, q4, z3, z4⟩ := box46 t2
    have t5 : ((W2.alloc (.cells #[.int .i64 yk, .string yt, .int .i64 ya] 35)).alloc (.cells #[.int .i64 f1, .int .i64 f2] 46)).heap[W2.heap.size + 1]? = some (.cells #[.int .i64 f1, .int .i64 f2] 46 (0, 0)) := by
      have := heap_alloc_new (W2.alloc (.cells #[.int .i64 yk, .string yt, .int .i64 ya] 35)) (.cells #[.int .i64 f1, .int .i64 f2] 46)
      rwa [size_alloc1] at this
    obtain ⟨q5, q6, -, -⟩ := box46 (hst.2.loc _ _ _ t5 (by decide) (by decide) (by decide) (by decide))
    have HS : Hid (RD w (((W2.alloc (.cells #[.int .i64 yk, .string yt, .int .i64 ya] 35)).alloc (.cells #[.int .i64 f1, .int .i64 f2] 46)).setCell ⟨rb, 3, none⟩ (.string yt)) rb h2 ⟨(takeS 1 S).ws, (takeS 1 S).ts, (takeS 1 S).ls, (takeS 1 S).lv, yt, (takeS 1 S).ed, (takeS 1 S).ex, (takeS 1 S).rs⟩ qs ∧ Keep W1 (((W2.alloc (.cells #[.int .i64 yk, .string yt, .int .i64 ya] 35)).alloc (.cells #[.int .i64 f1, .int .i64 f2] 46)).setCell ⟨rb, 3, none⟩ (.string yt)) ∧ Loc (((W2.alloc (.cells #[.int .i64 yk, .string yt, .int .i64 ya] 35)).alloc (.cells #[.int .i64 f1, .int .i64 f2] 46)).setCell ⟨rb, 3, none⟩ (.string yt)) (nb + 1) 46) := ⟨hst.1, hkk, ⟨_, t2⟩⟩
    clear hrd2 hrd3 hst hkk t2 t5 hb3
    generalize (takeS 1 S).st = st2 at s3
    go_wp2_with fail
    refine bodyPost_ret (v := .agg #[.int .i64 f1, .int .i64 f2]) (by simp [results, Tryz.results68, go_sem, *]) rfl ?_
    refine did_fin HS.out.1 (HK1.out.trans HS.out.2.1) HS.out.2.2 HNB.out HWW.out ?_ ?_
    · rw [HSP.out, HFY.out.1]
      rcases takeP_cases 1 S with ⟨-, hP, -, -, hF⟩ | ⟨-, hP, hF, -⟩
      · rw [hP, hF]; rfl
      · rw [hP, hF]; rfl
    · intro S1 hS1
      rw [HSP.out] at hS1
      rcases takeP_cases 1 S with ⟨-, hP, hW, hS, -⟩ | ⟨-, hP, -, -⟩
      · rw [hP] at hS1
        cases hS1
        have e : yt = S.hd.t := by
          have := HFY.out.2
          rw [hW] at this
          rw [← this]
        rw [hS, e]
      · rw [hP] at hS1
        cases hS1
  · have hq : (S.st.toList == []) = false := by
      cases hb : (S.st.toList == [])
      · rfl
      · exact absurd ((toList_nil _).1 hb) hst
    have HF : Hid (startP ⟨xk, xt, xa⟩ S = .error (againF ⟨xk, xt, xa⟩)) := by
      show _ = _
      unfold startP
      rw [if_pos hst]
    obtain ⟨p0, p1, p2⟩ := box35 hb0
    clear hb0 hb1 hnb hB hst
    generalize S.st = st at *
    go_wp2_with fail
    refine (again_calls ⟨xk, xt, xa⟩ _).mono ?_
    rintro e W2 ⟨rfl, hB⟩
    have HB2 : Hid (Below W1.heap.size W1 W2) := hB
    clear hB p0 p1 p2 s3
    obtain ⟨q3, q4, z3, z4⟩ := box46 (block_below HB2.out HBX.out.2)
    unfold fv againF
    simp only
    go_wp2_with fail
    refine bodyPost_ret (v := .agg #[.int .i64 7, .int .i64 xa]) (by simp [results, Tryz.results68, go_sem, *]) rfl ?_
    exact did_fin (HR.out.step HB2.out) (HK1.out.trans (keep_of_below HB2.out)) ⟨_, block_below HB2.out HBX.out.2⟩ HNB.out HWW.out (by rw [HF.out]; rfl) (fun S1 h => by rw [HF.out] at h; cases h)

end Go.Proofs.YtkaojokhdleeiaaGreatDoor

/-
  The walk of strconv.Atoi at one to four digits.
-/
namespace Go.Proofs.YtkaojokhdleeiaaGreatDoor
open Go.RowKit

set_option maxRecDepth 20000

theorem numP_take {l : List UInt8} {k : Nat} {c : UInt8} (h : l[k]? = some c) : numP (l.take (k + 1)) = numP (l.take k) * 10 + ((c.toNat : Int) - 48) := by
  unfold numP
  rw [take_succ h, List.foldl_append]
  rfl

theorem numP_range : ∀ (k : Nat) (l : List UInt8), (∀ j, j < l.length → isD (bt l j) = true) → k ≤ l.length → 0 ≤ numP (l.take k) ∧ numP (l.take k) < 10 ^ k
  | 0, l, _, _ => by simp [numP]
  | k + 1, l, hd, hk => by
    obtain ⟨h1, h2⟩ := numP_range k l hd (by omega)
    have hl : k < l.length := by omega
    have hc : l[k]? = some l[k] := List.getElem?_eq_getElem hl
    rw [numP_take hc]
    have h3 := hd k hl
    unfold isD bt at h3
    rw [hc] at h3
    simp at h3
    rw [Int.pow_succ]
    omega

theorem below_bytes (w : World) (s : ByteArray) : Below w.heap.size w (Lib.bytesWorld w 5 s) :=
  ⟨rfl, rfl, rfl, by rw [Lib.bytesWorld_size]; omega, fun k hk => Lib.bytesWorld_at_old w 5 s k hk⟩

set_option maxHeartbeats 8000000 in
theorem atoi107_calls (s : ByteArray) (w : World) (h1 : 1 ≤ s.size) (h4 : s.size ≤ 4) (hd : ∀ j, j < s.size → isD (bt (by8 s) j) = true) :
    Calls Tryz.prog 107 #[.string s] w fun e w' => e = .returned (.tuple #[.int .i64 (numP (by8 s)), .nilIface]) ∧ Below w.heap.size w w' := by
  have HD : Hid (∀ j, j < s.size → isD (bt (by8 s) j) = true) := hd
  have hi0 : ∀ W : World, (Instr.index 9 (.string s) (.int .i64 0)).run Tryz.prog W = .ok (.int .u8 (bt (by8 s) 0)) W := run_index_bt s 0 (by omega)
  have hb0 := hd 0 (by omega)
  clear hd
  unfold isD at hb0
  simp only [Bool.and_eq_true, decide_eq_true_eq] at hb0
  generalize bt (by8 s) 0 = b0 at hi0 hb0
  obtain ⟨hb1, hb2⟩ := hb0
  have e1 : (b0 == 45) = false := by simp; omega
  have e2 : (b0 == 43) = false := by simp; omega
  have hcv : (convert 9 41 (.string s)).run Tryz.prog w = .ok (.slice (some ⟨w.heap.size, 0, none⟩) s.size (grownCap w s.size 0 5)) (Lib.bytesWorld w 5 s) := Lib.run_convert_string_bytes w 9 41 5 s Tryz.underlying9 Tryz.underlying41 Tryz.underlying5
  have hcell := Lib.bytesWorld_cell w 5 s
  have HB : Hid (Below w.heap.size w (Lib.bytesWorld w 5 s)) := below_bytes w s
  have HC : Hid (∀ j, j < s.size → (Lib.bytesWorld w 5 s).cell? ⟨w.heap.size, j, none⟩ = some (.int .u8 (bt (by8 s) j))) := fun j hj => by
    rw [hcell j hj]
    rfl
  clear hcell
  have h1' : (0 : Int) < (s.size : Int) := by omega
  have h2' : (s.size : Int) < 19 := by omega
  have h3' : ¬ (s.size : Int) < 1 := by omega
  have h4' : (s.size : Int) < 10 := by omega
  have HN : Hid (s.size = (by8 s).length) := (by8_length s).symm
  have HCAP : Hid (s.size ≤ grownCap w s.size 0 5) := grownCap_ge _ _ _ _
  generalize grownCap w s.size 0 5 = cap at hcv HCAP
  go_enter Tryz.func107, Tryz.ntmps107
  go_upto_block 0 with fail
  generalize Lib.bytesWorld w 5 s = w1 at *
  obtain ⟨bb, hbb⟩ : ∃ bb, bb = w.heap.size := ⟨_, rfl⟩
  rw [← hbb] at HC ⊢
  clear hbb hcv
  have hcap : s.size ≤ cap := HCAP.out
  go_cut [6] (fun s6 wd => s6 = .int .i64 (numP (by8 s)) ∧ wd = w1)
  case first =>
    go_wp2_with fail
    go_loopg [6, 8, 49] s.size (fun kx s6 s8 s49 wr => ∃ k : Nat, s49 = .int .i64 k ∧ s6 = .int .i64 (numP ((by8 s).take k)) ∧ wr = w1 ∧ k ≤ s.size ∧ s.size - k ≤ kx)
    case atStart => exact ⟨0, rfl, rfl, rfl, Nat.zero_le _, by omega⟩
    case round =>
      obtain ⟨k, rfl, rfl, rfl, hk, hg⟩ := hrel
      by_cases hlt : k < s.size
      · have hlt' : (k : Int) < (s.size : Int) := by omega
        have hcl := HC.out k hlt
        have hdg := HD.out k hlt
        unfold isD at hdg
        simp only [Bool.and_eq_true, decide_eq_true_eq] at hdg
        have hlen : k < (by8 s).length := by rw [← HN.out]; exact hlt
        have hat : (by8 s)[k]? = some (by8 s)[k] := List.getElem?_eq_getElem hlen
        have hbt : bt (by8 s) k = ((((by8 s)[k]).toNat : Nat) : Int) := by unfold bt; rw [hat]; rfl
        have HNX : Hid (numP ((by8 s).take (k + 1)) = numP ((by8 s).take k) * 10 + (bt (by8 s) k - 48)) := by
          show _ = _
          rw [numP_take hat, hbt]
        have hrg := numP_range k (by8 s) (fun j hj => HD.out j (by rw [HN.out]; exact hj)) (by omega)
        have hpw : (10 : Int) ^ k ≤ 1000 := by
          have : k ≤ 3 := by omega
          match k, this with
          | 0, _ => decide
          | 1, _ => decide
          | 2, _ => decide
          | 3, _ => decide
        obtain ⟨d, hd⟩ : ∃ d : Nat, bt (by8 s) k = 48 + (d : Int) := ⟨(bt (by8 s) k - 48).toNat, by omega⟩
        rw [hd] at hcl hdg HNX
        have hd9 : d ≤ 9 := by omega
        have hm : 0 ≤ numP ((by8 s).take k) ∧ numP ((by8 s).take k) ≤ 999 := by omega
        generalize numP ((by8 s).take k) = m at *
        obtain ⟨hm1, hm2⟩ := hm
        clear hat hbt hrg hpw hd hlen hdg
        go_wp2_with fail
        go_roundg (s.size - (k + 1))
        case measure => omega
        case rel => exact ⟨k + 1, by simp, by rw [HNX.out], rfl, by omega, Nat.le_refl _⟩
      · have hlt' : ¬ (k : Int) < (s.size : Int) := by omega
        have HF : Hid ((by8 s).take k = by8 s) := List.take_of_length_le (by rw [← HN.out]; omega)
        go_wp2_with fail
        go_meet
        exact ⟨by rw [HF.out], rfl⟩
  case rest =>
    obtain ⟨rfl, hwc⟩ := hcut
    subst wc
    obtain ⟨m, hm⟩ : ∃ m, m = numP (by8 s) := ⟨_, rfl⟩
    have HM : Hid (numP (by8 s) = m) := hm.symm
    rw [← hm]
    clear hm
    go_wp2_with fail
    refine bodyPost_ret (v := .tuple #[.int .i64 m, .nilIface]) (by simp [results, Tryz.results107, go_sem]) rfl ?_
    exact ⟨by rw [HM.out], HB.out⟩

set_option maxHeartbeats 8000000 in
theorem atoi_calls (s : ByteArray) (w : World) (h1 : 1 ≤ s.size) (h4 : s.size ≤ 4) (hd : ∀ j, j < s.size → isD (bt (by8 s) j) = true) :
    Calls Tryz.prog 92 #[.string s] w fun e w' => e = .returned (.tuple #[.int .i64 (numP (by8 s)), .nilIface]) ∧ Below w.heap.size w w' := by
  have H : Hid (Calls Tryz.prog 107 #[.string s] w fun e w' => e = .returned (.tuple #[.int .i64 (numP (by8 s)), .nilIface]) ∧ Below w.heap.size w w') := atoi107_calls s w h1 h4 hd
  clear hd h1 h4
  generalize numP (by8 s) = m at *
  go_enter Tryz.func92, Tryz.ntmps92
  go_wp2_with fail
  refine H.out.mono ?_
  rintro e w1 ⟨rfl, hB⟩
  have HB : Hid (Below w.heap.size w w1) := hB
  clear hB
  go_wp2_with fail
  refine bodyPost_ret (v := .tuple #[.int .i64 m, .nilIface]) (by simp [results, Tryz.results92, go_sem]) rfl ?_
  exact ⟨rfl, HB.out⟩

end Go.Proofs.YtkaojokhdleeiaaGreatDoor
