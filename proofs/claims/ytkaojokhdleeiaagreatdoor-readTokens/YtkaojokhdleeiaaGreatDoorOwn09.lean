/-
  Texts that the proof of the Read statements stands on, part Own09.
-/
import Derived.Test.YtkaojokhdleeiaaGreatDoorOwn07
import Derived.Test.YtkaojokhdleeiaaGreatDoorOwn08
import Derived.Test.YtkaojokhdleeiaaGreatDoorOwn02
/-
  The walk of the reference's names.
-/
namespace Go.Proofs.YtkaojokhdleeiaaGreatDoor
open Go.RowKit

set_option maxRecDepth 20000

theorem sayP_ws {l a : Int} {x : Wd} {S S1 : St} (h : sayP l a x S = .ok S1) : S1.ws = S.ws := by
  unfold sayP at h
  split at h
  · exact listP_ws h
  · exact levP_ws h

theorem oneP_ws {l a : Int} {S S1 : St} (h : oneP l a S = .ok S1) : S1.ws = S.ws.tail := by
  unfold oneP at h
  split at h
  · cases h
  · rename_i x S2 hx
    rw [sayP_ws h]
    unfold takeP at hx
    split at hx
    · cases hx
      rfl
    · cases hx

theorem sayP_flt {l a : Int} {x : Wd} {S : St} {g : Flt} (h : sayP l a x S = .error g) : g.1 ≠ 0 := by
  unfold sayP at h
  split at h
  · exact listP_flt h
  · exact levP_flt h

theorem oneP_flt {l a : Int} {S : St} {g : Flt} (h : oneP l a S = .error g) : g.1 ≠ 0 := by
  unfold oneP at h
  split at h
  · rename_i e he
    cases h
    rw [(takeP_err he).2]
    exact (by decide : (1 : Int) ≠ 0)
  · exact sayP_flt h

/-- What stands behind a name. -/
def moreP (l a : Int) (f : Nat) (S : St) : Except Flt St := if S.hd.k = 1 then namesP (sayP l a) f S else .ok S

theorem namesP_one (l a : Int) (f : Nat) (S : St) : namesP (sayP l a) (f + 1) S = match oneP l a S with | .error e => .error e | .ok S2 => moreP l a f S2 := by
  conv => lhs; unfold namesP
  unfold oneP
  cases takeP 1 S with
  | error e => rfl
  | ok p =>
    obtain ⟨x, S1⟩ := p
    rfl

theorem namesP_bad {l a : Int} {f : Nat} {S : St} {g : Flt} (h : oneP l a S = .error g) : namesP (sayP l a) (f + 1) S = .error g := by rw [namesP_one, h]
theorem namesP_good {l a : Int} {f : Nat} {S S2 : St} (h : oneP l a S = .ok S2) : namesP (sayP l a) (f + 1) S = moreP l a f S2 := by rw [namesP_one, h]

def NMid (w W : World) (rb : Nat) (wl : List Wd) (sd : Bool) (qs : List (Ru × Option Addr × Nat)) (l a : Int) (R : Except Flt St) (kx : Nat) (wr : World) : Prop :=
  KeepF W wr ∧ ((∃ g h' i' S', R = .error g ∧ g.1 ≠ 0 ∧ RF w wr rb h' wl i' g S' sd qs) ∨ (∃ f h' i' S2, f ≤ kx ∧ S2.ws.length ≤ f ∧ RF w wr rb h' wl i' (0, 0) S2 sd qs ∧ InvT S2 ∧ R = moreP l a f S2))

/-- Behind one name. -/
theorem NMid.of {w W W1 W2 : World} {rb : Nat} {wl : List Wd} {sd : Bool} {qs : List (Ru × Option Addr × Nat)} {l a : Int} {R : Except Flt St} {f : Nat} {S : St} (he : Ends S.ws) (hf : S.ws.length ≤ f + 1) (hR : R = namesP (sayP l a) (f + 1) S) (k : KeepF W W1) (d : NDid w W1 rb wl sd qs (oneP l a S) W2) : NMid w W rb wl sd qs l a R f W2 := by
  obtain ⟨k2, h1, h2⟩ := d
  refine ⟨k.trans k2, ?_⟩
  cases ho : oneP l a S with
  | error g =>
    obtain ⟨h', i', S', r⟩ := h2 g ho
    exact .inl ⟨g, h', i', S', by rw [hR, namesP_bad ho], oneP_flt ho, r⟩
  | ok S2 =>
    obtain ⟨⟨h', i', r⟩, v⟩ := h1 S2 ho
    refine .inr ⟨f, h', i', S2, Nat.le_refl _, ?_, r, v, by rw [hR, namesP_good ho]⟩
    rw [oneP_ws ho]
    obtain ⟨x, hx⟩ := he.head
    rw [hx] at hf ⊢
    simp only [List.length_cons, List.tail_cons] at hf ⊢
    omega

set_option maxHeartbeats 8000000 in
theorem rfNames_calls (l a : Int) (hl0 : 0 ≤ l) (w W : World) (rb : Nat) (h : FHd) (wl : List Wd) (i : Nat) (S : St) (sd : Bool) (qs : List (Ru × Option Addr × Nat)) (r : RF w W rb h wl i (0, 0) S sd qs) (hv : InvT S) (f : Nat) (hf : S.ws.length ≤ f + 1) :
    Calls Tryz.prog 52 #[.pointer (some ⟨rb, 0, none⟩), .int .i64 l, .int .i64 a] W fun e W' => e = .returned (.tuple #[]) ∧ NDid w W rb wl sd qs (namesP (sayP l a) (f + 1) S) W' := by
  have HC : Hid (Calls Tryz.prog 85 #[.pointer (some ⟨rb, 0, none⟩), .int .i64 l, .int .i64 a] W fun e W' => e = .returned (.tuple #[]) ∧ NDid w W rb wl sd qs (oneP l a S) W') := rfName_calls l a hl0 w W rb h wl i S sd qs r hv
  obtain ⟨R, hR⟩ : ∃ R, namesP (sayP l a) (f + 1) S = R := ⟨_, rfl⟩
  have HRR : Hid (R = namesP (sayP l a) (f + 1) S) := hR.symm
  have HE : Hid (Ends S.ws ∧ S.ws.length ≤ f + 1) := ⟨r.ok.ends, hf⟩
  have HL0 : Hid (0 ≤ l) := hl0
  rw [hR]
  clear hR r hv hf hl0
  go_enter Tryz.func52, Tryz.ntmps52
  go_wp2_with fail
  refine HC.out.mono ?_
  rintro e W1 ⟨rfl, hd⟩
  have HM : Hid (NMid w W rb wl sd qs l a R f W1) := NMid.of HE.out.1 HE.out.2 HRR.out (KeepF.refl W) hd
  clear hd HC HE HRR
  go_wp2_with fail
  go_loopg [10] f (fun kx _ wr => Hid (NMid w W rb wl sd qs l a R kx wr))
  case atStart => exact HM
  case round =>
    have J : Hid (NMid w W rb wl sd qs l a R _ wr) := hrel
    clear hrel HM
    rcases J.out with ⟨hkp, ⟨g, h1, i1, S1, hRe, hg0, r1⟩ | ⟨f1, h1, i1, S1, hfk, hlen, r1, hv1, hRe⟩⟩
    · have hq : (g.1 == 0) = false := by simp [hg0]
      have c2 : wr.cell? ⟨rb, 2, none⟩ = some (.int .i64 g.1) := by rw [cell_block r1.box]; rfl
      have HF : Hid (NDid w W rb wl sd qs R wr) := NDid.bad hkp r1 hRe
      generalize g.1 = g1 at *
      clear J hRe hg0 r1 hkp
      go_wp2_with fail
      go_end0
      exact ⟨rfl, HF.out⟩
    · have c2 : wr.cell? ⟨rb, 2, none⟩ = some (.int .i64 0) := by rw [cell_block r1.box]; rfl
      have HN : Hid (Calls Tryz.prog 34 #[.pointer (some ⟨rb, 0, none⟩)] wr fun e W' => e = .returned (wv S1.hd) ∧ Below wr.heap.size wr W') := rfNow_calls w wr rb h1 wl i1 (0, 0) S1 sd qs r1
      have HJ : Hid (RF w wr rb h1 wl i1 (0, 0) S1 sd qs ∧ InvT S1 ∧ KeepF W wr ∧ S1.ws.length ≤ f1 ∧ R = moreP l a f1 S1) := ⟨r1, hv1, hkp, hlen, hRe⟩
      clear J r1 hv1 hkp hlen hRe
      generalize hx : S1.hd = x at *
      obtain ⟨xk, xt, xa⟩ := x
      have HX : Hid (S1.hd = ⟨xk, xt, xa⟩) := hx
      unfold wv at HN
      simp only at HN
      clear hx
      have hfk2 := run_wk xk xa xt
      by_cases h1k : xk = 1
      · have hq : (xk == 1) = true := by simp [h1k]
        have HMP : Hid (R = namesP (sayP l a) f1 S1) := by
          show _ = _
          rw [HJ.out.2.2.2.2]
          unfold moreP
          rw [if_pos (by rw [HX.out]; exact h1k)]
        obtain ⟨f2, rfl⟩ : ∃ f2, f1 = f2 + 1 := ⟨f1 - 1, by have := HJ.out.1.ok.ends.pos; have := HJ.out.2.2.2.1; omega⟩
        clear h1k
        go_wp2_with fail
        refine HN.out.mono ?_
        rintro e V ⟨rfl, hB⟩
        have HB : Hid (Below wr.heap.size wr V) := hB
        clear hB
        go_wp2_with fail
        refine (rfName_calls l a HL0.out w V rb h1 wl i1 S1 sd qs (HJ.out.1.step HB.out) HJ.out.2.1).mono ?_
        rintro e V2 ⟨rfl, hd⟩
        have HM2 : Hid (NMid w W rb wl sd qs l a R f2 V2) := NMid.of HJ.out.1.ok.ends HJ.out.2.2.2.1 HMP.out (HJ.out.2.2.1.trans (keepF_of_below HB.out)) hd
        clear hd
        go_wp2_with fail
        go_roundg f2
        case measure => omega
        case rel => exact HM2
      · have hq : (xk == 1) = false := by simp [h1k]
        have HMP : Hid (R = .ok S1) := by
          show _ = _
          rw [HJ.out.2.2.2.2]
          unfold moreP
          rw [if_neg (by rw [HX.out]; exact h1k)]
        clear h1k
        go_wp2_with fail
        refine HN.out.mono ?_
        rintro e V ⟨rfl, hB⟩
        have HB : Hid (Below wr.heap.size wr V) := hB
        clear hB
        go_wp2_with fail
        go_end0
        exact ⟨rfl, NDid.good (HJ.out.2.2.1.trans (keepF_of_below HB.out)) (HJ.out.1.step HB.out) HJ.out.2.1 HMP.out⟩

end Go.Proofs.YtkaojokhdleeiaaGreatDoor

/-
  Plain facts for the walk of the reference's part.
-/
namespace Go.Proofs.YtkaojokhdleeiaaGreatDoor
open Go.RowKit

set_option maxRecDepth 20000

/-- What was said, and how the reference keeps it. -/
def InvP (S : St) (sd : Bool) : Prop := InvT S ∧ (sd = true ↔ S.st ≠ ⟨#[]⟩) ∧ (S.ed = false → S.ex = 0)

def QDid (w W : World) (rb : Nat) (wl : List Wd) (R : Except Flt St) (W' : World) : Prop :=
  KeepF W W' ∧ (∀ S', R = .ok S' → ∃ h' i' sd' qs', RF w W' rb h' wl i' (0, 0) S' sd' qs' ∧ InvP S' sd') ∧ (∀ g, R = .error g → ∃ h' i' S' sd' qs', RF w W' rb h' wl i' g S' sd' qs')

theorem QDid.bad {w W W' : World} {rb : Nat} {wl : List Wd} {sd : Bool} {qs : List (Ru × Option Addr × Nat)} {R : Except Flt St} {h' : FHd} {i' : Nat} {S' : St} {g : Flt} (k : KeepF W W') (r : RF w W' rb h' wl i' g S' sd qs) (e : R = .error g) : QDid w W rb wl R W' :=
  ⟨k, fun S1 h1 => (by rw [e] at h1; cases h1), fun g1 h1 => (by rw [e] at h1; cases h1; exact ⟨h', i', S', sd, qs, r⟩)⟩

theorem QDid.good {w W W' : World} {rb : Nat} {wl : List Wd} {sd : Bool} {qs : List (Ru × Option Addr × Nat)} {R : Except Flt St} {h' : FHd} {i' : Nat} {S' : St} (k : KeepF W W') (r : RF w W' rb h' wl i' (0, 0) S' sd qs) (v : InvP S' sd) (e : R = .ok S') : QDid w W rb wl R W' :=
  ⟨k, fun S1 h1 => (by rw [e] at h1; cases h1; exact ⟨h', i', sd, qs, r, v⟩), fun g1 h1 => (by rw [e] at h1; cases h1)⟩

/-- Names turn neither start nor number. -/
def Same3 (S S' : St) : Prop := S'.st = S.st ∧ S'.ed = S.ed ∧ S'.ex = S.ex

theorem tokP_same {x : Wd} {S S' : St} {i : Nat} (h : tokP x S = .ok (i, S')) : Same3 S S' := by
  unfold tokP at h
  split at h
  · cases h; exact ⟨rfl, rfl, rfl⟩
  · split at h
    · cases h
    · cases h; exact ⟨rfl, rfl, rfl⟩

theorem sayP_same {l a : Int} {x : Wd} {S S' : St} (h : sayP l a x S = .ok S') : Same3 S S' := by
  unfold sayP at h
  split at h
  · unfold listP at h
    split at h
    · cases h
    · rename_i i S2 h2
      split at h
      · cases h
      · cases h
        have e := tokP_same h2
        exact ⟨e.1, e.2.1, e.2.2⟩
  · unfold levP at h
    split at h
    · cases h
    · rename_i i S2 h2
      split at h
      · cases h
      · cases h
        have e := tokP_same h2
        exact ⟨e.1, e.2.1, e.2.2⟩

theorem namesP_same {l a : Int} : ∀ {f : Nat} {S S' : St}, namesP (sayP l a) f S = .ok S' → Same3 S S'
  | 0, S, S', h => by simp only [namesP, Except.ok.injEq] at h; subst h; exact ⟨rfl, rfl, rfl⟩
  | f + 1, S, S', h => by
    unfold namesP at h
    split at h
    · cases h
    · rename_i x S1 h1
      have e1 : Same3 S S1 := by
        unfold takeP at h1
        split at h1
        · cases h1; exact ⟨rfl, rfl, rfl⟩
        · cases h1
      split at h
      · cases h
      · rename_i S2 h2
        have e2 := sayP_same h2
        have e3 : Same3 S2 S' := by
          split at h
          · exact namesP_same h
          · cases h; exact ⟨rfl, rfl, rfl⟩
        exact ⟨e3.1.trans (e2.1.trans e1.1), e3.2.1.trans (e2.2.1.trans e1.2.1), e3.2.2.trans (e2.2.2.trans e1.2.2)⟩

theorem NDid.q {w W W1 W2 : World} {rb : Nat} {wl : List Wd} {sd : Bool} {qs : List (Ru × Option Addr × Nat)} {l a : Int} {R : Except Flt St} {f : Nat} {S : St} (k : KeepF W W1) (v : InvP S sd) (hR : R = namesP (sayP l a) f S) (d : NDid w W1 rb wl sd qs (namesP (sayP l a) f S) W2) : QDid w W rb wl R W2 := by
  obtain ⟨k2, h1, h2⟩ := d
  refine ⟨k.trans k2, fun S' hS => ?_, fun g hg => ?_⟩
  · rw [hR] at hS
    obtain ⟨⟨h', i', r⟩, v'⟩ := h1 S' hS
    obtain ⟨e1, e2, e3⟩ := namesP_same hS
    exact ⟨h', i', sd, qs, r, v', by rw [e1]; exact v.2.1, by rw [e2, e3]; exact v.2.2⟩
  · rw [hR] at hg
    obtain ⟨h', i', S', r⟩ := h2 g hg
    exact ⟨h', i', S', sd, qs, r⟩

theorem sayP_list (a : Int) : sayP 0 a = listP := by
  funext x S
  unfold sayP
  rw [if_pos rfl]
theorem sayP_lev {l a : Int} (h : l ≠ 0) : sayP l a = levP l a := by
  funext x S
  unfold sayP
  rw [if_neg h]

/-- A word that is no key begins no part. -/
theorem partP_nokey {S : St} (he : Ends S.ws) (hk : S.hd.k ≠ 4) : partP S = .error (formF S.hd) := by
  have hne : ∀ t : ByteArray, bt (by8 t) 0 = 37 → 2 ≤ t.size → S.hd.t ≠ t := by
    intro t ht h2 e
    rcases he.cases with ⟨a, hw⟩ | ⟨ok, -, -⟩
    · have e2 : S.hd.t = ⟨#[]⟩ := by unfold St.hd; rw [hw]; rfl
      rw [e2] at e
      subst e
      exact absurd h2 (by decide)
    · have hd : headW S.ws = S.hd := rfl
      rw [hd] at ok
      have h37 : bt (by8 S.hd.t) 0 = 37 := by rw [e]; exact ht
      have hk2 : S.hd.k = 1 ∨ S.hd.k = 2 ∨ S.hd.k = 3 := by have := ok.kind; omega
      rcases hk2 with h | h | h
      · have := (ok.name h).1
        rw [h37] at this
        exact absurd this (by decide)
      · have := (ok.num h).2.2 0 (by rw [e]; omega)
        rw [h37] at this
        exact absurd this (by decide)
      · rcases ok.sign h with h | h | h <;> (rw [h] at h37; exact absurd h37 (by decide))
  unfold partP
  rw [if_neg (hne _ (by decide) (by decide)), if_neg (hne _ (by decide) (by decide)), if_neg (hne _ (by decide) (by decide)), if_neg (hne _ (by decide) (by decide)), if_neg (hne _ (by decide) (by decide)), if_neg (hne _ (by decide) (by decide))]

theorem tTok_l : tTok.toList = [37, 116, 111, 107, 101, 110] := by rw [by8_toList]; rfl
theorem tLeft_l : tLeft.toList = [37, 108, 101, 102, 116] := by rw [by8_toList]; rfl
theorem tRight_l : tRight.toList = [37, 114, 105, 103, 104, 116] := by rw [by8_toList]; rfl
theorem tNon_l : tNon.toList = [37, 110, 111, 110, 97, 115, 115, 111, 99] := by rw [by8_toList]; rfl
theorem tStart_l : tStart.toList = [37, 115, 116, 97, 114, 116] := by rw [by8_toList]; rfl
theorem tExp_l : tExp.toList = [37, 101, 120, 112, 101, 99, 116] := by rw [by8_toList]; rfl
theorem keyY {x t : ByteArray} {l : List UInt8} (ht : t.toList = l) (h : x = t) : (x.toList == l) = true := by rw [h, ht]; simp
theorem keyN {x t : ByteArray} {l : List UInt8} (ht : t.toList = l) (h : x ≠ t) : (x.toList == l) = false := by rw [← ht]; exact toList_beq_ne h

end Go.Proofs.YtkaojokhdleeiaaGreatDoor

/-
  The reference's reader while a rule is made; a rule is laid to its list.
-/
namespace Go.Proofs.YtkaojokhdleeiaaGreatDoor
open Go.RowKit

set_option maxRecDepth 20000

/-- All that the reader has lies below. -/
structure RFlt (B rb : Nat) (h : FHd) (qs : List (Ru × Option Addr × Nat)) : Prop where
  box : rb < B
  tok : ∀ a, h.ta = some a → a.block < B
  bls : ∀ a, h.ba = some a → a.block < B
  rul : ∀ a, h.ra = some a → a.block < B
  row : ∀ q ∈ qs, ∀ a, q.2.1 = some a → a.block < B

theorem own_lt {W : World} {base E k n m c : Nat} {ao : Option Addr} {cs : List Value} (h : W.ownsRow base E k (.slice ao m c) n cs) : ∀ a, ao = some a → a.block < W.heap.size := by
  intro a ha
  subst ha
  rcases h.2 with ⟨hv, -⟩ | ⟨g, c, cur, hv, -, hh, -⟩
  · cases hv
  · cases hv
    exact (Array.getElem?_eq_some_iff.1 hh).1

theorem RFlt.of {w W : World} {rb : Nat} {h : FHd} {wl : List Wd} {i : Nat} {f : Flt} {S : St} {sd : Bool} {qs : List (Ru × Option Addr × Nat)} (r : RF w W rb h wl i f S sd qs) : RFlt W.heap.size rb h qs :=
  ⟨(Array.getElem?_eq_some_iff.1 r.box).1, own_lt r.tok, own_lt r.bls, own_lt r.rul, fun q hq => own_lt (r.row q hq)⟩

theorem RFlt.mono {B B' rb : Nat} {h : FHd} {qs : List (Ru × Option Addr × Nat)} (r : RFlt B rb h qs) (hB : B ≤ B') : RFlt B' rb h qs :=
  ⟨Nat.lt_of_lt_of_le r.box hB, fun a ha => Nat.lt_of_lt_of_le (r.tok a ha) hB, fun a ha => Nat.lt_of_lt_of_le (r.bls a ha) hB, fun a ha => Nat.lt_of_lt_of_le (r.rul a ha) hB, fun q hq a ha => Nat.lt_of_lt_of_le (r.row q hq a ha) hB⟩

theorem own_above {W W' : World} {B base E k n m c : Nat} {ao : Option Addr} {cs : List Value} (h : W.ownsRow base E k (.slice ao m c) n cs) (hl : ∀ a, ao = some a → a.block < B) (hb : Below B W W') : W'.ownsRow base E k (.slice ao m c) n cs := by
  refine ownsRow_of_block h (fun i hi => hb.block i ?_)
  cases ao with
  | none => cases hi
  | some a =>
    have := hl a rfl
    simp only [Value.ownBlock, Option.some.injEq] at hi
    omega

theorem RF.above {w W W' : World} {B rb : Nat} {h : FHd} {wl : List Wd} {i : Nat} {f : Flt} {S : St} {sd : Bool} {qs : List (Ru × Option Addr × Nat)} (r : RF w W rb h wl i f S sd qs) (lt : RFlt B rb h qs) (hb : Below B W W') (hw : w.heap.size ≤ B) : RF w W' rb h wl i f S sd qs :=
  ⟨by rw [hb.block rb lt.box]; exact r.box, r.wds, r.at_, own_above r.tok lt.tok hb, own_above r.bls lt.bls hb, own_above r.rul lt.rul hb, r.map, fun q hq => own_above (r.row q hq) (lt.row q hq) hb, r.bel.trans (hb.mono hw), r.new, r.ok⟩

theorem KeepF.above {W W1 W2 : World} {B : Nat} (k : KeepF W W1) (hb : Below B W1 W2) (hB : W.heap.size ≤ B) : KeepF W W2 := by
  refine ⟨Nat.le_trans k.size hb.size, fun b c T h0 h1 h2 h3 h4 h5 => ?_⟩
  have h6 := (Array.getElem?_eq_some_iff.1 h0).1
  rw [hb.block b (by omega)]
  exact k.loc b c T h0 h1 h2 h3 h4 h5

/-- The reader, and the rule that is being made. -/
structure AM (w W wr : World) (rb tb : Nat) (h : FHd) (wl : List Wd) (i : Nat) (f : Flt) (S : St) (sd : Bool) (qs : List (Ru × Option Addr × Nat)) (left : ByteArray) (l : List ByteArray) (p : ByteArray) (xa : Option Addr) (m xc : Nat) : Prop where
  rf : RF w wr rb h wl i f S sd qs
  box : wr.heap[tb]? = some (.cells #[.string left, .slice xa m xc, .string p] 58 (0, 0))
  own : OwnS wr (tb + 1) (.slice xa m xc) l
  len : m = l.length
  keep : KeepF W wr
  lt : RFlt tb rb h qs
  lo : W.heap.size ≤ tb
  lw : w.heap.size ≤ tb

theorem AM.step {w W wr wr' : World} {rb tb : Nat} {h : FHd} {wl : List Wd} {i : Nat} {f : Flt} {S : St} {sd : Bool} {qs : List (Ru × Option Addr × Nat)} {left p : ByteArray} {l : List ByteArray} {xa : Option Addr} {m xc : Nat} (a : AM w W wr rb tb h wl i f S sd qs left l p xa m xc) (hb : Below wr.heap.size wr wr') : AM w W wr' rb tb h wl i f S sd qs left l p xa m xc :=
  ⟨a.rf.step hb, block_below hb a.box, a.own.below hb, a.len, a.keep.trans (keepF_of_below hb), a.lt, a.lo, a.lw⟩

theorem AM.kept {w W wr wr' : World} {rb tb : Nat} {h : FHd} {wl : List Wd} {i i' : Nat} {f f' : Flt} {S S' : St} {sd : Bool} {qs : List (Ru × Option Addr × Nat)} {left p : ByteArray} {l : List ByteArray} {xa : Option Addr} {m xc : Nat} (a : AM w W wr rb tb h wl i f S sd qs left l p xa m xc) (k : Kept (One rb) wr wr') (r : RF w wr' rb h wl i' f' S' sd qs) : AM w W wr' rb tb h wl i' f' S' sd qs left l p xa m xc := by
  refine ⟨r, ?_, ?_, a.len, a.keep.trans (keepF_of_kept k ⟨_, a.rf.box⟩), a.lt, a.lo, a.lw⟩
  · rw [k.block tb (Array.getElem?_eq_some_iff.1 a.box).1 (fun e => by have := a.lt.box; unfold One at e; omega)]
    exact a.box
  · refine ownsRow_of_block a.own (fun j hj => k.block j (World.ownsRow.lt a.own j hj).2 (fun e => ?_))
    exact loc_ne (own_loc a.own hj) ⟨_, a.rf.box⟩ (by decide) e

/-- One name more at the right. -/
theorem AM.push {w W wr : World} {rb tb : Nat} {h : FHd} {wl : List Wd} {i : Nat} {f : Flt} {S : St} {sd : Bool} {qs : List (Ru × Option Addr × Nat)} {left p : ByteArray} {l : List ByteArray} {xa : Option Addr} {m xc : Nat} (a : AM w W wr rb tb h wl i f S sd qs left l p xa m xc) (hl : l.length ≤ 20) (x : ByteArray) :
    ∃ ao n c w', (Builtin.append_ #[38, 38] 38 #[.slice xa m xc, .slice (some ⟨wr.heap.size, 0, none⟩) 1 1]).run Tryz.prog (wr.alloc (.cells #[.string x] 9)) = .ok (.slice ao n c) w' ∧ w'.heap[tb]? = some (.cells #[.string left, .slice xa m xc, .string p] 58 (0, 0)) ∧
      AM w W (w'.setCell ⟨tb, 1, none⟩ (.slice ao n c)) rb tb h wl i f S sd qs left (l ++ [x]) p ao n c := by
  have hb1 := below_alloc wr (.cells #[.string x] 9)
  have a1 := a.step hb1
  have hsz : tb + 1 ≤ (wr.alloc (.cells #[.string x] 9)).heap.size := by have := (Array.getElem?_eq_some_iff.1 a1.box).1; omega
  obtain ⟨ao, n, c, w', hrun, hn, ho, hb⟩ := a1.own.addRow (new_row wr [x] (by simp)) hsz (by simp; omega) rfl
  have hbox : w'.heap[tb]? = some (.cells #[.string left, .slice xa m xc, .string p] 58 (0, 0)) := by
    rw [hb.block tb (Nat.lt_succ_self _)]
    exact a1.box
  have r1 : RF w w' rb h wl i f S sd qs := a1.rf.above (a.lt.mono (Nat.le_succ _)) hb (Nat.le_succ_of_le a.lw)
  have hb2 : Below tb w' (w'.setCell ⟨tb, 1, none⟩ (.slice ao n c)) := (Below.refl tb w').setCell (p := ⟨tb, 1, none⟩) (Nat.le_refl _) _
  refine ⟨ao, n, c, w', hrun, hbox, r1.above a.lt hb2 a.lw, ?_, ?_, hn, (a1.keep.above hb (Nat.le_succ_of_le a.lo)).above hb2 a.lo, a.lt, a.lo, a.lw⟩
  · rw [setCell_eq_setRow w' tb 1 _ 58 (0, 0) _ hbox]
    exact setRow_heap _ _ _ _ 58 _ hbox
  · exact ownsRow_of_block ho (fun i hi => Below.heap_setCell _ _ _ _ (loc_ne (own_loc ho hi) ⟨_, hbox⟩ (by decide)))

/-- What stands behind %prec. -/
theorem AM.prec {w W wr : World} {rb tb : Nat} {h : FHd} {wl : List Wd} {i : Nat} {f : Flt} {S : St} {sd : Bool} {qs : List (Ru × Option Addr × Nat)} {left p : ByteArray} {l : List ByteArray} {xa : Option Addr} {m xc : Nat} (a : AM w W wr rb tb h wl i f S sd qs left l p xa m xc) (x : ByteArray) :
    AM w W (wr.setCell ⟨tb, 2, none⟩ (.string x)) rb tb h wl i f S sd qs left l x xa m xc := by
  have hb2 : Below tb wr (wr.setCell ⟨tb, 2, none⟩ (.string x)) := (Below.refl tb wr).setCell (p := ⟨tb, 2, none⟩) (Nat.le_refl _) _
  refine ⟨a.rf.above a.lt hb2 a.lw, ?_, ?_, a.len, a.keep.above hb2 a.lo, a.lt, a.lo, a.lw⟩
  · rw [setCell_eq_setRow wr tb 2 _ 58 (0, 0) _ a.box]
    exact setRow_heap _ _ _ _ 58 _ a.box
  · exact ownsRow_of_block a.own (fun i hi => Below.heap_setCell _ _ _ _ (loc_ne (own_loc a.own hi) ⟨_, a.box⟩ (by decide)))

/-- One rule more. -/
theorem RF.addRule {w W : World} {rb : Nat} {h : FHd} {wl : List Wd} {i : Nat} {f : Flt} {S : St} {sd : Bool} {qs : List (Ru × Option Addr × Nat)} (r : RF w W rb h wl i f S sd qs) (u : Ru) (xa : Option Addr) (xc : Nat) (hx : OwnS W w.heap.size (.slice xa u.r.length xc) u.r) (hn : S.rs.length < 100) :
    ∃ ao m c w', (Builtin.append_ #[26, 26] 26 #[.slice h.ra S.rs.length h.rc, .slice (some ⟨W.heap.size, 0, none⟩) 1 1]).run Tryz.prog (W.alloc (.cells #[.string u.l, .slice xa u.r.length xc, .string u.p] 58)) = .ok (.slice ao m c) w' ∧ m = S.rs.length + 1 ∧ w'.heap[rb]? = some (.cells (rfC h wl.length i f S sd) 68 (0, 0)) ∧
      RF w (w'.setCell ⟨rb, 7, none⟩ (.slice ao m c)) rb ⟨h.lb, h.lo, h.lc, h.ta, h.tc, ao, c, h.ba, h.bc⟩ wl i f (ruleAdd S u) sd (qs ++ [(u, xa, xc)]) ∧ KeepF W (w'.setCell ⟨rb, 7, none⟩ (.slice ao m c)) := by
  obtain ⟨i0, hi, hz0, hz1, hz2⟩ := info_parts Tryz.info58
  have hb1 := below_alloc W (.cells #[.string u.l, .slice xa u.r.length xc, .string u.p] 58)
  have g1 := r.step hb1
  have hx1 := hx.below hb1
  have hnews : ∀ j v, (rulC [(u, xa, xc)])[j]? = some v → (W.alloc (.cells #[.string u.l, .slice xa u.r.length xc, .string u.p] 58)).cell? ((⟨W.heap.size, 0, none⟩ : Addr).add j) = some v := by
    intro j v hv
    rw [Addr.add_lit, Nat.zero_add, World.cell?_alloc_mark, ← hv]
    exact List.getElem?_toArray (xs := rulC [(u, xa, xc)]) (i := j)
  obtain ⟨v', w', hr, h2, h3, -⟩ := run_append_own (P := Tryz.prog) (W.alloc (.cells #[.string u.l, .slice xa u.r.length xc, .string u.p] 58)) w.heap.size 26 26 58 i0 _ 3 56 Tryz.underlying26 hi hz0 hz1 hz2 rfl (by decide) _ S.rs.length _ g1.rul ⟨W.heap.size, 0, none⟩ 1 1 (rulC [(u, xa, xc)]) rfl hnews
    (fun v hv => by simp [rulC] at hv; rcases hv with rfl | rfl | rfl <;> rfl) (by unfold maxLen; omega) (by omega) (by have := g1.bel.size; exact this)
  obtain ⟨ao, c, rfl, -⟩ := own_slice h2
  have hbox : w'.heap[rb]? = some (.cells (rfC h wl.length i f S sd) 68 (0, 0)) := by
    rw [h3.block rb (Array.getElem?_eq_some_iff.1 g1.box).1 (fun e => loc_ne ⟨_, g1.box⟩ (own_loc g1.rul e.symm) (by decide) rfl)]
    exact g1.box
  have far : ∀ {E k n : Nat} {v : Value} {cs : List Value}, w'.ownsRow w.heap.size E k v n cs → E ≠ 68 → (w'.setCell ⟨rb, 7, none⟩ (.slice ao (S.rs.length + 1) c)).ownsRow w.heap.size E k v n cs := by
    intro E k n v cs ho hE
    exact ownsRow_of_block ho (fun i hi => Below.heap_setCell _ _ _ _ (loc_ne (own_loc ho hi) ⟨_, hbox⟩ hE))
  refine ⟨ao, _, c, w', hr, rfl, hbox, ⟨?_, r.wds, r.at_, ?_, ?_, ?_, ?_, fun q hq => ?_, ?_, r.new, ?_⟩, ?_⟩
  · rw [setCell_eq_setRow w' rb 7 _ 68 (0, 0) _ hbox]
    have e : (rfC h wl.length i f S sd).setIfInBounds 7 (.slice ao (S.rs.length + 1) c) = rfC ⟨h.lb, h.lo, h.lc, h.ta, h.tc, ao, c, h.ba, h.bc⟩ wl.length i f (ruleAdd S u) sd := by
      unfold rfC ruleAdd
      simp
    rw [e]
    exact setRow_heap _ _ _ _ 68 _ hbox
  · exact far (own_stay g1.tok g1.rul (by decide) h3) (by decide)
  · exact far (own_stay g1.bls g1.rul (by decide) h3) (by decide)
  · refine far ?_ (by decide)
    unfold ruleAdd
    simp only [List.length_append, List.length_cons, List.length_nil]
    rw [rulC_append]
    exact h2
  · unfold ruleAdd
    simp only
    rw [List.map_append, r.map]
    rfl
  · rcases List.mem_append.1 hq with h4 | h4
    · exact far (own_stay (g1.row q h4) g1.rul (by decide) h3) (by decide)
    · rw [List.mem_singleton] at h4
      subst h4
      exact far (own_stay hx1 g1.rul (by decide) h3) (by decide)
  · exact (g1.bel.grown h3 (g1.bel.size) (fun k hk => (World.ownsRow.lt g1.rul k hk).1)).setCell (p := ⟨rb, 7, none⟩) r.new _
  · refine ⟨r.ok.ends, r.ok.nt, r.ok.lv, ?_⟩
    unfold ruleAdd
    simp only [List.length_append, List.length_cons, List.length_nil]
    omega
  · have k1 : KeepF W w' := by
      refine (keepF_of_below hb1).trans ⟨h3.size, fun b c2 T hb q1 q2 q3 q4 q5 => ?_⟩
      rw [h3.block b (Array.getElem?_eq_some_iff.1 hb).1 (fun e => loc_ne ⟨_, hb⟩ (own_loc g1.rul e.symm) q4 rfl)]
      exact hb
    exact k1.set ⟨_, hbox⟩ (.inl rfl) 7 _

/-- A call as one step of a region that draws: its answer is told, and what it leaves. -/
theorem step_call_any {ops : Array Oper} {o : Oper} {a : Act} {w : World} {K : Act → World → Prop} {Q : Exit → Act → World → Prop} {E : Prop} (hg : o.guard = none)
    (f : FuncId) (args : Array Value) (v : Value) (P : World → Prop) (hrun : (execOp a.eval o).run Tryz.prog w = .ok (.enter f args) w)
    (hc : Calls Tryz.prog f args w fun e w' => e = .returned v ∧ P w') (hK : ∀ w', P w' → K (a.put o.dst v) w') :
    if Region.wanted o (yielded ops a.tmps) = true then Oper.wp Tryz.prog o a w K Q else E := by
  have hw : Region.wanted o (yielded ops a.tmps) = true := by simp [Region.wanted, hg]
  rw [if_pos hw]
  unfold Oper.wp
  rw [hrun, Oper.upon_enter]
  refine hc.mono fun e w'' hh => ?_
  obtain ⟨rfl, hp⟩ := hh
  exact hK w'' hp

end Go.Proofs.YtkaojokhdleeiaaGreatDoor

/-
  The walk of the reference's alternative.
-/
namespace Go.Proofs.YtkaojokhdleeiaaGreatDoor
open Go.RowKit

set_option maxRecDepth 20000

/-- What stands behind the names of an alternative. -/
def altK (left : ByteArray) (X : Except Flt (List ByteArray × St)) : Except Flt St :=
  match X with
  | .error e => .error e
  | .ok (r, S1) =>
    if S1.hd.t = tPrec then
      match takeP 1 S1.next with
      | .error e => .error e
      | .ok (w, S2) => .ok (ruleAdd S2 ⟨left, r, w.t⟩)
    else .ok (ruleAdd S1 ⟨left, r, ⟨#[]⟩⟩)

theorem altP_eq (left : ByteArray) (S : St) : altP left S = if S.rs.length = 100 then .error (formF S.hd) else altK left (symP S.ws.length [] S) := rfl

set_option maxHeartbeats 2000000 in
theorem rfAltBad_calls (left : ByteArray) (w W : World) (rb : Nat) (h : FHd) (wl : List Wd) (i : Nat) (f : Flt) (S : St) (sd : Bool) (qs : List (Ru × Option Addr × Nat)) (r : RF w W rb h wl i f S sd qs) (hf : f.1 ≠ 0) :
    Calls Tryz.prog 55 #[.pointer (some ⟨rb, 0, none⟩), .string left] W fun e W' => e = .returned (.tuple #[]) ∧ W' = W := by
  have c2 : W.cell? ⟨rb, 2, none⟩ = some (.int .i64 f.1) := by rw [cell_block r.box]; rfl
  have hq : (f.1 != 0) = true := by simp [hf]
  generalize f.1 = f1 at *
  clear r hf
  go_enter Tryz.func55, Tryz.ntmps55
  go_wp2_with fail
  refine bodyPost_ret (results_none rfl _ _ _) rfl ?_
  exact ⟨rfl, rfl⟩

/-- Where an alternative stands when its names are read. -/
def AltE (w W : World) (rb tb : Nat) (h : FHd) (wl : List Wd) (sd : Bool) (qs : List (Ru × Option Addr × Nat)) (left : ByteArray) (R : Except Flt St) (wd : World) : Prop :=
  ∃ f i2 S2 p l xa m xc, AM w W wd rb tb h wl i2 f S2 sd qs left l p xa m xc ∧ S2.rs.length < 100 ∧ InvP S2 sd ∧ ((f = (0, 0) ∧ R = .ok (ruleAdd S2 ⟨left, l, p⟩)) ∨ R = .error f)

set_option maxHeartbeats 8000000 in
theorem rfAlt_calls (left : ByteArray) (w W : World) (rb : Nat) (h : FHd) (wl : List Wd) (i : Nat) (S : St) (sd : Bool) (qs : List (Ru × Option Addr × Nat)) (r : RF w W rb h wl i (0, 0) S sd qs) (hv : InvP S sd) :
    Calls Tryz.prog 55 #[.pointer (some ⟨rb, 0, none⟩), .string left] W fun e W' => e = .returned (.tuple #[]) ∧ QDid w W rb wl (altP left S) W' := by
  obtain ⟨R, hR⟩ : ∃ R, altP left S = R := ⟨_, rfl⟩
  have HRR : Hid (R = altP left S) := hR.symm
  rw [hR]
  clear hR
  have b0 := heap_alloc_new W (.cells #[.string left, .slice none 0 0, .string ⟨#[]⟩] 58)
  have hB := below_alloc W (.cells #[.string left, .slice none 0 0, .string ⟨#[]⟩] 58)
  have ha : AM w W (W.alloc (.cells #[.string left, .slice none 0 0, .string ⟨#[]⟩] 58)) rb W.heap.size h wl i (0, 0) S sd qs left [] ⟨#[]⟩ none 0 0 := ⟨r.step hB, b0, World.ownsRow_nil _ _ _ _, rfl, keepF_of_below hB, RFlt.of r, Nat.le_refl _, r.bel.size⟩
  have HV : Hid (InvP S sd) := hv
  have hn100 := r.ok.nr
  have c2 : W.cell? ⟨rb, 2, none⟩ = some (.int .i64 0) := by rw [cell_block r.box]; rfl
  clear r hv b0 hB
  go_enter Tryz.func55, Tryz.ntmps55
  go_upto_region 2 with fail
  obtain ⟨tb, htb⟩ : ∃ tb, tb = W.heap.size := ⟨_, rfl⟩
  rw [← htb] at ha ⊢
  generalize W.alloc (.cells #[.string left, .slice none 0 0, .string ⟨#[]⟩] 58) = W1 at ha ⊢
  have HA : Hid (AM w W W1 rb tb h wl i (0, 0) S sd qs left [] ⟨#[]⟩ none 0 0) := ha
  have c7 : W1.cell? ⟨rb, 7, none⟩ = some (.slice h.ra S.rs.length h.rc) := by rw [cell_block ha.rf.box]; rfl
  generalize hn : S.rs.length = n at *
  clear ha htb c2
  by_cases h100 : n = 100
  · have hq : ((n : Int) == 100) = true := by simp [h100]
    have HF : Hid (R = .error (1, S.hd.a)) := by
      show _ = _
      rw [HRR.out, altP_eq, if_pos (by rw [hn]; exact h100)]
      rfl
    have HN : Hid (Calls Tryz.prog 34 #[.pointer (some ⟨rb, 0, none⟩)] W1 fun e W' => e = .returned (wv S.hd) ∧ Below W1.heap.size W1 W') := rfNow_calls w W1 rb h wl i (0, 0) S sd qs HA.out.rf
    generalize hx : S.hd = x at *
    obtain ⟨xk, xt, xa⟩ := x
    unfold wv at HN
    simp only at HN HF
    have hfa := run_wa xk xa xt
    clear hx h100 hn HRR
    go_wp2_with fail
    refine HN.out.mono ?_
    rintro e W2 ⟨rfl, hB2⟩
    have HA2 : Hid (AM w W W2 rb tb h wl i (0, 0) S sd qs left [] ⟨#[]⟩ none 0 0) := HA.out.step hB2
    clear hB2
    go_wp2_with fail
    refine (rfFault_calls 1 xa w W2 rb h wl i (0, 0) S sd qs HA2.out.rf).mono ?_
    rintro e W5 ⟨rfl, hW5⟩
    have H5 : Hid (RF w W5 rb h wl i (1, xa) S sd qs ∧ KeepF W W5) := by
      rw [hW5]
      exact ⟨HA2.out.rf.fail 1 xa, (HA2.out.keep.set ⟨_, HA2.out.rf.box⟩ (.inl rfl) 2 _).set (Loc.set ⟨_, HA2.out.rf.box⟩ _ _ _) (.inl rfl) 3 _⟩
    clear hW5
    go_wp2_with fail
    refine bodyPost_ret (results_none rfl _ _ _) rfl ?_
    exact ⟨rfl, QDid.bad H5.out.2 H5.out.1 HF.out⟩
  · have hq : ((n : Int) == 100) = false := by simp; omega
    have HK : Hid (R = altK left (symP S.ws.length [] S)) := by
      show _ = _
      rw [HRR.out, altP_eq, if_neg (by rw [hn]; exact h100)]
    have HLT : Hid (S.rs.length < 100) := by show _ < _; rw [hn]; omega
    clear HRR h100 hn
    obtain ⟨f0, hf0⟩ : ∃ f0, f0 = S.ws.length := ⟨_, rfl⟩
    rw [← hf0] at HK
    have HM : Hid (∃ f l i1 S1 xa m xc, f ≤ f0 ∧ l.length ≤ 20 ∧ S1.ws.length ≤ f ∧ AM w W W1 rb tb h wl i1 (0, 0) S1 sd qs left l ⟨#[]⟩ xa m xc ∧ InvP S1 sd ∧ S1.rs.length < 100 ∧ R = altK left (symP f l S1)) := ⟨f0, [], i, S, none, 0, 0, Nat.le_refl _, by decide, Nat.le_of_eq hf0.symm, HA.out, HV.out, HLT.out, HK.out⟩
    clear HA HV HLT HK hf0
    go_wp2_with fail
    go_loopg [25] f0 (fun kx _ wr => Hid (∃ f l i1 S1 xa m xc, f ≤ kx ∧ l.length ≤ 20 ∧ S1.ws.length ≤ f ∧ AM w W wr rb tb h wl i1 (0, 0) S1 sd qs left l ⟨#[]⟩ xa m xc ∧ InvP S1 sd ∧ S1.rs.length < 100 ∧ R = altK left (symP f l S1)))
    case atStart => exact HM
    case round =>
      obtain ⟨f, l, i1, S1, xa, m, xc, hfk, hl20, hlen, ham, hv1, hn1, hRe⟩ := hrel.out
      clear hrel HM c7 hq
      obtain ⟨f', rfl⟩ : ∃ f', f = f' + 1 := ⟨f - 1, by have := ham.rf.ok.ends.pos; omega⟩
      have HJ : Hid (l.length ≤ 20 ∧ S1.ws.length ≤ f' + 1 ∧ AM w W wr rb tb h wl i1 (0, 0) S1 sd qs left l ⟨#[]⟩ xa m xc ∧ InvP S1 sd ∧ S1.rs.length < 100) := ⟨hl20, hlen, ham, hv1, hn1⟩
      have HSY : Hid (R = altK left (if S1.hd.k = 1 then (if l.length = 20 then .error (formF S1.hd) else symP f' (l ++ [S1.hd.t]) S1.next) else .ok (l, S1))) := hRe
      have HNW : Hid (∀ V, Below wr.heap.size wr V → Calls Tryz.prog 34 #[.pointer (some ⟨rb, 0, none⟩)] V fun e W' => e = .returned (wv S1.hd) ∧ Below V.heap.size V W') := fun V hV => rfNow_calls w V rb h wl i1 (0, 0) S1 sd qs (ham.rf.step hV)
      have c2 : wr.cell? ⟨rb, 2, none⟩ = some (.int .i64 0) := by rw [cell_block ham.rf.box]; rfl
      have hm20 : m ≤ 20 := by rw [ham.len]; exact hl20
      have hmx : m ≤ xc ∧ xc ≤ 9223372036854775807 := by
        have ho := ham.own
        rw [ham.len] at ho
        obtain ⟨ao, c, e, q1, q2, q3⟩ := own_slice ho
        cases e
        rw [ham.len]
        unfold maxLen at q2
        omega
      clear hl20 hlen ham hv1 hn1 hRe
      generalize hx : S1.hd = x at *
      obtain ⟨xk, xt, ya⟩ := x
      unfold wv at HNW
      simp only at HNW HSY
      have HX : Hid (S1.hd = ⟨xk, xt, ya⟩) := hx
      have hfw := run_wk xk ya xt
      clear hx
      go_wp2_with fail
      refine (HNW.out _ (Below.refl _ _)).mono ?_
      rintro e W2 ⟨rfl, hB⟩
      have HA2 : Hid (AM w W W2 rb tb h wl i1 (0, 0) S1 sd qs left l ⟨#[]⟩ xa m xc ∧ Below wr.heap.size wr W2) := ⟨HJ.out.2.2.1.step hB, hB⟩
      clear hB c2
      by_cases hk : xk = 1
      · have hq1 : (xk == 1) = true := by simp [hk]
        have t1 : W2.cell? ⟨tb, 1, none⟩ = some (.slice xa m xc) := by rw [cell_block HA2.out.1.box]; rfl
        have HS2 : Hid (R = altK left (if l.length = 20 then .error (formF ⟨xk, xt, ya⟩) else symP f' (l ++ [xt]) S1.next)) := by
          show _ = _
          have := HSY.out
          rw [if_pos hk] at this
          exact this
        have HXK : Hid (xk = 1) := hk
        clear hk HSY
        by_cases h20 : m = 20
        · have hq2 : ((m : Int) == 20) = true := by simp [h20]
          have HF : Hid (R = .error (1, ya)) := by
            show _ = _
            have := HS2.out
            rw [if_pos (by rw [← HA2.out.1.len]; exact h20)] at this
            exact this
          have hfa := run_wa xk ya xt
          clear h20 HS2
          go_wp2_with fail
          refine (HNW.out _ HA2.out.2).mono ?_
          rintro e W3 ⟨rfl, hB⟩
          have HA3 : Hid (AM w W W3 rb tb h wl i1 (0, 0) S1 sd qs left l ⟨#[]⟩ xa m xc) := HA2.out.1.step hB
          clear hB t1
          go_wp2_with fail
          refine (rfFault_calls 1 ya w W3 rb h wl i1 (0, 0) S1 sd qs HA3.out.rf).mono ?_
          rintro e W5 ⟨rfl, hW5⟩
          have H5 : Hid (RF w W5 rb h wl i1 (1, ya) S1 sd qs ∧ KeepF W W5) := by
            rw [hW5]
            exact ⟨HA3.out.rf.fail 1 ya, (HA3.out.keep.set ⟨_, HA3.out.rf.box⟩ (.inl rfl) 2 _).set (Loc.set ⟨_, HA3.out.rf.box⟩ _ _ _) (.inl rfl) 3 _⟩
          clear hW5
          go_wp2_with fail
          refine bodyPost_ret (results_none rfl _ _ _) rfl ?_
          exact ⟨rfl, QDid.bad H5.out.2 H5.out.1 HF.out⟩
        · have hq2 : ((m : Int) == 20) = false := by simp; omega
          have HF : Hid (R = altK left (symP f' (l ++ [xt]) S1.next) ∧ l.length < 20) := by
            have := HS2.out
            rw [if_neg (by rw [← HA2.out.1.len]; exact h20)] at this
            exact ⟨this, by rw [← HA2.out.1.len]; omega⟩
          have HTK : Hid (Calls Tryz.prog 51 #[.pointer (some ⟨rb, 0, none⟩), .int .i64 1] W2.drew fun e W' => e = .returned (.agg #[.int .i64 xk, .string xt, .int .i64 ya]) ∧ AM w W W' rb tb h wl (i1 + 1) (0, 0) S1.next sd qs left l ⟨#[]⟩ xa m xc) := by
            have a1 := HA2.out.1.step (below_drew' W2)
            refine (rfTake_calls 1 (by decide) w W2.drew rb h wl i1 (0, 0) S1 sd qs a1.rf).mono ?_
            rintro e V ⟨rfl, hk, -, ht2, -⟩
            exact ⟨by rw [HX.out]; rfl, a1.kept hk (ht2 rfl (by rw [HX.out]; exact HXK.out))⟩
          have hft := run_wt xk ya xt
          clear HS2
          go_upto_region 7 with fail
          go_region_law (first | (refine step_append_told rfl (.tmp 47) (.tmp 51) rfl rfl (by simp [Act.eval]) (by simp [Act.eval]) hrun2 ?_) | (refine step_call_any rfl 51 #[.pointer (some ⟨rb, 0, none⟩), .int .i64 1] (.agg #[.int .i64 xk, .string xt, .int .i64 ya]) _ (by simp [Act.eval, go_sem]) HTK.out ?_; intro V hV; have t1V : V.cell? ⟨tb, 1, none⟩ = some (.slice xa m xc) := (by rw [cell_block hV.box]; rfl); have t1W := cell_alloc t1V (.cells #[.string xt] 9); obtain ⟨ao, n2, c2, V2, hrun2, hbox2, ham2⟩ := hV.push HJ.out.1 xt; have d1 : V2.cell? ⟨tb, 1, none⟩ = some (.slice xa m xc) := (by rw [cell_block hbox2]; rfl); have z1 : V2.frozen? ⟨tb, 1, none⟩ = false := frozen_block hbox2 1; have HD : Hid (AM w W (V2.setCell ⟨tb, 1, none⟩ (.slice ao n2 c2)) rb tb h wl (i1 + 1) (0, 0) S1.next sd qs left (l ++ [xt]) ⟨#[]⟩ ao n2 c2) := ham2; clear ham2 hbox2 hV))
          all_goals
            go_wp2_with fail
            go_roundg f'
            case measure => omega
            case rel =>
              have h20l := HF.out.2
              refine (⟨f', l ++ [xt], i1 + 1, S1.next, ao, n2, c2, Nat.le_refl _, ?_, ?_, HD.out, HJ.out.2.2.2.1, HJ.out.2.2.2.2, HF.out.1⟩ : ∃ f l i1 S1 xa m xc, f ≤ f' ∧ l.length ≤ 20 ∧ S1.ws.length ≤ f ∧ AM w W _ rb tb h wl i1 (0, 0) S1 sd qs left l ⟨#[]⟩ xa m xc ∧ InvP S1 sd ∧ S1.rs.length < 100 ∧ R = altK left (symP f l S1))
              · rw [List.length_append]
                simp only [List.length_cons, List.length_nil]
                omega
              · obtain ⟨y, hy⟩ := HJ.out.2.2.1.rf.ok.ends.head
                have h2 := HJ.out.2.1
                show S1.ws.tail.length ≤ f'
                rw [hy] at h2 ⊢
                simp only [List.length_cons, List.tail_cons] at h2 ⊢
                omega
      · have hq1 : (xk == 1) = false := by simp [hk]
        have HF : Hid (R = altK left (.ok (l, S1))) := by
          show _ = _
          have := HSY.out
          rw [if_neg hk] at this
          exact this
        clear hk HSY
        obtain ⟨b, hb⟩ := bool_of ((0, 0).1 = (0 : Int) ∧ S1.hd.t = tPrec)
        have HIS : Hid (Calls Tryz.prog 32 #[.pointer (some ⟨rb, 0, none⟩), .string ⟨#[37, 112, 114, 101, 99]⟩] W2 fun e W' => e = .returned (.bool b) ∧ Below W2.heap.size W2 W') := rfIs_calls tPrec (fun e => absurd (congrArg ByteArray.size e) (by decide)) w W2 rb h wl i1 (0, 0) S1 sd qs HA2.out.1.rf b hb
        have HPB : Hid (b = true ↔ S1.hd.t = tPrec) := ⟨fun e => (hb.1 e).2, fun e => hb.2 ⟨rfl, e⟩⟩
        clear hb
        go_wp2_with fail
        refine HIS.out.mono ?_
        rintro e W3 ⟨rfl, hB⟩
        have HA3 : Hid (AM w W W3 rb tb h wl i1 (0, 0) S1 sd qs left l ⟨#[]⟩ xa m xc) := HA2.out.1.step hB
        clear hB HIS HA2 HNW
        go_upto_if 55 with fail
        go_cut [56] (fun _ wd => Hid (AltE w W rb tb h wl sd qs left R wd))
        case first =>
          cases b
          · have HE : Hid (AltE w W rb tb h wl sd qs left R W3) := by
              refine ⟨(0, 0), i1, S1, ⟨#[]⟩, l, xa, m, xc, HA3.out, HJ.out.2.2.2.2, HJ.out.2.2.2.1, .inl ⟨rfl, ?_⟩⟩
              rw [HF.out]
              unfold altK
              simp only
              rw [if_neg (fun e => by have := HPB.out.2 e; cases this)]
            go_wp2_with fail
            go_meet
            exact HE
          · have htx : S1.hd.t = tPrec := HPB.out.1 rfl
            have hen : Ends S1.ws.tail := (HA3.out.rf.ok.ends.tail_of_text (by rw [show (headW S1.ws).t = tPrec from htx]; exact fun e => absurd (congrArg ByteArray.size e) (by decide))).2
            have ha4 : AM w W (W3.setCell ⟨rb, 1, none⟩ (.int .i64 ((i1 : Int) + 1))) rb tb h wl (i1 + 1) (0, 0) S1.next sd qs left l ⟨#[]⟩ xa m xc := HA3.out.kept ((Kept.refl (One rb) W3).setCell ⟨rb, 1, none⟩ _ (fun _ => rfl)) (HA3.out.rf.next hen)
            have HA4 : Hid (AM w W (W3.setCell ⟨rb, 1, none⟩ (.int .i64 ((i1 : Int) + 1))) rb tb h wl (i1 + 1) (0, 0) S1.next sd qs left l ⟨#[]⟩ xa m xc) := ha4
            have HRT : Hid (R = match takeP 1 S1.next with | .error e => .error e | .ok (w, S2) => .ok (ruleAdd S2 ⟨left, l, w.t⟩)) := by
              show _ = _
              rw [HF.out]
              unfold altK
              simp only
              rw [if_pos htx]
            obtain ⟨l1, l2, l3⟩ := HA3.out.rf.lens
            have hi63 : (i1 : Int) + 1 ≤ 9223372036854775807 := by omega
            have c1 : W3.cell? ⟨rb, 1, none⟩ = some (.int .i64 i1) := by rw [cell_block HA3.out.rf.box]; rfl
            have y1 : W3.frozen? ⟨rb, 1, none⟩ = false := frozen_block HA3.out.rf.box 1
            have HTK : Hid (Calls Tryz.prog 51 #[.pointer (some ⟨rb, 0, none⟩), .int .i64 1] (W3.setCell ⟨rb, 1, none⟩ (.int .i64 ((i1 : Int) + 1))) fun e W' => e = .returned (wv S1.next.hd) ∧ Took w (W3.setCell ⟨rb, 1, none⟩ (.int .i64 ((i1 : Int) + 1))) rb h wl (i1 + 1) (0, 0) S1.next sd qs 1 W') := rfTake_calls 1 (by decide) w _ rb h wl (i1 + 1) (0, 0) S1.next sd qs ha4.rf
            have HIN : Hid (S1.next.rs.length < 100 ∧ InvP S1.next sd) := ⟨HJ.out.2.2.2.2, HJ.out.2.2.2.1⟩
            clear ha4 htx hen l1 l2 l3 HF HPB
            generalize S1.next = S2 at *
            generalize hy : S2.hd = y at *
            obtain ⟨yk, yt, yb⟩ := y
            have HY : Hid (S2.hd = ⟨yk, yt, yb⟩) := hy
            unfold wv at HTK
            simp only at HTK
            clear hy
            have hft := run_wt yk yb yt
            go_wp2_with fail
            refine HTK.out.mono ?_
            rintro e V ⟨rfl, hk4, -, ht2, ht3⟩
            by_cases hk1 : yk = 1
            · have a5 := HA4.out.kept hk4 (ht2 (by trivial) (by rw [HY.out]; exact hk1))
              have t2 : V.cell? ⟨tb, 2, none⟩ = some (.string ⟨#[]⟩) := by rw [cell_block a5.box]; rfl
              have z2 : V.frozen? ⟨tb, 2, none⟩ = false := frozen_block a5.box 2
              have HE : Hid (AltE w W rb tb h wl sd qs left R (V.setCell ⟨tb, 2, none⟩ (.string yt))) := by
                refine ⟨(0, 0), i1 + 1 + 1, S2.next, yt, l, xa, m, xc, a5.prec yt, HIN.out.1, HIN.out.2, .inl ⟨rfl, ?_⟩⟩
                rw [HRT.out]
                unfold takeP
                rw [HY.out, if_pos hk1]
              clear a5 ht2 ht3 hk4 hk1
              go_wp2_with fail
              go_meet
              exact HE
            · have r5 := ht3 (by trivial) (by rw [HY.out]; exact hk1)
              rw [HY.out] at r5
              simp only at r5
              have a5 := HA4.out.kept hk4 r5
              have t2 : V.cell? ⟨tb, 2, none⟩ = some (.string ⟨#[]⟩) := by rw [cell_block a5.box]; rfl
              have z2 : V.frozen? ⟨tb, 2, none⟩ = false := frozen_block a5.box 2
              have HE : Hid (AltE w W rb tb h wl sd qs left R (V.setCell ⟨tb, 2, none⟩ (.string yt))) := by
                refine ⟨(1, yb), i1 + 1, S2, yt, l, xa, m, xc, a5.prec yt, HIN.out.1, HIN.out.2, .inr ?_⟩
                rw [HRT.out]
                unfold takeP
                rw [HY.out, if_neg hk1]
                rfl
              clear a5 r5 ht2 ht3 hk4 hk1
              go_wp2_with fail
              go_meet
              exact HE
        case rest =>
          obtain ⟨W4, hW4⟩ : ∃ W4, W4 = wc := ⟨_, rfl⟩
          subst wc
          obtain ⟨f, i2, S2, p, l2, xa2, m2, xc2, ham, hlt, hv2, hRR⟩ := hcut.out
          clear hcut HF HPB HA3 HJ
          have e2 := ham.len
          subst e2
          obtain ⟨ao, n3, c3, V, hrun, hn3, hbox, hrf, hkp⟩ := (ham.rf.step (below_drew' W4)).addRule ⟨left, l2, p⟩ xa2 xc2 (own_mono (ham.own.below (below_drew' W4)) (Nat.le_succ_of_le ham.lw)) hlt
          have hrun2 : (Builtin.append_ #[26, 26] 26 #[.slice h.ra S2.rs.length h.rc, .slice (some ⟨W4.heap.size, 0, none⟩) 1 1]).run Tryz.prog (W4.alloc (.cells #[.string left, .slice xa2 l2.length xc2, .string p] 58)).drew = .ok (.slice ao n3 c3) V := hrun
          have c7 : W4.cell? ⟨rb, 7, none⟩ = some (.slice h.ra S2.rs.length h.rc) := by rw [cell_block ham.rf.box]; rfl
          have c7' := cell_alloc c7 (.cells #[.string left, .slice xa2 l2.length xc2, .string p] 58)
          have t0 : W4.cell? ⟨tb, 0, none⟩ = some (.string left) := by rw [cell_block ham.box]; rfl
          have t1 : W4.cell? ⟨tb, 1, none⟩ = some (.slice xa2 l2.length xc2) := by rw [cell_block ham.box]; rfl
          have t2 : W4.cell? ⟨tb, 2, none⟩ = some (.string p) := by rw [cell_block ham.box]; rfl
          have d7 : V.cell? ⟨rb, 7, none⟩ = some (.slice h.ra S2.rs.length h.rc) := by rw [cell_block hbox]; rfl
          have z7 : V.frozen? ⟨rb, 7, none⟩ = false := frozen_block hbox 7
          have HQ : Hid (QDid w W rb wl R (V.setCell ⟨rb, 7, none⟩ (.slice ao n3 c3))) := by
            have hk2 : KeepF W (V.setCell ⟨rb, 7, none⟩ (.slice ao n3 c3)) := (ham.keep.trans (keepF_of_below (below_drew' W4))).trans hkp
            rcases hRR with ⟨rfl, hRR⟩ | hRR
            · exact QDid.good hk2 hrf hv2 hRR
            · exact QDid.bad hk2 hrf hRR
          clear hrun hn3 hbox hrf hkp ham hlt hv2 hRR
          go_upto_region 11 with fail
          go_region_law (refine step_append_told rfl (.tmp 72) (.tmp 74) rfl rfl (by simp [Act.eval]) (by simp [Act.eval]) hrun2 ?_)
          all_goals
            go_wp2_with fail
            go_end0
            exact ⟨rfl, HQ.out⟩

end Go.Proofs.YtkaojokhdleeiaaGreatDoor

/-
  The walk of the reference's rule.
-/
namespace Go.Proofs.YtkaojokhdleeiaaGreatDoor
open Go.RowKit

set_option maxRecDepth 20000

/-- The reader has a fault, or goes on. -/
def Run (w W0 : World) (rb : Nat) (wl : List Wd) (R : Except Flt St) (L : St → Prop) (C : St → Except Flt St) (W : World) : Prop :=
  KeepF W0 W ∧ ((∃ g h i S sd qs, R = .error g ∧ g.1 ≠ 0 ∧ RF w W rb h wl i g S sd qs) ∨ (∃ h i S sd qs, RF w W rb h wl i (0, 0) S sd qs ∧ InvP S sd ∧ L S ∧ R = C S))

theorem Run.step {w W0 W W' : World} {rb : Nat} {wl : List Wd} {R : Except Flt St} {L : St → Prop} {C : St → Except Flt St} (r : Run w W0 rb wl R L C W) (hb : Below W.heap.size W W') : Run w W0 rb wl R L C W' := by
  obtain ⟨k, h⟩ := r
  refine ⟨k.trans (keepF_of_below hb), ?_⟩
  rcases h with ⟨g, h, i, S, sd, qs, e, hg, r⟩ | ⟨h, i, S, sd, qs, r, v, l, e⟩
  · exact .inl ⟨g, h, i, S, sd, qs, e, hg, r.step hb⟩
  · exact .inr ⟨h, i, S, sd, qs, r.step hb, v, l, e⟩

theorem Run.q {w W0 W : World} {rb : Nat} {wl : List Wd} {R : Except Flt St} {L : St → Prop} (r : Run w W0 rb wl R L (fun S => .ok S) W) : QDid w W0 rb wl R W := by
  obtain ⟨k, h⟩ := r
  rcases h with ⟨g, h, i, S, sd, qs, e, hg, r⟩ | ⟨h, i, S, sd, qs, r, v, l, e⟩
  · exact QDid.bad k r e
  · exact QDid.good k r v e

theorem invP_next {S : St} {sd : Bool} (v : InvP S sd) : InvP S.next sd := v

theorem signRun (t : ByteArray) (ht : t ≠ ⟨#[]⟩) {w W0 : World} {rb : Nat} {wl : List Wd} {R : Except Flt St} {L L' : St → Prop} {C C' : St → Except Flt St} (W : World) (r : Run w W0 rb wl R L C W)
    (hC : ∀ S, L S → C S = if S.hd.t = t then C' S.next else .error (formF S.hd)) (hL : ∀ S, L S → Ends S.ws → S.hd.t = t → L' S.next) :
    Calls Tryz.prog 54 #[.pointer (some ⟨rb, 0, none⟩), .string t] W fun e W' => e = .returned (.tuple #[]) ∧ Run w W0 rb wl R L' C' W' := by
  obtain ⟨k, h⟩ := r
  rcases h with ⟨g, h, i, S, sd, qs, e, hg, r⟩ | ⟨h, i, S, sd, qs, r, v, l, e⟩
  · refine (rfSign_calls t ht w W rb h wl i g S sd qs r).mono ?_
    rintro _ W' ⟨rfl, k2, h1, -, -⟩
    exact ⟨rfl, k.trans (keepF_of_kept k2 ⟨_, r.box⟩), .inl ⟨g, h, i, S, sd, qs, e, hg, h1 hg⟩⟩
  · refine (rfSign_calls t ht w W rb h wl i (0, 0) S sd qs r).mono ?_
    rintro _ W' ⟨rfl, k2, -, h2, h3⟩
    refine ⟨rfl, k.trans (keepF_of_kept k2 ⟨_, r.box⟩), ?_⟩
    rw [hC S l] at e
    by_cases hq : S.hd.t = t
    · rw [if_pos hq] at e
      exact .inr ⟨h, i + 1, S.next, sd, qs, h2 rfl hq, v, hL S l r.ok.ends hq, e⟩
    · rw [if_neg hq] at e
      exact .inl ⟨formF S.hd, h, i, S, sd, qs, e, (by decide : (1 : Int) ≠ 0), h3 rfl hq⟩

theorem altRun (left : ByteArray) {w W0 : World} {rb : Nat} {wl : List Wd} {R : Except Flt St} {L L' : St → Prop} {C C' : St → Except Flt St} (W : World) (r : Run w W0 rb wl R L C W)
    (hC : ∀ S, L S → C S = match altP left S with | .error e => .error e | .ok S1 => C' S1) (hL : ∀ S S1, L S → Ends S.ws → altP left S = .ok S1 → L' S1) :
    Calls Tryz.prog 55 #[.pointer (some ⟨rb, 0, none⟩), .string left] W fun e W' => e = .returned (.tuple #[]) ∧ Run w W0 rb wl R L' C' W' := by
  obtain ⟨k, h⟩ := r
  rcases h with ⟨g, h, i, S, sd, qs, e, hg, r⟩ | ⟨h, i, S, sd, qs, r, v, l, e⟩
  · refine (rfAltBad_calls left w W rb h wl i g S sd qs r hg).mono ?_
    rintro _ W' ⟨rfl, rfl⟩
    exact ⟨rfl, k, .inl ⟨g, h, i, S, sd, qs, e, hg, r⟩⟩
  · refine (rfAlt_calls left w W rb h wl i S sd qs r v).mono ?_
    rintro _ W' ⟨rfl, k2, h1, h2⟩
    refine ⟨rfl, k.trans k2, ?_⟩
    rw [hC S l] at e
    cases ha : altP left S with
    | error g =>
      rw [ha] at e
      obtain ⟨h', i', S', sd', qs', r'⟩ := h2 g ha
      exact .inl ⟨g, h', i', S', sd', qs', e, by rw [altP_flt ha]; decide, r'⟩
    | ok S1 =>
      rw [ha] at e
      obtain ⟨h', i', sd', qs', r', v'⟩ := h1 S1 ha
      exact .inr ⟨h', i', S1, sd', qs', r', v', hL S S1 l r.ok.ends ha, e⟩

/-- What stands behind an alternative. -/
def tailP (left : ByteArray) (f : Nat) (S : St) : Except Flt St := if S.hd.t = tSemi then .ok S.next else if S.hd.t = tBar then altsP left f S.next else .error (formF S.hd)

theorem altsP_eq (left : ByteArray) (f : Nat) (S : St) : altsP left (f + 1) S = match altP left S with | .error e => .error e | .ok S1 => tailP left f S1 := rfl

theorem tail_len {S : St} (h : Ends S.ws) : S.next.ws.length + 1 = S.ws.length := by
  obtain ⟨y, hy⟩ := h.head
  show S.ws.tail.length + 1 = _
  rw [hy]
  rfl

set_option maxHeartbeats 8000000 in
theorem rfRule_calls (w W : World) (rb : Nat) (h : FHd) (wl : List Wd) (i : Nat) (S : St) (sd : Bool) (qs : List (Ru × Option Addr × Nat)) (r : RF w W rb h wl i (0, 0) S sd qs) (hv : InvP S sd) :
    Calls Tryz.prog 35 #[.pointer (some ⟨rb, 0, none⟩)] W fun e W' => e = .returned (.tuple #[]) ∧ QDid w W rb wl (ruleRd S) W' := by
  have HT : Hid (Calls Tryz.prog 51 #[.pointer (some ⟨rb, 0, none⟩), .int .i64 1] W fun e W' => e = .returned (wv S.hd) ∧ Took w W rb h wl i (0, 0) S sd qs 1 W') := rfTake_calls 1 (by decide) w W rb h wl i (0, 0) S sd qs r
  have HRL : Hid (Loc W rb 68 ∧ InvP S sd ∧ Ends S.ws) := ⟨⟨_, r.box⟩, hv, r.ok.ends⟩
  obtain ⟨R, hR⟩ : ∃ R, ruleRd S = R := ⟨_, rfl⟩
  have HRR : Hid (R = ruleRd S) := hR.symm
  rw [hR]
  clear hR r hv
  generalize hx : S.hd = x at *
  obtain ⟨xk, xt, xa⟩ := x
  have HX : Hid (S.hd = ⟨xk, xt, xa⟩) := hx
  unfold wv at HT
  simp only at HT
  clear hx
  have hft := run_wt xk xa xt
  obtain ⟨N, hN⟩ : ∃ N, N = S.next.ws.length := ⟨_, rfl⟩
  have HTR : Hid (∀ W1, Took w W rb h wl i (0, 0) S sd qs 1 W1 → Run w W rb wl R (fun X => X = S.next) (fun X => if X.hd.t = tCol then altsP xt N X.next else .error (formF X.hd)) W1) := by
    rintro W1 ⟨hk, -, ht2, ht3⟩
    refine ⟨keepF_of_kept hk HRL.out.1, ?_⟩
    by_cases hk1 : xk = 1
    · refine .inr ⟨h, i + 1, S.next, sd, qs, ht2 rfl (by rw [HX.out]; exact hk1), HRL.out.2.1, rfl, ?_⟩
      rw [HRR.out, hN]
      unfold ruleRd takeP
      rw [HX.out, if_pos hk1]
    · refine .inl ⟨(1, xa), h, i, S, sd, qs, ?_, (by decide : (1 : Int) ≠ 0), ?_⟩
      · rw [HRR.out]
        unfold ruleRd takeP
        rw [HX.out, if_neg hk1]
        rfl
      · have := ht3 rfl (by rw [HX.out]; exact hk1)
        rw [HX.out] at this
        exact this
  obtain ⟨f, hf⟩ : ∃ f, N = f + 1 ∨ (N = 0 ∧ f = 0) := ⟨N - 1, by omega⟩
  have HNF : Hid (N = S.next.ws.length ∧ (N = f + 1 ∨ (N = 0 ∧ f = 0))) := ⟨hN, hf⟩
  clear HRR HRL HX hN hf
  go_enter Tryz.func35, Tryz.ntmps35
  go_wp2_with fail
  refine HT.out.mono ?_
  rintro e W1 ⟨rfl, hd⟩
  have H1 : Hid (Run w W rb wl R (fun X => X = S.next) (fun X => if X.hd.t = tCol then altsP xt N X.next else .error (formF X.hd)) W1) := HTR.out W1 hd
  clear hd HT HTR
  have HC1 : Hid (Calls Tryz.prog 54 #[.pointer (some ⟨rb, 0, none⟩), .string ⟨#[58]⟩] W1 fun e W' => e = .returned (.tuple #[]) ∧ Run w W rb wl R (fun X => X.ws.length ≤ f ∧ N = f + 1) (fun X => altsP xt N X) W') := by
    refine signRun tCol (fun e => absurd (congrArg ByteArray.size e) (by decide)) W1 H1.out (fun X _ => rfl) (fun X hX he ht => ?_)
    subst hX
    have e1 := tail_len he
    have e2 := HNF.out.1
    rcases HNF.out.2 with e3 | ⟨e3, e4⟩
    · exact ⟨by omega, e3⟩
    · have := he.pos
      omega
  go_wp2_with fail
  refine HC1.out.mono ?_
  rintro e W2 ⟨rfl, hd⟩
  have H2 : Hid (Run w W rb wl R (fun X => X.ws.length ≤ f ∧ N = f + 1) (fun X => altsP xt N X) W2) := hd
  clear hd HC1 H1
  have HC2 : Hid (Calls Tryz.prog 55 #[.pointer (some ⟨rb, 0, none⟩), .string xt] W2 fun e W' => e = .returned (.tuple #[]) ∧ Run w W rb wl R (fun X => X.ws.length ≤ f) (tailP xt f) W') := by
    refine altRun xt W2 H2.out (fun X hX => ?_) (fun X X1 hX he ha => Nat.le_trans (altP_len ha) hX.1)
    rw [hX.2, altsP_eq]
  go_wp2_with fail
  refine HC2.out.mono ?_
  rintro e W3 ⟨rfl, hd⟩
  have H3 : Hid (∃ f1, f1 ≤ f ∧ Run w W rb wl R (fun X => X.ws.length ≤ f1) (tailP xt f1) W3) := ⟨f, Nat.le_refl _, hd⟩
  clear hd HC2 H2 HNF
  go_wp2_with fail
  go_loopg [11] f (fun kx _ wr => Hid (∃ f1, f1 ≤ kx ∧ Run w W rb wl R (fun X => X.ws.length ≤ f1) (tailP xt f1) wr))
  case atStart => exact H3
  case round =>
    obtain ⟨f1, hfk, hr⟩ := hrel.out
    clear hrel H3
    have hcs : (∃ S1 h1 i1 sd1 qs1 f2, RF w wr rb h1 wl i1 (0, 0) S1 sd1 qs1 ∧ InvP S1 sd1 ∧ S1.ws.length ≤ f1 ∧ f1 = f2 + 1 ∧ S1.hd.t = tBar ∧ Ends S1.ws.tail ∧ R = altsP xt f1 S1.next ∧ KeepF W wr) ∨
        ((Calls Tryz.prog 32 #[.pointer (some ⟨rb, 0, none⟩), .string tBar] wr fun e W' => e = .returned (.bool false) ∧ Below wr.heap.size wr W') ∧ Run w W rb wl R (fun _ => True) (fun X => if X.hd.t = tSemi then .ok X.next else .error (formF X.hd)) wr) := by
      have hne : tBar ≠ ⟨#[]⟩ := fun e => absurd (congrArg ByteArray.size e) (by decide)
      obtain ⟨hk, h⟩ := hr
      rcases h with ⟨g, h1, i1, S1, sd1, qs1, hRe, hg, r1⟩ | ⟨h1, i1, S1, sd1, qs1, r1, v1, hl1, hRe⟩
      · exact .inr ⟨rfIs_calls tBar hne w wr rb h1 wl i1 g S1 sd1 qs1 r1 false ⟨fun e => (by cases e), fun e => absurd e.1 hg⟩, hk, .inl ⟨g, h1, i1, S1, sd1, qs1, hRe, hg, r1⟩⟩
      · by_cases hb : S1.hd.t = tBar
        · have hen := r1.ok.ends.tail_of_text (by rw [show (headW S1.ws).t = tBar from hb]; exact hne)
          obtain ⟨f2, hf2⟩ : ∃ f2, f1 = f2 + 1 := ⟨f1 - 1, by have := r1.ok.ends.pos; omega⟩
          refine .inl ⟨S1, h1, i1, sd1, qs1, f2, r1, v1, hl1, hf2, hb, hen.2, ?_, hk⟩
          rw [hRe]
          unfold tailP
          rw [if_neg (by rw [hb]; exact fun e => absurd (congrArg by8 e) (by decide)), if_pos hb]
        · refine .inr ⟨rfIs_calls tBar hne w wr rb h1 wl i1 (0, 0) S1 sd1 qs1 r1 false ⟨fun e => (by cases e), fun e => absurd e.2 hb⟩, hk, .inr ⟨h1, i1, S1, sd1, qs1, r1, v1, trivial, ?_⟩⟩
          rw [hRe]
          unfold tailP
          rw [if_neg hb]
    clear hr
    rcases hcs with ⟨S1, h1, i1, sd1, qs1, f2, r1, v1, hl1, hf2, hb, hen, hRe, hk⟩ | ⟨his, hrn⟩
    · have HIS : Hid (Calls Tryz.prog 32 #[.pointer (some ⟨rb, 0, none⟩), .string ⟨#[124]⟩] wr fun e W' => e = .returned (.bool true) ∧ Below wr.heap.size wr W') := rfIs_calls tBar (fun e => absurd (congrArg ByteArray.size e) (by decide)) w wr rb h1 wl i1 (0, 0) S1 sd1 qs1 r1 true ⟨fun _ => ⟨rfl, hb⟩, fun _ => rfl⟩
      have HJ : Hid (RF w wr rb h1 wl i1 (0, 0) S1 sd1 qs1 ∧ InvP S1 sd1 ∧ S1.ws.length ≤ f1 ∧ f1 = f2 + 1 ∧ Ends S1.ws.tail ∧ R = altsP xt f1 S1.next ∧ KeepF W wr) := ⟨r1, v1, hl1, hf2, hen, hRe, hk⟩
      obtain ⟨l1, l2, l3⟩ := r1.lens
      have hi63 : (i1 : Int) + 1 ≤ 9223372036854775807 := by omega
      clear r1 v1 hl1 hb hen hRe hk l1 l2 l3
      go_wp2_with fail
      refine HIS.out.mono ?_
      rintro e V ⟨rfl, hB⟩
      have rV := HJ.out.1.step hB
      have c1 : V.cell? ⟨rb, 1, none⟩ = some (.int .i64 i1) := by rw [cell_block rV.box]; rfl
      have y1 : V.frozen? ⟨rb, 1, none⟩ = false := frozen_block rV.box 1
      have HV2 : Hid (Run w W rb wl R (fun X => X.ws.length ≤ f2 ∧ f1 = f2 + 1) (fun X => altsP xt f1 X) (V.setCell ⟨rb, 1, none⟩ (.int .i64 ((i1 : Int) + 1)))) := by
        refine ⟨(HJ.out.2.2.2.2.2.2.trans (keepF_of_below hB)).set ⟨_, rV.box⟩ (.inl rfl) _ _, .inr ⟨h1, i1 + 1, S1.next, sd1, qs1, rV.next HJ.out.2.2.2.2.1, HJ.out.2.1, ⟨?_, HJ.out.2.2.2.1⟩, HJ.out.2.2.2.2.2.1⟩⟩
        have e1 := tail_len HJ.out.1.ok.ends
        have e2 := HJ.out.2.2.1
        omega
      have HC4 : Hid (Calls Tryz.prog 55 #[.pointer (some ⟨rb, 0, none⟩), .string xt] (V.setCell ⟨rb, 1, none⟩ (.int .i64 ((i1 : Int) + 1))) fun e W' => e = .returned (.tuple #[]) ∧ Run w W rb wl R (fun X => X.ws.length ≤ f2) (tailP xt f2) W') := by
        refine altRun xt _ HV2.out (fun X hX => ?_) (fun X X1 hX he ha => Nat.le_trans (altP_len ha) hX.1)
        rw [hX.2, altsP_eq]
      clear rV hB HIS HV2 HJ
      go_wp2_with fail
      refine HC4.out.mono ?_
      rintro e V2 ⟨rfl, hd⟩
      have H5 : Hid (∃ f1, f1 ≤ f2 ∧ Run w W rb wl R (fun X => X.ws.length ≤ f1) (tailP xt f1) V2) := ⟨f2, Nat.le_refl _, hd⟩
      clear hd HC4
      go_wp2_with fail
      go_roundg f2
      case measure => omega
      case rel => exact H5
    · have HIS : Hid (Calls Tryz.prog 32 #[.pointer (some ⟨rb, 0, none⟩), .string ⟨#[124]⟩] wr fun e W' => e = .returned (.bool false) ∧ Below wr.heap.size wr W') := his
      have HRN : Hid (Run w W rb wl R (fun _ => True) (fun X => if X.hd.t = tSemi then .ok X.next else .error (formF X.hd)) wr) := hrn
      clear his hrn
      go_wp2_with fail
      refine HIS.out.mono ?_
      rintro e V ⟨rfl, hB⟩
      have HC5 : Hid (Calls Tryz.prog 54 #[.pointer (some ⟨rb, 0, none⟩), .string ⟨#[59]⟩] V fun e W' => e = .returned (.tuple #[]) ∧ Run w W rb wl R (fun _ => True) (fun X => .ok X) W') := signRun tSemi (fun e => absurd (congrArg ByteArray.size e) (by decide)) V (HRN.out.step hB) (fun X _ => rfl) (fun _ _ _ _ => trivial)
      clear hB HIS
      go_wp2_with fail
      refine HC5.out.mono ?_
      rintro e V2 ⟨rfl, hd⟩
      have H6 : Hid (QDid w W rb wl R V2) := hd.q
      clear hd
      go_wp2_with fail
      go_end0
      exact ⟨rfl, H6.out⟩

end Go.Proofs.YtkaojokhdleeiaaGreatDoor

/-
  The walk of the reference's part.
-/
namespace Go.Proofs.YtkaojokhdleeiaaGreatDoor
open Go.RowKit

set_option maxRecDepth 20000

set_option maxHeartbeats 8000000 in
theorem rfPart_calls (w W : World) (rb : Nat) (h : FHd) (wl : List Wd) (i : Nat) (S : St) (sd : Bool) (qs : List (Ru × Option Addr × Nat)) (r : RF w W rb h wl i (0, 0) S sd qs) (hv : InvP S sd) :
    Calls Tryz.prog 33 #[.pointer (some ⟨rb, 0, none⟩)] W fun e W' => e = .returned (.tuple #[]) ∧ QDid w W rb wl (partP S) W' := by
  have HT : Hid (Calls Tryz.prog 51 #[.pointer (some ⟨rb, 0, none⟩), .int .i64 4] W fun e W' => e = .returned (wv S.hd) ∧ Took w W rb h wl i (0, 0) S sd qs 4 W') := rfTake_calls 4 (by decide) w W rb h wl i (0, 0) S sd qs r
  have HRL : Hid (Loc W rb 68) := ⟨_, r.box⟩
  have HV : Hid (InvP S sd) := hv
  have HEN : Hid (Ends S.ws) := r.ok.ends
  clear r hv
  obtain ⟨R, hR⟩ : ∃ R, partP S = R := ⟨_, rfl⟩
  have HRR : Hid (R = partP S) := hR.symm
  rw [hR]
  clear hR
  generalize hx : S.hd = x at *
  obtain ⟨xk, xt, xa⟩ := x
  have HX : Hid (S.hd = ⟨xk, xt, xa⟩) := hx
  unfold wv at HT
  simp only at HT
  clear hx
  go_enter Tryz.func33, Tryz.ntmps33
  go_wp2_with fail
  refine HT.out.mono ?_
  rintro e W1 ⟨rfl, hk, -, ht2, ht3⟩
  have b0 := heap_alloc_new W1 (.cells #[.int .i64 xk, .string xt, .int .i64 xa] 35)
  have hB := below_alloc W1 (.cells #[.int .i64 xk, .string xt, .int .i64 xa] 35)
  have HK1 : Hid (KeepF W (W1.alloc (.cells #[.int .i64 xk, .string xt, .int .i64 xa] 35))) := (keepF_of_kept hk HRL.out).trans (keepF_of_below hB)
  go_upto_region 1 with fail
  by_cases hk1 : xk = 4
  · have r1 := (ht2 (by trivial) (by rw [HX.out]; exact hk1)).step hB
    have HPP : Hid (R = if xt = tTok then namesP listP S.ws.length S.next else if xt = tLeft then levelP ⟨xk, xt, xa⟩ 1 S.next else if xt = tRight then levelP ⟨xk, xt, xa⟩ 2 S.next else if xt = tNon then levelP ⟨xk, xt, xa⟩ 3 S.next else if xt = tStart then startP ⟨xk, xt, xa⟩ S.next else if xt = tExp then expectP ⟨xk, xt, xa⟩ S.next else .error (1, xa)) := by
      show _ = _
      rw [HRR.out]
      unfold partP
      rw [HX.out]
      rfl
    have HLE : Hid (1 ≤ S.ws.length ∧ S.next.ws.length ≤ S.ws.length) := by
      obtain ⟨y, hy⟩ := HEN.out.head
      refine ⟨HEN.out.pos, ?_⟩
      show S.ws.tail.length ≤ _
      rw [hy]
      simp
    have HV1 : Hid (InvP S.next sd) := HV.out
    obtain ⟨tb, htb⟩ : ∃ tb, tb = W1.heap.size := ⟨_, rfl⟩
    rw [← htb] at b0 ⊢
    generalize W1.alloc (.cells #[.int .i64 xk, .string xt, .int .i64 xa] 35) = W2 at *
    clear ht2 ht3 hk hB HT HRR HX HV HEN
    generalize S.next = S1 at *
    have HR2 : Hid (RF w W2 rb h wl (i + 1) (0, 0) S1 sd qs) := r1
    have c2 : W2.cell? ⟨rb, 2, none⟩ = some (.int .i64 0) := by rw [cell_block r1.box]; rfl
    obtain ⟨p0, p1, p2⟩ := box35 b0
    clear r1 b0 htb hk1
    by_cases e1 : xt = tTok
    · have b1 : (xt.toList == [37, 116, 111, 107, 101, 110]) = true := keyY tTok_l e1
      obtain ⟨f0, hf0⟩ : ∃ f0, S.ws.length = f0 + 1 := ⟨S.ws.length - 1, by have := HLE.out.1; omega⟩
      have HF : Hid (R = namesP (sayP 0 0) (f0 + 1) S1) := by
        show _ = _
        rw [HPP.out, if_pos e1, hf0, sayP_list]
      have HCN : Hid (Calls Tryz.prog 52 #[.pointer (some ⟨rb, 0, none⟩), .int .i64 0, .int .i64 0] W2 fun e W' => e = .returned (.tuple #[]) ∧ NDid w W2 rb wl sd qs (namesP (sayP 0 0) (f0 + 1) S1) W') := rfNames_calls _ _ (by omega) w _ rb h wl (i + 1) S1 sd qs HR2.out HV1.out.1 f0 (by have := HLE.out.2; omega)
      clear e1 HPP hf0
      go_wp2_with fail
      refine HCN.out.mono ?_
      rintro e W5 ⟨rfl, hd⟩
      have H5 : Hid (QDid w W rb wl R W5) := NDid.q HK1.out HV1.out HF.out hd
      clear hd
      go_wp2_with fail
      go_end0
      exact ⟨rfl, H5.out⟩
    have b0 : (xt.toList == [37, 116, 111, 107, 101, 110]) = false := keyN tTok_l e1
    have HPP2 := HPP.out
    rw [if_neg e1] at HPP2
    clear HPP
    by_cases e2 : xt = tLeft
    · have HPP : Hid (R = levelP ⟨xk, xt, xa⟩ 1 S1) := by rw [if_pos e2] at HPP2; exact HPP2
      clear HPP2
      have b1 : (xt.toList == [37, 108, 101, 102, 116]) = true := by rw [e2, tLeft_l]; rfl
      have b2 : (xt.toList == [37, 114, 105, 103, 104, 116]) = false := by rw [e2, tLeft_l]; rfl
      have b3 : (xt.toList == [37, 110, 111, 110, 97, 115, 115, 111, 99]) = false := by rw [e2, tLeft_l]; rfl
      have HP : Hid (R = levelP ⟨xk, xt, xa⟩ 1 S1) := by
        show _ = _
        rw [HPP.out]
      clear HPP
      have hlv := HR2.out.ok.lv
      have c11 : W2.cell? ⟨rb, 11, none⟩ = some (.int .i64 S1.lv) := by rw [cell_block HR2.out.box]; rfl
      have f11 : W2.frozen? ⟨rb, 11, none⟩ = false := frozen_block HR2.out.box 11
      by_cases h8 : S1.lv = 8
      · have hq : ((S1.lv : Int) == 8) = true := by rw [h8]; rfl
        have HF : Hid (R = .error (1, xa)) := by
          show _ = _
          rw [HP.out]
          unfold levelP
          rw [if_pos h8]
          rfl
        clear h8 e2
        go_wp2_with fail
        refine (rfFault_calls 1 xa w W2 rb h wl (i + 1) (0, 0) S1 sd qs HR2.out).mono ?_
        rintro e W5 ⟨rfl, hW5⟩
        have H5 : Hid (RF w W5 rb h wl (i + 1) (1, xa) S1 sd qs ∧ KeepF W W5) := by
          rw [hW5]
          exact ⟨HR2.out.fail 1 xa, (HK1.out.set ⟨_, HR2.out.box⟩ (.inl rfl) 2 _).set (Loc.set ⟨_, HR2.out.box⟩ _ _ _) (.inl rfl) 3 _⟩
        clear hW5
        go_wp2_with fail
        refine bodyPost_ret (results_none rfl _ _ _) rfl ?_
        exact ⟨rfl, QDid.bad H5.out.2 H5.out.1 HF.out⟩
      · have hq : ((S1.lv : Int) == 8) = false := by simp; omega
        have hlt : S1.lv < 8 := by omega
        obtain ⟨f0, hf0⟩ : ∃ f0, S1.ws.length = f0 + 1 := ⟨S1.ws.length - 1, by have := HR2.out.ok.ends.pos; omega⟩
        obtain ⟨S2, hS2⟩ : ∃ S2 : St, S2 = ⟨S1.ws, S1.ts, S1.ls, S1.lv + 1, S1.st, S1.ed, S1.ex, S1.rs⟩ := ⟨_, rfl⟩
        have HF : Hid (R = namesP (sayP ((S1.lv : Int) + 1) 1) (f0 + 1) S2) := by
          show _ = _
          rw [HP.out, hS2]
          unfold levelP
          rw [if_neg h8, hf0, sayP_lev (by omega)]
        have HR3 : Hid (RF w (W2.setCell ⟨rb, 11, none⟩ (.int .i64 ((S1.lv : Int) + 1))) rb h wl (i + 1) (0, 0) S2 sd qs ∧ KeepF W (W2.setCell ⟨rb, 11, none⟩ (.int .i64 ((S1.lv : Int) + 1))) ∧ InvP S2 sd ∧ S2.ws.length ≤ f0 + 1) := by
          rw [hS2]
          exact ⟨HR2.out.put 11 _ (by unfold rfC; simp) rfl rfl rfl HR2.out.at_ ⟨HR2.out.ok.ends, HR2.out.ok.nt, hlt, HR2.out.ok.nr⟩, HK1.out.set ⟨_, HR2.out.box⟩ (.inl rfl) _ _, HV1.out, Nat.le_of_eq hf0⟩
        have HCN : Hid (Calls Tryz.prog 52 #[.pointer (some ⟨rb, 0, none⟩), .int .i64 ((S1.lv : Int) + 1), .int .i64 1] (W2.setCell ⟨rb, 11, none⟩ (.int .i64 ((S1.lv : Int) + 1))) fun e W' => e = .returned (.tuple #[]) ∧ NDid w (W2.setCell ⟨rb, 11, none⟩ (.int .i64 ((S1.lv : Int) + 1))) rb wl sd qs (namesP (sayP ((S1.lv : Int) + 1) 1) (f0 + 1) S2) W') := rfNames_calls _ _ (by omega) w _ rb h wl (i + 1) S2 sd qs HR3.out.1 HR3.out.2.2.1.1 f0 HR3.out.2.2.2
        clear h8 e2 HP hS2 hf0 hlt
        go_wp2_with fail
        refine HCN.out.mono ?_
        rintro e W5 ⟨rfl, hd⟩
        have H5 : Hid (QDid w W rb wl R W5) := NDid.q HR3.out.2.1 HR3.out.2.2.1 HF.out hd
        clear hd
        go_wp2_with fail
        go_end0
        exact ⟨rfl, H5.out⟩
    rw [if_neg e2] at HPP2
    have b1 : (xt.toList == [37, 108, 101, 102, 116]) = false := keyN tLeft_l e2
    by_cases e3 : xt = tRight
    · have HPP : Hid (R = levelP ⟨xk, xt, xa⟩ 2 S1) := by rw [if_pos e3] at HPP2; exact HPP2
      clear HPP2 b1
      have b1 : (xt.toList == [37, 108, 101, 102, 116]) = false := by rw [e3, tRight_l]; rfl
      have b2 : (xt.toList == [37, 114, 105, 103, 104, 116]) = true := by rw [e3, tRight_l]; rfl
      have b3 : (xt.toList == [37, 110, 111, 110, 97, 115, 115, 111, 99]) = false := by rw [e3, tRight_l]; rfl
      have HP : Hid (R = levelP ⟨xk, xt, xa⟩ 2 S1) := by
        show _ = _
        rw [HPP.out]
      clear HPP
      have hlv := HR2.out.ok.lv
      have c11 : W2.cell? ⟨rb, 11, none⟩ = some (.int .i64 S1.lv) := by rw [cell_block HR2.out.box]; rfl
      have f11 : W2.frozen? ⟨rb, 11, none⟩ = false := frozen_block HR2.out.box 11
      by_cases h8 : S1.lv = 8
      · have hq : ((S1.lv : Int) == 8) = true := by rw [h8]; rfl
        have HF : Hid (R = .error (1, xa)) := by
          show _ = _
          rw [HP.out]
          unfold levelP
          rw [if_pos h8]
          rfl
        clear h8 e3
        go_wp2_with fail
        refine (rfFault_calls 1 xa w W2 rb h wl (i + 1) (0, 0) S1 sd qs HR2.out).mono ?_
        rintro e W5 ⟨rfl, hW5⟩
        have H5 : Hid (RF w W5 rb h wl (i + 1) (1, xa) S1 sd qs ∧ KeepF W W5) := by
          rw [hW5]
          exact ⟨HR2.out.fail 1 xa, (HK1.out.set ⟨_, HR2.out.box⟩ (.inl rfl) 2 _).set (Loc.set ⟨_, HR2.out.box⟩ _ _ _) (.inl rfl) 3 _⟩
        clear hW5
        go_wp2_with fail
        refine bodyPost_ret (results_none rfl _ _ _) rfl ?_
        exact ⟨rfl, QDid.bad H5.out.2 H5.out.1 HF.out⟩
      · have hq : ((S1.lv : Int) == 8) = false := by simp; omega
        have hlt : S1.lv < 8 := by omega
        obtain ⟨f0, hf0⟩ : ∃ f0, S1.ws.length = f0 + 1 := ⟨S1.ws.length - 1, by have := HR2.out.ok.ends.pos; omega⟩
        obtain ⟨S2, hS2⟩ : ∃ S2 : St, S2 = ⟨S1.ws, S1.ts, S1.ls, S1.lv + 1, S1.st, S1.ed, S1.ex, S1.rs⟩ := ⟨_, rfl⟩
        have HF : Hid (R = namesP (sayP ((S1.lv : Int) + 1) 2) (f0 + 1) S2) := by
          show _ = _
          rw [HP.out, hS2]
          unfold levelP
          rw [if_neg h8, hf0, sayP_lev (by omega)]
        have HR3 : Hid (RF w (W2.setCell ⟨rb, 11, none⟩ (.int .i64 ((S1.lv : Int) + 1))) rb h wl (i + 1) (0, 0) S2 sd qs ∧ KeepF W (W2.setCell ⟨rb, 11, none⟩ (.int .i64 ((S1.lv : Int) + 1))) ∧ InvP S2 sd ∧ S2.ws.length ≤ f0 + 1) := by
          rw [hS2]
          exact ⟨HR2.out.put 11 _ (by unfold rfC; simp) rfl rfl rfl HR2.out.at_ ⟨HR2.out.ok.ends, HR2.out.ok.nt, hlt, HR2.out.ok.nr⟩, HK1.out.set ⟨_, HR2.out.box⟩ (.inl rfl) _ _, HV1.out, Nat.le_of_eq hf0⟩
        have HCN : Hid (Calls Tryz.prog 52 #[.pointer (some ⟨rb, 0, none⟩), .int .i64 ((S1.lv : Int) + 1), .int .i64 2] (W2.setCell ⟨rb, 11, none⟩ (.int .i64 ((S1.lv : Int) + 1))) fun e W' => e = .returned (.tuple #[]) ∧ NDid w (W2.setCell ⟨rb, 11, none⟩ (.int .i64 ((S1.lv : Int) + 1))) rb wl sd qs (namesP (sayP ((S1.lv : Int) + 1) 2) (f0 + 1) S2) W') := rfNames_calls _ _ (by omega) w _ rb h wl (i + 1) S2 sd qs HR3.out.1 HR3.out.2.2.1.1 f0 HR3.out.2.2.2
        clear h8 e3 HP hS2 hf0 hlt
        go_wp2_with fail
        refine HCN.out.mono ?_
        rintro e W5 ⟨rfl, hd⟩
        have H5 : Hid (QDid w W rb wl R W5) := NDid.q HR3.out.2.1 HR3.out.2.2.1 HF.out hd
        clear hd
        go_wp2_with fail
        go_end0
        exact ⟨rfl, H5.out⟩
    rw [if_neg e3] at HPP2
    have b2 : (xt.toList == [37, 114, 105, 103, 104, 116]) = false := keyN tRight_l e3
    by_cases e4 : xt = tNon
    · have HPP : Hid (R = levelP ⟨xk, xt, xa⟩ 3 S1) := by rw [if_pos e4] at HPP2; exact HPP2
      clear HPP2 b1 b2
      have b1 : (xt.toList == [37, 108, 101, 102, 116]) = false := by rw [e4, tNon_l]; rfl
      have b2 : (xt.toList == [37, 114, 105, 103, 104, 116]) = false := by rw [e4, tNon_l]; rfl
      have b3 : (xt.toList == [37, 110, 111, 110, 97, 115, 115, 111, 99]) = true := by rw [e4, tNon_l]; rfl
      have HP : Hid (R = levelP ⟨xk, xt, xa⟩ 3 S1) := by
        show _ = _
        rw [HPP.out]
      clear HPP
      have hlv := HR2.out.ok.lv
      have c11 : W2.cell? ⟨rb, 11, none⟩ = some (.int .i64 S1.lv) := by rw [cell_block HR2.out.box]; rfl
      have f11 : W2.frozen? ⟨rb, 11, none⟩ = false := frozen_block HR2.out.box 11
      by_cases h8 : S1.lv = 8
      · have hq : ((S1.lv : Int) == 8) = true := by rw [h8]; rfl
        have HF : Hid (R = .error (1, xa)) := by
          show _ = _
          rw [HP.out]
          unfold levelP
          rw [if_pos h8]
          rfl
        clear h8 e4
        go_wp2_with fail
        refine (rfFault_calls 1 xa w W2 rb h wl (i + 1) (0, 0) S1 sd qs HR2.out).mono ?_
        rintro e W5 ⟨rfl, hW5⟩
        have H5 : Hid (RF w W5 rb h wl (i + 1) (1, xa) S1 sd qs ∧ KeepF W W5) := by
          rw [hW5]
          exact ⟨HR2.out.fail 1 xa, (HK1.out.set ⟨_, HR2.out.box⟩ (.inl rfl) 2 _).set (Loc.set ⟨_, HR2.out.box⟩ _ _ _) (.inl rfl) 3 _⟩
        clear hW5
        go_wp2_with fail
        refine bodyPost_ret (results_none rfl _ _ _) rfl ?_
        exact ⟨rfl, QDid.bad H5.out.2 H5.out.1 HF.out⟩
      · have hq : ((S1.lv : Int) == 8) = false := by simp; omega
        have hlt : S1.lv < 8 := by omega
        obtain ⟨f0, hf0⟩ : ∃ f0, S1.ws.length = f0 + 1 := ⟨S1.ws.length - 1, by have := HR2.out.ok.ends.pos; omega⟩
        obtain ⟨S2, hS2⟩ : ∃ S2 : St, S2 = ⟨S1.ws, S1.ts, S1.ls, S1.lv + 1, S1.st, S1.ed, S1.ex, S1.rs⟩ := ⟨_, rfl⟩
        have HF : Hid (R = namesP (sayP ((S1.lv : Int) + 1) 3) (f0 + 1) S2) := by
          show _ = _
          rw [HP.out, hS2]
          unfold levelP
          rw [if_neg h8, hf0, sayP_lev (by omega)]
        have HR3 : Hid (RF w (W2.setCell ⟨rb, 11, none⟩ (.int .i64 ((S1.lv : Int) + 1))) rb h wl (i + 1) (0, 0) S2 sd qs ∧ KeepF W (W2.setCell ⟨rb, 11, none⟩ (.int .i64 ((S1.lv : Int) + 1))) ∧ InvP S2 sd ∧ S2.ws.length ≤ f0 + 1) := by
          rw [hS2]
          exact ⟨HR2.out.put 11 _ (by unfold rfC; simp) rfl rfl rfl HR2.out.at_ ⟨HR2.out.ok.ends, HR2.out.ok.nt, hlt, HR2.out.ok.nr⟩, HK1.out.set ⟨_, HR2.out.box⟩ (.inl rfl) _ _, HV1.out, Nat.le_of_eq hf0⟩
        have HCN : Hid (Calls Tryz.prog 52 #[.pointer (some ⟨rb, 0, none⟩), .int .i64 ((S1.lv : Int) + 1), .int .i64 3] (W2.setCell ⟨rb, 11, none⟩ (.int .i64 ((S1.lv : Int) + 1))) fun e W' => e = .returned (.tuple #[]) ∧ NDid w (W2.setCell ⟨rb, 11, none⟩ (.int .i64 ((S1.lv : Int) + 1))) rb wl sd qs (namesP (sayP ((S1.lv : Int) + 1) 3) (f0 + 1) S2) W') := rfNames_calls _ _ (by omega) w _ rb h wl (i + 1) S2 sd qs HR3.out.1 HR3.out.2.2.1.1 f0 HR3.out.2.2.2
        clear h8 e4 HP hS2 hf0 hlt
        go_wp2_with fail
        refine HCN.out.mono ?_
        rintro e W5 ⟨rfl, hd⟩
        have H5 : Hid (QDid w W rb wl R W5) := NDid.q HR3.out.2.1 HR3.out.2.2.1 HF.out hd
        clear hd
        go_wp2_with fail
        go_end0
        exact ⟨rfl, H5.out⟩
    rw [if_neg e4] at HPP2
    have b3 : (xt.toList == [37, 110, 111, 110, 97, 115, 115, 111, 99]) = false := keyN tNon_l e4
    by_cases e5 : xt = tStart
    · have b4 : (xt.toList == [37, 115, 116, 97, 114, 116]) = true := keyY tStart_l e5
      have HP : Hid (R = startP ⟨xk, xt, xa⟩ S1) := by rw [if_pos e5] at HPP2; exact HPP2
      clear HPP2 e1 e2 e3 e4 e5
      have c9 : W2.cell? ⟨rb, 9, none⟩ = some (.bool sd) := by rw [cell_block HR2.out.box]; rfl
      have f9 : W2.frozen? ⟨rb, 9, none⟩ = false := frozen_block HR2.out.box 9
      cases hsd : sd with
      | true =>
        have HF : Hid (R = .error (7, xa)) := by
          show _ = _
          rw [HP.out]
          unfold startP
          rw [if_pos (HV1.out.2.1.1 hsd)]
          rfl
        rw [hsd] at c9
        clear hsd
        go_wp2_with fail
        refine (rfFault_calls 7 xa w W2 rb h wl (i + 1) (0, 0) S1 sd qs HR2.out).mono ?_
        rintro e W5 ⟨rfl, hW5⟩
        have H5 : Hid (RF w W5 rb h wl (i + 1) (7, xa) S1 sd qs ∧ KeepF W W5) := by
          rw [hW5]
          exact ⟨HR2.out.fail 7 xa, (HK1.out.set ⟨_, HR2.out.box⟩ (.inl rfl) 2 _).set (Loc.set ⟨_, HR2.out.box⟩ _ _ _) (.inl rfl) 3 _⟩
        clear hW5
        go_wp2_with fail
        refine bodyPost_ret (results_none rfl _ _ _) rfl ?_
        exact ⟨rfl, QDid.bad H5.out.2 H5.out.1 HF.out⟩
      | false =>
        have hst : ¬ S1.st ≠ ⟨#[]⟩ := fun hh => by have := HV1.out.2.1.2 hh; rw [hsd] at this; cases this
        have HSP : Hid (R = match takeP 1 S1 with | .error e => .error e | .ok (w, S1) => .ok ⟨S1.ws, S1.ts, S1.ls, S1.lv, w.t, S1.ed, S1.ex, S1.rs⟩) := by
          show _ = _
          rw [HP.out]
          unfold startP
          rw [if_neg hst]
          rfl
        have HR3 : Hid (RF w (W2.setCell ⟨rb, 9, none⟩ (.bool true)) rb h wl (i + 1) (0, 0) S1 true qs ∧ KeepF W (W2.setCell ⟨rb, 9, none⟩ (.bool true))) := ⟨HR2.out.put 9 _ (by unfold rfC; simp) rfl rfl rfl HR2.out.at_ HR2.out.ok, HK1.out.set ⟨_, HR2.out.box⟩ (.inl rfl) _ _⟩
        have HTK : Hid (Calls Tryz.prog 51 #[.pointer (some ⟨rb, 0, none⟩), .int .i64 1] (W2.setCell ⟨rb, 9, none⟩ (.bool true)) fun e W' => e = .returned (wv S1.hd) ∧ Took w (W2.setCell ⟨rb, 9, none⟩ (.bool true)) rb h wl (i + 1) (0, 0) S1 true qs 1 W') := rfTake_calls 1 (by decide) w _ rb h wl (i + 1) (0, 0) S1 true qs HR3.out.1
        rw [hsd] at c9
        clear hsd hst HP
        generalize hy : S1.hd = y at *
        obtain ⟨yk, yt, ya⟩ := y
        have HY : Hid (S1.hd = ⟨yk, yt, ya⟩) := hy
        unfold wv at HTK
        simp only at HTK
        clear hy
        have hfw := run_wt yk ya yt
        go_wp2_with fail
        refine HTK.out.mono ?_
        rintro e W4 ⟨rfl, hk4, -, ht2, ht3⟩
        have hK4 := HR3.out.2.trans (keepF_of_kept hk4 ⟨_, HR3.out.1.box⟩)
        by_cases hk1 : yk = 1
        · have r4 := ht2 (by trivial) (by rw [HY.out]; exact hk1)
          have HF : Hid (R = .ok ⟨S1.next.ws, S1.next.ts, S1.next.ls, S1.next.lv, yt, S1.next.ed, S1.next.ex, S1.next.rs⟩) := by
            show _ = _
            rw [HSP.out]
            unfold takeP
            rw [HY.out, if_pos hk1]
          have HNE : Hid (yt ≠ ⟨#[]⟩) := fun hh => by
            have h1 := (HR2.out.ok.ends.tail_of_kind (by rw [show headW S1.ws = _ from HY.out]; simp only; rw [hk1]; decide)).1.name (by rw [show headW S1.ws = _ from HY.out]; exact hk1)
            rw [show headW S1.ws = _ from HY.out] at h1
            simp only at h1
            rw [hh] at h1
            exact absurd h1.2 (by decide)
          have c5 : W4.cell? ⟨rb, 5, none⟩ = some (.string S1.next.st) := by rw [cell_block r4.box]; rfl
          have f5 : W4.frozen? ⟨rb, 5, none⟩ = false := frozen_block r4.box 5
          have H4 : Hid (RF w (W4.setCell ⟨rb, 5, none⟩ (.string yt)) rb h wl (i + 1 + 1) (0, 0) ⟨S1.next.ws, S1.next.ts, S1.next.ls, S1.next.lv, yt, S1.next.ed, S1.next.ex, S1.next.rs⟩ true qs ∧ KeepF W (W4.setCell ⟨rb, 5, none⟩ (.string yt))) := ⟨r4.put 5 _ (by unfold rfC; simp) rfl rfl rfl r4.at_ ⟨r4.ok.ends, r4.ok.nt, r4.ok.lv, r4.ok.nr⟩, hK4.set ⟨_, r4.box⟩ (.inl rfl) _ _⟩
          have HVN : Hid (InvT S1.next ∧ (S1.next.ed = false → S1.next.ex = 0)) := ⟨HV1.out.1, HV1.out.2.2⟩
          clear r4 ht2 ht3 hk4 hK4 HTK c9 f9 hk1
          generalize S1.next = S9 at *
          go_wp2_with fail
          go_end0
          exact ⟨rfl, QDid.good H4.out.2 H4.out.1 ⟨HVN.out.1, ⟨fun _ => HNE.out, fun _ => rfl⟩, HVN.out.2⟩ HF.out⟩
        · have r4 := ht3 (by trivial) (by rw [HY.out]; exact hk1)
          rw [HY.out] at r4
          simp only at r4
          have HF : Hid (R = .error (1, ya)) := by
            show _ = _
            rw [HSP.out]
            unfold takeP
            rw [HY.out, if_neg hk1]
            rfl
          have c5 : W4.cell? ⟨rb, 5, none⟩ = some (.string S1.st) := by rw [cell_block r4.box]; rfl
          have f5 : W4.frozen? ⟨rb, 5, none⟩ = false := frozen_block r4.box 5
          have H4 : Hid (RF w (W4.setCell ⟨rb, 5, none⟩ (.string yt)) rb h wl (i + 1) (1, ya) ⟨S1.ws, S1.ts, S1.ls, S1.lv, yt, S1.ed, S1.ex, S1.rs⟩ true qs ∧ KeepF W (W4.setCell ⟨rb, 5, none⟩ (.string yt))) := ⟨r4.put 5 _ (by unfold rfC; simp) rfl rfl rfl r4.at_ ⟨r4.ok.ends, r4.ok.nt, r4.ok.lv, r4.ok.nr⟩, hK4.set ⟨_, r4.box⟩ (.inl rfl) _ _⟩
          clear r4 ht2 ht3 hk4 hK4 HTK c9 f9 hk1
          go_wp2_with fail
          go_end0
          exact ⟨rfl, QDid.bad H4.out.2 H4.out.1 HF.out⟩
    rw [if_neg e5] at HPP2
    have b4 : (xt.toList == [37, 115, 116, 97, 114, 116]) = false := keyN tStart_l e5
    by_cases e6 : xt = tExp
    · have b5 : (xt.toList == [37, 101, 120, 112, 101, 99, 116]) = true := keyY tExp_l e6
      have HP : Hid (R = expectP ⟨xk, xt, xa⟩ S1) := by rw [if_pos e6] at HPP2; exact HPP2
      clear HPP2 e1 e2 e3 e4 e5 e6
      have c10 : W2.cell? ⟨rb, 10, none⟩ = some (.bool S1.ed) := by rw [cell_block HR2.out.box]; rfl
      have f10 : W2.frozen? ⟨rb, 10, none⟩ = false := frozen_block HR2.out.box 10
      cases hed : S1.ed with
      | true =>
        have HF : Hid (R = .error (7, xa)) := by
          show _ = _
          rw [HP.out]
          unfold expectP
          rw [if_pos hed]
          rfl
        rw [hed] at c10
        clear hed
        go_wp2_with fail
        refine (rfFault_calls 7 xa w W2 rb h wl (i + 1) (0, 0) S1 sd qs HR2.out).mono ?_
        rintro e W5 ⟨rfl, hW5⟩
        have H5 : Hid (RF w W5 rb h wl (i + 1) (7, xa) S1 sd qs ∧ KeepF W W5) := by
          rw [hW5]
          exact ⟨HR2.out.fail 7 xa, (HK1.out.set ⟨_, HR2.out.box⟩ (.inl rfl) 2 _).set (Loc.set ⟨_, HR2.out.box⟩ _ _ _) (.inl rfl) 3 _⟩
        clear hW5
        go_wp2_with fail
        refine bodyPost_ret (results_none rfl _ _ _) rfl ?_
        exact ⟨rfl, QDid.bad H5.out.2 H5.out.1 HF.out⟩
      | false =>
        have HEX : Hid (S1.ex = 0) := HV1.out.2.2 hed
        obtain ⟨S2, hS2⟩ : ∃ S2 : St, S2 = ⟨S1.ws, S1.ts, S1.ls, S1.lv, S1.st, true, S1.ex, S1.rs⟩ := ⟨_, rfl⟩
        have HSP : Hid (R = match takeP 2 S2 with | .error e => .error e | .ok (w, S1) => .ok ⟨S1.ws, S1.ts, S1.ls, S1.lv, S1.st, S1.ed, numP (by8 w.t), S1.rs⟩) := by
          show _ = _
          rw [HP.out, hS2]
          unfold expectP takeP
          rw [if_neg (by rw [hed]; decide)]
          have e1 : St.hd ⟨S1.ws, S1.ts, S1.ls, S1.lv, S1.st, true, S1.ex, S1.rs⟩ = S1.hd := rfl
          rw [e1]
          by_cases hq2 : S1.hd.k = 2
          · rw [if_pos hq2, if_pos hq2]
            try rfl
          · rw [if_neg hq2, if_neg hq2]
        have HR3 : Hid (RF w (W2.setCell ⟨rb, 10, none⟩ (.bool true)) rb h wl (i + 1) (0, 0) S2 sd qs ∧ KeepF W (W2.setCell ⟨rb, 10, none⟩ (.bool true)) ∧ InvP S2 sd ∧ S2.ex = 0 ∧ S2.ed = true) := by
          rw [hS2]
          exact ⟨HR2.out.put 10 _ (by unfold rfC; simp) rfl rfl rfl HR2.out.at_ ⟨HR2.out.ok.ends, HR2.out.ok.nt, HR2.out.ok.lv, HR2.out.ok.nr⟩, HK1.out.set ⟨_, HR2.out.box⟩ (.inl rfl) _ _, ⟨HV1.out.1, HV1.out.2.1, fun hh => (by cases hh)⟩, HEX.out, rfl⟩
        have HTK : Hid (Calls Tryz.prog 51 #[.pointer (some ⟨rb, 0, none⟩), .int .i64 2] (W2.setCell ⟨rb, 10, none⟩ (.bool true)) fun e W' => e = .returned (wv S2.hd) ∧ Took w (W2.setCell ⟨rb, 10, none⟩ (.bool true)) rb h wl (i + 1) (0, 0) S2 sd qs 2 W') := rfTake_calls 2 (by decide) w _ rb h wl (i + 1) (0, 0) S2 sd qs HR3.out.1
        rw [hed] at c10
        clear hed HP hS2
        generalize hy : S2.hd = y at *
        obtain ⟨yk, yt, ya⟩ := y
        have HY : Hid (S2.hd = ⟨yk, yt, ya⟩) := hy
        unfold wv at HTK
        simp only at HTK
        clear hy
        go_wp2_with fail
        refine HTK.out.mono ?_
        rintro e W4 ⟨rfl, hk4, -, ht2, ht3⟩
        have hB5 := below_alloc W4 (.cells #[.int .i64 yk, .string yt, .int .i64 ya] 35)
        have b5x := heap_alloc_new W4 (.cells #[.int .i64 yk, .string yt, .int .i64 ya] 35)
        have hK5 := (HR3.out.2.1.trans (keepF_of_kept hk4 ⟨_, HR3.out.1.box⟩)).trans (keepF_of_below hB5)
        go_upto_region 28 with fail
        obtain ⟨vb, hvb⟩ : ∃ vb, vb = W4.heap.size := ⟨_, rfl⟩
        rw [← hvb] at b5x ⊢
        by_cases hk1 : yk = 2
        · have r5 := (ht2 (by trivial) (by rw [HY.out]; exact hk1)).step hB5
          have HNM : Hid (1 ≤ yt.size ∧ yt.size ≤ 4 ∧ ∀ j, j < yt.size → isD (bt (by8 yt) j) = true) := by
            have h1 := (HR3.out.1.ok.ends.tail_of_kind (by rw [show headW S2.ws = _ from HY.out]; simp only; rw [hk1]; decide)).1.num (by rw [show headW S2.ws = _ from HY.out]; exact hk1)
            rw [show headW S2.ws = _ from HY.out] at h1
            exact h1
          have HF : Hid (R = .ok ⟨S2.next.ws, S2.next.ts, S2.next.ls, S2.next.lv, S2.next.st, S2.next.ed, numP (by8 yt), S2.next.rs⟩) := by
            show _ = _
            rw [HSP.out]
            unfold takeP
            rw [HY.out, if_pos hk1]
          have HVN : Hid (InvP ⟨S2.next.ws, S2.next.ts, S2.next.ls, S2.next.lv, S2.next.st, S2.next.ed, numP (by8 yt), S2.next.rs⟩ sd) := ⟨HR3.out.2.2.1.1, HR3.out.2.2.1.2.1, fun hh => (by have e1 : S2.ed = false := hh; rw [HR3.out.2.2.2.2] at e1; cases e1)⟩
          have H5 : Hid (RF w (W4.alloc (.cells #[.int .i64 yk, .string yt, .int .i64 ya] 35)) rb h wl (i + 1 + 1) (0, 0) ⟨S2.next.ws, S2.next.ts, S2.next.ls, S2.next.lv, S2.next.st, S2.next.ed, numP ((by8 yt).take 0), S2.next.rs⟩ sd qs ∧ KeepF W (W4.alloc (.cells #[.int .i64 yk, .string yt, .int .i64 ya] 35)) ∧ (W4.alloc (.cells #[.int .i64 yk, .string yt, .int .i64 ya] 35)).heap[vb]? = some (.cells #[.int .i64 yk, .string yt, .int .i64 ya] 35 (0, 0))) := by
            refine ⟨?_, hK5, b5x⟩
            have e0 : numP ((by8 yt).take 0) = S2.next.ex := by
              show numP ((by8 yt).take 0) = S2.ex
              rw [HR3.out.2.2.2.1]
              rfl
            rw [e0]
            exact r5
          generalize W4.alloc (.cells #[.int .i64 yk, .string yt, .int .i64 ya] 35) = W5 at *
          clear r5 ht2 ht3 hk4 hK5 hB5 b5x HTK c10 f10 hk1 HR3 HSP hvb HY
          generalize S2.next = S9 at *
          go_wp2_with fail
          go_loopg [5] yt.size (fun kx s5 wr => ∃ k : Nat, s5 = .int .i64 k ∧ k ≤ yt.size ∧ yt.size - k ≤ kx ∧ Hid (RF w wr rb h wl (i + 1 + 1) (0, 0) ⟨S9.ws, S9.ts, S9.ls, S9.lv, S9.st, S9.ed, numP ((by8 yt).take k), S9.rs⟩ sd qs ∧ KeepF W wr ∧ wr.heap[vb]? = some (.cells #[.int .i64 yk, .string yt, .int .i64 ya] 35 (0, 0))))
          case atStart => exact ⟨0, rfl, Nat.zero_le _, by omega, H5⟩
          case round =>
            obtain ⟨k, rfl, hk, hg, J⟩ := hrel
            clear H5
            have q1 := (box35 J.out.2.2).2.1
            have q2 : wr.cell? ⟨rb, 2, none⟩ = some (.int .i64 0) := by rw [cell_block J.out.1.box]; rfl
            clear c2 p0 p1 p2
            by_cases hlt : k < yt.size
            · have hlt' : (k : Int) < (yt.size : Int) := by omega
              have q6 : wr.cell? ⟨rb, 6, none⟩ = some (.int .i64 (numP ((by8 yt).take k))) := by rw [cell_block J.out.1.box]; rfl
              have f6 : wr.frozen? ⟨rb, 6, none⟩ = false := frozen_block J.out.1.box 6
              have hix := run_index_bt yt k hlt
              have hdg := HNM.out.2.2 k hlt
              have h4 := HNM.out.2.1
              unfold isD at hdg
              simp only [Bool.and_eq_true, decide_eq_true_eq] at hdg
              have hlen : k < (by8 yt).length := by rw [by8_length]; exact hlt
              have hat : (by8 yt)[k]? = some (by8 yt)[k] := List.getElem?_eq_getElem hlen
              have hbt : bt (by8 yt) k = ((((by8 yt)[k]).toNat : Nat) : Int) := by unfold bt; rw [hat]; rfl
              have hNX : numP ((by8 yt).take (k + 1)) = numP ((by8 yt).take k) * 10 + (bt (by8 yt) k - 48) := by rw [numP_take hat, hbt]
              have hrg := numP_range k (by8 yt) (fun j hj => HNM.out.2.2 j (by rw [← by8_length]; exact hj)) (by omega)
              have hpw : (10 : Int) ^ k ≤ 1000 := by
                have : k ≤ 3 := by omega
                match k, this with
                | 0, _ => decide
                | 1, _ => decide
                | 2, _ => decide
                | 3, _ => decide
              obtain ⟨d, hd⟩ : ∃ d : Nat, bt (by8 yt) k = 48 + (d : Int) := ⟨(bt (by8 yt) k - 48).toNat, by omega⟩
              rw [hd] at hix hdg hNX
              have hd9 : d ≤ 9 := by omega
              have hm : 0 ≤ numP ((by8 yt).take k) ∧ numP ((by8 yt).take k) ≤ 999 := by omega
              have HS : Hid (RF w (wr.setCell ⟨rb, 6, none⟩ (.int .i64 (numP ((by8 yt).take k) * 10 + (d : Int)))) rb h wl (i + 1 + 1) (0, 0) ⟨S9.ws, S9.ts, S9.ls, S9.lv, S9.st, S9.ed, numP ((by8 yt).take (k + 1)), S9.rs⟩ sd qs ∧ KeepF W (wr.setCell ⟨rb, 6, none⟩ (.int .i64 (numP ((by8 yt).take k) * 10 + (d : Int)))) ∧ (wr.setCell ⟨rb, 6, none⟩ (.int .i64 (numP ((by8 yt).take k) * 10 + (d : Int)))).heap[vb]? = some (.cells #[.int .i64 yk, .string yt, .int .i64 ya] 35 (0, 0))) := by
                have e2 : numP ((by8 yt).take (k + 1)) = numP ((by8 yt).take k) * 10 + (d : Int) := by rw [hNX]; omega
                rw [e2]
                refine ⟨J.out.1.put 6 _ (by unfold rfC; simp) rfl rfl rfl J.out.1.at_ ⟨J.out.1.ok.ends, J.out.1.ok.nt, J.out.1.ok.lv, J.out.1.ok.nr⟩, J.out.2.1.set ⟨_, J.out.1.box⟩ (.inl rfl) _ _, ?_⟩
                rw [Below.heap_setCell _ _ _ _ (loc_ne ⟨_, J.out.2.2⟩ ⟨_, J.out.1.box⟩ (by decide))]
                exact J.out.2.2
              generalize numP ((by8 yt).take k) = m at *
              obtain ⟨hm1, hm2⟩ := hm
              clear hat hbt hrg hpw hd hlen hdg hNX J
              go_upto_region 31 with fail
              go_region
              all_goals
                go_wp2_with fail
                go_roundg (yt.size - (k + 1))
                case measure => omega
                case rel =>
                  refine ⟨k + 1, by simp, by omega, Nat.le_refl _, ?_⟩
                  rw [show (48 + (d : Int) - 48) = (d : Int) by omega]
                  exact (⟨HS.out.1.step (below_drew' _), HS.out.2.1.trans (keepF_of_below (below_drew' _)), block_below (below_drew' _) HS.out.2.2⟩ : RF w _ rb h wl (i + 1 + 1) (0, 0) ⟨S9.ws, S9.ts, S9.ls, S9.lv, S9.st, S9.ed, numP ((by8 yt).take (k + 1)), S9.rs⟩ sd qs ∧ KeepF W _ ∧ _)
            · have hlt' : ¬ (k : Int) < (yt.size : Int) := by omega
              have HT9 : Hid ((by8 yt).take k = by8 yt) := List.take_of_length_le (by rw [by8_length]; omega)
              have H6 : Hid (RF w wr rb h wl (i + 1 + 1) (0, 0) ⟨S9.ws, S9.ts, S9.ls, S9.lv, S9.st, S9.ed, numP (by8 yt), S9.rs⟩ sd qs ∧ KeepF W wr) := ⟨by have := J.out.1; rwa [HT9.out] at this, J.out.2.1⟩
              clear J HT9
              go_wp2_with fail
              go_end0
              exact ⟨rfl, QDid.good H6.out.2 H6.out.1 HVN.out HF.out⟩
        · have r5 := (ht3 (by trivial) (by rw [HY.out]; exact hk1)).step hB5
          rw [HY.out] at r5
          simp only at r5
          have HF : Hid (R = .error (1, ya)) := by
            show _ = _
            rw [HSP.out]
            unfold takeP
            rw [HY.out, if_neg hk1]
            rfl
          generalize W4.alloc (.cells #[.int .i64 yk, .string yt, .int .i64 ya] 35) = W5 at *
          have q1 := (box35 b5x).2.1
          have q2 : W5.cell? ⟨rb, 2, none⟩ = some (.int .i64 1) := by rw [cell_block r5.box]; rfl
          have H5 : Hid (QDid w W rb wl R W5) := QDid.bad hK5 r5 HF.out
          clear r5 ht2 ht3 hk4 hK5 hB5 b5x HTK c10 f10 hk1 HR3 HSP hvb HY c2 p0 p1 p2
          go_wp2_with fail
          go_loopg [5] 0 (fun kx s5 wr => s5 = .int .i64 0 ∧ wr = W5)
          case atStart => exact ⟨rfl, rfl⟩
          case round =>
            obtain ⟨rfl, rfl⟩ := hrel
            by_cases hz : (0 : Int) < (yt.size : Int)
            · go_wp2_with fail
              go_end0
              exact ⟨rfl, H5.out⟩
            · go_wp2_with fail
              go_end0
              exact ⟨rfl, H5.out⟩
    · have b5 : (xt.toList == [37, 101, 120, 112, 101, 99, 116]) = false := keyN tExp_l e6
      have HF : Hid (R = .error (1, xa)) := by rw [if_neg e6] at HPP2; exact HPP2
      clear HPP2 e1 e2 e3 e4 e5 e6
      go_wp2_with fail
      refine (rfFault_calls 1 xa w W2 rb h wl (i + 1) (0, 0) S1 sd qs HR2.out).mono ?_
      rintro e W5 ⟨rfl, hW5⟩
      have H5 : Hid (RF w W5 rb h wl (i + 1) (1, xa) S1 sd qs ∧ KeepF W W5) := by
        rw [hW5]
        exact ⟨HR2.out.fail 1 xa, (HK1.out.set ⟨_, HR2.out.box⟩ (.inl rfl) 2 _).set (Loc.set ⟨_, HR2.out.box⟩ _ _ _) (.inl rfl) 3 _⟩
      clear hW5
      go_wp2_with fail
      go_end0
      exact ⟨rfl, QDid.bad H5.out.2 H5.out.1 HF.out⟩
  · have r1 := (ht3 (by trivial) (by rw [HX.out]; exact hk1)).step hB
    have HNP : Hid (R = .error (1, xa)) := by
      show _ = _
      rw [HRR.out, partP_nokey HEN.out (by rw [HX.out]; exact hk1), HX.out]
      rfl
    rw [HX.out] at r1
    simp only at r1
    have c2 : (W1.alloc (.cells #[.int .i64 xk, .string xt, .int .i64 xa] 35)).cell? ⟨rb, 2, none⟩ = some (.int .i64 1) := by rw [cell_block r1.box]; rfl
    have HR2 : Hid (RF w (W1.alloc (.cells #[.int .i64 xk, .string xt, .int .i64 xa] 35)) rb h wl i (1, xa) S sd qs) := r1
    clear r1 b0 hB ht2 ht3 hk
    go_wp2_with fail
    refine bodyPost_ret (results_none rfl _ _ _) rfl ?_
    exact ⟨rfl, QDid.bad HK1.out HR2.out HNP.out⟩

end Go.Proofs.YtkaojokhdleeiaaGreatDoor

/-
  The words of a scan are such as the reader knows.
-/
namespace Go.Proofs.YtkaojokhdleeiaaGreatDoor
open Go.RowKit

set_option maxRecDepth 20000

def wdOf (s : ByteArray) (x : Nat × Nat × Nat) : Wd := ⟨(x.1 : Int), s.extract x.2.1 x.2.2, (x.2.1 : Int)⟩

theorem bt_drop (l : List UInt8) (i j : Nat) : bt (l.drop i) j = bt l (i + j) := by unfold bt; rw [List.getElem?_drop]
theorem bt_part {l : List UInt8} {i e j : Nat} (h : j < e - i) : bt (part l i e) j = bt l (i + j) := by
  unfold part
  rw [← bt_drop]
  unfold bt
  rw [List.getElem?_take, if_pos h]
theorem part_length {l : List UInt8} {i e : Nat} (h : e ≤ l.length) : (part l i e).length = e - i := by
  unfold part
  rw [List.length_take, List.length_drop]
  omega

theorem runLen_all (p : Int → Bool) : ∀ (l : List UInt8) (j : Nat), j < runLen p l → p (bt l j) = true
  | [], j, h => by simp [runLen] at h
  | b :: r, 0, h => by
    unfold runLen at h
    split at h
    · rename_i hp; exact hp
    · omega
  | b :: r, j + 1, h => by
    unfold runLen at h
    split at h
    · have := runLen_all p r j (by omega)
      exact this
    · omega

theorem runEnd_all' {p : Int → Bool} {l : List UInt8} {i j : Nat} (h1 : i ≤ j) (h2 : j < runEnd p l i) : p (bt l j) = true := by
  have := runLen_all p (l.drop i) (j - i) (by unfold runEnd at h2; omega)
  rw [bt_drop, show i + (j - i) = j by omega] at this
  exact this

theorem sz_part (s : ByteArray) (i e : Nat) (h : e ≤ (by8 s).length) : (s.extract i e).size = e - i := by
  rw [← by8_length, by8_extract, part_length h]

theorem word_ok (s : ByteArray) (i : Nat) (hi : i < (by8 s).length) (hK : (wordP (by8 s) i).1 ≠ 0) : WdOk (wdOf s ((wordP (by8 s) i).1, i, (wordP (by8 s) i).2)) := by
  obtain ⟨r1, r2, r3, r4⟩ := wordP_range hi
  have r3 := r3 hK
  have hsz := sz_part s i _ r2
  have hb0 : bt (by8 (s.extract i (wordP (by8 s) i).2)) 0 = bt (by8 s) i := by rw [by8_extract, bt_part (by omega)]; rfl
  have hkind : (1 : Int) ≤ ((wordP (by8 s) i).1 : Int) ∧ ((wordP (by8 s) i).1 : Int) ≤ 4 := by omega
  by_cases h1 : isL (bt (by8 s) i) = true
  · have e := wordP_name h1
    unfold nameP at e
    by_cases h12 : 12 < runEnd isN (by8 s) i - i
    · rw [if_pos h12] at e
      rw [e] at hK
      exact absurd rfl hK
    · rw [if_neg h12] at e
      refine ⟨hkind, fun _ => ⟨by unfold wdOf; simp only; rw [hb0]; exact h1, by unfold wdOf; simp only; rw [hsz]; omega⟩, fun h => ?_, fun h => ?_, fun h => ?_, by unfold wdOf; simp only; rw [hsz, e]; simp only; omega⟩
      all_goals (unfold wdOf at h; simp only at h; rw [e] at h; simp at h)
  · have h1 : isL (bt (by8 s) i) = false := by simpa using h1
    by_cases h2 : isD (bt (by8 s) i) = true
    · have e := wordP_num h1 h2
      unfold numberP at e
      by_cases hb : numBad (by8 s) i (runEnd isD (by8 s) i) = true
      · rw [if_pos hb] at e
        rw [e] at hK
        exact absurd rfl hK
      · rw [if_neg hb] at e
        have h4 : runEnd isD (by8 s) i - i ≤ 4 := by
          unfold numBad at hb
          simp only [Bool.or_eq_true, not_or, decide_eq_true_eq] at hb
          omega
        refine ⟨hkind, fun h => ?_, fun _ => ⟨by unfold wdOf; simp only; rw [hsz]; omega, by unfold wdOf; simp only; rw [hsz, e]; exact h4, fun j hj => ?_⟩, fun h => ?_, fun h => ?_, by unfold wdOf; simp only; rw [hsz, e]; simp only; omega⟩
        · unfold wdOf at h; simp only at h; rw [e] at h; simp at h
        · unfold wdOf at hj ⊢
          simp only at hj ⊢
          rw [hsz] at hj
          rw [by8_extract, bt_part hj]
          refine runEnd_all' (i := i) (by omega) ?_
          rw [e] at hj
          simp only at hj
          omega
        · unfold wdOf at h; simp only at h; rw [e] at h; simp at h
        · unfold wdOf at h; simp only at h; rw [e] at h; simp at h
    · have h2 : isD (bt (by8 s) i) = false := by simpa using h2
      by_cases h3 : (bt (by8 s) i == 37) = true
      · have e := wordP_key h1 h2 h3
        have hk4 : (wordP (by8 s) i).1 = 4 ∧ (wordP (by8 s) i).2 - i ≤ 100 := by
          rw [e]
          rw [e] at hK
          unfold keyP at hK ⊢
          split
          · exact ⟨rfl, by simp only; omega⟩
          · rename_i hp
            rw [if_neg hp] at hK
            split
            · rename_i hc
              refine ⟨rfl, ?_⟩
              have hl : (part (by8 s) (i + 1) (runEnd isN (by8 s) (i + 1))).length = runEnd isN (by8 s) (i + 1) - (i + 1) := part_length (runEnd_le (by omega))
              have hm : ∀ t, keyWords.contains t = true → t.length ≤ 8 := by
                intro t ht
                simp [keyWords] at ht
                rcases ht with rfl | rfl | rfl | rfl | rfl | rfl | rfl <;> decide
              have := hm _ hc
              simp only
              omega
            · rename_i hc
              rw [if_neg hc] at hK
              exact absurd rfl hK
        refine ⟨hkind, fun h => ?_, fun h => ?_, fun h => ?_, fun _ => ⟨by unfold wdOf; simp only; rw [hb0]; simpa using h3, by unfold wdOf; simp only; rw [hsz]; omega⟩, by unfold wdOf; simp only; rw [hsz]; exact hk4.2⟩
        all_goals (unfold wdOf at h; simp only at h; rw [hk4.1] at h; simp at h)
      · have h3 : (bt (by8 s) i == 37) = false := by simpa using h3
        by_cases h4 : isS (bt (by8 s) i) = true
        · have e := wordP_sign h1 h2 h3 h4
          have hpl : by8 (s.extract i (wordP (by8 s) i).2) = [(by8 s)[i]] := by
            rw [by8_extract, e]
            unfold part
            simp only
            rw [show i + 1 - i = 1 by omega, List.drop_eq_getElem_cons hi]
            rfl
          have hbt : bt (by8 s) i = (((by8 s)[i]).toNat : Int) := by unfold bt; rw [List.getElem?_eq_getElem hi]; rfl
          refine ⟨hkind, fun h => ?_, fun h => ?_, fun _ => ?_, fun h => ?_, by unfold wdOf; simp only; rw [hsz, e]; simp only; omega⟩
          · unfold wdOf at h; simp only at h; rw [e] at h; simp at h
          · unfold wdOf at h; simp only at h; rw [e] at h; simp at h
          · unfold wdOf
            simp only
            rw [hpl]
            unfold isS at h4
            rw [hbt] at h4
            simp only [Bool.or_eq_true, beq_iff_eq] at h4
            have key : ∀ c : UInt8, ((c.toNat : Int) = 58 ∨ (c.toNat : Int) = 124) ∨ (c.toNat : Int) = 59 → [c] = [58] ∨ [c] = [124] ∨ [c] = [(59 : UInt8)] := by
              intro c hc
              rcases hc with (hc | hc) | hc
              · left; rw [List.cons.injEq]; exact ⟨UInt8.toNat_inj.1 (by have h5 : c.toNat = 58 := (by omega); rw [h5]; rfl), rfl⟩
              · right; left; rw [List.cons.injEq]; exact ⟨UInt8.toNat_inj.1 (by have h5 : c.toNat = 124 := (by omega); rw [h5]; rfl), rfl⟩
              · right; right; rw [List.cons.injEq]; exact ⟨UInt8.toNat_inj.1 (by have h5 : c.toNat = 59 := (by omega); rw [h5]; rfl), rfl⟩
            exact key _ h4
          · unfold wdOf at h; simp only at h; rw [e] at h; simp at h
        · rw [wordP_none h1 h2 h3 (by simpa using h4)] at hK
          exact absurd rfl hK

theorem scanF_ends (s : ByteArray) : ∀ (f i : Nat) (a ws : List (Nat × Nat × Nat)), (∀ x ∈ a, WdOk (wdOf s x)) → scanF f (by8 s) i a = (ws, -1) → Ends (ws.map (wdOf s))
  | 0, i, a, ws, _, h => by simp [scanF] at h
  | f + 1, i, a, ws, ha, h => by
    by_cases hi : i < (by8 s).length
    · by_cases hK : (wordP (by8 s) i).1 = 0
      · rw [scan_bad hi hK] at h
        simp at h
      · rw [scan_next hi hK] at h
        refine scanF_ends s f _ _ ws (fun x hx => ?_) h
        rcases List.mem_append.1 hx with hx | hx
        · exact ha x hx
        · rw [List.mem_singleton] at hx
          subst hx
          exact word_ok s i hi hK
    · rw [scan_out (by omega)] at h
      simp only [Prod.mk.injEq] at h
      rw [← h.1, List.map_append]
      refine ⟨a.map (wdOf s), ((by8 s).length : Int), ?_, fun w hw => ?_⟩
      · congr 1
        show [wdOf s (5, (by8 s).length, (by8 s).length)] = [endW _]
        unfold wdOf endW
        simp only
        rw [by8_length, extract_end]
        rfl
      · obtain ⟨x, hx, rfl⟩ := List.mem_map.1 hw
        exact ha x hx

/-- The words of a text without a fault. -/
theorem scan_ends {s : ByteArray} (h : (scan (by8 s)).2 = -1) : Ends ((scan (by8 s)).1.map (wdOf s)) := by
  refine scanF_ends s _ _ [] _ (fun x hx => by cases hx) (?_ : scan (by8 s) = _)
  rw [← h]

end Go.Proofs.YtkaojokhdleeiaaGreatDoor
