/-
  SetFirst: whatever the input, the call returns true and leaves all that was there as it was. No condition.
-/
import Derived.Test.YtdgdaldgchbbaaaPadd
import Derived.Deep.CutBlock
import Derived.ProofKit
import Derived.OpenShut
import Derived.ShutString
import Derived.ChangeOld
namespace Go.Proofs.Ytdgdaldgchbbaaa.First
open Go.ChangeShapes Go.WideShapes Go.ChangeAt Go.RowKit Go.Shelf Go.Sort
open Go.ChangeMaps (open_string shut_string)

theorem own : ownKnob Try.prog.godebug = none := by kernel_rfl
theorem laidOut : laidOutB Try.prog = true := by kernel_rfl

/-- What is in a set of pairs, against the keys that came. -/
structure Told (xs : List (Int × Int)) (ls : List Int) : Prop where
  sorted : Sorted cmpP xs
  small : xs.length ≤ ls.length
  keys : ∀ k, (∃ y, y ∈ xs ∧ y.1 = k) ↔ k ∈ ls
  signs : ∀ y, y ∈ xs → ∃ s : Nat, y.2 = s ∧ ls[s]? = some y.1 ∧ ∀ j, j < s → ls[j]? ≠ some y.1

theorem Told.nil : Told [] [] := ⟨List.Pairwise.nil, Nat.le_refl _, fun k => by simp, fun y h => by simp at h⟩

theorem Told.isIn {xs : List (Int × Int)} {ls : List Int} (h : Told xs ls) (k s : Int) : isIn cmpP (k, s) xs = decide (k ∈ ls) := by
  rw [Bool.eq_iff_iff, isIn_iff cmpP_ord h.sorted, decide_eq_true_iff, ← h.keys]
  constructor
  · rintro ⟨y, hy, h0⟩
    unfold cmpP at h0
    rw [cmpI_zero] at h0
    exact ⟨y, hy, h0⟩
  · rintro ⟨y, hy, h0⟩
    refine ⟨y, hy, ?_⟩
    unfold cmpP
    rw [cmpI_zero]
    exact h0

theorem Told.more {xs : List (Int × Int)} {ls : List Int} (h : Told xs ls) (k : Int) : Told (ins cmpP (k, (ls.length : Int)) xs) (ls ++ [k]) := by
  have hk := h.isIn k ls.length
  have keep : ∀ y, y ∈ xs → ∃ s : Nat, y.2 = s ∧ (ls ++ [k])[s]? = some y.1 ∧ ∀ j, j < s → (ls ++ [k])[j]? ≠ some y.1 := fun y hy => by
    obtain ⟨s, e, h1, h2⟩ := h.signs y hy
    have hs : s < ls.length := (List.getElem?_eq_some_iff.1 h1).1
    exact ⟨s, e, by rw [List.getElem?_append_left hs]; exact h1, fun j hj => by rw [List.getElem?_append_left (by omega)]; exact h2 j hj⟩
  unfold ins
  cases hi : Go.Proofs.Ytdgdaldgchbbaaa.isIn cmpP (k, (ls.length : Int)) xs with
  | true =>
    rw [hi] at hk
    have hm : k ∈ ls := of_decide_eq_true hk.symm
    simp only [cond_true]
    refine ⟨h.sorted, by rw [List.length_append]; have := h.small; omega, fun j => ?_, keep⟩
    rw [h.keys, List.mem_append, List.mem_singleton]
    exact ⟨fun h => .inl h, fun h => h.elim id (fun e => e ▸ hm)⟩
  | false =>
    rw [hi] at hk
    have hm : ¬ k ∈ ls := of_decide_eq_false hk.symm
    simp only [cond_false]
    refine ⟨put_sorted cmpP_ord h.sorted hi, by rw [put_length, List.length_append]; have := h.small; simp; omega, fun j => ?_, fun y hy => ?_⟩
    · rw [List.mem_append, List.mem_singleton, ← h.keys]
      constructor
      · rintro ⟨y, hy, e⟩
        rcases put_mem.1 hy with rfl | hy
        · exact .inr e.symm
        · exact .inl ⟨y, hy, e⟩
      · rintro (⟨y, hy, e⟩ | e)
        · exact ⟨y, put_mem.2 (.inr hy), e⟩
        · exact ⟨_, put_mem.2 (.inl rfl), e.symm⟩
    · rcases put_mem.1 hy with rfl | hy
      · refine ⟨ls.length, rfl, by simp, fun j hj hc => ?_⟩
        rw [List.getElem?_append_left hj] at hc
        exact hm (List.mem_of_getElem? hc)
      · exact keep y hy

/-- The set and the list beside it. -/
structure StF (w0 w : World) (p : Nat) (v : Value) (xs : List (Int × Int)) (lv : Value) (ls : List Int) : Prop where
  set : SetP w p v xs
  list : w.ownsRow 0 3 1 lv ls.length (ls.map (Value.int .i64))
  below : Go.RowKit.Below w0.heap.size w0 w
  los : ∀ k, Foot p v k → w0.heap.size ≤ k
  lol : ∀ k, lv.ownBlock = some k → w0.heap.size ≤ k
  apart : ∀ k, Foot p v k → lv.ownBlock ≠ some k

theorem StF.step {w0 w w' : World} {p : Nat} {v lv : Value} {xs : List (Int × Int)} {ls : List Int} (h : StF w0 w p v xs lv ls) (hb : Go.RowKit.Below w.heap.size w w') : StF w0 w' p v xs lv ls :=
  ⟨IsSet.below h.set hb, own_later h.list hb, h.below.trans (hb.mono h.below.size), h.los, h.lol, h.apart⟩

theorem StF.wrote {w0 w w' : World} {p : Nat} {v v' lv : Value} {xs ys : List (Int × Int)} {ls : List Int} (h : StF w0 w p v xs lv ls) (hs : SetP w' p v' ys) (hw : Wrote w p v w' v') : StF w0 w' p v' ys lv ls := by
  have hz := h.below.size
  refine ⟨hs, ownsRow_of_block h.list (fun i hi => hw.kept.block i (h.list.lt i hi).2 (fun hf => h.apart i hf hi)), h.below.trans (hw.kept.below hz (fun k hk hf => by have := h.los k hf; omega)), fun k hk => ?_, h.lol, fun k hk e => ?_⟩
  · rcases foot_wrote hw hk with h1 | h1
    · exact h.los k h1
    · omega
  · rcases foot_wrote hw hk with h1 | h1
    · exact h.apart k h1 e
    · have := (h.list.lt k e).2; omega

/-- One more behind the list. -/
theorem StF.more {w0 w : World} {p : Nat} {v lv : Value} {xs : List (Int × Int)} {ls : List Int} (h : StF w0 w p v xs lv ls) (hl : ls.length ≤ 1000) (K : Int) :
    ∃ ao n c w', (Builtin.append_ #[27, 27] 27 #[lv, .slice (some ⟨w.heap.size, 0, none⟩) 1 1]).run Try.prog (w.alloc (.cells #[.int .i64 K] 3)) = .ok (.slice ao n c) w' ∧ StF w0 w' p v xs (.slice ao n c) (ls ++ [K]) := by
  obtain ⟨i0, hi0, hz0, hz1, hz2⟩ := info_parts Try.info3
  have hA := h.step (below_alloc w (.cells #[.int .i64 K] 3))
  have hnews : ∀ j x, [Value.int .i64 K][j]? = some x → (w.alloc (.cells #[.int .i64 K] 3)).cell? ((⟨w.heap.size, 0, none⟩ : Addr).add j) = some x := fun j x hj => by
    have := (seg_one w K).news _ rfl j x (by simpa using hj)
    exact this
  obtain ⟨v', w', hr, h2, h3, h4⟩ := append_known (w.alloc (.cells #[.int .i64 K] 3)) 27 27 3 i0 _ 1 8 Try.underlying27 hi0 hz0 hz1 hz2 rfl (by decide) lv ls.length _ hA.list ⟨w.heap.size, 0, none⟩ 1 1 [.int .i64 K] rfl hnews (fun x hx => by simp at hx; subst hx; rfl) (by unfold maxLen; omega) (by omega)
  obtain ⟨ao, cap, rfl, -, -, -⟩ := own_slice h2
  have hz := hA.below.size
  refine ⟨ao, _, cap, w', hr, IsSet.kept hA.set h3 (fun i hf e => hA.apart i hf e), ?_, hA.below.trans (h3.below hz (fun k hk e => by have := hA.lol k e; omega)), hA.los, fun k hk => ?_, fun k hk e => ?_⟩
  · have := h2
    rw [List.map_append, List.length_append]
    exact this
  · rcases h4 k hk with h1 | h1
    · exact hA.lol k h1
    · omega
  · rcases h4 k e with h1 | h1
    · exact hA.apart k hk h1
    · have := IsSet.lt hA.set k hk; omega

set_option maxHeartbeats 8000000 in
set_option maxRecDepth 100000 in
theorem walk (a0 : Option Addr) (len0 cap0 : Nat) (z0 : List Int) (w : World) (r0 : IsRow .i64 w a0 len0 cap0 z0) :
    Calls Try.prog 4 #[.slice a0 len0 cap0] w fun e w' => e = .returned (.bool true) ∧ Below w.heap.size w w' := by
  have HK : Hid (Seg (Value.int .i64) 0 w a0 len0 cap0 (z0.take len0)) := r0.seg
  have hm0 : cap0 ≤ 9223372036854775807 := by have := HK.out.max; unfold maxLen at this; omega
  have hl0 : len0 ≤ cap0 := HK.out.le
  clear r0
  generalize z0.take len0 = zs at HK
  have H1 := begun_spec w
  go_enter Try.func4, Try.ntmps4
  go_wp2_with fail
  refine H1.mono ?_
  rintro e w1 ⟨rfl, B1⟩
  have H2 := new_pair w1
  clear H1
  have KB : Hid (Below w.heap.size w w1) := B1
  clear B1
  go_wp2_with fail
  refine H2.mono ?_
  rintro e w2 ⟨rfl, rfl⟩
  clear H2
  have M0 : Hid (StF w (w1.alloc (.cells #[.func (.func 24) #[] #[], .slice none 0 0] 66)) w1.heap.size (.slice none 0 0) [] (.slice none 0 0) []) := by
    have hz := KB.out.size
    exact ⟨set_new_pair w1, World.ownsRow_nil _ _ _ _, KB.out.alloc hz _, fun k hk => hk.elim (fun e => by omega) (fun e => by cases e), fun k hk => (by cases hk), fun k hk e => (by cases e)⟩
  go_upto_block 0 with fail
  generalize w1.alloc (.cells #[.func (.func 24) #[] #[], .slice none 0 0] 66) = w2 at M0 ⊢
  generalize w1.heap.size = p at M0 ⊢
  go_cut [5] (fun s5 wd => ∃ (ml : Nat × Option Addr × Nat), s5 = .slice ml.2.1 ml.1 ml.2.2 ∧ Hid (∃ v xs ls, ls.length ≤ 40 ∧ Told xs ls ∧ StF w wd p v xs (.slice ml.2.1 ml.1 ml.2.2) ls))
  case first =>
    go_wp2_with fail
    go_loopg [5, 6] 41 (fun kx s5 s6 wr => ∃ (I : Nat) (ml : Nat × Option Addr × Nat), s5 = .slice ml.2.1 ml.1 ml.2.2 ∧ s6 = .int .i64 I ∧ I ≤ len0 ∧ I ≤ 40 ∧ 40 - I < kx ∧ Hid (∃ v xs ls, ls.length = I ∧ Told xs ls ∧ StF w wr p v xs (.slice ml.2.1 ml.1 ml.2.2) ls))
    case atStart => exact ⟨0, (0, none, 0), rfl, rfl, Nat.zero_le _, Nat.zero_le _, by omega, (⟨_, [], [], rfl, Told.nil, M0.out⟩ : ∃ v xs ls, ls.length = 0 ∧ Told xs ls ∧ StF w _ p v xs (.slice none 0 0) ls)⟩
    case round =>
      clear M0
      obtain ⟨I, ⟨nl, al, cl⟩, rfl, rfl, hI, hI4, hg, J⟩ := hrel
      by_cases hlt : I < len0
      · by_cases hlt4 : I < 40
        · obtain ⟨v, xs, ls, hls, T, M⟩ := J.out
          obtain ⟨b, off, rfl, hb, hcell⟩ := (HK.out.below M.below).at (by omega)
          have cI := hcell I hlt
          have HAD : Hid (∀ K, Calls Try.prog 25 #[.pointer (some ⟨p, 0, none⟩), .agg #[.int .i64 K, .int .i64 I]] wr fun e w' => ∃ v', e = .returned (.bool (!decide (K ∈ ls))) ∧ StF w w' p v' (ins cmpP (K, (I : Int)) xs) (.slice al nl cl) ls) := fun K => by
            refine (add_spec_pair M.set T.sorted (by have := T.small; omega) K I).mono ?_
            rintro e w' ⟨v', rfl, S, W⟩
            exact ⟨v', by rw [T.isIn], M.wrote S W⟩
          have HT : Hid (ls.length = I ∧ Told xs ls) := ⟨hls, T⟩
          clear J T M hcell hls
          generalize zs[I]?.getD 0 = y at cI
          go_wp2_with fail
          generalize (wrap64 (y.tmod 9 + 9)).tmod 9 = K
          refine (HAD.out K).mono ?_
          rintro e w3 ⟨v3, rfl, M3⟩
          have HM3 : Hid (StF w w3 p v3 (ins cmpP (K, (I : Int)) xs) (.slice al nl cl) ls) := M3
          obtain ⟨ao', cap', ev, segl, -⟩ := Seg.owned (d := 0) M3.list
          injection ev with e1 e2 e3
          subst e1 e2 e3
          have hcl : cl ≤ 9223372036854775807 := by have := segl.max; unfold maxLen at this; omega
          have hlc : ls.length ≤ cl := segl.le
          have HH := has_list segl (by have := HT.out.1; omega) K
          have HT2 : Hid (Told (ins cmpP (K, (I : Int)) xs) (ls ++ [K])) := (by have := HT.out.2.more K; rw [HT.out.1] at this; exact this)
          generalize decide (K ∈ ls) = d at HH ⊢
          have hbq : ((!d) == d) = false := by cases d <;> rfl
          clear M3 HAD segl cI
          go_wp2_with fail
          refine HH.mono ?_
          rintro e w4 ⟨rfl, rfl⟩
          obtain ⟨a5, n5, c5, w5, hr, M5⟩ := HM3.out.more (by have := HT.out.1; omega) K
          have HM5 : Hid (StF w w5 p v3 (ins cmpP (K, (I : Int)) xs) (.slice a5 n5 c5) (ls ++ [K])) := M5
          clear HH M5 HM3
          go_wp2_with (at_builtin; refine Lib.wpList_append_run _ rfl _ _ _ _ rfl _ _ rfl rfl _ _ hr ?_)
          go_roundg (40 - I)
          case measure => omega
          case rel => exact ⟨I + 1, (n5, a5, c5), rfl, by simp, by omega, by omega, by omega, ⟨v3, _, _, by rw [List.length_append, HT.out.1]; rfl, HT2.out, HM5.out⟩⟩
        · have J2 : Hid (∃ v xs ls, ls.length ≤ 40 ∧ Told xs ls ∧ StF w wr p v xs (.slice al nl cl) ls) := (by
            obtain ⟨v, xs, ls, h1, h2, h3⟩ := J.out
            exact ⟨v, xs, ls, by omega, h2, h3⟩)
          clear J
          go_wp2_with fail
          go_meet
          exact ⟨(nl, al, cl), rfl, J2⟩
      · have J2 : Hid (∃ v xs ls, ls.length ≤ 40 ∧ Told xs ls ∧ StF w wr p v xs (.slice al nl cl) ls) := (by
          obtain ⟨v, xs, ls, h1, h2, h3⟩ := J.out
          exact ⟨v, xs, ls, by omega, h2, h3⟩)
        clear J
        go_wp2_with fail
        go_meet
        exact ⟨(nl, al, cl), rfl, J2⟩
  case rest =>
    obtain ⟨⟨nl, al, cl⟩, rfl, J⟩ := hcut
    obtain ⟨v, xs, ls, hls, T, M⟩ := J.out
    obtain ⟨ao', cap', ev, segl, -⟩ := Seg.owned (d := 0) M.list
    injection ev with e1 e2 e3
    subst e1 e2 e3
    have hcl : cl ≤ 9223372036854775807 := by have := segl.max; unfold maxLen at this; omega
    have hlc : ls.length ≤ cl := segl.le
    have hxl : xs.length ≤ 40 := by have := T.small; omega
    have LP := list_pair M.set (by omega)
    have HM : Hid (StF w wc p v xs (.slice al ls.length cl) ls ∧ Seg (Value.int .i64) 0 wc al ls.length cl ls) := ⟨M, segl⟩
    have HT : Hid (Told xs ls) := T
    clear J M0 T M segl
    generalize hx : xs.length = n at LP hxl
    have HX : Hid (xs.length = n) := hx
    clear hx
    generalize hy : ls.length = m at HM hls hlc ⊢
    have HY : Hid (ls.length = m) := hy
    clear hy
    go_wp2_with fail
    refine LP.mono ?_
    rintro e w3 ⟨vm, rfl, om, B3⟩
    obtain ⟨am, cm, rfl, segm, -⟩ := SegP.owned om
    have hcm : cm ≤ 9223372036854775807 := by have := segm.max; unfold maxLen at this; omega
    have hnm : n ≤ cm := segm.le
    have HM3 : Hid (Go.RowKit.Below w.heap.size w w3 ∧ Seg (Value.int .i64) 0 w3 al m cl ls ∧ SegP w3 am n cm xs) := ⟨(HM.out.1.step B3).below, HM.out.2.below B3, segm⟩
    clear LP om B3 segm HM
    go_wp2_with fail
    go_loopg [9] n (fun kx s9 wr => ∃ I : Nat, s9 = .int .i64 I ∧ I ≤ n ∧ n - I ≤ kx ∧ Hid (∃ k, wr = w3.drewN k))
    case atStart => exact ⟨0, rfl, Nat.zero_le _, by omega, (⟨0, rfl⟩ : ∃ k, w3 = w3.drewN k)⟩
    case round =>
      obtain ⟨I, rfl, hI, hg, J⟩ := hrel
      by_cases hlt : I < n
      · obtain ⟨gm, rfl, hgm, hcm2⟩ := HM3.out.2.2.at (by omega)
        have hyy := hcm2 I hlt
        obtain ⟨s, es, h1, h2⟩ := HT.out.signs (xs[I]?.getD (0, 0)) (List.mem_of_getElem? (get_some (by rw [HX.out]; exact hlt)))
        have hsm : s < m := by rw [← HY.out]; exact (List.getElem?_eq_some_iff.1 h1).1
        obtain ⟨lb, lo, rfl, hlb, hcl2⟩ := HM3.out.2.1.at (by omega)
        have HCL : Hid (∀ j, j < m → w3.cell? ⟨lb, lo + j, none⟩ = some (.int .i64 (ls[j]?.getD 0))) := hcl2
        rw [es] at hyy
        have HS : Hid (ls[s]?.getD 0 = (xs[I]?.getD (0, 0)).1 ∧ ∀ j, j < s → ls[j]?.getD 0 ≠ (xs[I]?.getD (0, 0)).1) := by
          refine ⟨by rw [h1]; rfl, fun j hj he => h2 j hj ?_⟩
          rw [← he]
          exact get_some (by rw [HY.out]; omega)
        generalize (xs[I]?.getD (0, 0)).1 = key at hyy HS
        have HCY : Hid (w3.cell? ⟨gm, I * 2, none⟩ = some (.int .i64 key) ∧ w3.cell? ⟨gm, I * 2 + 1, none⟩ = some (.int .i64 (s : Int))) := hyy
        clear hcm2 hyy es h1 h2 hcl2
        obtain ⟨nd, rfl⟩ := J.out
        clear J
        go_wp2_with fail
        go_loopg [10] 41 (fun kx s10 wr => ∃ Jj : Nat, s10 = .int .i64 Jj ∧ Jj ≤ s ∧ 40 - Jj < kx ∧ Hid (∃ k, wr = w3.drewN k))
        case atStart => exact ⟨0, rfl, Nat.zero_le _, by omega, (⟨nd, rfl⟩ : ∃ k, w3.drewN nd = w3.drewN k)⟩
        case round =>
          obtain ⟨Jj, rfl, hJ, hgj, JJ⟩ := hrel
          obtain ⟨ne, hne⟩ := JJ.out
          subst hne
          have c1 : (w3.drewN ne).cell? ⟨lb, lo + Jj, none⟩ = some (.int .i64 (ls[Jj]?.getD 0)) := HCL.out Jj (by omega)
          have c2 : (w3.drewN ne).cell? ⟨gm, I * 2, none⟩ = some (.int .i64 key) := HCY.out.1
          have c3 : (w3.drewN ne).cell? ⟨gm, I * 2 + 1, none⟩ = some (.int .i64 (s : Int)) := HCY.out.2
          have hJm : Jj < m := by omega
          generalize hwn : w3.drewN ne = wn at c1 c2 c3 ⊢
          have HWN : Hid (w3.drewN ne = wn) := hwn
          clear hwn JJ
          by_cases hjs : Jj = s
          · subst hjs
            rw [HS.out.1] at c1
            have hkb : (key == key) = true := by simp
            go_wp2_with fail
            go_quiet (fail)
            go_wp2_with fail
            go_roundg (n - (I + 1))
            case measure => omega
            case rel => exact ⟨I + 1, by simp, by omega, Nat.le_refl _, (⟨ne + nq, by rw [← HWN.out, World.drewN_drewN]⟩ : ∃ k, wn.drewN nq = w3.drewN k)⟩
          · have hnk := HS.out.2 Jj (by omega)
            generalize ls[Jj]?.getD 0 = z at c1 hnk
            have hkb : (z == key) = false := by simpa using hnk
            go_wp2_with fail
            go_quiet (fail)
            go_wp2_with fail
            go_roundg (40 - Jj)
            case measure => omega
            case rel => exact ⟨Jj + 1, by simp, by omega, by omega, (⟨ne + nq, by rw [← HWN.out, World.drewN_drewN]⟩ : ∃ k, wn.drewN nq = w3.drewN k)⟩
      · obtain ⟨nd, rfl⟩ := J.out
        go_wp2
        go_ret
        exact ⟨rfl, below_drewN HM3.out.1 nd⟩

set_option maxRecDepth 100000 in
theorem lifted (os : Os) (started : os.Started) (H : Type) (enc : TypeId × Value → H) :
    ReturnsInHanded {} Try.checked os 4 .any (Rows.setFirstSpec.pre6 enc Try.prog Try.f4 Rows.setFirstRow.domain false) (Rows.setFirstSpec.post enc Try.prog Try.f4 false true false false) := by
  refine returnsInHanded_of_change (C := Try.checked) own started (by kernel_rfl) Try.func4
    (ChangeSpec.witness6 (enc := enc) (C := Try.checked) false ⟨#[], #[.slice none 0 0], []⟩ 8 (by kernel_rfl) (by kernel_rfl) (by kernel_rfl) (by kernel_rfl)) ?_
  intro W base args ds gs before hval0 hW hcnd _
  have hval : ∀ (j : Nat) t v, Try.f4.params[j]? = some t → args[j]? = some v → Value.okWide Try.prog W .any base t v := hval0
  have hW' := hW
  obtain ⟨p, q, hA0, hV, rfl, hfz, hnd⟩ := hW
  have hA : DataW.TrodAll enc Try.prog W 0 (fun _ => true) true Try.f4.params.toList args.toList ds p := hA0
  rw [Try.params4] at hA hval
  obtain ⟨v0, vs0, d0, ds0, p0, q0, hargs, rfl, rfl, h0, r0⟩ := trodAll_cons hA
  obtain ⟨rfl, rfl, rfl⟩ := trodAll_nil r0
  obtain rfl : args = #[v0] := by cases args; simp_all
  obtain ⟨rfl, rfl⟩ := trodVars_none hV
  obtain ⟨a0, len0, cap0, rfl⟩ := okWide_slice Try.underlying27 (hval 0 27 v0 rfl rfl)
  have k0 := h0
  have lt0 : ∀ x ∈ p0, x.block < W.heap.size := by obtain ⟨m, hm⟩ := k0; exact DataW.trod_lt m _ _ _ hm
  obtain ⟨z0, w0⟩ : ∃ zs, IsRow .i64 W a0 len0 cap0 zs := by
    obtain ⟨fuel, hf⟩ := h0
    rcases open_ints Try.underlying27 Try.underlying3 (by kernel_rfl) hf with ⟨hcs, _⟩ | ⟨x, l, c, zs, hcs, _, hl, hm, hz, _, hcell, hwz⟩
    · simp [Value.cells] at hcs
      obtain ⟨rfl, rfl, rfl⟩ := hcs
      exact ⟨[], .inl ⟨rfl, rfl, rfl, rfl⟩⟩
    · simp [Value.cells] at hcs
      obtain ⟨rfl, rfl, rfl⟩ := hcs
      exact ⟨zs, .inr ⟨_, rfl, hl, hm, by simpa using hz, hcell, hwz⟩⟩
  clear hA0 hval0
  refine (walk a0 len0 cap0 z0 W w0).mono fun e W' ⟨he, bel⟩ => ?_
  subst he
  exact ⟨_, rfl, _, _, _, [], _, [], hW', trodAll_mk1 (shut_bool Try.underlying4 _), (trodAll_cons_mk (Below.trod laidOut (by kernel_rfl) (of_decide_eq_true (by kernel_rfl)) k0 bel lt0) trodAll_mk0), rfl, bel.frame _, fun h => by cases h⟩

theorem over : Rows.setFirstRow.holds Try.pinned (OpenSpec.ofChange Rows.setFirstSpec) :=
  OpenClaim.holds_of_wide 4 Try.f4 rfl rfl rfl rfl rfl rfl rfl ⟨rfl, rfl, rfl, rfl, rfl⟩ rfl rfl rfl rfl rfl (by kernel_rfl) Try.func4 (by kernel_rfl)
    (of_decide_eq_true (by kernel_rfl)) (by unfold Func.isWrapper; first | (rw [if_pos (by decide +kernel)]; kernel_rfl) | (rw [if_neg (by decide +kernel)]; exact ⟨rfl, rfl⟩))
    (fun os started H enc _ => lifted os started H enc)

end Go.Proofs.Ytdgdaldgchbbaaa.First
namespace Go.Proofs.Ytdgdaldgchbbaaa
theorem setFirst_holds : Rows.SetFirstSaid := First.over
#print axioms setFirst_holds
end Go.Proofs.Ytdgdaldgchbbaaa
