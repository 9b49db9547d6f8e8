/-
  SetTexts: whatever the input, the call returns true and leaves all that was there as it was. No condition.
-/
import Derived.Test.YtdgdaldgchbbaaaStr
import Derived.Test.YtdgdaldgchbbaaaTwo
import Derived.Deep.CutBlock
import Derived.SliceStrings
import Derived.ProofKit
import Derived.OpenShut
import Derived.ShutString
import Derived.ChangeOld
namespace Go.Proofs.Ytdgdaldgchbbaaa.Texts
open Go.ChangeShapes Go.WideShapes Go.ChangeAt Go.RowKit Go.Shelf
open Go.ChangeMaps (open_string shut_string)

theorem own : ownKnob Try.prog.godebug = none := by kernel_rfl
theorem laidOut : laidOutB Try.prog = true := by kernel_rfl

theorem less_irrefl : ∀ l : List UInt8, Op.bytesLess l l = false
  | [] => rfl
  | a :: r => by simp [Op.bytesLess, less_irrefl r]

theorem less_trans : ∀ a b c : List UInt8, Op.bytesLess a b = true → Op.bytesLess b c = true → Op.bytesLess a c = true
  | [], [], _, h, _ => by simp [Op.bytesLess] at h
  | [], _ :: _, [], _, k => by simp [Op.bytesLess] at k
  | [], _ :: _, _ :: _, _, _ => rfl
  | _ :: _, [], _, h, _ => by simp [Op.bytesLess] at h
  | _ :: _, _ :: _, [], _, k => by simp [Op.bytesLess] at k
  | x :: a, y :: b, z :: c, h, k => by
    simp only [Op.bytesLess, Bool.or_eq_true, decide_eq_true_eq, Bool.and_eq_true, beq_iff_eq] at h k ⊢
    rcases h with h | ⟨rfl, h⟩
    · rcases k with k | ⟨rfl, k⟩
      · exact .inl (UInt8.lt_trans h k)
      · exact .inl h
    · rcases k with k | ⟨rfl, k⟩
      · exact .inl k
      · exact .inr ⟨rfl, less_trans a b c h k⟩

theorem less_total : ∀ a b : List UInt8, Op.bytesLess a b = false → a ≠ b → Op.bytesLess b a = true
  | [], [], _, h => absurd rfl h
  | [], _ :: _, h, _ => by simp [Op.bytesLess] at h
  | _ :: _, [], _, _ => rfl
  | x :: a, y :: b, h, k => by
    simp only [Op.bytesLess, Bool.or_eq_false_iff, decide_eq_false_iff_not, Bool.and_eq_false_iff, beq_eq_false_iff_ne] at h
    simp only [Op.bytesLess, Bool.or_eq_true, decide_eq_true_eq, Bool.and_eq_true, beq_iff_eq]
    by_cases hxy : x = y
    · subst hxy
      have h2 : Op.bytesLess a b = false := h.2.elim (fun h => absurd rfl h) id
      exact .inr ⟨rfl, less_total a b h2 (fun e => k (by rw [e]))⟩
    · refine .inl ?_
      have h1 := h.1
      rw [UInt8.not_lt] at h1
      exact UInt8.lt_of_le_of_ne h1 (fun e => hxy e.symm)

/-- Of two texts. -/
def cmpS (a b : ByteArray) : Int := if Op.bytesLess a.toList b.toList = true then -1 else if a.toList = b.toList then 0 else 1

theorem cmpS_neg (a b : ByteArray) : cmpS a b < 0 ↔ Op.bytesLess a.toList b.toList = true := by
  unfold cmpS
  by_cases h : Op.bytesLess a.toList b.toList = true
  · simp [h]
  · by_cases h2 : a.toList = b.toList
    · simp [h2, less_irrefl]
    · simp [h, h2]
theorem cmpS_zero (a b : ByteArray) : cmpS a b = 0 ↔ a.toList = b.toList := by
  unfold cmpS
  by_cases h2 : a.toList = b.toList
  · simp [h2, less_irrefl]
  · by_cases h : Op.bytesLess a.toList b.toList = true
    · simp [h, h2]
    · simp [h, h2]
theorem cmpS_ord : Ord cmpS where
  trans := fun a b c h k => by rw [cmpS_neg] at *; exact less_trans _ _ _ h k
  alike := fun a b c h k => by rw [cmpS_neg] at *; rw [cmpS_zero] at k; rw [← k]; exact h
  turn := fun a b h => by
    rw [cmpS_neg]
    refine less_total _ _ ?_ ?_
    · by_cases h2 : Op.bytesLess a.toList b.toList = true
      · have := (cmpS_neg a b).2 h2; omega
      · simpa using h2
    · intro e
      have := (cmpS_zero a b).2 e
      omega
  same := fun a => (cmpS_zero a a).2 rfl

theorem text_spec (a b : ByteArray) (w : World) : Calls Try.prog 28 #[.string a, .string b] w fun e w' => e = .returned (.int .i64 (cmpS a b)) ∧ w' = w := by
  by_cases h1 : Op.bytesLess a.toList b.toList = true
  · have HR : Hid (cmpS a b = -1) := by unfold cmpS; simp [Hid, h1]
    generalize cmpS a b = r at HR ⊢
    go_enter Try.func28, Try.ntmps28
    go_wp2
    go_ret
    exact ⟨by rw [HR.out]; rfl, rfl⟩
  · have h1' : Op.bytesLess a.toList b.toList = false := by simpa using h1
    by_cases h2 : a.toList = b.toList
    · have HR : Hid (cmpS a b = 0) := (cmpS_zero a b).2 h2
      have h2b : (a.toList == b.toList) = true := by simpa using h2
      clear h1 h2
      generalize cmpS a b = r at HR ⊢
      go_enter Try.func28, Try.ntmps28
      go_wp2
      go_ret
      exact ⟨by rw [HR.out]; rfl, rfl⟩
    · have HR : Hid (cmpS a b = 1) := by unfold cmpS; simp [Hid, h1', h2]
      have h2b : (a.toList == b.toList) = false := by simpa using h2
      clear h1 h2
      generalize cmpS a b = r at HR ⊢
      go_enter Try.func28, Try.ntmps28
      go_wp2
      go_ret
      exact ⟨by rw [HR.out]; rfl, rfl⟩

theorem cmp28 : CmpFn Value.string 28 cmpS := ⟨enters_of Try.func28 (by kernel_rfl) rfl, text_spec, cmpS_ord⟩

/-- A set of texts of the call's own. -/
structure MineS (w0 w : World) (p : Nat) (v : Value) (xs : List ByteArray) : Prop where
  set : SetS w p 28 v xs
  below : Below w0.heap.size w0 w
  lo : w0.heap.size ≤ p
  own : ∀ k, v.ownBlock = some k → w0.heap.size ≤ k

theorem MineS.wrote {w0 w w' : World} {p : Nat} {v v' : Value} {xs ys : List ByteArray} (h : MineS w0 w p v xs) (hs : SetS w' p 28 v' ys) (hw : Wrote w p v w' v') : MineS w0 w' p v' ys := by
  have hz := h.below.size
  refine ⟨hs, h.below.trans (hw.kept.below hz ?_), h.lo, fun k hk => ?_⟩
  · rintro k hk (rfl | e)
    · have := h.lo; omega
    · have := h.own k e; omega
  · rcases hw.fresh k hk with h1 | h1
    · exact h.own k h1
    · omega

theorem MineS.step {w0 w w' : World} {p : Nat} {v : Value} {xs : List ByteArray} (h : MineS w0 w p v xs) (hb : Below w.heap.size w w') : MineS w0 w' p v xs :=
  ⟨IsSet.below h.set hb, h.below.trans (hb.mono h.below.size), h.lo, h.own⟩

theorem MineS.make (w0 w : World) (h : Below w0.heap.size w0 w) : MineS w0 (w.alloc (.cells #[fnv 28, .slice none 0 0] 71)) w.heap.size (.slice none 0 0) [] :=
  ⟨set_new_str w 28, h.alloc h.size _, h.size, fun k hk => (by cases hk)⟩

/-- One more: all that was alike stays so. -/
theorem ins_has {x : ByteArray} {xs : List ByteArray} (hs : Sorted cmpS xs) (z : ByteArray) (hz : z = x ∨ ∃ y, y ∈ xs ∧ cmpS y z = 0) : ∃ y, y ∈ ins cmpS x xs ∧ cmpS y z = 0 := by
  unfold ins
  cases hi : isIn cmpS x xs with
  | true =>
    simp only [cond_true]
    rcases hz with rfl | hz
    · exact (isIn_iff cmpS_ord hs z).1 hi
    · exact hz
  | false =>
    simp only [cond_false]
    rcases hz with rfl | ⟨y, hy, h0⟩
    · exact ⟨z, put_mem.2 (.inl rfl), cmpS_ord.same z⟩
    · exact ⟨y, put_mem.2 (.inr hy), h0⟩

set_option maxHeartbeats 8000000 in
set_option maxRecDepth 100000 in
theorem walk (a0 : Option Addr) (len0 cap0 : Nat) (ls : List ByteArray) (w : World) (r0 : Seg Value.string ByteArray.empty w a0 len0 cap0 ls) :
    Calls Try.prog 5 #[.slice a0 len0 cap0] w fun e w' => e = .returned (.bool true) ∧ Below w.heap.size w w' := by
  have HL : Hid (Seg Value.string ByteArray.empty w a0 len0 cap0 ls) := r0
  have hm0 : cap0 ≤ 9223372036854775807 := by have := r0.max; unfold maxLen at this; omega
  have hl0 : len0 ≤ cap0 := r0.le
  clear r0
  have H1 := begun_spec w
  go_enter Try.func5, Try.ntmps5
  go_wp2_with fail
  refine H1.mono ?_
  rintro e w1 ⟨rfl, B1⟩
  have H2 := new_spec_str 28 w1
  have M0 : Hid (MineS w (w1.alloc (.cells #[.func (.func 28) #[] #[], .slice none 0 0] 71)) w1.heap.size (.slice none 0 0) []) := MineS.make w w1 B1
  unfold fnv at H2
  clear H1 B1
  go_wp2_with fail
  refine H2.mono ?_
  rintro e w2 ⟨rfl, rfl⟩
  clear H2
  go_upto_block 0 with fail
  generalize w1.alloc (.cells #[.func (.func 28) #[] #[], .slice none 0 0] 71) = w2 at M0 ⊢
  generalize w1.heap.size = p at M0 ⊢
  go_cut [5] (fun _ wd => Hid (∃ v xs, MineS w wd p v xs ∧ Sorted cmpS xs ∧ xs.length ≤ 40 ∧ ∀ j, j < len0 → j < 40 → ∃ y, y ∈ xs ∧ cmpS y (ls[j]?.getD ByteArray.empty) = 0))
  case first =>
    go_wp2_with fail
    go_loopg [5] 41 (fun kx s5 wr => ∃ I : Nat, s5 = .int .i64 I ∧ I ≤ len0 ∧ I ≤ 40 ∧ 40 - I < kx ∧ Hid (∃ v xs, MineS w wr p v xs ∧ Sorted cmpS xs ∧ xs.length ≤ I ∧ ∀ j, j < I → ∃ y, y ∈ xs ∧ cmpS y (ls[j]?.getD ByteArray.empty) = 0))
    case atStart => exact ⟨0, rfl, Nat.zero_le _, Nat.zero_le _, by omega, (⟨_, [], M0.out, List.Pairwise.nil, Nat.le_refl _, fun j hj => absurd hj (Nat.not_lt_zero _)⟩ : ∃ v xs, MineS w _ p v xs ∧ Sorted cmpS xs ∧ xs.length ≤ 0 ∧ ∀ j, j < 0 → ∃ y, y ∈ xs ∧ cmpS y (ls[j]?.getD ByteArray.empty) = 0)⟩
    case round =>
      clear M0
      obtain ⟨I, rfl, hI, hI4, hg, J⟩ := hrel
      by_cases hlt : I < len0
      · by_cases hlt4 : I < 40
        · obtain ⟨v, xs, M, HS, hxl, ha⟩ := J.out
          obtain ⟨b, off, rfl, hb, hcell⟩ := (HL.out.below M.below).at (by omega)
          have cI := hcell I hlt
          have AD := add_spec_str cmp28 M.set HS (by omega) (ls[I]?.getD ByteArray.empty)
          have HJ : Hid (MineS w wr p v xs ∧ Sorted cmpS xs ∧ xs.length ≤ I ∧ ∀ j, j < I → ∃ y, y ∈ xs ∧ cmpS y (ls[j]?.getD ByteArray.empty) = 0) := ⟨M, HS, hxl, ha⟩
          clear J M HS ha hcell
          generalize hx : ls[I]?.getD ByteArray.empty = x at cI AD
          have X : Hid (ls[I]?.getD ByteArray.empty = x) := hx
          clear hx
          generalize isIn cmpS x xs = q at AD
          go_wp2_with fail
          refine AD.mono ?_
          rintro e w3 ⟨v3, rfl, S3, W3⟩
          have HJ3 : Hid (MineS w w3 p v3 (ins cmpS x xs) ∧ Sorted cmpS (ins cmpS x xs) ∧ (ins cmpS x xs).length ≤ I + 1 ∧ ∀ j, j < I + 1 → ∃ y, y ∈ ins cmpS x xs ∧ cmpS y (ls[j]?.getD ByteArray.empty) = 0) := by
            refine ⟨HJ.out.1.wrote S3 W3, ins_sorted cmpS_ord HJ.out.2.1, ?_, fun j hj => ins_has HJ.out.2.1 _ ?_⟩
            · have := (ins_length_le (cf := cmpS) (x := x) (xs := xs)).1
              have := HJ.out.2.2.1
              omega
            · rcases Nat.lt_or_ge j I with h1 | h1
              · exact .inr (HJ.out.2.2.2 j h1)
              · rw [show j = I by omega, X.out]; exact .inl rfl
          clear AD S3 W3 HJ
          go_wp2
          go_roundg (40 - I)
          case measure => omega
          case rel => exact ⟨I + 1, by simp, by omega, by omega, by omega, ⟨v3, _, HJ3.out⟩⟩
        · have J2 : Hid (∃ v xs, MineS w wr p v xs ∧ Sorted cmpS xs ∧ xs.length ≤ 40 ∧ ∀ j, j < len0 → j < 40 → ∃ y, y ∈ xs ∧ cmpS y (ls[j]?.getD ByteArray.empty) = 0) := (by
            obtain ⟨v, xs, h1, h2, h3, h4⟩ := J.out
            exact ⟨v, xs, h1, h2, by omega, fun j _ hj => h4 j (by omega)⟩)
          clear J
          go_wp2_with fail
          go_meet
          exact J2
      · have J2 : Hid (∃ v xs, MineS w wr p v xs ∧ Sorted cmpS xs ∧ xs.length ≤ 40 ∧ ∀ j, j < len0 → j < 40 → ∃ y, y ∈ xs ∧ cmpS y (ls[j]?.getD ByteArray.empty) = 0) := (by
          obtain ⟨v, xs, h1, h2, h3, h4⟩ := J.out
          exact ⟨v, xs, h1, h2, by omega, fun j hj _ => h4 j (by omega)⟩)
        clear J
        go_wp2_with fail
        go_meet
        exact J2
  case rest =>
    have J : Hid (∃ v xs, MineS w wc p v xs ∧ Sorted cmpS xs ∧ xs.length ≤ 40 ∧ ∀ j, j < len0 → j < 40 → ∃ y, y ∈ xs ∧ cmpS y (ls[j]?.getD ByteArray.empty) = 0) := hcut
    clear hcut M0
    obtain ⟨v, xs, M, HS, hxl, ha⟩ := J.out
    have LS := list_spec_str M.set (by omega)
    have HJ : Hid (MineS w wc p v xs ∧ Sorted cmpS xs ∧ ∀ j, j < len0 → j < 40 → isIn cmpS (ls[j]?.getD ByteArray.empty) xs = true) := ⟨M, HS, fun j h1 h2 => (isIn_iff cmpS_ord HS _).2 (ha j h1 h2)⟩
    clear J M HS ha
    generalize hn : xs.length = n at LS hxl
    have HN : Hid (xs.length = n) := hn
    clear hn
    go_wp2_with fail
    refine LS.mono ?_
    rintro e w3 ⟨vm, rfl, om, B3⟩
    obtain ⟨am, cm, rfl, segm, -⟩ := Seg.owned (d := ByteArray.empty) om
    have hcm : cm ≤ 9223372036854775807 := by have := segm.max; unfold maxLen at this; omega
    have hnm : n ≤ cm := segm.le
    have HM : Hid (MineS w w3 p v xs ∧ Seg Value.string ByteArray.empty w3 am n cm xs) := ⟨HJ.out.1.step B3, segm⟩
    clear LS om B3 segm
    go_upto_block 2 with fail
    go_cut [7] (fun _ wd => Hid (∃ k, wd = w3.drewN k))
    case first =>
      go_wp2_with fail
      go_loopg [7] 41 (fun kx s7 wr => ∃ I : Nat, s7 = .int .i64 ((I : Int) + 1) ∧ I ≤ n ∧ 40 - I < kx ∧ Hid (∃ k, wr = w3.drewN k))
      case atStart => exact ⟨0, by simp, Nat.zero_le _, by omega, (⟨0, rfl⟩ : ∃ k, w3 = w3.drewN k)⟩
      case round =>
        obtain ⟨I, rfl, hI, hg, J⟩ := hrel
        obtain ⟨nd, rfl⟩ := J.out
        clear J
        by_cases hlt : I + 1 < n
        · obtain ⟨b, off, rfl, hb, hcell⟩ := HM.out.2.at (by omega)
          have c0 : (w3.drewN nd).cell? ⟨b, off + I, none⟩ = some (.string (xs[I]?.getD ByteArray.empty)) := hcell I (by omega)
          have c1 : (w3.drewN nd).cell? ⟨b, off + (I + 1), none⟩ = some (.string (xs[I + 1]?.getD ByteArray.empty)) := hcell (I + 1) hlt
          have hlss : Op.bytesLess (xs[I]?.getD ByteArray.empty).toList (xs[I + 1]?.getD ByteArray.empty).toList = true := by
            rw [← cmpS_neg]
            exact HJ.out.2.1.at (Nat.lt_succ_self I) (get_some (by rw [HN.out]; omega)) (get_some (by rw [HN.out]; omega))
          clear hcell
          generalize xs[I]?.getD ByteArray.empty = y0 at c0 hlss
          generalize xs[I + 1]?.getD ByteArray.empty = y1 at c1 hlss
          generalize hwn : w3.drewN nd = wn at c0 c1 ⊢
          have HWN : Hid (w3.drewN nd = wn) := hwn
          clear hwn
          go_wp2_with fail
          go_quiet (fail)
          go_wp2_with fail
          go_roundg (40 - I)
          case measure => omega
          case rel => exact ⟨I + 1, by simp, by omega, by omega, (⟨nd + nq, by rw [← HWN.out, World.drewN_drewN]⟩ : ∃ k, wn.drewN nq = w3.drewN k)⟩
        · go_wp2_with fail
          go_meet
          exact ⟨nd, rfl⟩
    case rest =>
      obtain ⟨nd, rfl⟩ := (show ∃ k, wc = w3.drewN k from hcut)
      have HM4 : Hid (MineS w (w3.drewN nd) p v xs) := HM.out.1.step (below_drewN (Below.refl _ _) nd)
      clear hcut HM
      generalize w3.drewN nd = w4 at HM4 ⊢
      go_upto_block 4 with fail
      go_cut [8] (fun _ wd => Hid (MineS w wd p v xs))
      case first =>
        go_wp2_with fail
        go_loopg [8] 41 (fun kx s8 wr => ∃ I : Nat, s8 = .int .i64 I ∧ I ≤ len0 ∧ I ≤ 40 ∧ 40 - I < kx ∧ Hid (MineS w wr p v xs))
        case atStart => exact ⟨0, rfl, Nat.zero_le _, Nat.zero_le _, by omega, HM4.out⟩
        case round =>
          clear HM4
          obtain ⟨I, rfl, hI, hI4, hg, J⟩ := hrel
          by_cases hlt : I < len0
          · by_cases hlt4 : I < 40
            · obtain ⟨b, off, rfl, hb, hcell⟩ := (HL.out.below J.out.below).at (by omega)
              have cI := hcell I hlt
              have HA := has_spec_str cmp28 J.out.set HJ.out.2.1 (by rw [HN.out]; omega) (ls[I]?.getD ByteArray.empty)
              rw [HJ.out.2.2 I hlt hlt4] at HA
              clear hcell
              generalize ls[I]?.getD ByteArray.empty = x at cI HA
              go_wp2_with fail
              refine HA.mono ?_
              rintro e w5 ⟨rfl, B5⟩
              have J5 : Hid (MineS w w5 p v xs) := J.out.step B5
              clear HA B5 J
              go_wp2_with fail
              go_roundg (40 - I)
              case measure => omega
              case rel => exact ⟨I + 1, by simp, by omega, by omega, by omega, J5⟩
            · go_wp2_with fail
              go_meet
              exact J
          · go_wp2_with fail
            go_meet
            exact J
      case rest =>
        have J : Hid (MineS w wc p v xs) := hcut
        have LE := len_spec_str J.out.set
        rw [HN.out] at LE
        clear hcut HM4
        go_wp2_with fail
        refine LE.mono ?_
        rintro e w6 ⟨rfl, rfl⟩
        go_wp2
        go_ret
        exact ⟨by simp, J.out.below⟩

set_option maxRecDepth 100000 in
theorem lifted (os : Os) (started : os.Started) (H : Type) (enc : TypeId × Value → H) :
    ReturnsInHanded {} Try.checked os 5 .any (Rows.setTextsSpec.pre6 enc Try.prog Try.f5 Rows.setTextsRow.domain false) (Rows.setTextsSpec.post enc Try.prog Try.f5 false true false false) := by
  refine returnsInHanded_of_change (C := Try.checked) own started (by kernel_rfl) Try.func5
    (ChangeSpec.witness6 (enc := enc) (C := Try.checked) false ⟨#[], #[.slice none 0 0], []⟩ 8 (by kernel_rfl) (by kernel_rfl) (by kernel_rfl) (by kernel_rfl)) ?_
  intro W base args ds gs before hval0 hW hcnd _
  have hval : ∀ (j : Nat) t v, Try.f5.params[j]? = some t → args[j]? = some v → Value.okWide Try.prog W .any base t v := hval0
  have hW' := hW
  obtain ⟨p, q, hA0, hV, rfl, hfz, hnd⟩ := hW
  have hA : DataW.TrodAll enc Try.prog W 0 (fun _ => true) true Try.f5.params.toList args.toList ds p := hA0
  rw [Try.params5] at hA hval
  obtain ⟨v0, vs0, d0, ds0, p0, q0, hargs, rfl, rfl, h0, r0⟩ := trodAll_cons hA
  obtain ⟨rfl, rfl, rfl⟩ := trodAll_nil r0
  obtain rfl : args = #[v0] := by cases args; simp_all
  obtain ⟨rfl, rfl⟩ := trodVars_none hV
  obtain ⟨a0, len0, cap0, rfl⟩ := okWide_slice Try.underlying50 (hval 0 50 v0 rfl rfl)
  have k0 := h0
  have lt0 : ∀ x ∈ p0, x.block < W.heap.size := by obtain ⟨m, hm⟩ := k0; exact DataW.trod_lt m _ _ _ hm
  obtain ⟨ls, w0⟩ : ∃ ls, Seg Value.string ByteArray.empty W a0 len0 cap0 ls := by
    obtain ⟨fuel, hf⟩ := h0
    rcases open_strings Try.underlying50 Try.underlying9 (by kernel_rfl) hf with ⟨hcs, _⟩ | ⟨x, l, c, ss, hcs, _, hl, hm, hz, _, hcell, _⟩
    · simp [Value.cells] at hcs
      obtain ⟨rfl, rfl, rfl⟩ := hcs
      exact ⟨[], ⟨rfl, Nat.le_refl _, Nat.zero_le _, fun _ => ⟨rfl, rfl⟩, fun a h => (by cases h)⟩⟩
    · simp [Value.cells] at hcs
      obtain ⟨rfl, rfl, rfl⟩ := hcs
      have hz' : ss.length = cap0 := by simpa using hz
      refine ⟨ss.take len0, ⟨by rw [List.length_take]; omega, hl, hm, fun h => (by cases h), fun a ha j hj => ?_⟩⟩
      cases ha
      rw [hcell j (by omega), List.getElem?_take, if_pos hj, List.getD_eq_getElem?_getD]
  clear hA0 hval0
  refine (walk a0 len0 cap0 ls W w0).mono fun e W' ⟨he, bel⟩ => ?_
  subst he
  exact ⟨_, rfl, _, _, _, [], _, [], hW', trodAll_mk1 (shut_bool Try.underlying4 _), (trodAll_cons_mk (Below.trod laidOut (by kernel_rfl) (of_decide_eq_true (by kernel_rfl)) k0 bel lt0) trodAll_mk0), rfl, bel.frame _, fun h => by cases h⟩

theorem over : Rows.setTextsRow.holds Try.pinned (OpenSpec.ofChange Rows.setTextsSpec) :=
  OpenClaim.holds_of_wide 5 Try.f5 rfl rfl rfl rfl rfl rfl rfl ⟨rfl, rfl, rfl, rfl, rfl⟩ rfl rfl rfl rfl rfl (by kernel_rfl) Try.func5 (by kernel_rfl)
    (of_decide_eq_true (by kernel_rfl)) (by unfold Func.isWrapper; first | (rw [if_pos (by decide +kernel)]; kernel_rfl) | (rw [if_neg (by decide +kernel)]; exact ⟨rfl, rfl⟩))
    (fun os started H enc _ => lifted os started H enc)

end Go.Proofs.Ytdgdaldgchbbaaa.Texts
namespace Go.Proofs.Ytdgdaldgchbbaaa
theorem setTexts_holds : Rows.SetTextsSaid := Texts.over
#print axioms setTexts_holds
end Go.Proofs.Ytdgdaldgchbbaaa
