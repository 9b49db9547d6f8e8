/-
  Proved: whatever numbers are handed in, the Go function NumMany returns true and leaves them as they were. No condition.
-/
import Derived.Test.YtljacfnlianpdaaBegun
import Derived.ProofKit
import Derived.OpenShut
import Derived.ShutString
import Derived.ChangeOld
namespace Go.Proofs.Ytljacfnlianpdaa.Many
open Go.ChangeShapes Go.WideShapes Go.ChangeAt Go.RowKit

theorem own : ownKnob Try.prog.godebug = none := by kernel_rfl
theorem laidOut : laidOutB Try.prog = true := by kernel_rfl

/-- Numbers one behind the other. -/
def flat (zs : List Int) : List Int := zs.flatMap Num.put

def Fits (zs : List Int) : Prop := ∀ x ∈ zs, -9223372036854775808 ≤ x ∧ x ≤ 9223372036854775807

theorem flat_len (zs : List Int) (h : Fits zs) : (flat zs).length ≤ 10 * zs.length := by
  induction zs with
  | nil => simp [flat]
  | cons x r ih =>
    have h1 := h x (List.mem_cons_self)
    have h2 := (Num.put_ten h1.1 h1.2).2
    have h3 := ih (fun y hy => h y (List.mem_cons_of_mem _ hy))
    unfold flat at *
    rw [List.flatMap_cons, List.length_append, List.length_cons]
    omega

theorem flat_take (zs : List Int) (k : Nat) (h : k < zs.length) : flat (zs.take (k + 1)) = flat (zs.take k) ++ Num.put (zs[k]?.getD 0) := by
  unfold flat
  rw [List.take_succ_eq_append_getElem h, List.flatMap_append, List.getElem?_eq_getElem h]
  simp

theorem flat_drop (zs : List Int) (k : Nat) (h : k < zs.length) : flat (zs.drop k) = Num.put (zs[k]?.getD 0) ++ flat (zs.drop (k + 1)) := by
  unfold flat
  rw [drop_step h, List.flatMap_cons]

theorem fits_take {zs : List Int} (h : Fits zs) (k : Nat) : Fits (zs.take k) := fun x hx => h x (List.mem_of_mem_take hx)

theorem fits_at {zs : List Int} (h : Fits zs) (k : Nat) : -9223372036854775808 ≤ zs[k]?.getD 0 ∧ zs[k]?.getD 0 ≤ 9223372036854775807 := by
  rcases Nat.lt_or_ge k zs.length with hk | hk
  · rw [List.getElem?_eq_getElem hk]; exact h _ (List.getElem_mem hk)
  · rw [List.getElem?_eq_none hk]; simp

/-- What is left behind the first L bytes. -/
theorem seg_rest {w : World} {b off len cap : Nat} {p r : List Int} (h : Seg w (some ⟨b, off, none⟩) len cap (p ++ r)) (hc : p.length < cap) : Seg w (some ⟨b, off + p.length, none⟩) (len - p.length) (cap - p.length) r := by
  have hl := h.size
  rw [List.length_append] at hl
  have hle := h.le
  have hm := h.max
  have := h.part p.length (len - p.length) (cap - p.length) (by omega) (by omega) (by omega)
  rw [List.drop_left, List.take_of_length_le (by omega)] at this
  exact this

theorem seg_over {w : World} {a : Addr} {len cap : Nat} {p r : List Int} (h : Seg w (some a) len cap (p ++ r)) (hc : cap = p.length) : len - p.length = 0 ∧ Seg w (some a) 0 0 r := by
  have hl := h.size
  rw [List.length_append] at hl
  have hle := h.le
  obtain rfl : r = [] := List.eq_nil_of_length_eq_zero (by omega)
  exact ⟨by omega, rfl, Nat.le_refl _, Nat.zero_le _, fun h => (by cases h), fun a _ j hj => (by omega), fun x hx => (by cases hx)⟩

theorem row_at {a : Option Addr} {len m k : Nat} {zs : List Int} {w : World} (hc : ∀ x, a = some x → ∀ j, j < m → w.cell? (x.add j) = some (.int .i64 (zs.getD j 0))) (hn : a = none → len = 0) (hk : k < m) (hm : m ≤ len) :
    ∃ b off, a = some ⟨b, off, none⟩ ∧ w.cell? ⟨b, off + k, none⟩ = some (.int .i64 (zs[k]?.getD 0)) := by
  cases a with
  | none => have := hn rfl; omega
  | some x =>
    obtain ⟨b, off, spot⟩ := x
    have h0 := hc _ rfl 0 (by omega)
    have hspot : spot = none := by simpa [Addr.add] using World.cell?_spot h0
    subst hspot
    have h1 := hc _ rfl k hk
    rw [Addr.add_lit, List.getD_eq_getElem?_getD] at h1
    exact ⟨b, off, rfl, h1⟩

set_option maxHeartbeats 800000 in
theorem core (a : Option Addr) (len cap m : Nat) (zs : List Int) (w : World) (hz : zs.length = m) (hm : m = min len 40) (hlen : len ≤ cap) (hcap : cap ≤ 9223372036854775807) (hf : Fits zs)
    (hc : ∀ x, a = some x → ∀ j, j < m → w.cell? (x.add j) = some (.int .i64 (zs.getD j 0))) (hn : a = none → len = 0) :
    Calls Try.prog 6 #[.slice a len cap] w fun e w' => e = .returned (.bool true) ∧ Below w.heap.size w w' := by
  have HZ : Hid (zs.length = m) := hz
  have HC : Hid (∀ x, a = some x → ∀ j, j < m → w.cell? (x.add j) = some (.int .i64 (zs.getD j 0))) := hc
  have HF : Hid (Fits zs) := hf
  have HN : Hid (a = none → len = 0) := hn
  clear hz hc hf hn
  rcases (show ((40 : Int) < len ∧ m = 40) ∨ ((len : Int) ≤ 40 ∧ m = len) from by
    by_cases h : (40 : Int) < len
    · exact .inl ⟨h, by omega⟩
    · exact .inr ⟨by omega, by omega⟩) with ⟨hA, rfl⟩ | ⟨hA, rfl⟩
  · clear hm
    have hd : decide ((40 : Int) < len) = true := by simpa using hA
    go_enter Try.func6, Try.ntmps6
    go_wp2_with fail
    refine (begun_calls _).mono ?_
    rintro e w1 ⟨rfl, hb1⟩
    go_wp2_with fail
    go_loopw [4, 5] (fun v i wr => ∃ (k : Nat) (ao : Option Addr) (l c : Nat), k ≤ 40 ∧ i = .int .i64 k ∧ v = .slice ao l c ∧ Hid (Seg wr ao l c (flat (zs.take k))) ∧ Below w1.heap.size w1 wr) (fun _ i _ => 40 - (intOf i).toNat)
    case atStart => exact ⟨0, none, 0, 0, Nat.zero_le _, rfl, rfl, seg_nil _, Below.refl _ _⟩
    case round =>
      obtain ⟨k, ao, l, c, hk, rfl, rfl, HS, hnx⟩ := hrel
      by_cases hlt : (k : Int) < 40
      · obtain ⟨b, off, rfl, hcell⟩ := row_at HC.out HN.out (k := k) (by omega) (by omega)
        have hcell' : wr.cell? ⟨b, off + k, none⟩ = some (.int .i64 (zs[k]?.getD 0)) := by
          rw [hnx.cell (by have := World.block_lt_of_cell? w _ hcell; have := hb1.size; show b < _; simp at *; omega), hb1.cell (World.block_lt_of_cell? w _ hcell)]
          exact hcell
        have HT : Hid (flat (zs.take (k + 1)) = flat (zs.take k) ++ Num.put (zs[k]?.getD 0)) := flat_take zs k (by rw [HZ.out]; omega)
        have hx := fits_at HF.out k
        have hl : l + 10 ≤ 140737488355328 := by
          have h1 := HS.out.size
          have h2 := flat_len _ (fits_take HF.out k)
          rw [List.length_take] at h2
          omega
        clear hcell
        generalize zs[k]?.getD 0 = x at *
        go_wp2_with fail
        refine (put_seg ao l c _ x _ HS.out hl hx.1 hx.2).mono ?_
        rintro e w2 ⟨ao2, c2, rfl, hs2, hb2⟩
        rw [← HT.out] at hs2
        have HS2 : Hid (Seg w2 ao2 (l + (Num.put x).length) c2 (flat (zs.take (k + 1)))) := hs2
        clear hs2
        go_wp2
        go_roundw
        case rel => exact ⟨k + 1, ao2, _, c2, by omega, by go_num, rfl, HS2, below_step hnx hb2⟩
        case measure => simp [intOf]; omega
      · go_wp2_with fail
        go_loop [4, 6] (fun v i => ∃ (k : Nat) (ao : Option Addr) (l c : Nat), k ≤ 40 ∧ i = .int .i64 k ∧ v = .slice ao l c ∧ l ≤ c ∧ c ≤ 9223372036854775807 ∧ Hid (Seg wr ao l c (flat (zs.drop k)))) (fun _ i => 40 - (intOf i).toNat)
        case atStart =>
          have h1 := HS.out.le
          have h2 := HS.out.max
          unfold maxLen at h2
          refine ⟨0, ao, l, c, Nat.zero_le _, rfl, rfl, h1, by omega, ?_⟩
          have h3 := HS.out
          rw [List.take_of_length_le (by rw [HZ.out]; omega)] at h3
          exact h3
        case round =>
          obtain ⟨k, ao2, l2, c2, hk2, rfl, rfl, hlc, hcm, HS2⟩ := hrel
          clear HS
          by_cases hlt2 : (k : Int) < 40
          · obtain ⟨b, off, rfl, hcell⟩ := row_at HC.out HN.out (k := k) (by omega) (by omega)
            have hcell' : wr.cell? ⟨b, off + k, none⟩ = some (.int .i64 (zs[k]?.getD 0)) := by
              rw [hnx.cell (by have := World.block_lt_of_cell? w _ hcell; have := hb1.size; show b < _; simp at *; omega), hb1.cell (World.block_lt_of_cell? w _ hcell)]
              exact hcell
            have hdr := flat_drop zs k (by rw [HZ.out]; omega)
            have HR : Hid (Seg wr ao2 l2 c2 (Num.put (zs[k]?.getD 0) ++ flat (zs.drop (k + 1)))) := by
              have := HS2.out
              rw [hdr] at this
              exact this
            have hx := fits_at HF.out k
            clear hcell hdr HS2
            generalize zs[k]?.getD 0 = x at *
            generalize hr : flat (zs.drop (k + 1)) = r at *
            have HE : Hid (flat (zs.drop (k + 1)) = r) := hr
            clear hr
            have hp := Num.put_ten hx.1 hx.2
            have hpl : (Num.put x).length ≤ l2 := by have := HR.out.size; rw [List.length_append] at this; omega
            have HG : Hid (Num.get (Num.put x ++ r) = (x, ((Num.put x).length : Int), 0)) := Num.get_put hx.1 hx.2 r
            obtain ⟨b2, off2, rfl, hb2, _⟩ := HR.out.at (by omega)
            have HQ : Hid (c2 ≠ (Num.put x).length → Seg wr (some ⟨b2, off2 + (Num.put x).length, none⟩) (l2 - (Num.put x).length) (c2 - (Num.put x).length) r) := fun h => seg_rest HR.out (by omega)
            have HO : Hid (c2 = (Num.put x).length → l2 - (Num.put x).length = 0 ∧ Seg wr (some ⟨b2, off2, none⟩) 0 0 r) := fun h => seg_over HR.out h
            generalize hL : (Num.put x).length = L at *
            clear hL hb2
            go_wp2_with fail
            refine (get_calls _ _ _ _ _ HR.out).mono ?_
            rintro e w2 ⟨rfl, rfl⟩
            rw [HG.out]
            unfold ans3
            go_wp2
            go_round
            case rel =>
              refine ⟨k + 1, _, _, _, by omega, by go_num, rfl, by omega, by omega, ?_⟩
              show Seg _ _ _ _ _
              rw [HE.out]
              by_cases hcL : c2 = L
              · have h1 := HO.out hcL
                rw [if_pos hcL, h1.1, show c2 - L = 0 by omega]
                exact h1.2
              · rw [if_neg hcL]
                exact HQ.out hcL
            case measure => simp [intOf]; omega
          · have hl0 : l2 = 0 := by
              have h1 := HS2.out.size
              rw [List.drop_of_length_le (by rw [HZ.out]; omega)] at h1
              simp [flat] at h1
              omega
            subst hl0
            have hk3 : ¬ (k : Int) < 40 := hlt2
            go_wp2
            go_ret
            exact ⟨rfl, below_step hb1 hnx⟩
  · clear hm
    have hd : decide ((40 : Int) < m) = false := by simpa using hA
    go_enter Try.func6, Try.ntmps6
    go_wp2_with fail
    refine (begun_calls _).mono ?_
    rintro e w1 ⟨rfl, hb1⟩
    go_wp2_with fail
    go_loopw [4, 5] (fun v i wr => ∃ (k : Nat) (ao : Option Addr) (l c : Nat), k ≤ m ∧ i = .int .i64 k ∧ v = .slice ao l c ∧ Hid (Seg wr ao l c (flat (zs.take k))) ∧ Below w1.heap.size w1 wr) (fun _ i _ => m - (intOf i).toNat)
    case atStart => exact ⟨0, none, 0, 0, Nat.zero_le _, rfl, rfl, seg_nil _, Below.refl _ _⟩
    case round =>
      obtain ⟨k, ao, l, c, hk, rfl, rfl, HS, hnx⟩ := hrel
      by_cases hlt : (k : Int) < m
      · obtain ⟨b, off, rfl, hcell⟩ := row_at HC.out HN.out (k := k) (by omega) (by omega)
        have hcell' : wr.cell? ⟨b, off + k, none⟩ = some (.int .i64 (zs[k]?.getD 0)) := by
          rw [hnx.cell (by have := World.block_lt_of_cell? w _ hcell; have := hb1.size; show b < _; simp at *; omega), hb1.cell (World.block_lt_of_cell? w _ hcell)]
          exact hcell
        have HT : Hid (flat (zs.take (k + 1)) = flat (zs.take k) ++ Num.put (zs[k]?.getD 0)) := flat_take zs k (by rw [HZ.out]; omega)
        have hx := fits_at HF.out k
        have hl : l + 10 ≤ 140737488355328 := by
          have h1 := HS.out.size
          have h2 := flat_len _ (fits_take HF.out k)
          rw [List.length_take] at h2
          omega
        clear hcell
        generalize zs[k]?.getD 0 = x at *
        go_wp2_with fail
        refine (put_seg ao l c _ x _ HS.out hl hx.1 hx.2).mono ?_
        rintro e w2 ⟨ao2, c2, rfl, hs2, hb2⟩
        rw [← HT.out] at hs2
        have HS2 : Hid (Seg w2 ao2 (l + (Num.put x).length) c2 (flat (zs.take (k + 1)))) := hs2
        clear hs2
        go_wp2
        go_roundw
        case rel => exact ⟨k + 1, ao2, _, c2, by omega, by go_num, rfl, HS2, below_step hnx hb2⟩
        case measure => simp [intOf]; omega
      · go_wp2_with fail
        go_loop [4, 6] (fun v i => ∃ (k : Nat) (ao : Option Addr) (l c : Nat), k ≤ m ∧ i = .int .i64 k ∧ v = .slice ao l c ∧ l ≤ c ∧ c ≤ 9223372036854775807 ∧ Hid (Seg wr ao l c (flat (zs.drop k)))) (fun _ i => m - (intOf i).toNat)
        case atStart =>
          have h1 := HS.out.le
          have h2 := HS.out.max
          unfold maxLen at h2
          refine ⟨0, ao, l, c, Nat.zero_le _, rfl, rfl, h1, by omega, ?_⟩
          have h3 := HS.out
          rw [List.take_of_length_le (by rw [HZ.out]; omega)] at h3
          exact h3
        case round =>
          obtain ⟨k, ao2, l2, c2, hk2, rfl, rfl, hlc, hcm, HS2⟩ := hrel
          clear HS
          by_cases hlt2 : (k : Int) < m
          · obtain ⟨b, off, rfl, hcell⟩ := row_at HC.out HN.out (k := k) (by omega) (by omega)
            have hcell' : wr.cell? ⟨b, off + k, none⟩ = some (.int .i64 (zs[k]?.getD 0)) := by
              rw [hnx.cell (by have := World.block_lt_of_cell? w _ hcell; have := hb1.size; show b < _; simp at *; omega), hb1.cell (World.block_lt_of_cell? w _ hcell)]
              exact hcell
            have hdr := flat_drop zs k (by rw [HZ.out]; omega)
            have HR : Hid (Seg wr ao2 l2 c2 (Num.put (zs[k]?.getD 0) ++ flat (zs.drop (k + 1)))) := by
              have := HS2.out
              rw [hdr] at this
              exact this
            have hx := fits_at HF.out k
            clear hcell hdr HS2
            generalize zs[k]?.getD 0 = x at *
            generalize hr : flat (zs.drop (k + 1)) = r at *
            have HE : Hid (flat (zs.drop (k + 1)) = r) := hr
            clear hr
            have hp := Num.put_ten hx.1 hx.2
            have hpl : (Num.put x).length ≤ l2 := by have := HR.out.size; rw [List.length_append] at this; omega
            have HG : Hid (Num.get (Num.put x ++ r) = (x, ((Num.put x).length : Int), 0)) := Num.get_put hx.1 hx.2 r
            obtain ⟨b2, off2, rfl, hb2, _⟩ := HR.out.at (by omega)
            have HQ : Hid (c2 ≠ (Num.put x).length → Seg wr (some ⟨b2, off2 + (Num.put x).length, none⟩) (l2 - (Num.put x).length) (c2 - (Num.put x).length) r) := fun h => seg_rest HR.out (by omega)
            have HO : Hid (c2 = (Num.put x).length → l2 - (Num.put x).length = 0 ∧ Seg wr (some ⟨b2, off2, none⟩) 0 0 r) := fun h => seg_over HR.out h
            generalize hL : (Num.put x).length = L at *
            clear hL hb2
            go_wp2_with fail
            refine (get_calls _ _ _ _ _ HR.out).mono ?_
            rintro e w2 ⟨rfl, rfl⟩
            rw [HG.out]
            unfold ans3
            go_wp2
            go_round
            case rel =>
              refine ⟨k + 1, _, _, _, by omega, by go_num, rfl, by omega, by omega, ?_⟩
              show Seg _ _ _ _ _
              rw [HE.out]
              by_cases hcL : c2 = L
              · have h1 := HO.out hcL
                rw [if_pos hcL, h1.1, show c2 - L = 0 by omega]
                exact h1.2
              · rw [if_neg hcL]
                exact HQ.out hcL
            case measure => simp [intOf]; omega
          · have hl0 : l2 = 0 := by
              have h1 := HS2.out.size
              rw [List.drop_of_length_le (by rw [HZ.out]; omega)] at h1
              simp [flat] at h1
              omega
            subst hl0
            have hk3 : ¬ (k : Int) < m := hlt2
            go_wp2
            go_ret
            exact ⟨rfl, below_step hb1 hnx⟩

theorem walk (a : Option Addr) (len cap : Nat) (zs : List Int) (w : World) (h : IsRow .i64 w a len cap zs) :
    Calls Try.prog 6 #[.slice a len cap] w fun e w' => e = .returned (.bool true) ∧ Below w.heap.size w w' := by
  rcases h with ⟨rfl, rfl, rfl, rfl⟩ | ⟨x, rfl, hl, hm, hz, hcell, hwz⟩
  · exact core none 0 0 0 [] w rfl rfl (Nat.le_refl _) (by decide) (fun x hx => by cases hx) (fun x hx => by cases hx) (fun _ => rfl)
  · refine core (some x) len cap (min len 40) (zs.take (min len 40)) w (by simp; omega) rfl hl (by unfold maxLen at hm; omega) (fun y hy => bounds_i64 (hwz y (List.mem_of_mem_take hy))) (fun y hy j hj => ?_) (fun h => by cases h)
    cases hy
    rw [hcell j (by omega)]
    simp only [List.getD_eq_getElem?_getD]
    rw [List.getElem?_take, if_pos hj]

set_option maxRecDepth 100000 in
theorem lifted (os : Os) (started : os.Started) (H : Type) (enc : TypeId × Value → H) :
    ReturnsInHanded {} Try.checked os 6 .any (Rows.numManySpec.pre6 enc Try.prog Try.f6 Rows.numManyRow.domain false) (Rows.numManySpec.post enc Try.prog Try.f6 false true false false) := by
  refine returnsInHanded_of_change (C := Try.checked) own started (by kernel_rfl) Try.func6
    (ChangeSpec.witness6 (enc := enc) (C := Try.checked) false ⟨#[], #[.slice none 0 0], []⟩ 8 (by kernel_rfl) (by kernel_rfl) (by kernel_rfl) (by kernel_rfl)) ?_
  intro W base args ds gs before hval0 hW hcnd _
  have hval : ∀ (j : Nat) t v, Try.f6.params[j]? = some t → args[j]? = some v → Value.okWide Try.prog W .any base t v := hval0
  have hW' := hW
  obtain ⟨p, q, hA0, hV, rfl, hfz, hnd⟩ := hW
  have hA : DataW.TrodAll enc Try.prog W 0 (fun _ => true) true Try.f6.params.toList args.toList ds p := hA0
  rw [Try.params6] at hA hval
  obtain ⟨v0, vs0, d0, ds0, p0, q0, hargs, rfl, rfl, h0, r0⟩ := trodAll_cons hA
  obtain ⟨rfl, rfl, rfl⟩ := trodAll_nil r0
  obtain rfl : args = #[v0] := by cases args; simp_all
  obtain ⟨rfl, rfl⟩ := trodVars_none hV
  obtain ⟨a0, len0, cap0, rfl⟩ := okWide_slice Try.underlying41 (hval 0 41 v0 rfl rfl)
  have k0 := h0
  have lt0 : ∀ x ∈ p0, x.block < W.heap.size := by obtain ⟨m, hm⟩ := k0; exact DataW.trod_lt m _ _ _ hm
  obtain ⟨z0, w0⟩ : ∃ zs, IsRow .i64 W a0 len0 cap0 zs := by
    obtain ⟨fuel, hf⟩ := h0
    rcases open_ints Try.underlying41 Try.underlying2 (by kernel_rfl) hf with ⟨hcs, _⟩ | ⟨x, l, c, zs, hcs, _, hl, hm, hz, _, hcell, hwz⟩
    · simp [Value.cells] at hcs
      obtain ⟨rfl, rfl, rfl⟩ := hcs
      exact ⟨[], .inl ⟨rfl, rfl, rfl, rfl⟩⟩
    · simp [Value.cells] at hcs
      obtain ⟨rfl, rfl, rfl⟩ := hcs
      exact ⟨zs, .inr ⟨_, rfl, hl, hm, by simpa using hz, hcell, hwz⟩⟩
  clear hA0 hval0
  refine (walk a0 len0 cap0 _ W w0).mono fun e W' ⟨he, bel⟩ => ?_
  subst he
  exact ⟨_, rfl, _, _, _, [], _, [], hW', trodAll_mk1 (shut_bool Try.underlying4 _), (trodAll_cons_mk (Below.trod laidOut (by kernel_rfl) (of_decide_eq_true (by kernel_rfl)) k0 bel lt0) trodAll_mk0), rfl, bel.frame _, fun h => by cases h⟩

theorem over : Rows.numManyRow.holds Try.pinned (OpenSpec.ofChange Rows.numManySpec) :=
  OpenClaim.holds_of_wide 6 Try.f6 rfl rfl rfl rfl rfl rfl rfl ⟨rfl, rfl, rfl, rfl, rfl⟩ rfl rfl rfl rfl rfl (by kernel_rfl) Try.func6 (by kernel_rfl)
    (of_decide_eq_true (by kernel_rfl)) (by unfold Func.isWrapper; first | (rw [if_pos (by decide +kernel)]; kernel_rfl) | (rw [if_neg (by decide +kernel)]; exact ⟨rfl, rfl⟩))
    (fun os started H enc _ => lifted os started H enc)

end Go.Proofs.Ytljacfnlianpdaa.Many
namespace Go.Proofs.Ytljacfnlianpdaa
theorem numMany_holds : Rows.NumManySaid := Many.over
#print axioms numMany_holds
end Go.Proofs.Ytljacfnlianpdaa
