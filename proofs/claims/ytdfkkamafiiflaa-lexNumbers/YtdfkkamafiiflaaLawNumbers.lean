/-
  LexNumbers: whatever the input, the call returns true and leaves all that was there as it was. No condition.
-/
import Derived.Test.YtdfkkamafiiflaaBegun
import Derived.ProofKit
import Derived.OpenShut
import Derived.ShutString
import Derived.ChangeOld
namespace Go.Proofs.Ytdfkkamafiiflaa.Numbers
open Go.ChangeShapes Go.WideShapes Go.ChangeAt Go.RowKit
open Go.ChangeMaps (open_string shut_string)

theorem own : ownKnob Try.prog.godebug = none := by kernel_rfl

theorem ofNat_small {x : Nat} (h : x < 256) : (UInt8.ofNat x).toNat = x := by
  rw [UInt8.toNat_ofNat']
  omega

/-- A number's digits: how many, which one is the first. -/
theorem dg_form : ∀ (f n : Nat) (t : List UInt8), n < 10 ^ (f + 1) → ∃ b r, dg (f + 1) n t = (b :: r) ++ t ∧ (∀ x ∈ b :: r, 48 ≤ x.toNat ∧ x.toNat ≤ 57) ∧ (n ≠ 0 → 48 < b.toNat) ∧ n < 10 ^ (r.length + 1) ∧ (n ≠ 0 → 10 ^ r.length ≤ n) ∧ (n = 0 → r = [])
  | f, n, t, h => by
    have hc : (UInt8.ofNat (48 + n % 10)).toNat = 48 + n % 10 := ofNat_small (by omega)
    by_cases h0 : n / 10 = 0
    · rw [dg_last h0]
      refine ⟨_, [], rfl, fun x hx => ?_, fun hn => ?_, ?_, fun hn => ?_, fun _ => rfl⟩
      · rw [List.mem_singleton] at hx
        subst hx
        omega
      · rw [hc]; omega
      · simp; omega
      · simp; omega
    · rw [dg_more h0]
      cases f with
      | zero =>
        rw [Nat.zero_add, Nat.pow_one] at h
        omega
      | succ f =>
        obtain ⟨b, r, he, ha, hb, hlt, hge, -⟩ := dg_form f (n / 10) (UInt8.ofNat (48 + n % 10) :: t) (Nat.div_lt_of_lt_mul (by rw [Nat.mul_comm, ← Nat.pow_succ]; exact h))
        refine ⟨b, r ++ [UInt8.ofNat (48 + n % 10)], by rw [he]; simp, fun x hx => ?_, fun _ => hb h0, ?_, fun _ => ?_, fun hn => ?_⟩
        · rcases List.mem_cons.1 hx with rfl | hx
          · exact ha _ (List.mem_cons_self)
          · rcases List.mem_append.1 hx with hx | hx
            · exact ha x (List.mem_cons_of_mem _ hx)
            · rw [List.mem_singleton] at hx; subst hx; omega
        · rw [List.length_append, List.length_singleton, Nat.pow_succ]
          omega
        · rw [List.length_append, List.length_singleton, Nat.pow_succ]
          have := hge h0
          omega
        · omega

theorem bt_mem {l : List UInt8} (h : ∀ x ∈ l, 48 ≤ x.toNat ∧ x.toNat ≤ 57) : ∀ j, j < l.length → isD (bt l j) = true := by
  intro j hj
  unfold bt isD
  rw [List.getElem?_eq_getElem hj]
  have := h l[j] (List.getElem_mem hj)
  simp
  omega

/-- What a scan of a number's digits tells. -/
theorem scan_number {n : Nat} (hn : n ≤ 20000) : 0 < (dg 6 n []).length ∧ (dg 6 n []).length ≤ 5 ∧
    scan (dg 6 n []) = if 9999 < n then ([], 0) else ([(2, 0, (dg 6 n []).length), (5, (dg 6 n []).length, (dg 6 n []).length)], -1) := by
  obtain ⟨b, r, he, ha, hb, hlt, hge, hz⟩ := dg_form 5 n [] (by omega)
  rw [List.append_nil] at he
  rw [he]
  have hl : (b :: r).length = r.length + 1 := rfl
  have h5 : r.length ≤ 4 := by
    by_cases h0 : n = 0
    · rw [hz h0]; simp
    · by_cases h : r.length ≤ 4
      · exact h
      · have h1 := hge h0
        have h2 : 10 ^ 5 ≤ 10 ^ r.length := Nat.pow_le_pow_right (by omega) (by omega)
        omega
  have hiff : 9999 < n ↔ 4 < (b :: r).length := by
    rw [hl]
    constructor
    · intro h
      by_cases h4 : 4 < r.length + 1
      · exact h4
      · have h2 : 10 ^ (r.length + 1) ≤ 10 ^ 4 := Nat.pow_le_pow_right (by omega) (by omega)
        omega
    · intro h
      have h0 : n ≠ 0 := fun h0 => by rw [hz h0] at h; simp at h
      have h1 := hge h0
      have h2 : 10 ^ 4 ≤ 10 ^ r.length := Nat.pow_le_pow_right (by omega) (by omega)
      omega
  refine ⟨by simp, by rw [hl]; omega, ?_⟩
  rw [scan_digits (by simp) (bt_mem ha) (fun h => ?_)]
  · by_cases h : 9999 < n
    · rw [if_pos h, if_pos (hiff.1 h)]
    · rw [if_neg h, if_neg (fun h' => h (hiff.2 h'))]
  · have h0 : n ≠ 0 := fun h0 => by rw [hz h0] at h; simp at h
    have := hb h0
    have e : bt (b :: r) 0 = (b.toNat : Int) := rfl
    rw [e]
    simp
    omega

set_option maxHeartbeats 4000000 in
set_option maxRecDepth 20000 in
theorem walk (a0 : Int) (a1 : ByteArray) (w : World) : Calls Try.prog 4 #[.int .i64 a0, .string a1] w fun e w' => e = .returned (.bool true) ∧ Below w.heap.size w w' := by
  have HBe : Hid (Calls Try.prog 5 #[] w fun e w' => e = .returned (.bool true) ∧ Below w.heap.size w w') := begun_calls w
  have HC : Hid (∀ W : World, Calls Try.prog 6 #[.string a1, .int .i64 3] W fun e w' => e = .returned (.string (cutS a1 3)) ∧ w' = W) := fun W => cut_calls a1 3 W
  have hcs := cutS_size a1 3
  generalize cutS a1 3 = m3 at HC hcs
  by_cases hneg : a0 < 0
  · go_enter Try.func4, Try.ntmps4
    go_wp2_with fail
    refine HBe.out.mono ?_
    rintro e w1 ⟨rfl, hB⟩
    have B1 : Hid (Below w.heap.size w w1) := hB
    clear hB HBe
    go_wp2_with fail
    go_ret
    exact ⟨rfl, B1.out⟩
  · by_cases hbig : 20000 < a0
    · go_enter Try.func4, Try.ntmps4
      go_wp2_with fail
      refine HBe.out.mono ?_
      rintro e w1 ⟨rfl, hB⟩
      have B1 : Hid (Below w.heap.size w w1) := hB
      clear hB HBe
      go_wp2_with fail
      go_ret
      exact ⟨rfl, B1.out⟩
    · obtain ⟨n, rfl⟩ := Int.eq_ofNat_of_zero_le (show 0 ≤ a0 by omega)
      have hn : n ≤ 20000 := by omega
      clear hneg hbig
      obtain ⟨hl0, hl5, HSc'⟩ := scan_number hn
      have HSc : Hid (scan (dg 6 n []) = if 9999 < n then ([], 0) else ([(2, 0, (dg 6 n []).length), (5, (dg 6 n []).length, (dg 6 n []).length)], -1)) := HSc'
      have HDg : Hid (∀ W : World, Calls Try.prog 10 #[.int .i64 n] W fun e w' => ∃ t, e = .returned (.string t) ∧ by8 t = dg 6 n [] ∧ Below W.heap.size W w') := fun W => digits_calls n W hn
      clear HSc'
      generalize dg 6 n [] = D at hl0 hl5 HSc HDg
      go_enter Try.func4, Try.ntmps4
      go_wp2_with fail
      refine HBe.out.mono ?_
      rintro e w1 ⟨rfl, hB⟩
      have B1 : Hid (Below w.heap.size w w1) := hB
      clear hB HBe
      go_wp2_with fail
      refine (HC.out _).mono ?_
      rintro e w2 ⟨rfl, rfl⟩
      go_wp2_with fail
      refine (HDg.out _).mono ?_
      rintro e w3 ⟨t, rfl, ht, hB⟩
      have B3 : Hid (Below w.heap.size w w3) := below_step B1.out hB
      have hts : t.size = D.length := by rw [← by8_length, ht]
      have HS : Hid (∀ W : World, Calls Try.prog 9 #[.string t] W fun e w' => Scanned t W w' e) := fun W => scan_calls t W (by omega)
      unfold Scanned at HS
      rw [ht, HSc.out, ← hts] at HS
      have HT : Hid ((t.extract 0 t.size).toList = t.toList) := by
        show _ = _
        rw [by8_toList, by8_toList, by8_extract, ← by8_length, part_end, List.drop_zero]
      have hs5 : t.size ≤ 5 := by omega
      clear hB B1 HC HDg ht HSc hl0 hl5 hts
      have hz1 : (⟨#[48]⟩ : ByteArray).size = 1 := rfl
      have hq1 : (1 : Nat) + t.size ≤ 10 := by omega
      have hq2 : t.size + m3.size ≤ 10 := by omega
      have SA : Hid (∀ W : World, Calls Try.prog 11 #[.string ((⟨#[48]⟩ : ByteArray) ++ t)] W fun e w' => e = .returned (.bool true) ∧ Below W.heap.size W w') := fun W => same_calls _ W (by rw [ByteArray.size_append]; omega)
      have SB : Hid (∀ W : World, Calls Try.prog 11 #[.string (t ++ m3)] W fun e w' => e = .returned (.bool true) ∧ Below W.heap.size W w') := fun W => same_calls _ W (by rw [ByteArray.size_append]; omega)
      by_cases hb : 9999 < n
      · rw [if_pos hb] at HS
        have HS2 : Hid (∀ W : World, Calls Try.prog 9 #[.string t] W fun e w' => ∃ v, e = .returned (.tuple #[v, .int .i64 0]) ∧ IsW w' W.heap.size t v [] ∧ Below W.heap.size W w') := HS.out
        have hd : decide ((n : Int) ≤ 9999) = false := by simp; omega
        clear HS HT
        go_wp2_with fail
        refine (HS2.out _).mono ?_
        rintro e w4 ⟨v, rfl, hI, hB4⟩
        have B4 : Hid (Below w.heap.size w w4) := below_step B3.out hB4
        clear hI hB4 B3 HS2
        go_wp2_with fail
        refine (SA.out _).mono ?_
        rintro e w5 ⟨rfl, hB5⟩
        have B5 : Hid (Below w.heap.size w w5) := below_step B4.out hB5
        clear hB5 B4 SA
        go_wp2_with fail
        refine (SB.out _).mono ?_
        rintro e w6 ⟨rfl, hB6⟩
        have B6 : Hid (Below w.heap.size w w6) := below_step B5.out hB6
        clear hB6 B5 SB
        go_wp2_with fail
        go_ret
        exact ⟨rfl, B6.out⟩
      · rw [if_neg hb] at HS
        have HS2 : Hid (∀ W : World, Calls Try.prog 9 #[.string t] W fun e w' => ∃ v, e = .returned (.tuple #[v, .int .i64 (-1)]) ∧ IsW w' W.heap.size t v [(2, 0, t.size), (5, t.size, t.size)] ∧ Below W.heap.size W w') := HS.out
        have hd : decide ((n : Int) ≤ 9999) = true := by simp; omega
        clear HS
        go_wp2_with fail
        refine (HS2.out _).mono ?_
        rintro e w4 ⟨v, rfl, hI, hB4⟩
        have B4 : Hid (Below w.heap.size w w4) := below_step B3.out hB4
        obtain ⟨a9, c9, rfl, hn9, hm9, hs9⟩ := own_slice hI
        have hm9 : c9 ≤ 9223372036854775807 := by unfold maxLen at hm9; omega
        obtain ⟨g, rfl⟩ : ∃ g, a9 = some ⟨g, 0, none⟩ := hs9.elim (fun h => absurd h.2.1 (by simp)) id
        obtain ⟨-, p01, -⟩ := hI.at (i := 0) (x := (2, 0, t.size)) rfl
        have p1 : w4.cell? ⟨g, 1, none⟩ = some (.string (t.extract 0 t.size)) := p01
        have hTT : ((t.extract 0 t.size).toList == t.toList) = true := by rw [HT.out]; simp
        generalize t.extract 0 t.size = x1 at p1 hTT
        simp only [List.length_cons, List.length_nil] at hn9 ⊢
        clear hI hB4 B3 HS2 p01 hs9 HT
        go_wp2_with fail
        refine (SA.out _).mono ?_
        rintro e w5 ⟨rfl, hB5⟩
        have B5 : Hid (Below w.heap.size w w5) := below_step B4.out hB5
        clear hB5 B4 SA
        go_wp2_with fail
        refine (SB.out _).mono ?_
        rintro e w6 ⟨rfl, hB6⟩
        have B6 : Hid (Below w.heap.size w w6) := below_step B5.out hB6
        clear hB6 B5 SB
        go_wp2_with fail
        go_ret
        exact ⟨rfl, B6.out⟩

set_option maxRecDepth 100000 in
theorem lifted (os : Os) (started : os.Started) (H : Type) (enc : TypeId × Value → H) :
    ReturnsInHanded {} Try.checked os 4 .any (Rows.lexNumbersSpec.pre6 enc Try.prog Try.f4 Rows.lexNumbersRow.domain false) (Rows.lexNumbersSpec.post enc Try.prog Try.f4 false true false false) := by
  refine returnsInHanded_of_change (C := Try.checked) own started (by kernel_rfl) Try.func4
    (ChangeSpec.witness6 (enc := enc) (C := Try.checked) false ⟨#[], #[.int .i64 0, .string ByteArray.empty], []⟩ 8 (by kernel_rfl) (by kernel_rfl) (by kernel_rfl) (by kernel_rfl)) ?_
  intro W base args ds gs before hval0 hW hcnd _
  have hval : ∀ (j : Nat) t v, Try.f4.params[j]? = some t → args[j]? = some v → Value.okWide Try.prog W .any base t v := hval0
  have hW' := hW
  obtain ⟨p, q, hA0, hV, rfl, hfz, hnd⟩ := hW
  have hA : DataW.TrodAll enc Try.prog W 0 (fun _ => true) true Try.f4.params.toList args.toList ds p := hA0
  rw [Try.params4] at hA hval
  obtain ⟨v0, vs0, d0, ds0, p0, q0, hargs, rfl, rfl, h0, r0⟩ := trodAll_cons hA
  obtain ⟨v1, vs1, d1, ds1, p1, q1, rfl, rfl, rfl, h1, r1⟩ := trodAll_cons r0
  obtain ⟨rfl, rfl, rfl⟩ := trodAll_nil r1
  obtain rfl : args = #[v0, v1] := by cases args; simp_all
  obtain ⟨rfl, rfl⟩ := trodVars_none hV
  obtain ⟨a0, rfl, rfl, rfl, w0⟩ := open_int Try.underlying3 (hval 0 3 v0 rfl rfl) h0
  obtain ⟨a1, rfl, rfl, rfl, w1⟩ := open_string Try.underlying9 (hval 1 9 v1 rfl rfl) h1
  clear hA0 hval0
  simp only [List.append_nil] at hW'
  refine (walk a0 a1 W).mono fun e W' ⟨he, bel⟩ => ?_
  subst he
  exact ⟨_, rfl, _, _, _, [], [], [], hW', trodAll_mk1 (shut_bool Try.underlying4 _), (trodAll_cons_mk (shut_int Try.underlying3 w0) (trodAll_cons_mk (shut_string Try.underlying9 w1) trodAll_mk0)), rfl, bel.frame _, fun h => by cases h⟩

theorem over : Rows.lexNumbersRow.holds Try.pinned (OpenSpec.ofChange Rows.lexNumbersSpec) :=
  OpenClaim.holds_of_wide 4 Try.f4 rfl rfl rfl rfl rfl rfl rfl ⟨rfl, rfl, rfl, rfl, rfl⟩ rfl rfl rfl rfl rfl (by kernel_rfl) Try.func4 (by kernel_rfl)
    (of_decide_eq_true (by kernel_rfl)) (by unfold Func.isWrapper; first | (rw [if_pos (by decide +kernel)]; kernel_rfl) | (rw [if_neg (by decide +kernel)]; exact ⟨rfl, rfl⟩))
    (fun os started H enc _ => lifted os started H enc)

end Go.Proofs.Ytdfkkamafiiflaa.Numbers
namespace Go.Proofs.Ytdfkkamafiiflaa
theorem lexNumbers_holds : Rows.LexNumbersSaid := Numbers.over
#print axioms lexNumbers_holds
end Go.Proofs.Ytdfkkamafiiflaa
