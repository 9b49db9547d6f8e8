/-
  LexNames: whatever the input, the call returns true and leaves all that was there as it was. No condition.
-/
import Derived.Test.YtdfkkamafiiflaaBegun
import Derived.ProofKit
import Derived.OpenShut
import Derived.ShutString
import Derived.ChangeOld
namespace Go.Proofs.Ytdfkkamafiiflaa.Names
open Go.ChangeShapes Go.WideShapes Go.ChangeAt Go.RowKit
open Go.ChangeMaps (open_string shut_string)

theorem own : ownKnob Try.prog.godebug = none := by kernel_rfl

/-- The name of n letters. -/
def letters (n : Nat) : List UInt8 := (List.range n).map fun i => UInt8.ofNat (97 + i % 26)

theorem letters_succ (n : Nat) : letters (n + 1) = letters n ++ [UInt8.ofNat (97 + n % 26)] := by unfold letters; rw [List.range_succ, List.map_append]; rfl
theorem letters_length (n : Nat) : (letters n).length = n := by unfold letters; simp

/-- What a scan of a blank and that name tells. -/
def told (n : Nat) : List (Nat × Nat × Nat) × Int := if n = 0 then ([(5, 1, 1)], -1) else if n ≤ 12 then ([(1, 1, n + 1), (5, n + 1, n + 1)], -1) else ([], 1)

theorem all_told : ((List.range 21).all fun n => decide (scan (32 :: letters n) = told n) && (nameOk (letters n) == (decide (1 ≤ n) && decide (n ≤ 12)))) = true := by kernel_rfl

theorem told_at {n : Nat} (h : n ≤ 20) : scan (32 :: letters n) = told n ∧ nameOk (letters n) = (decide (1 ≤ n) && decide (n ≤ 12)) := by
  have := List.all_eq_true.1 all_told n (List.mem_range.2 (by omega))
  simpa using this

theorem text_same (t : ByteArray) (n : Nat) (h : t.size = n) : (((⟨#[32]⟩ : ByteArray) ++ t).extract 1 (n + 1)).toList = t.toList := by
  rw [by8_toList, by8_toList, by8_extract, by8_append]
  unfold part
  have e : by8 (⟨#[32]⟩ : ByteArray) = [32] := rfl
  rw [e, List.singleton_append, List.drop_succ_cons, List.drop_zero]
  exact List.take_of_length_le (by rw [by8_length]; omega)

set_option maxHeartbeats 4000000 in
set_option maxRecDepth 20000 in
theorem walk (a0 : ByteArray) (a1 : Int) (w : World) : Calls Try.prog 3 #[.string a0, .int .i64 a1] w fun e w' => e = .returned (.bool true) ∧ Below w.heap.size w w' := by
  have HBe : Hid (Calls Try.prog 5 #[] w fun e w' => e = .returned (.bool true) ∧ Below w.heap.size w w') := begun_calls w
  have HC : Hid (∀ W : World, Calls Try.prog 6 #[.string a0, .int .i64 20] W fun e w' => e = .returned (.string (cutS a0 20)) ∧ w' = W) := fun W => cut_calls a0 20 W
  have hcs := cutS_size a0 20
  generalize cutS a0 20 = s at HC hcs
  have HN7 : Hid (∀ W : World, Calls Try.prog 7 #[.string s] W fun e w' => e = .returned (.bool (nameOk (by8 s))) ∧ w' = W) := fun W => name7_calls s W (by omega)
  have HN8 : Hid (∀ W : World, Calls Try.prog 8 #[.string s] W fun e w' => e = .returned (.bool (nameOk (by8 s))) ∧ w' = W) := fun W => name8_calls s W (by omega)
  generalize nameOk (by8 s) = r at HN7 HN8
  have hrr : (r != r) = false := by simp
  by_cases hneg : a1 < 0
  · go_enter Try.func3, Try.ntmps3
    go_wp2_with fail
    refine HBe.out.mono ?_
    rintro e w1 ⟨rfl, hB⟩
    have B1 : Hid (Below w.heap.size w w1) := hB
    clear hB HBe
    go_wp2_with (first | (go_at_call 6; refine (HC.out _).mono ?_; rintro e w2 ⟨rfl, rfl⟩) | (go_at_call 7; refine (HN7.out _).mono ?_; rintro e w2 ⟨rfl, rfl⟩) | (go_at_call 8; refine (HN8.out _).mono ?_; rintro e w2 ⟨rfl, rfl⟩))
    go_ret
    exact ⟨rfl, B1.out⟩
  · by_cases hbig : 20 < a1
    · go_enter Try.func3, Try.ntmps3
      go_wp2_with fail
      refine HBe.out.mono ?_
      rintro e w1 ⟨rfl, hB⟩
      have B1 : Hid (Below w.heap.size w w1) := hB
      clear hB HBe
      go_wp2_with (first | (go_at_call 6; refine (HC.out _).mono ?_; rintro e w2 ⟨rfl, rfl⟩) | (go_at_call 7; refine (HN7.out _).mono ?_; rintro e w2 ⟨rfl, rfl⟩) | (go_at_call 8; refine (HN8.out _).mono ?_; rintro e w2 ⟨rfl, rfl⟩))
      go_ret
      exact ⟨rfl, B1.out⟩
    · obtain ⟨n, rfl⟩ := Int.eq_ofNat_of_zero_le (show 0 ≤ a1 by omega)
      have hn : n ≤ 20 := by omega
      clear hneg hbig
      go_enter Try.func3, Try.ntmps3
      go_wp2_with fail
      refine HBe.out.mono ?_
      rintro e w1 ⟨rfl, hB⟩
      have B1 : Hid (Below w.heap.size w w1) := hB
      clear hB HBe
      go_wp2_with (first | (go_at_call 6; refine (HC.out _).mono ?_; rintro e w2 ⟨rfl, rfl⟩) | (go_at_call 7; refine (HN7.out _).mono ?_; rintro e w2 ⟨rfl, rfl⟩) | (go_at_call 8; refine (HN8.out _).mono ?_; rintro e w2 ⟨rfl, rfl⟩))
      go_loopg [6, 7] n (fun kx s6 s7 wr => ∃ (k : Nat) (t : ByteArray), s6 = .string t ∧ s7 = .int .i64 k ∧ k ≤ n ∧ n - k ≤ kx ∧ t.size = k ∧ Hid (by8 t = letters k ∧ Below w.heap.size w wr))
      case atStart => exact ⟨0, ⟨#[]⟩, rfl, rfl, Nat.zero_le _, by omega, rfl, (⟨rfl, B1.out⟩ : by8 ⟨#[]⟩ = letters 0 ∧ Below w.heap.size w _)⟩
      case round =>
        obtain ⟨k, t, rfl, rfl, hk, hg, hts, J⟩ := hrel
        clear B1 HC HN7 HN8
        by_cases hlt : k < n
        · obtain ⟨d, hcv, hd1, hd2⟩ := run_one_at wr (97 + k % 26)
          have hcv' : (convert 25 9 (.slice (some ⟨wr.heap.size, 0, none⟩) 1 1)).run Try.prog (wr.alloc (.cells #[.int .u8 (97 + (k : Int) % 26)] 5)) = .ok (.string d) (wr.alloc (.cells #[.int .u8 (97 + (k : Int) % 26)] 5)) := by
            have e : ((97 + k % 26 : Nat) : Int) = 97 + (k : Int) % 26 := by omega
            rw [e] at hcv
            exact hcv
          have HD : Hid (by8 (t ++ d) = letters (k + 1)) := by show _ = _; rw [by8_append, hd2, letters_succ, J.out.1]
          have hsz : t.size + d.size ≤ 30 := by omega
          have hsa : (t ++ d).size = k + 1 := by rw [ByteArray.size_append, hd1, hts]
          have hB : Hid (∀ o : Obj, Below w.heap.size w (wr.alloc o)) := fun o => J.out.2.alloc J.out.2.size o
          clear hd2 hcv J
          go_wp2
          go_roundg (n - (k + 1))
          case measure => omega
          case rel => exact ⟨k + 1, t ++ d, rfl, by simp, by omega, Nat.le_refl _, hsa, (⟨HD.out, hB.out _⟩ : by8 (t ++ d) = letters (k + 1) ∧ Below w.heap.size w _)⟩
        · obtain rfl : k = n := by omega
          have hsz : (1 : Nat) + t.size ≤ 21 := by omega
          obtain ⟨T1, T2⟩ := told_at hn
          have e8 : by8 ((⟨#[32]⟩ : ByteArray) ++ t) = 32 :: letters k := by rw [by8_append, J.out.1]; rfl
          have hTS := text_same t k hts
          have HS : Hid (∀ W : World, Calls Try.prog 9 #[.string ((⟨#[32]⟩ : ByteArray) ++ t)] W fun e w' => ∃ v, e = .returned (.tuple #[v, .int .i64 (told k).2]) ∧ IsW w' W.heap.size ((⟨#[32]⟩ : ByteArray) ++ t) v (told k).1 ∧ Below W.heap.size W w') := fun W => by
            have := scan_calls ((⟨#[32]⟩ : ByteArray) ++ t) W (by rw [ByteArray.size_append]; have : (⟨#[32]⟩ : ByteArray).size = 1 := rfl; omega)
            unfold Scanned at this
            rw [e8, T1] at this
            exact this
          have HN : Hid (∀ W : World, Calls Try.prog 7 #[.string t] W fun e w' => e = .returned (.bool (decide (1 ≤ k) && decide (k ≤ 12))) ∧ w' = W) := fun W => by
            have := name7_calls t W (by omega)
            rw [J.out.1, T2] at this
            exact this
          have HJ : Hid (Below w.heap.size w wr) := J.out.2
          have HT : Hid ((((⟨#[32]⟩ : ByteArray) ++ t).extract 1 (k + 1)).toList = t.toList) := hTS
          generalize hS : (⟨#[32]⟩ : ByteArray) ++ t = S at HS HT
          have hS' : (⟨#[32]⟩ : ByteArray).size = 1 := rfl
          clear J T1 T2 e8 hTS
          by_cases h0 : k = 0
          · subst h0
            have HN2 : Hid (∀ W : World, Calls Try.prog 7 #[.string t] W fun e w' => e = .returned (.bool false) ∧ w' = W) := HN.out
            have HS2 : Hid (∀ W : World, Calls Try.prog 9 #[.string S] W fun e w' => ∃ v, e = .returned (.tuple #[v, .int .i64 (-1)]) ∧ IsW w' W.heap.size S v [(5, 1, 1)] ∧ Below W.heap.size W w') := HS.out
            clear HN HS HT
            go_wp2_with fail
            refine (HS2.out _).mono ?_
            rintro e w3 ⟨v, rfl, hI, hB3⟩
            obtain ⟨a9, c9, rfl, -, -, -⟩ := own_slice hI
            have B3 : Hid (Below w.heap.size w w3) := below_step HJ.out hB3
            clear hI hB3 HJ
            simp only [List.length_cons, List.length_nil]
            go_wp2_with (go_at_call 7; refine (HN2.out _).mono ?_; rintro e w2 ⟨rfl, rfl⟩)
            go_ret
            exact ⟨rfl, B3.out⟩
          · have hz : ((k : Int) == 0) = false := by simpa using h0
            by_cases h12 : k ≤ 12
            · have HN2 : Hid (∀ W : World, Calls Try.prog 7 #[.string t] W fun e w' => e = .returned (.bool true) ∧ w' = W) := fun W => by
                have := HN.out W
                rwa [decide_eq_true (show 1 ≤ k by omega), decide_eq_true h12] at this
              have HS2 : Hid (∀ W : World, Calls Try.prog 9 #[.string S] W fun e w' => ∃ v, e = .returned (.tuple #[v, .int .i64 (-1)]) ∧ IsW w' W.heap.size S v [(1, 1, k + 1), (5, k + 1, k + 1)] ∧ Below W.heap.size W w') := fun W => by
                have := HS.out W
                unfold told at this
                rwa [if_neg h0, if_pos h12] at this
              have hI12 : (k : Int) ≤ 12 := by omega
              clear HN HS
              go_wp2_with fail
              refine (HS2.out _).mono ?_
              rintro e w3 ⟨v, rfl, hI, hB3⟩
              obtain ⟨a9, c9, rfl, hn9, hm9, hs9⟩ := own_slice hI
              have hm9 : c9 ≤ 9223372036854775807 := by unfold maxLen at hm9; omega
              obtain ⟨g, rfl⟩ : ∃ g, a9 = some ⟨g, 0, none⟩ := hs9.elim (fun h => absurd h.2.1 (by simp)) id
              obtain ⟨-, p01, -⟩ := hI.at (i := 0) (x := (1, 1, k + 1)) rfl
              have p1 : w3.cell? ⟨g, 1, none⟩ = some (.string (S.extract 1 (k + 1))) := p01
              have B3 : Hid (Below w.heap.size w w3) := below_step HJ.out hB3
              have hTT : ((S.extract 1 (k + 1)).toList == t.toList) = true := by rw [HT.out]; simp
              generalize S.extract 1 (k + 1) = x1 at p1 hTT
              simp only [List.length_cons, List.length_nil] at hn9 ⊢
              clear hI hB3 HJ p01 hs9 HT
              go_wp2_with (go_at_call 7; refine (HN2.out _).mono ?_; rintro e w2 ⟨rfl, rfl⟩)
              go_ret
              exact ⟨rfl, B3.out⟩
            · have HN2 : Hid (∀ W : World, Calls Try.prog 7 #[.string t] W fun e w' => e = .returned (.bool false) ∧ w' = W) := fun W => by
                have := HN.out W
                rwa [decide_eq_false h12, Bool.and_false] at this
              have HS2 : Hid (∀ W : World, Calls Try.prog 9 #[.string S] W fun e w' => ∃ v, e = .returned (.tuple #[v, .int .i64 1]) ∧ IsW w' W.heap.size S v [] ∧ Below W.heap.size W w') := fun W => by
                have := HS.out W
                unfold told at this
                rwa [if_neg h0, if_neg h12] at this
              have hI12 : decide ((k : Int) ≤ 12) = false := by simp; omega
              have hI13 : (12 : Int) < (k : Int) := by omega
              clear HN HS HT
              go_wp2_with fail
              refine (HS2.out _).mono ?_
              rintro e w3 ⟨v, rfl, hI, hB3⟩
              have B3 : Hid (Below w.heap.size w w3) := below_step HJ.out hB3
              clear hI hB3 HJ
              go_wp2_with (go_at_call 7; refine (HN2.out _).mono ?_; rintro e w2 ⟨rfl, rfl⟩)
              go_ret
              exact ⟨rfl, B3.out⟩

set_option maxRecDepth 100000 in
theorem lifted (os : Os) (started : os.Started) (H : Type) (enc : TypeId × Value → H) :
    ReturnsInHanded {} Try.checked os 3 .any (Rows.lexNamesSpec.pre6 enc Try.prog Try.f3 Rows.lexNamesRow.domain false) (Rows.lexNamesSpec.post enc Try.prog Try.f3 false true false false) := by
  refine returnsInHanded_of_change (C := Try.checked) own started (by kernel_rfl) Try.func3
    (ChangeSpec.witness6 (enc := enc) (C := Try.checked) false ⟨#[], #[.string ByteArray.empty, .int .i64 0], []⟩ 8 (by kernel_rfl) (by kernel_rfl) (by kernel_rfl) (by kernel_rfl)) ?_
  intro W base args ds gs before hval0 hW hcnd _
  have hval : ∀ (j : Nat) t v, Try.f3.params[j]? = some t → args[j]? = some v → Value.okWide Try.prog W .any base t v := hval0
  have hW' := hW
  obtain ⟨p, q, hA0, hV, rfl, hfz, hnd⟩ := hW
  have hA : DataW.TrodAll enc Try.prog W 0 (fun _ => true) true Try.f3.params.toList args.toList ds p := hA0
  rw [Try.params3] at hA hval
  obtain ⟨v0, vs0, d0, ds0, p0, q0, hargs, rfl, rfl, h0, r0⟩ := trodAll_cons hA
  obtain ⟨v1, vs1, d1, ds1, p1, q1, rfl, rfl, rfl, h1, r1⟩ := trodAll_cons r0
  obtain ⟨rfl, rfl, rfl⟩ := trodAll_nil r1
  obtain rfl : args = #[v0, v1] := by cases args; simp_all
  obtain ⟨rfl, rfl⟩ := trodVars_none hV
  obtain ⟨a0, rfl, rfl, rfl, w0⟩ := open_string Try.underlying9 (hval 0 9 v0 rfl rfl) h0
  obtain ⟨a1, rfl, rfl, rfl, w1⟩ := open_int Try.underlying3 (hval 1 3 v1 rfl rfl) h1
  clear hA0 hval0
  simp only [List.append_nil] at hW'
  refine (walk a0 a1 W).mono fun e W' ⟨he, bel⟩ => ?_
  subst he
  exact ⟨_, rfl, _, _, _, [], [], [], hW', trodAll_mk1 (shut_bool Try.underlying4 _), (trodAll_cons_mk (shut_string Try.underlying9 w0) (trodAll_cons_mk (shut_int Try.underlying3 w1) trodAll_mk0)), rfl, bel.frame _, fun h => by cases h⟩

theorem over : Rows.lexNamesRow.holds Try.pinned (OpenSpec.ofChange Rows.lexNamesSpec) :=
  OpenClaim.holds_of_wide 3 Try.f3 rfl rfl rfl rfl rfl rfl rfl ⟨rfl, rfl, rfl, rfl, rfl⟩ rfl rfl rfl rfl rfl (by kernel_rfl) Try.func3 (by kernel_rfl)
    (of_decide_eq_true (by kernel_rfl)) (by unfold Func.isWrapper; first | (rw [if_pos (by decide +kernel)]; kernel_rfl) | (rw [if_neg (by decide +kernel)]; exact ⟨rfl, rfl⟩))
    (fun os started H enc _ => lifted os started H enc)

end Go.Proofs.Ytdfkkamafiiflaa.Names
namespace Go.Proofs.Ytdfkkamafiiflaa
theorem lexNames_holds : Rows.LexNamesSaid := Names.over
#print axioms lexNames_holds
end Go.Proofs.Ytdfkkamafiiflaa
