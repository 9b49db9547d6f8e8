/-
  The walks of gram's May and of what it calls.
-/
import Derived.Test.YtdgadamkiililaaDoorLevels
namespace Go.Proofs.YtdgadamkiililaaDoor
open Go.RowKit

theorem nameOrNone_calls (s : ByteArray) (w : World) (hs : s.size ≤ 100) (r : Bool) (hp : r = true ↔ NoneP s) : Calls Tryd.prog 21 #[.string s] w fun e w' => e = .returned (.bool r) ∧ w' = w := by
  have HN : Hid (∀ W : World, Calls Tryd.prog 36 #[.string s] W fun e w' => e = .returned (.bool (nameOk (by8 s))) ∧ w' = W) := fun W => lname_calls s W (by omega)
  by_cases h0 : s = ⟨#[]⟩
  · have h1 := (toList_nil s).2 h0
    have HR : Hid (r = true) := hp.2 (.inl h0)
    clear hp h0
    go_enter Tryd.func21, Tryd.ntmps21
    go_wp2
    go_ret
    exact ⟨by rw [HR.out]; rfl, rfl⟩
  · have h1 : (s.toList == []) = false := by
      cases hb : (s.toList == [])
      · rfl
      · exact absurd ((toList_nil s).1 hb) h0
    have HR : Hid (r = nameOk (by8 s)) := by
      show _ = _
      rw [Bool.eq_iff_iff, hp]
      unfold NoneP NameP
      simp [h0]
    generalize nameOk (by8 s) = m at HN HR
    clear hp h0
    go_enter Tryd.func21, Tryd.ntmps21
    go_wp2_with (go_at_call 36; refine (HN.out _).mono ?_; rintro e w1 ⟨rfl, rfl⟩)
    go_ret
    exact ⟨by rw [HR.out]; rfl, rfl⟩

set_option maxHeartbeats 2000000 in
theorem mayRule_calls (ru : Ru) (xa : Option Addr) (xc : Nat) (w : World) (hr : Row w 1 xa ru.r.length xc (strC ru.r)) (hs : ru.l.size ≤ 100 ∧ ru.p.size ≤ 100 ∧ ru.r.length ≤ 100 ∧ ∀ x ∈ ru.r, x.size ≤ 100) (r : Bool) (hp : r = true ↔ RuleP ru) :
    Calls Tryd.prog 39 #[.agg #[.string ru.l, .slice xa ru.r.length xc, .string ru.p]] w fun e w' => e = .returned (.bool r) ∧ Below w.heap.size w w' := by
  obtain ⟨nl, nr, np⟩ := ru
  simp only at hr hs ⊢
  have HP : Hid (r = true ↔ RuleP ⟨nl, nr, np⟩) := hp
  have HR : Hid (Row w 1 xa nr.length xc (strC nr)) := hr
  have hle := hr.le
  have hmx : xc ≤ 9223372036854775807 := by have := hr.max; unfold maxLen at this; omega
  have hlen := hs.2.2.1
  have HX : Hid (∀ x ∈ nr, x.size ≤ 100) := hs.2.2.2
  have H1 : Hid (∀ W : World, Calls Tryd.prog 36 #[.string nl] W fun e w' => e = .returned (.bool (nameOk (by8 nl))) ∧ w' = W) := fun W => lname_calls nl W (by omega)
  obtain ⟨pb, hpb⟩ := bool_of (NoneP np)
  have H2 : Hid (∀ W : World, Calls Tryd.prog 21 #[.string np] W fun e w' => e = .returned (.bool pb) ∧ w' = W) := fun W => nameOrNone_calls np W hs.2.1 pb hpb
  have HPB : Hid (pb = true ↔ NoneP np) := hpb
  have HA : Hid (∀ o : Obj, Below w.heap.size w (w.alloc o)) := below_alloc w
  clear hr hs hp hpb
  by_cases h20 : nr.length ≤ 20
  · obtain ⟨n, HN⟩ : ∃ n, Hid (nr.length = n) := ⟨_, rfl⟩
    rw [HN.out] at HR hle hlen h20 ⊢
    cases hnl : nameOk (by8 nl)
    · rw [hnl] at H1
      have HF : Hid (r = false) := b_false HP.out (fun h => by have := h.1; unfold NameP at this; simp only at this; rw [hnl] at this; cases this)
      clear hnl
      go_enter Tryd.func39, Tryd.ntmps39
      go_wp2_with (first | (go_at_call 36; refine (H1.out _).mono ?_; rintro e w1 ⟨rfl, rfl⟩))
      go_ret
      exact ⟨by rw [HF.out]; rfl, HA.out _⟩
    · rw [hnl] at H1
      cases hpp : pb
      · rw [hpp] at H2
        have HF : Hid (r = false) := b_false HP.out (fun h => by have := HPB.out.2 h.2.2.1; rw [hpp] at this; cases this)
        clear hnl hpp
        go_enter Tryd.func39, Tryd.ntmps39
        go_wp2_with (first | (go_at_call 36; refine (H1.out _).mono ?_; rintro e w1 ⟨rfl, rfl⟩) | (go_at_call 21; refine (H2.out _).mono ?_; rintro e w1 ⟨rfl, rfl⟩))
        go_ret
        exact ⟨by rw [HF.out]; rfl, HA.out _⟩
      · rw [hpp] at H2
        have HG : Hid (NameP nl ∧ NoneP np ∧ nr.length ≤ 20) := ⟨hnl, HPB.out.1 hpp, by rw [HN.out]; exact h20⟩
        clear hnl hpp
        go_enter Tryd.func39, Tryd.ntmps39
        go_wp2_with (first | (go_at_call 36; refine (H1.out _).mono ?_; rintro e w1 ⟨rfl, rfl⟩) | (go_at_call 21; refine (H2.out _).mono ?_; rintro e w1 ⟨rfl, rfl⟩))
        have HRB : Hid (Row (w.alloc (.cells #[.string nl, .slice xa n xc, .string np] 39)) 1 xa n xc (strC nr) ∧ Below w.heap.size w (w.alloc (.cells #[.string nl, .slice xa n xc, .string np] 39))) := ⟨HR.out.below (below_alloc _ _), HA.out _⟩
        go_loopg [24] n (fun kx s24 wr => ∃ k : Nat, s24 = .int .i64 k ∧ k ≤ n ∧ n - k ≤ kx ∧ Hid ((Row wr 1 xa n xc (strC nr) ∧ Below w.heap.size w wr) ∧ ∀ i x, i < k → nr[i]? = some x → NameP x))
        case atStart => exact ⟨0, rfl, Nat.zero_le _, by omega, (⟨HRB.out, fun i x h => absurd h (Nat.not_lt_zero _)⟩ : (Row _ 1 xa n xc (strC nr) ∧ Below w.heap.size w _) ∧ ∀ i x, i < 0 → nr[i]? = some x → NameP x)⟩
        case round =>
          obtain ⟨k, rfl, hk, hg, J⟩ := hrel
          clear HRB
          by_cases hlt : k < n
          · obtain ⟨x, hx⟩ : ∃ x, nr[k]? = some x := ⟨nr[k]'(by rw [HN.out]; exact hlt), List.getElem?_eq_getElem _⟩
            obtain ⟨b, o, rfl, c0⟩ := str_at J.out.1.1 hx
            have HT : Hid (nr[k]? = some x) := hx
            have H3 : Hid (∀ W : World, Calls Tryd.prog 36 #[.string x] W fun e w' => e = .returned (.bool (nameOk (by8 x))) ∧ w' = W) := fun W => lname_calls x W (by have := HX.out x (List.mem_of_getElem? hx); omega)
            clear hx
            cases hnx : nameOk (by8 x)
            · rw [hnx] at H3
              have HF : Hid (r = false) := b_false HP.out (fun h => by have := h.2.2.2 x (List.mem_of_getElem? HT.out); unfold NameP at this; rw [hnx] at this; cases this)
              clear hnx
              go_wp2_with (go_at_call 36; refine (H3.out _).mono ?_; rintro e w2 ⟨rfl, rfl⟩)
              go_ret
              exact ⟨by rw [HF.out]; rfl, J.out.1.2⟩
            · rw [hnx] at H3
              have HF : Hid (∀ i x, i < k + 1 → nr[i]? = some x → NameP x) := fun i y hi hy => by
                rcases Nat.lt_or_ge i k with h | h
                · exact J.out.2 i y h hy
                · have : i = k := by omega
                  subst this
                  rw [HT.out] at hy
                  cases hy
                  exact hnx
              clear hnx
              go_wp2_with (go_at_call 36; refine (H3.out _).mono ?_; rintro e w2 ⟨rfl, rfl⟩)
              go_roundg (n - (k + 1))
              case measure => omega
              case rel => exact ⟨k + 1, by simp, by omega, Nat.le_refl _, (⟨J.out.1, HF.out⟩ : (Row _ 1 (some ⟨b, o, none⟩) n xc (strC nr) ∧ Below w.heap.size w _) ∧ ∀ i x, i < k + 1 → nr[i]? = some x → NameP x)⟩
          · have HF : Hid (r = true) := b_true HP.out ⟨HG.out.1, HG.out.2.2, HG.out.2.1, fun x hx => by
              obtain ⟨i, hi⟩ := List.getElem?_of_mem hx
              have hl : i < nr.length := (List.getElem?_eq_some_iff.1 hi).1
              exact J.out.2 i x (by rw [HN.out] at hl; omega) hi⟩
            go_wp2
            go_ret
            exact ⟨by rw [HF.out]; rfl, J.out.1.2⟩
  · have HF : Hid (r = false) := b_false HP.out (fun h => h20 h.2.1)
    generalize nr.length = n at hle hlen h20 ⊢
    have h20' : (20 : Int) < (n : Int) := by omega
    clear HR
    go_enter Tryd.func39, Tryd.ntmps39
    go_wp2
    go_ret
    exact ⟨by rw [HF.out]; rfl, HA.out _⟩

set_option maxHeartbeats 2000000 in
theorem mayRules_calls (rs : List Ru) (ao : Option Addr) (n cap : Nat) (w : World) (hr : RulesAt w ao n cap rs) (hn : n = rs.length) (hnn : n ≤ 1000) (hle : n ≤ cap) (hmx : cap ≤ 9223372036854775807)
    (hs : ∀ r ∈ rs, r.l.size ≤ 100 ∧ r.p.size ≤ 100 ∧ r.r.length ≤ 100 ∧ ∀ x ∈ r.r, x.size ≤ 100) (r : Bool) (hp : r = true ↔ ∀ r ∈ rs, RuleP r) :
    Calls Tryd.prog 22 #[.slice ao n cap] w fun e w' => e = .returned (.bool r) ∧ Below w.heap.size w w' := by
  have HN : Hid (n = rs.length) := hn
  have HR : Hid (RulesAt w ao n cap rs) := hr
  have HS : Hid (∀ r ∈ rs, r.l.size ≤ 100 ∧ r.p.size ≤ 100 ∧ r.r.length ≤ 100 ∧ ∀ x ∈ r.r, x.size ≤ 100) := hs
  have HP : Hid (r = true ↔ ∀ r ∈ rs, RuleP r) := hp
  clear hr hn hs hp
  go_enter Tryd.func22, Tryd.ntmps22
  go_wp2
  go_loopg [7] n (fun kx s7 wr => ∃ k : Nat, s7 = .int .i64 k ∧ k ≤ n ∧ n - k ≤ kx ∧ Hid (Below w.heap.size w wr ∧ ∀ i x, i < k → rs[i]? = some x → RuleP x))
  case atStart => exact ⟨0, rfl, Nat.zero_le _, by omega, (⟨Below.refl _ _, fun i x h => absurd h (Nat.not_lt_zero _)⟩ : Below w.heap.size w _ ∧ ∀ i x, i < 0 → rs[i]? = some x → RuleP x)⟩
  case round =>
    obtain ⟨k, rfl, hk, hg, J⟩ := hrel
    by_cases hlt : k < n
    · obtain ⟨x, hx⟩ : ∃ x, rs[k]? = some x := ⟨rs[k]'(by rw [← HN.out]; exact hlt), List.getElem?_eq_getElem _⟩
      obtain ⟨b, o, xa, xc, rfl, c0, c1, c2, hrow⟩ := (HR.out.below J.out.1).at hx
      have HT : Hid (rs[k]? = some x) := hx
      obtain ⟨q, hq⟩ := bool_of (RuleP x)
      have HQ : Hid (q = true ↔ RuleP x) := hq
      have HC : Hid (∀ W : World, Below wr.heap.size wr W → Calls Tryd.prog 39 #[.agg #[.string x.l, .slice xa x.r.length xc, .string x.p]] W fun e w' => e = .returned (.bool q) ∧ Below W.heap.size W w') := fun W hW => mayRule_calls x xa xc W (hrow.below hW) (HS.out x (List.mem_of_getElem? HT.out)) q hq
      clear hx hrow hq
      cases hqq : q
      · rw [hqq] at HC
        have HF : Hid (r = false) := b_false HP.out (fun h => by have := HQ.out.2 (h x (List.mem_of_getElem? HT.out)); rw [hqq] at this; cases this)
        clear hqq
        go_wp2_with (go_at_call 39; refine (HC.out _ (below_alloc _ _)).mono ?_; rintro e w2 ⟨rfl, hB⟩)
        go_ret
        exact ⟨by rw [HF.out]; rfl, below_step (below_step J.out.1 (below_alloc _ _)) hB⟩
      · rw [hqq] at HC
        have HF : Hid (∀ i x, i < k + 1 → rs[i]? = some x → RuleP x) := fun i y hi hy => by
          rcases Nat.lt_or_ge i k with h | h
          · exact J.out.2 i y h hy
          · have : i = k := by omega
            subst this
            rw [HT.out] at hy
            cases hy
            exact HQ.out.1 hqq
        clear hqq
        go_wp2_with (go_at_call 39; refine (HC.out _ (below_alloc _ _)).mono ?_; rintro e w2 ⟨rfl, hB⟩)
        go_roundg (n - (k + 1))
        case measure => omega
        case rel => exact ⟨k + 1, by simp, by omega, Nat.le_refl _, (⟨below_step (below_step J.out.1 (below_alloc _ _)) hB, HF.out⟩ : Below w.heap.size w _ ∧ ∀ i x, i < k + 1 → rs[i]? = some x → RuleP x)⟩
    · have HF : Hid (r = true) := b_true HP.out (fun x hx => by
        obtain ⟨i, hi⟩ := List.getElem?_of_mem hx
        have hl : i < rs.length := (List.getElem?_eq_some_iff.1 hi).1
        exact J.out.2 i x (by rw [← HN.out] at hl; omega) hi)
      go_wp2
      go_ret
      exact ⟨by rw [HF.out]; rfl, J.out.1⟩

end Go.Proofs.YtdgadamkiililaaDoor
