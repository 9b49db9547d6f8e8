/-
  Of and Union over numbers.
-/
import Derived.Test.YtdgdaldgchbbaaaList
namespace Go.Proofs.Ytdgdaldgchbbaaa
open Go.RowKit Go.Shelf

theorem take_next {α : Type} {d : α} {ys : List α} {I : Nat} (hI : I < ys.length) : ys.take (I + 1) = ys.take I ++ [ys[I]?.getD d] := by
  rw [List.take_add_one, List.getElem?_eq_getElem hI]
  rfl

/-- A new set, and what it is. -/
theorem set_new (w : World) (g : Nat) : SetI (w.alloc (.cells #[fnv g, .slice none 0 0] 59)) w.heap.size g (.slice none 0 0) [] :=
  ⟨heap_alloc_new w _, World.ownsRow_nil _ _ _ _, fun h => by cases h⟩

theorem sorted_nil {cf : Int → Int → Int} : Sorted cf [] := List.Pairwise.nil

/-- One like a set behind Wrote from its making: what lay below is as it was. -/
theorem wrote_new_below {w wr : World} {o : Obj} {v' : Value} (h : Wrote (w.alloc o) w.heap.size (.slice none 0 0) wr v') : Below w.heap.size w wr ∧ ∀ k, v'.ownBlock = some k → w.heap.size ≤ k := by
  have hb : Below w.heap.size (w.alloc o) wr := h.kept.below (by simp) (fun k hk hf => by
    rcases hf with rfl | hf
    · omega
    · cases hf)
  refine ⟨((Below.refl _ w).alloc (Nat.le_refl _) _).trans hb, fun k hk => ?_⟩
  rcases h.fresh k hk with h1 | h1
  · cases h1
  · simp at h1; omega

set_option maxHeartbeats 1000000 in
theorem of_spec {g : Nat} {cf : Int → Int → Int} (hf : CmpFn (Value.int .i64) g cf) {w : World} {ao : Option Addr} {n cap : Nat} {ys : List Int} (h : Seg (Value.int .i64) 0 w ao n cap ys) (hn : n ≤ 1000) :
    Calls Try.prog 17 #[fnv g, .slice ao n cap] w fun e w' => ∃ v', e = .returned (.pointer (some ⟨w.heap.size, 0, none⟩)) ∧ SetI w' w.heap.size g v' (join cf [] ys) ∧ Below w.heap.size w w' ∧ ∀ k, v'.ownBlock = some k → w.heap.size ≤ k := by
  have hnew := new_spec g w
  have HF : Hid (CmpFn (Value.int .i64) g cf) := hf
  have HS : Hid (Seg (Value.int .i64) 0 w ao n cap ys) := h
  have hm : cap ≤ 9223372036854775807 := by have := h.max; unfold maxLen at this; omega
  clear hf h
  unfold fnv at hnew ⊢
  go_enter Try.func17, Try.ntmps17
  go_wp2_with (go_at_call 11; refine hnew.mono ?_; rintro e w1 ⟨rfl, rfl⟩)
  go_loopg [12] n (fun kx s12 wr => ∃ I : Nat, s12 = .int .i64 I ∧ I ≤ n ∧ n - I ≤ kx ∧ Hid (∃ v', SetI wr w.heap.size g v' (join cf [] (ys.take I)) ∧ Wrote (w.alloc (.cells #[fnv g, .slice none 0 0] 59)) w.heap.size (.slice none 0 0) wr v'))
  case atStart => exact ⟨0, rfl, Nat.zero_le _, by omega, ⟨_, set_new w g, Wrote.refl _ _ _⟩⟩
  case round =>
    obtain ⟨I, rfl, hI, hg, J⟩ := hrel
    by_cases hlt : I < n
    · obtain ⟨v1, S1, W1⟩ := J.out
      have hb := wrote_new_below W1
      have seg1 := HS.out.below hb.1
      obtain ⟨b, off, rfl, hbl, hcell⟩ := seg1.at (by omega)
      have cI := hcell I hlt
      have hsz : ys.length = n := seg1.size
      have hle : (join cf [] (ys.take I)).length ≤ 1048576 := by
        have := (join_length_le (cf := cf) (ys.take I) []).2
        rw [List.length_take] at this
        simp at this
        omega
      have hadd := add_spec HF.out S1 (join_sorted HF.out.ord _ sorted_nil) hle (ys[I]?.getD 0)
      have HN : Hid (ys.take (I + 1) = ys.take I ++ [ys[I]?.getD 0]) := take_next (by omega)
      have HW : Hid (Wrote (w.alloc (.cells #[fnv g, .slice none 0 0] 59)) w.heap.size (.slice none 0 0) wr v1) := W1
      clear J S1 W1 hb seg1 hcell hsz hle
      generalize ys[I]?.getD 0 = y at cI hadd HN
      generalize isIn cf y (join cf [] (ys.take I)) = q at hadd
      go_wp2_with (go_at_call 13; refine hadd.mono ?_; rintro e w2 ⟨v2, rfl, S2, W2⟩
                   have HS2 : Hid (SetI w2 w.heap.size g v2 (ins cf y (join cf [] (ys.take I)))) := S2
                   have HW2 : Hid (Wrote wr w.heap.size v1 w2 v2) := W2
                   clear S2 W2)
      go_roundg (n - (I + 1))
      case measure => omega
      case rel =>
        refine ⟨I + 1, by simp, by omega, Nat.le_refl _, ?_⟩
        have e : join cf [] (ys.take (I + 1)) = ins cf y (join cf [] (ys.take I)) := by rw [HN.out, join_snoc]
        exact (⟨v2, by rw [e]; exact HS2.out, HW.out.trans HW2.out⟩ : ∃ v', SetI _ w.heap.size g v' (join cf [] (ys.take (I + 1))) ∧ Wrote (w.alloc (.cells #[fnv g, .slice none 0 0] 59)) w.heap.size (.slice none 0 0) _ v')
    · obtain rfl : I = n := by omega
      go_wp2
      go_ret
      obtain ⟨v1, S1, W1⟩ := J.out
      rw [List.take_of_length_le (by rw [HS.out.size]; omega)] at S1
      have hb := wrote_new_below W1
      exact ⟨v1, rfl, S1, hb.1, hb.2⟩

set_option maxHeartbeats 1000000 in
/-- Of a nil order. -/
theorem of_nil {w : World} {ao : Option Addr} {n cap : Nat} {ys : List Int} (h : Seg (Value.int .i64) 0 w ao n cap ys) (hn : n ≤ 1000) :
    Calls Try.prog 17 #[.nilFunc, .slice ao n cap] w fun e w' => e = .returned (.pointer none) ∧ Below w.heap.size w w' := by
  have hnew := new_nil w
  have HS : Hid (Seg (Value.int .i64) 0 w ao n cap ys) := h
  have hm : cap ≤ 9223372036854775807 := by have := h.max; unfold maxLen at this; omega
  clear h
  go_enter Try.func17, Try.ntmps17
  go_wp2_with (go_at_call 11; refine hnew.mono ?_; rintro e w1 ⟨rfl, rfl⟩)
  go_loopg [12] n (fun kx s12 wr => ∃ I : Nat, s12 = .int .i64 I ∧ I ≤ n ∧ n - I ≤ kx ∧ Hid (Below w1.heap.size w1 wr))
  case atStart => exact ⟨0, rfl, Nat.zero_le _, by omega, Below.refl _ _⟩
  case round =>
    obtain ⟨I, rfl, hI, hg, J⟩ := hrel
    by_cases hlt : I < n
    · have seg1 := HS.out.below J.out
      obtain ⟨b, off, rfl, hbl, hcell⟩ := seg1.at (by omega)
      have cI := hcell I hlt
      clear seg1 hcell
      generalize ys[I]?.getD 0 = y at cI
      have hadd := add_nil y wr
      go_wp2_with (go_at_call 13; refine hadd.mono ?_; rintro e w2 ⟨rfl, W2⟩
                   have HW2 : Hid (Below wr.heap.size wr w2) := W2
                   clear W2)
      go_roundg (n - (I + 1))
      case measure => omega
      case rel => exact ⟨I + 1, by simp, by omega, Nat.le_refl _, below_step J.out HW2.out⟩
    · go_wp2
      go_ret
      exact ⟨rfl, J.out⟩

end Go.Proofs.Ytdgdaldgchbbaaa
