/-
  The walks of a new builder's Grow.
-/
import Derived.Test.YtdgadamkiililaaDoorBld
namespace Go.Proofs.YtdgadamkiililaaDoor
open Go.RowKit

theorem alloc_set (w : World) (b j : Nat) (u : Value) (o : Obj) (hb : b < w.heap.size) : ((w.setCell ⟨b, j, none⟩ u).alloc o).heap = ((w.alloc o).setCell ⟨b, j, none⟩ u).heap := by
  have e : (w.setCell ⟨b, j, none⟩ u).heap.size = w.heap.size := by simp [World.setCell]
  apply Array.ext_getElem?
  intro i
  rcases Nat.lt_trichotomy i w.heap.size with h | h | h
  · rw [Below.heap_alloc _ _ _ (by omega)]
    by_cases hi : i = b
    · subst hi
      simp only [World.setCell, Array.getElem?_modify, if_pos]
      rw [Below.heap_alloc _ _ _ hb]
    · rw [Below.heap_setCell _ _ _ _ hi, Below.heap_setCell _ _ _ _ hi, Below.heap_alloc _ _ _ h]
  · rw [Below.heap_setCell _ _ _ _ (by simp only; omega)]
    subst h
    have h1 := heap_alloc_new (w.setCell ⟨b, j, none⟩ u) o
    rw [e] at h1
    rw [h1, heap_alloc_new w o]
  · rw [Array.getElem?_eq_none (by simp; omega), Array.getElem?_eq_none (by simp [World.setCell]; omega)]

set_option maxHeartbeats 2000000 in
set_option maxRecDepth 100000 in
theorem grow63_calls (b n : Nat) (w : World) (hbk : w.heap[b]? = some (.cells #[.pointer (some ⟨b, 0, none⟩), .slice none 0 0] 50 (0, 0))) (hn : n ≤ 100000000) :
    Calls Tryd.prog 63 #[.pointer (some ⟨b, 0, none⟩), .int .i64 n] w fun e w' => ∃ v', e = .returned (.tuple #[]) ∧ Bld w' b v' [] ∧ Moved w b (.slice none 0 0) w' v' := by
  obtain ⟨cs, hrun, hle, hmax⟩ := Lib.run_makeNoZero (P := Tryd.prog) w.drew #[3] 33 5 Tryd.underlying33 n (by omega)
  have hw : IntKind.i64.wrap (IntKind.i64.wrap 0 + (n : Int)) = n := by
    rw [IntKind.wrap_i64, IntKind.wrap_i64]
    omega
  have hcall : (callFunc 74 #[.int .i64 (IntKind.i64.wrap (IntKind.i64.wrap 0 + (n : Int)))]).run Tryd.prog w.drew = .ok (.value (.slice (some ⟨w.drew.heap.size, 0, none⟩) n cs.size)) (w.drew.drew.drew.alloc (.cells cs 5)) := by
    rw [hw, run_callFunc_extern Tryd.func74 (by kernel_rfl) (by kernel_rfl) (by kernel_rfl) (e := Extern.BytealgMakeNoZero.makeNoZero #[3] #[33]) (by kernel_rfl), hrun]
    rfl
  have hlt : b < w.heap.size := (Array.getElem?_eq_some_iff.1 hbk).1
  have c1 : w.drew.cell? ⟨b, 1, none⟩ = some (.slice none 0 0) := by
    have : w.drew.heap[b]? = _ := hbk
    rw [cell_block this]; rfl
  have hba : (w.alloc (.cells cs 5)).heap[b]? = some (.cells #[.pointer (some ⟨b, 0, none⟩), .slice none 0 0] 50 (0, 0)) := block_below' hbk
  have c2 : (w.alloc (.cells cs 5)).cell? ⟨b, 1, none⟩ = some (.slice none 0 0) := by rw [cell_block hba]; rfl
  have f2 : (w.alloc (.cells cs 5)).frozen? ⟨b, 1, none⟩ = false := frozen_block hba 1
  have hsz : (Tryd.prog.info? 5).map (·.size) = some 1 := by kernel_rfl
  have hcopy : ∀ W : World, (Builtin.copy_ #[33, 33] 3 #[.slice (some ⟨w.heap.size, 0, none⟩) 0 cs.size, .slice none 0 0]).run Tryd.prog W = .ok (goInt 0) W :=
    fun W => run_copy_none W 33 33 3 5 _ _ 0 cs.size 0 0 Tryd.underlying33 hsz rfl
  have hm := hmax (by unfold maxLen; omega)
  have HF : Hid (∀ q : World, q.heap = ((w.setCell ⟨b, 1, none⟩ (.slice (some ⟨w.heap.size, 0, none⟩) 0 cs.size)).alloc (.cells cs 5)).heap → q.os = w.os → q.tape = w.tape → q.output = w.output → Bld q b (.slice (some ⟨w.heap.size, 0, none⟩) 0 cs.size) [] ∧ Moved w b (.slice none 0 0) q (.slice (some ⟨w.heap.size, 0, none⟩) 0 cs.size)) := by
    intro q e1 e2 e3 e4
    rw [alloc_set w b 1 _ _ hlt] at e1
    have hown : (w.alloc (.cells cs 5)).ownsRow 0 5 1 (.slice (some ⟨w.heap.size, 0, none⟩) 0 cs.size) ([] : List UInt8).length (Lib.byteCells []) :=
      ⟨rfl, .inr ⟨w.heap.size, cs.size, cs, rfl, Nat.zero_le _, heap_alloc_new w _, Nat.zero_le _, hm, by simp, rfl⟩⟩
    have hB0 : Bld w b (.slice none 0 0) [] := ⟨⟨_, hbk, .inr rfl⟩, World.ownsRow_nil _ _ _ _, by simp [Value.ownBlock]⟩
    have hE := bld_put (w := w) (w1 := w) (w2 := w.alloc (.cells cs 5)) (v' := .slice (some ⟨w.heap.size, 0, none⟩) 0 cs.size) (l' := []) hbk hB0 (Moved.refl _ _ _) hown ((Kept.refl _ _).alloc _)
      (fun k hk => by simp [Value.ownBlock] at hk; exact .inr (by omega))
    obtain ⟨⟨⟨p, h1, h2⟩, h3, h4⟩, ⟨h5, h6⟩⟩ := hE
    exact ⟨⟨⟨p, by rw [e1]; exact h1, h2⟩, ownsRow_of_block h3 (fun i _ => by rw [e1]), h4⟩, ⟨e2, e3, e4, by rw [e1]; exact h5.size, fun k hk hf => by rw [e1]; exact h5.block k hk hf⟩, h6⟩
  have mx := mixed
  clear hw hbk hba hmax hrun hsz
  go_enter Tryd.func63, Tryd.ntmps63
  go_wp2
  go_region
  all_goals (go_wp2; go_end0; exact ⟨_, rfl, HF.out _ rfl rfl rfl rfl⟩)

set_option maxHeartbeats 2000000 in
set_option maxRecDepth 100000 in
theorem grow_calls (b n : Nat) (w : World) (h : Bld w b (.slice none 0 0) []) (hn : n ≤ 100000000) :
    Calls Tryd.prog 55 #[.pointer (some ⟨b, 0, none⟩), .int .i64 n] w fun e w' => ∃ v', e = .returned (.tuple #[]) ∧ Bld w' b v' [] ∧ Moved w b (.slice none 0 0) w' v' := by
  have HC : Hid (Calls Tryd.prog 54 #[.pointer (some ⟨b, 0, none⟩)] w fun e w' => e = .returned (.tuple #[]) ∧ w'.heap[b]? = some (.cells #[.pointer (some ⟨b, 0, none⟩), .slice none 0 0] 50 (0, 0)) ∧ Bld w' b (.slice none 0 0) [] ∧ Moved w b (.slice none 0 0) w' (.slice none 0 0)) := copyCheck_calls b _ [] w h
  clear h
  go_enter Tryd.func55, Tryd.ntmps55
  go_wp2_with fail
  refine HC.out.mono ?_
  rintro e w1 ⟨rfl, hb, h1, hm⟩
  have c1 : w1.cell? ⟨b, 1, none⟩ = some (.slice none 0 0) := by rw [cell_block hb]; rfl
  have HG : Hid (∀ m, Calls Tryd.prog 63 #[.pointer (some ⟨b, 0, none⟩), .int .i64 n] (w1.drewN m) fun e w' => ∃ v', e = .returned (.tuple #[]) ∧ Bld w' b v' [] ∧ Moved (w1.drewN m) b (.slice none 0 0) w' v') := fun m => grow63_calls b n (w1.drewN m) hb hn
  have HM : Hid (Moved w b (.slice none 0 0) w1 (.slice none 0 0) ∧ Bld w1 b (.slice none 0 0) []) := ⟨hm, h1⟩
  have mx := mixed
  clear hb h1 hm HC
  by_cases h0 : 0 < n
  · have h0' : (0 : Int) < (n : Int) := by omega
    go_upto_region 3 with fail
    go_quiet (fail)
    go_wp2_with fail
    refine (HG.out _).mono ?_
    rintro e w2 ⟨v', rfl, hB, hM⟩
    have HE : Hid (Bld w2 b v' [] ∧ Moved w b (.slice none 0 0) w2 v') := ⟨hB, HM.out.1.trans (Moved.trans ⟨(Kept.refl _ _).drewN _, fun _ h => .inl h⟩ hM)⟩
    clear hB hM
    go_wp2_with fail
    go_end0
    exact ⟨v', rfl, HE.out⟩
  · obtain rfl : n = 0 := by omega
    go_upto_region 3 with fail
    go_quiet (fail)
    go_wp2_with fail
    go_end0
    exact ⟨_, rfl, HM.out.2.below (below_drewN (Below.refl _ _) _), HM.out.1.1.drewN _, HM.out.1.2⟩

end Go.Proofs.YtdgadamkiililaaDoor
