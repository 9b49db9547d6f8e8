/-
  The walks of strings.Builder's methods.
-/
import Derived.Test.YtdgadamkiililaaDoorKept
import Derived.Laws.Externs
namespace Go.Proofs.YtdgadamkiililaaDoor
open Go.RowKit

theorem Tryd.size50 : (Tryd.prog.info? 50).map (·.size) = some 2 := by kernel_rfl
theorem Tryd.lies50 : liesAt Tryd.prog Tryd.prog.depth 50 (2 / Tryd.prog.cellsOf 50) 0 50 1 = true := by kernel_rfl

set_option maxHeartbeats 1000000 in
set_option maxRecDepth 20000 in
theorem copyCheck_calls (b : Nat) (v : Value) (l : List UInt8) (w : World) (h : Bld w b v l) :
    Calls Tryd.prog 54 #[.pointer (some ⟨b, 0, none⟩)] w fun e w' => e = .returned (.tuple #[]) ∧ w'.heap[b]? = some (.cells #[.pointer (some ⟨b, 0, none⟩), v] 50 (0, 0)) ∧ Bld w' b v l ∧ Moved w b v w' v := by
  obtain ⟨j, hj, hjs⟩ := Option.map_eq_some_iff.1 Tryd.size50
  obtain ⟨p, hp, rfl | rfl⟩ := h.head
  · have h0 : w.cell? ⟨b, 0, none⟩ = some (.pointer none) := by rw [cell_block hp]; rfl
    have hsh : w.shape? b = some (50, 2) := by simp [World.shape?, hp]
    have hfz : w.frozen? ⟨b, 0, none⟩ = false := frozen_block hp 0
    have HE : Hid ((w.setCell ⟨b, 0, none⟩ (.pointer (some ⟨b, 0, none⟩))).heap[b]? = some (.cells #[.pointer (some ⟨b, 0, none⟩), v] 50 (0, 0)) ∧ Bld (w.setCell ⟨b, 0, none⟩ (.pointer (some ⟨b, 0, none⟩))) b v l ∧ Moved w b v (w.setCell ⟨b, 0, none⟩ (.pointer (some ⟨b, 0, none⟩))) v) := by
      have h1 : (w.setCell ⟨b, 0, none⟩ (.pointer (some ⟨b, 0, none⟩))).heap[b]? = some (.cells #[.pointer (some ⟨b, 0, none⟩), v] 50 (0, 0)) := by simp [World.setCell, Array.getElem?_modify, hp]
      refine ⟨h1, ⟨⟨_, h1, .inr rfl⟩, ownsRow_of_block h.own (fun i hi => Below.heap_setCell _ _ _ _ (fun e => by subst e; exact h.apart hi)), h.apart⟩, ⟨(Kept.refl _ _).setCell _ _ (fun _ => .inl rfl), fun _ h => .inl h⟩⟩
    clear hp h
    go_enter Tryd.func54, Tryd.ntmps54
    go_wp2
    rw [Lib.run_to_unsafe w ⟨b, 0, none⟩ Tryd.underlying48 Tryd.underlying89 hj (by rw [hjs]; decide) hsh (Nat.zero_lt_succ 1)]
    simp only [Result.andThen]
    rw [Oper.upon_value]
    go_wp2
    rw [run_callFunc_extern Tryd.func62 (by kernel_rfl) (by kernel_rfl) (by kernel_rfl) (e := Extern.AbiNoEscape.same) (by kernel_rfl)]
    rw [Lib.run_noEscape]
    simp only [Result.andThen]
    rw [Oper.upon_value]
    go_wp2
    rw [Lib.run_from_unsafe w ⟨b, 0, none⟩ Tryd.underlying89 Tryd.underlying48 hj hsh Tryd.lies50]
    simp only [Result.andThen]
    rw [Oper.upon_value]
    go_wp2
    go_end0
    exact ⟨rfl, HE.out⟩
  · have h0 : w.cell? ⟨b, 0, none⟩ = some (.pointer (some ⟨b, 0, none⟩)) := by rw [cell_block hp]; rfl
    have HE : Hid (w.heap[b]? = some (.cells #[.pointer (some ⟨b, 0, none⟩), v] 50 (0, 0)) ∧ Bld w b v l) := ⟨hp, h⟩
    clear hp h
    go_enter Tryd.func54, Tryd.ntmps54
    go_wp2
    rw [Lib.run_neq_ptr_same w _ Tryd.underlying48 hj]
    go_wp2
    go_end0
    exact ⟨rfl, HE.out.1, HE.out.2, Moved.refl _ _ _⟩

theorem block_below' {w : World} {b : Nat} {o o' : Obj} (h : w.heap[b]? = some o) : (w.alloc o').heap[b]? = some o := by
  rw [Below.heap_alloc _ _ _ (Array.getElem?_eq_some_iff.1 h).1]; exact h

theorem bld_put {w w1 w2 : World} {b : Nat} {v v' : Value} {l l' : List UInt8} (hb : w1.heap[b]? = some (.cells #[.pointer (some ⟨b, 0, none⟩), v] 50 (0, 0))) (h : Bld w1 b v l) (hm : Moved w b v w1 v)
    (hown : w2.ownsRow 0 5 1 v' l'.length (Lib.byteCells l')) (hk : Kept (fun k => v.ownBlock = some k) w1 w2) (hl : ∀ k, v'.ownBlock = some k → v.ownBlock = some k ∨ w1.heap.size ≤ k) :
    Bld (w2.setCell ⟨b, 1, none⟩ v') b v' l' ∧ Moved w b v (w2.setCell ⟨b, 1, none⟩ v') v' := by
  have hlt : b < w1.heap.size := (Array.getElem?_eq_some_iff.1 hb).1
  have h2 : w2.heap[b]? = some (.cells #[.pointer (some ⟨b, 0, none⟩), v] 50 (0, 0)) := by rw [hk.block b hlt h.apart]; exact hb
  have hap : v'.ownBlock ≠ some b := Lib.ownBlock_ne hown h2 (by decide)
  have h3 : (w2.setCell ⟨b, 1, none⟩ v').heap[b]? = some (.cells #[.pointer (some ⟨b, 0, none⟩), v'] 50 (0, 0)) := by simp [World.setCell, Array.getElem?_modify, h2]
  refine ⟨⟨⟨_, h3, .inr rfl⟩, ownsRow_of_block hown (fun i hi => Below.heap_setCell _ _ _ _ (fun e => by subst e; exact hap hi)), hap⟩, ?_, fun k hk2 => ?_⟩
  · exact (hm.1.trans hk (fun i _ hi => .inr hi)).setCell _ _ (fun _ => .inl rfl)
  · rcases hl k hk2 with h1 | h1
    · exact .inl h1
    · exact .inr (Nat.le_trans hm.1.size h1)

set_option maxHeartbeats 2000000 in
set_option maxRecDepth 20000 in
theorem writeString_calls (b : Nat) (v : Value) (l : List UInt8) (s : ByteArray) (w : World) (h : Bld w b v l) (hn : l.length + s.size ≤ 100000000) :
    Calls Tryd.prog 41 #[.pointer (some ⟨b, 0, none⟩), .string s] w fun e w' => ∃ v', e = .returned (.tuple #[.int .i64 s.size, .nilIface]) ∧ Bld w' b v' (l ++ by8 s) ∧ Moved w b v w' v' := by
  obtain ⟨i0, hi, hz0, hz1, hz2⟩ := info_parts Tryd.info5
  have HC : Hid (Calls Tryd.prog 54 #[.pointer (some ⟨b, 0, none⟩)] w fun e w' => e = .returned (.tuple #[]) ∧ w'.heap[b]? = some (.cells #[.pointer (some ⟨b, 0, none⟩), v] 50 (0, 0)) ∧ Bld w' b v l ∧ Moved w b v w' v) := copyCheck_calls b v l w h
  clear h
  go_enter Tryd.func41, Tryd.ntmps41
  go_wp2_with fail
  refine HC.out.mono ?_
  rintro e w1 ⟨rfl, hb, h1, hm⟩
  obtain ⟨v', w2, hr, hown, hk, hl⟩ := append_str_known (P := Tryd.prog) w1 33 9 33 5 i0 Tryd.underlying33 Tryd.underlying9 hi hz0 hz1 hz2 v l.length (Lib.byteCells l) h1.own s hn
  have hE := bld_put (l' := l ++ by8 s) hb h1 hm (by rw [Lib.byteCells_append, List.length_append, by8_length]; exact hown) hk hl
  have hlt : b < w1.heap.size := (Array.getElem?_eq_some_iff.1 hb).1
  have h2 : w2.heap[b]? = some (.cells #[.pointer (some ⟨b, 0, none⟩), v] 50 (0, 0)) := by rw [hk.block b hlt h1.apart]; exact hb
  obtain ⟨a0, n0, c0', hvs⟩ : ∃ a n c, v = .slice a n c := by obtain ⟨a, c, e, -⟩ := own_slice h1.own; exact ⟨a, _, c, e⟩
  obtain ⟨a1, n1, c1', hvs'⟩ : ∃ a n c, v' = .slice a n c := by obtain ⟨a, c, e, -⟩ := own_slice hown; exact ⟨a, _, c, e⟩
  subst hvs hvs'
  have q1 : w1.cell? ⟨b, 1, none⟩ = some (.slice a0 n0 c0') := by rw [cell_block hb]; rfl
  have d1 : w2.cell? ⟨b, 1, none⟩ = some (.slice a0 n0 c0') := by rw [cell_block h2]; rfl
  have f1 : w2.frozen? ⟨b, 1, none⟩ = false := frozen_block h2 1
  have HE : Hid (Bld (w2.setCell ⟨b, 1, none⟩ (.slice a1 n1 c1')) b (.slice a1 n1 c1') (l ++ by8 s) ∧ Moved w b (.slice a0 n0 c0') (w2.setCell ⟨b, 1, none⟩ (.slice a1 n1 c1')) (.slice a1 n1 c1')) := hE
  clear hE hown hk hl hb h1 hm h2 HC
  go_wp2_with (at_builtin; refine Lib.wpList_append_run _ rfl _ _ _ _ rfl _ _ rfl rfl _ _ hr ?_)
  go_ret2
  exact ⟨_, rfl, HE.out⟩

set_option maxHeartbeats 2000000 in
set_option maxRecDepth 20000 in
theorem writeByte_calls (b : Nat) (v : Value) (l : List UInt8) (c : UInt8) (w : World) (h : Bld w b v l) (hn : l.length + 1 ≤ 100000000) :
    Calls Tryd.prog 43 #[.pointer (some ⟨b, 0, none⟩), .int .u8 c.toNat] w fun e w' => ∃ v', e = .returned .nilIface ∧ Bld w' b v' (l ++ [c]) ∧ Moved w b v w' v' := by
  obtain ⟨i0, hi, hz0, hz1, hz2⟩ := info_parts Tryd.info5
  have HC : Hid (Calls Tryd.prog 54 #[.pointer (some ⟨b, 0, none⟩)] w fun e w' => e = .returned (.tuple #[]) ∧ w'.heap[b]? = some (.cells #[.pointer (some ⟨b, 0, none⟩), v] 50 (0, 0)) ∧ Bld w' b v l ∧ Moved w b v w' v) := copyCheck_calls b v l w h
  clear h
  obtain ⟨x, hx⟩ : ∃ x : Int, x = c.toNat := ⟨_, rfl⟩
  have HX : Hid (x = c.toNat) := hx
  rw [← hx]
  clear hx
  go_enter Tryd.func43, Tryd.ntmps43
  go_wp2_with fail
  refine HC.out.mono ?_
  rintro e w1 ⟨rfl, hb, h1, hm⟩
  obtain ⟨v', w2, hr, hown, hk, hl⟩ := append_known (P := Tryd.prog) (w1.alloc (.cells #[.int .u8 x] 5)) 33 33 5 i0 _ 1 1 Tryd.underlying33 hi hz0 hz1 hz2 rfl (by decide) v l.length (Lib.byteCells l) (World.ownsRow.alloc h1.own _) ⟨w1.heap.size, 0, none⟩ 1 1 [.int .u8 x] rfl
    (fun j u hj => by
      match j, hj with
      | 0, hj => simp at hj; subst hj; simp [Addr.add])
    (fun u hu => by simp at hu; subst hu; rfl) (by unfold maxLen; omega) (by omega)
  have hlt : b < w1.heap.size := (Array.getElem?_eq_some_iff.1 hb).1
  have hba : (w1.alloc (.cells #[.int .u8 x] 5)).heap[b]? = some (.cells #[.pointer (some ⟨b, 0, none⟩), v] 50 (0, 0)) := block_below' hb
  have h1a : Bld (w1.alloc (.cells #[.int .u8 x] 5)) b v l := h1.below ((Below.refl _ _).alloc (Nat.le_refl _) _)
  have hma : Moved w b v (w1.alloc (.cells #[.int .u8 x] 5)) v := ⟨hm.1.alloc _, hm.2⟩
  have hE := bld_put (l' := l ++ [c]) hba h1a hma (by rw [Lib.byteCells_append, List.length_append]; have e : Lib.byteCells [c] = [.int .u8 x] := by rw [HX.out]; rfl
                                                      rw [e]; exact hown) hk hl
  have h2 : w2.heap[b]? = some (.cells #[.pointer (some ⟨b, 0, none⟩), v] 50 (0, 0)) := by rw [hk.block b (by simp; omega) h1.apart]; exact hba
  obtain ⟨a0, n0, c0', hvs⟩ : ∃ a n c, v = .slice a n c := by obtain ⟨a, c, e, -⟩ := own_slice h1.own; exact ⟨a, _, c, e⟩
  obtain ⟨a1, n1, c1', hvs'⟩ : ∃ a n c, v' = .slice a n c := by obtain ⟨a, c, e, -⟩ := own_slice hown; exact ⟨a, _, c, e⟩
  subst hvs hvs'
  have q1 : w1.cell? ⟨b, 1, none⟩ = some (.slice a0 n0 c0') := by rw [cell_block hb]; rfl
  have d1 : w2.cell? ⟨b, 1, none⟩ = some (.slice a0 n0 c0') := by rw [cell_block h2]; rfl
  have f1 : w2.frozen? ⟨b, 1, none⟩ = false := frozen_block h2 1
  have HE : Hid (Bld (w2.setCell ⟨b, 1, none⟩ (.slice a1 n1 c1')) b (.slice a1 n1 c1') (l ++ [c]) ∧ Moved w b (.slice a0 n0 c0') (w2.setCell ⟨b, 1, none⟩ (.slice a1 n1 c1')) (.slice a1 n1 c1')) := hE
  clear hE hown hk hl hb h1 hm h2 HC hba h1a hma
  go_wp2_with (at_builtin; refine Lib.wpList_append_run _ rfl _ _ _ _ rfl _ _ rfl rfl _ _ hr ?_)
  go_ret
  exact ⟨_, rfl, HE.out⟩

set_option maxHeartbeats 2000000 in
set_option maxRecDepth 20000 in
theorem bstring_calls (b : Nat) (v : Value) (l : List UInt8) (w : World) (h : Bld w b v l) (h0 : l ≠ []) (hn : l.length ≤ 100000000) :
    Calls Tryd.prog 28 #[.pointer (some ⟨b, 0, none⟩)] w fun e w' => e = .returned (.string ⟨l.toArray⟩) ∧ Kept (Foot b v) w w' := by
  have hl0 : l.length ≠ 0 := by simpa using h0
  obtain ⟨p, hp, -⟩ := h.head
  have hown := h.own
  obtain ⟨g, cap, cur, rfl, -, hg, hnc, hcm, hcs, htake⟩ : ∃ g cap cur, v = .slice (some ⟨g, 0, none⟩) l.length cap ∧ 0 ≤ g ∧ w.heap[g]? = some (.cells cur 5 (0, 0)) ∧ l.length ≤ cap ∧ cap ≤ maxLen ∧ cur.size = cap * 1 ∧ cur.toList.take (l.length * 1) = Lib.byteCells l := by
    rcases hown.2 with ⟨_, hz⟩ | ⟨g, cap, cur, hv, r⟩
    · exact absurd hz hl0
    · exact ⟨g, cap, cur, hv, r⟩
  have hco : Tryd.prog.cellsOf 5 = 1 := by kernel_rfl
  have c1 : w.drew.cell? ⟨b, 1, none⟩ = some (.slice (some ⟨g, 0, none⟩) l.length cap) := by
    have : w.drew.heap[b]? = some (.cells #[.pointer p, .slice (some ⟨g, 0, none⟩) l.length cap] 50 (0, 0)) := hp
    rw [cell_block this]; rfl
  have hSD : (Builtin.unsafeSliceData_ #[33] 72 #[.slice (some ⟨g, 0, none⟩) l.length cap]).run Tryd.prog w.drew = .ok (.pointer (some ⟨g, 0, none⟩)) w.drew := Lib.run_unsafeSliceData_row _ _ _ _ _ _ (by omega)
  have hUS : (Builtin.unsafeString_ #[72, 3] 9 #[.pointer (some ⟨g, 0, none⟩), .int .i64 l.length]).run Tryd.prog w.drew = .ok (.string ⟨l.toArray⟩) (w.drew.freeze ⟨g, 0, none⟩ l.length) := by
    refine Lib.run_unsafeString_row w.drew 72 3 9 5 Tryd.underlying72 hco g cur.size (by have hg' : w.drew.heap[g]? = some (.cells cur 5 (0, 0)) := hg; simp [World.shape?, hg']) l h0 (by omega) (by omega) ?_
    intro j x hx
    exact hown.cells (g := g) rfl j (.int .u8 x.toNat) (by simp [Lib.byteCells, hx])
  have HK : Hid (Kept (Foot b (.slice (some ⟨g, 0, none⟩) l.length cap)) w (w.drew.freeze ⟨g, 0, none⟩ l.length)) := by
    refine (Kept.refl _ w).drew.trans (T := fun k => k = g) ?_ (fun i _ e => .inr (by subst e; rfl))
    unfold World.freeze
    split
    · exact Kept.refl _ _
    · exact ⟨rfl, rfl, rfl, by simp, fun k _ hk => by
        simp only [Array.getElem?_modify]
        rw [if_neg (fun e => hk e.symm)]⟩
  have mx := mixed
  generalize hlen : l.length = n at *
  clear hown hp hg htake hcs hcm h
  go_enter Tryd.func28, Tryd.ntmps28
  go_wp2
  go_region
  all_goals (go_wp2; go_ret; exact ⟨rfl, HK.out⟩)

end Go.Proofs.YtdgadamkiililaaDoor
