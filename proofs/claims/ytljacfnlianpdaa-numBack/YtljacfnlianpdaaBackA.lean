/-
  Small laws for the walk of NumBack: a text cut short, and an append of bytes that lie anywhere.
-/
import Derived.Test.YtljacfnlianpdaaBegun
import Derived.Laws.AppendOwnNone
namespace Go.Proofs.Ytljacfnlianpdaa
open Go.RowKit

set_option maxHeartbeats 400000 in
theorem cut_calls (s : ByteArray) (w : World) (hs : s.size ≤ 9223372036854775807) :
    Calls Try.prog 11 #[.string s, .int .i64 100] w fun e w' => ∃ t : ByteArray, t.size ≤ 100 ∧ e = .returned (.string t) ∧ w' = w := by
  by_cases h : (100 : Int) < s.size
  · have ht : (s.extract 0 100).size ≤ 100 := by rw [ByteArray.size_extract]; omega
    go_enter Try.func11, Try.ntmps11
    go_wp2
    go_ret
    exact ⟨_, ht, rfl, rfl⟩
  · go_enter Try.func11, Try.ntmps11
    go_wp2
    go_ret
    exact ⟨s, by omega, rfl, rfl⟩

/-- Bytes that lie anywhere, appended to what the call owns. -/
theorem append_seg {w : World} {ops : Array Oper} {rest : List Oper} {o : Oper} {a : Act} {Q : Exit → Act → World → Prop} (hgd : o.guard = none) (s x : Operand)
    (ho : o.op = .call { callee := .builtin .append, args := #[s, x], argTypes := #[22, 22] })
    (base : Nat) (v : Value) (n : Nat) (bs : List Int) (hs : a.eval s = v) (hown : w.ownsRow base 5 1 v n (cellsOf bs))
    (ao : Option Addr) (m c : Nat) (xs : List Int) (hx : a.eval x = .slice ao m c) (hseg : Seg w ao m c xs) (hb : n + m ≤ 140737488355328) (hbase : base ≤ w.heap.size)
    (h : ∀ v' w', w'.ownsRow base 5 1 v' (n + m) (cellsOf (bs ++ xs)) → w.grownBy w' v.ownBlock → wpList Try.prog ops Q rest (a.put o.dst v') w') : wpList Try.prog ops Q (o :: rest) a w := by
  obtain ⟨i0, hi, hz0, hz1, hz2⟩ := info_parts Try.info5
  cases ao with
  | none =>
    obtain ⟨rfl, rfl⟩ := hseg.nil rfl
    obtain rfl : xs = [] := List.eq_nil_of_length_eq_zero hseg.size
    refine wpList_append_own_none hgd s x 22 ho base 5 i0 1 Try.underlying22 hi v n (cellsOf bs) hs hown hx ?_
    exact h v w (by rw [List.append_nil]; exact hown) ⟨rfl, rfl, rfl, Nat.le_refl _, fun _ _ _ => rfl⟩
  | some ad =>
    refine wpList_append_own w hgd s x 22 ho base 5 i0 (.int .u8 0) 1 1 Try.underlying22 hi hz0 hz1 hz2 rfl (by decide) v n (cellsOf bs) hs hown ad m c (cellsOf xs) hx (by rw [cellsOf_length, hseg.size, Nat.mul_one])
      (hseg.news ad rfl) (cellsOf_one xs) (by unfold maxLen; omega) (by omega) hbase ?_
    intro v' w' h1 h2 _
    exact h v' w' (by rw [cellsOf_append]; exact h1) h2

theorem below_owns {w w' : World} {base n : Nat} {v : Value} {bs : List Int} (hown : w.ownsRow base 5 1 v n (cellsOf bs)) (hb : Below w.heap.size w w') : w'.ownsRow base 5 1 v n (cellsOf bs) := by
  refine hown.kept (row := none) ⟨hb.os, hb.tape, hb.output, hb.size, fun k hk _ => hb.block k hk⟩ ?_
  cases h : v.ownBlock with
  | none => exact .inl rfl
  | some _ => exact .inr (by simp)

/-- What is left behind the first bytes. -/
theorem seg_behind {w : World} {b off len cap : Nat} {p r : List Int} (h : Seg w (some ⟨b, off, none⟩) len cap (p ++ r)) (hc : p.length < cap) : Seg w (some ⟨b, off + p.length, none⟩) (len - p.length) (cap - p.length) r := by
  have hl := h.size
  rw [List.length_append] at hl
  have hle := h.le
  have hm := h.max
  have := h.part p.length (len - p.length) (cap - p.length) (by omega) (by omega) (by omega)
  rw [List.drop_left, List.take_of_length_le (by omega)] at this
  exact this

theorem grown_below {w w' : World} (h : w.grownBy w' none) : Below w.heap.size w w' := (Below.refl _ _).grown h (Nat.le_refl _) (fun k hk => by cases hk)

theorem putText_part (ao : Option Addr) (len cap : Nat) (bs : List Int) (s : ByteArray) (w : World) (hs : Seg w ao len cap bs) (hn : len + s.size + 20 ≤ 140737488355328) (N : Nat) (hN : (Num.put s.size).length + s.size = N) :
    Calls Try.prog 15 #[.slice ao len cap, .string s] w fun e w' => ∃ ao' cap', e = .returned (.slice ao' (len + N) cap') ∧ Seg w' ao' (len + N) cap' (bs ++ (Num.put s.size ++ ofStr s)) ∧ Below w.heap.size w w' := by
  have h := putText_seg ao len cap bs s w hs hn
  rw [Nat.add_assoc, hN, List.append_assoc] at h
  exact h

theorem getText_put (t : ByteArray) (ht : t.size ≤ 100) (r : List Int) : Num.getText (Num.put t.size ++ ofStr t ++ r) = (ofStr t, (((Num.put t.size).length + t.size : Nat) : Int), 0) := by
  have hg : Num.get (Num.put t.size ++ ofStr t ++ r) = ((t.size : Int), ((Num.put t.size).length : Int), 0) := by
    rw [List.append_assoc]; exact Num.get_put (by omega) (by omega) _
  have hl := ofStr_length t
  rw [getText_ok hg (by omega) (by simp only [List.length_append]; omega)]
  rw [Int.toNat_natCast, Int.toNat_natCast, List.append_assoc, List.drop_left, List.take_append, ← hl, List.take_of_length_le (Nat.le_refl _)]
  simp

end Go.Proofs.Ytljacfnlianpdaa
