/-
  The walk of the look that each statement opens with: it answers true, and writes nothing that was there.
-/
import Derived.Test.YtljacfnlianpdaaText
import Derived.OpenShut
namespace Go.Proofs.Ytljacfnlianpdaa
open Go.RowKit

theorem seg_nil (w : World) : Seg w none 0 0 [] := ⟨rfl, Nat.le_refl _, Nat.zero_le _, fun _ => ⟨rfl, rfl⟩, fun a h => (by cases h), fun x h => (by cases h)⟩

/-- A literal of bytes, just laid. -/
theorem seg_lit (w : World) (bs : List Int) (hb : ∀ x ∈ bs, 0 ≤ x ∧ x ≤ 255) (hm : bs.length ≤ maxLen) : Seg (w.alloc (.cells (cellsOf bs).toArray 5)) (some ⟨w.heap.size, 0, none⟩) bs.length bs.length bs := by
  have h := World.ownsRow_lit (base := w.heap.size) (e := 5) (size := 1) w (cellsOf bs).toArray bs.length (Nat.le_refl _) hm (by simp [cellsOf])
  obtain ⟨ao, cap, he, hs⟩ := Seg.owned (bs := bs) h hb
  cases he
  exact hs

theorem put_m1 : Num.put (-1) = [1] := Num.enc_small (u := 1) (by decide)
theorem put_2 : Num.put 2 = [4] := Num.enc_small (u := 4) (by decide)

theorem putText_ab (w : World) : Calls Try.prog 15 #[.slice none 0 0, .string { data := #[97, 98] }] w fun e w' => ∃ v', e = .returned v' ∧ w'.ownsRow w.heap.size 5 1 v' 3 (cellsOf [4, 97, 98]) ∧ Below w.heap.size w w' := by
  have h := putText_calls none 0 0 [] { data := #[97, 98] } w (seg_nil w) (by decide)
  have e1 : (((({ data := #[97, 98] } : ByteArray).size : Nat) : Int)) = 2 := by decide
  have e2 : ofStr { data := #[97, 98] } = [97, 98] := by decide
  have e3 : (({ data := #[97, 98] } : ByteArray).size) = 2 := by decide
  rw [e1, e2, e3, put_2] at h
  exact h

theorem put_one (w : World) : Calls Try.prog 12 #[.slice none 0 0, .int .i64 (-1)] w fun e w' => ∃ v', e = .returned v' ∧ w'.ownsRow w.heap.size 5 1 v' 1 (cellsOf [1]) ∧ Below w.heap.size w w' := by
  have h := put_calls none 0 0 [] (-1) w (seg_nil w) (by decide) (by decide) (by decide)
  rw [put_m1] at h
  exact h

theorem four_258 (w : World) : Calls Try.prog 18 #[.int .u32 258] w fun e w' => ∃ v', e = .returned v' ∧ w'.ownsRow w.heap.size 5 1 v' 4 (cellsOf [0, 0, 1, 2]) ∧ Below w.heap.size w w' :=
  four_calls 258 w (by decide) (by decide)

set_option maxHeartbeats 400000 in
theorem begun_calls (w : World) :
    Calls Try.prog 9 #[] w fun e w' => e = .returned (.bool true) ∧ Below w.heap.size w w' := by
  obtain ⟨i0, hi, hz0, hz1, hz2⟩ := info_parts Try.info5
  have hg1 : Num.get [128, 1] = (64, 2, 0) := by decide
  have hg0 : Num.get [] = (0, 0, 2) := rfl
  have hg2 : Num.getText [4, 97, 98, 9] = ([97, 98], 3, 0) := by decide
  have hst : strOfNums [97, 98] = { data := #[97, 98] } := rfl
  have HL1 : Hid (Seg (w.alloc (.cells #[.int .u8 128, .int .u8 1] 5)) (some ⟨w.heap.size, 0, none⟩) 2 2 [128, 1]) := seg_lit w [128, 1] (by decide) (by decide)
  go_enter Try.func9, Try.ntmps9
  go_wp2_with fail
  refine (get_calls _ _ _ [128, 1] _ HL1.out).mono ?_
  rintro e w1 ⟨rfl, rfl⟩
  rw [hg1]
  unfold ans3
  go_wp2_with fail
  refine (get_calls _ _ _ [] _ (seg_nil _)).mono ?_
  rintro e w1 ⟨rfl, rfl⟩
  rw [hg0]
  unfold ans3
  go_wp2_with fail
  refine (putText_ab _).mono ?_
  rintro e w1 ⟨v1, rfl, hown1, hb1⟩
  simp only [World.size_alloc] at hown1
  have hB1 : Below w.heap.size w w1 := ((Below.refl _ _).alloc (Nat.le_refl _) _).trans (hb1.mono (by simp))
  have hz1' : w.heap.size + 1 ≤ w1.heap.size := by have := hb1.size; simpa using this
  go_wp2_with (at_builtin; go_must (refine wpList_append_own _ rfl _ _ 22 rfl (w.heap.size + 1) 5 i0 (.int .u8 0) 1 1 Try.underlying22 hi hz0 hz1 hz2 rfl (by decide) v1 3 (cellsOf [4, 97, 98]) rfl (hown1.alloc _) ⟨w1.heap.size, 0, none⟩ 1 1 [.int .u8 9] rfl rfl (cell_one_new _ _ _) (cellsOf_one [9]) (by decide) (by decide) (by simp; omega) ?_); intro v2 w2 hown2 hgrow2 _)
  have hB2 : Below w.heap.size w w2 := (hB1.alloc (by omega) _).grown hgrow2 (by simp; omega) (fun k hk => by have := (hown1.lt k hk).1; omega)
  obtain ⟨ao2, cap2, rfl, hs2⟩ := Seg.owned (bs := [4, 97, 98, 9]) hown2 (by decide)
  clear hgrow2 hown2
  go_wp2_with fail
  refine (getText_calls _ _ _ _ _ hs2).mono ?_
  rintro e w3 ⟨rfl, rfl⟩
  rw [hg2]
  unfold ansText
  go_wp2_with fail
  refine (put_one _).mono ?_
  rintro e w4 ⟨v4, rfl, hown4, hb4⟩
  obtain ⟨ao4, cap4, rfl, hs4⟩ := Seg.owned (bs := [1]) hown4 (by decide)
  have hB4 : Below w.heap.size w w4 := hB2.trans (hb4.mono hB2.size)
  have hc4 : (convert 22 9 (.slice ao4 1 cap4)).run Try.prog w4 = .ok (.string { data := #[1] }) w4 := conv_seg hs4
  clear hown4 hs4 hb4
  go_wp2_with fail
  refine (four_258 _).mono ?_
  rintro e w5 ⟨v5, rfl, hown5, hb5⟩
  obtain ⟨ao5, cap5, rfl, hs5⟩ := Seg.owned (bs := [0, 0, 1, 2]) hown5 (by decide)
  have hB5 : Below w.heap.size w w5 := hB4.trans (hb5.mono hB4.size)
  have hc5 : (convert 22 9 (.slice ao5 4 cap5)).run Try.prog w5 = .ok (.string { data := #[0, 0, 1, 2] }) w5 := conv_seg hs5
  clear hown5 hs5 hb5
  go_wp2
  go_ret
  exact ⟨rfl, hB5⟩

/-- Put behind a slice that reads as bs. -/
theorem put_seg (ao : Option Addr) (len cap : Nat) (bs : List Int) (x : Int) (w : World) (hs : Seg w ao len cap bs) (hn : len + 10 ≤ 140737488355328) (h0 : -9223372036854775808 ≤ x) (h1 : x ≤ 9223372036854775807) :
    Calls Try.prog 12 #[.slice ao len cap, .int .i64 x] w fun e w' => ∃ ao' cap', e = .returned (.slice ao' (len + (Num.put x).length) cap') ∧ Seg w' ao' (len + (Num.put x).length) cap' (bs ++ Num.put x) ∧ Below w.heap.size w w' := by
  refine (put_calls ao len cap bs x w hs hn h0 h1).mono ?_
  rintro e w' ⟨v', rfl, hown, hb⟩
  obtain ⟨ao', cap', rfl, hs'⟩ := Seg.owned hown (fun y hy => (List.mem_append.1 hy).elim (hs.byte y) (Num.put_byte x y))
  exact ⟨ao', cap', rfl, hs', hb⟩

theorem put_nil (x : Int) (w : World) (h0 : -9223372036854775808 ≤ x) (h1 : x ≤ 9223372036854775807) :
    Calls Try.prog 12 #[.slice none 0 0, .int .i64 x] w fun e w' => ∃ ao' cap', e = .returned (.slice ao' (Num.put x).length cap') ∧ Seg w' ao' (Num.put x).length cap' (Num.put x) ∧ Below w.heap.size w w' := by
  have h := put_seg none 0 0 [] x w (seg_nil w) (by decide) h0 h1
  rw [Nat.zero_add, List.nil_append] at h
  exact h

theorem putText_seg (ao : Option Addr) (len cap : Nat) (bs : List Int) (s : ByteArray) (w : World) (hs : Seg w ao len cap bs) (hn : len + s.size + 20 ≤ 140737488355328) :
    Calls Try.prog 15 #[.slice ao len cap, .string s] w fun e w' => ∃ ao' cap', e = .returned (.slice ao' (len + (Num.put s.size).length + s.size) cap') ∧ Seg w' ao' (len + (Num.put s.size).length + s.size) cap' (bs ++ Num.put s.size ++ ofStr s) ∧ Below w.heap.size w w' := by
  refine (putText_calls ao len cap bs s w hs hn).mono ?_
  rintro e w' ⟨v', rfl, hown, hb⟩
  obtain ⟨ao', cap', rfl, hs'⟩ := Seg.owned hown (fun y hy => (List.mem_append.1 hy).elim (fun hy => (List.mem_append.1 hy).elim (hs.byte y) (Num.put_byte _ y)) (ofStr_byte s y))
  exact ⟨ao', cap', rfl, hs', hb⟩

theorem putText_nil (s : ByteArray) (w : World) (hn : s.size ≤ 1000) :
    Calls Try.prog 15 #[.slice none 0 0, .string s] w fun e w' => ∃ ao' cap', e = .returned (.slice ao' ((Num.put s.size).length + s.size) cap') ∧ Seg w' ao' ((Num.put s.size).length + s.size) cap' (Num.put s.size ++ ofStr s) ∧ Below w.heap.size w w' := by
  have h := putText_seg none 0 0 [] s w (seg_nil w) (by omega)
  rw [Nat.zero_add, List.nil_append] at h
  exact h

/-- A slice of integers that came in: nil, or a row of cap cells, the first len of them its elements. -/
def IsRow (k : IntKind) (w : World) (a : Option Addr) (len cap : Nat) (zs : List Int) : Prop :=
  (a = none ∧ len = 0 ∧ cap = 0 ∧ zs = []) ∨
  ∃ x, a = some x ∧ len ≤ cap ∧ cap ≤ maxLen ∧ zs.length = cap ∧ (∀ i, i < zs.length → w.cell? (x.add i) = some (.int k (zs.getD i 0))) ∧ ∀ n ∈ zs, (Lit.int k n).wf = true

theorem IsRow.seg {w : World} {a : Option Addr} {len cap : Nat} {zs : List Int} (h : IsRow .u8 w a len cap zs) : Seg w a len cap (zs.take len) := by
  rcases h with ⟨rfl, rfl, rfl, rfl⟩ | ⟨x, rfl, hl, hm, hz, hcell, hwz⟩
  · exact seg_nil w
  · refine ⟨by simp; omega, hl, hm, fun h => (by cases h), fun a ha j hj => ?_, fun y hy => bounds_u8 (hwz y (List.mem_of_mem_take hy))⟩
    cases ha
    rw [hcell j (by omega)]
    simp only [List.getD_eq_getElem?_getD]
    rw [List.getElem?_take, if_pos hj]

end Go.Proofs.Ytljacfnlianpdaa
