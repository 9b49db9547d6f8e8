/-
  Union over numbers.
-/
import Derived.Test.YtdgdaldgchbbaaaOf
namespace Go.Proofs.Ytdgdaldgchbbaaa
open Go.RowKit Go.Shelf

set_option maxHeartbeats 2000000 in
theorem union_spec {g : Nat} {cf : Int → Int → Int} (hf : CmpFn (Value.int .i64) g cf) {w : World} {p pt gt : Nat} {v vt : Value} {xs ys : List Int} (h : SetI w p g v xs) (ht : SetI w pt gt vt ys) (hs : Sorted cf xs) (hn : xs.length + ys.length ≤ 1048576) :
    Calls Try.prog 16 #[.pointer (some ⟨p, 0, none⟩), .pointer (some ⟨pt, 0, none⟩)] w fun e w' => ∃ v', e = .returned (.bool (decide (xs.length < (join cf xs ys).length))) ∧ SetI w' p g v' (join cf xs ys) ∧ Wrote w p v w' v' := by
  have hlist := list_spec ht (by omega)
  have HF : Hid (CmpFn (Value.int .i64) g cf) := hf
  have HS : Hid (SetI w p g v xs) := h
  have HO : Hid (Sorted cf xs) := hs
  have hn' : ys.length ≤ 1048576 := by omega
  clear hf h hs ht
  go_enter Try.func16, Try.ntmps16
  go_wp2_with (go_at_call 22; refine hlist.mono ?_; rintro e w1 ⟨vl, rfl, X⟩
               obtain ⟨ao, cap, rfl, seg, hblk⟩ := Seg.owned (d := 0) X.1
               have HG : Hid (Seg (Value.int .i64) 0 w1 ao ys.length cap ys) := seg
               have HK : Hid (∀ a, ao = some a → w.heap.size ≤ a.block) := fun a ha => (X.1.lt _ (hblk a ha)).1
               have HB : Hid (Below w.heap.size w w1) := X.2
               have hm : cap ≤ 9223372036854775807 := by have := seg.max; unfold maxLen at this; omega
               have hle : ys.length ≤ cap := seg.le
               clear seg hblk X)
  have HS1 : Hid (SetI w1 p g v xs) := IsSet.below HS.out HB.out
  have HFT : Hid (∀ a, ao = some a → ¬ Foot p v a.block) := fun a ha hft => by
    have := IsSet.lt HS.out _ hft
    have := HK.out a ha
    omega
  generalize hL : ys.length = n at hle hn' HG ⊢
  have HL : Hid (ys.length = n) := hL
  clear hL
  go_loopg [5, 11] n (fun kx s5 s11 wr => ∃ (I : Nat) (c : Bool), s5 = .bool c ∧ s11 = .int .i64 I ∧ I ≤ n ∧ n - I ≤ kx ∧ Hid (decide (xs.length < (join cf xs (ys.take I)).length) = c) ∧ Hid (∃ v', SetI wr p g v' (join cf xs (ys.take I)) ∧ Wrote w1 p v wr v'))
  case atStart => exact ⟨0, false, rfl, rfl, Nat.zero_le _, by omega, by simp [Hid, join], ⟨v, HS1.out, Wrote.refl _ _ _⟩⟩
  case round =>
    obtain ⟨I, c, rfl, rfl, hI, hg, C, J⟩ := hrel
    by_cases hlt : I < n
    · obtain ⟨v1, S1, W1⟩ := J.out
      have seg1 := HG.out.kept W1.kept HFT.out
      obtain ⟨b, off, rfl, hbl, hcell⟩ := seg1.at (by omega)
      have cI := hcell I hlt
      have hlen : (join cf xs (ys.take I)).length ≤ 1048576 := by
        have := (join_length_le (cf := cf) (ys.take I) xs).2
        rw [List.length_take] at this
        have := HL.out
        omega
      have hadd := add_spec HF.out S1 (join_sorted HF.out.ord _ HO.out) hlen (ys[I]?.getD 0)
      have HN : Hid (ys.take (I + 1) = ys.take I ++ [ys[I]?.getD 0]) := take_next (by have := HL.out; omega)
      have HW : Hid (Wrote w1 p v wr v1) := W1
      clear J S1 W1 seg1 hcell hlen
      generalize ys[I]?.getD 0 = y at cI hadd HN
      generalize hq : isIn cf y (join cf xs (ys.take I)) = q at hadd
      have HQ : Hid (isIn cf y (join cf xs (ys.take I)) = q) := hq
      clear hq
      cases q with
      | true =>
        go_wp2_with (go_at_call 13; refine hadd.mono ?_; rintro e w2 ⟨v2, rfl, S2, W2⟩
                     have HS2 : Hid (SetI w2 p g v2 (ins cf y (join cf xs (ys.take I)))) := S2
                     have HW2 : Hid (Wrote wr p v1 w2 v2) := W2
                     clear S2 W2)
        go_roundg (n - (I + 1))
        case measure => omega
        case rel =>
          have e : join cf xs (ys.take (I + 1)) = ins cf y (join cf xs (ys.take I)) := by rw [HN.out, join_snoc]
          refine ⟨I + 1, c, rfl, by simp, by omega, Nat.le_refl _, ?_, (⟨v2, by rw [e]; exact HS2.out, HW.out.trans HW2.out⟩ : ∃ v', SetI _ p g v' (join cf xs (ys.take (I + 1))) ∧ Wrote w1 p v _ v')⟩
          show decide _ = c
          rw [HN.out, join_came, HQ.out, C.out]
          simp
      | false =>
        go_wp2_with (go_at_call 13; refine hadd.mono ?_; rintro e w2 ⟨v2, rfl, S2, W2⟩
                     have HS2 : Hid (SetI w2 p g v2 (ins cf y (join cf xs (ys.take I)))) := S2
                     have HW2 : Hid (Wrote wr p v1 w2 v2) := W2
                     clear S2 W2)
        go_roundg (n - (I + 1))
        case measure => omega
        case rel =>
          have e : join cf xs (ys.take (I + 1)) = ins cf y (join cf xs (ys.take I)) := by rw [HN.out, join_snoc]
          refine ⟨I + 1, true, rfl, by simp, by omega, Nat.le_refl _, ?_, (⟨v2, by rw [e]; exact HS2.out, HW.out.trans HW2.out⟩ : ∃ v', SetI _ p g v' (join cf xs (ys.take (I + 1))) ∧ Wrote w1 p v _ v')⟩
          show decide _ = true
          rw [HN.out, join_came, HQ.out]
          simp
    · obtain rfl : I = n := by omega
      have htake : ys.take I = ys := List.take_of_length_le (by rw [HL.out]; omega)
      rw [htake] at C J
      have HC : Hid (decide (xs.length < (join cf xs ys).length) = c) := C
      have HJ : Hid (∃ v', SetI wr p g v' (join cf xs ys) ∧ Wrote w1 p v wr v') := J
      clear C J htake
      go_wp2
      go_ret
      obtain ⟨v1, S1, W1⟩ := HJ.out
      exact ⟨v1, by rw [HC.out]; rfl, S1, (Wrote.of_below HB.out).trans W1⟩

set_option maxHeartbeats 1000000 in
/-- With no set. -/
theorem union_none {w : World} {p : Nat} : Calls Try.prog 16 #[.pointer (some ⟨p, 0, none⟩), .pointer none] w fun e w' => e = .returned (.bool false) ∧ w' = w := by
  have hlist := list_nil w
  go_enter Try.func16, Try.ntmps16
  go_wp2_with (go_at_call 22; refine hlist.mono ?_; rintro e w1 ⟨rfl, rfl⟩)
  go_loopg [5, 11] 1 (fun _ s5 s11 wr => s5 = .bool false ∧ s11 = .int .i64 0 ∧ wr = w1)
  case atStart => exact ⟨rfl, rfl, rfl⟩
  case round =>
    obtain ⟨rfl, rfl, rfl⟩ := hrel
    go_wp2
    go_ret
    exact ⟨rfl, rfl⟩

set_option maxHeartbeats 1000000 in
/-- Of no set. -/
theorem union_nil {w : World} {pt gt : Nat} {vt : Value} {ys : List Int} (ht : SetI w pt gt vt ys) (hn' : ys.length ≤ 1048576) :
    Calls Try.prog 16 #[.pointer none, .pointer (some ⟨pt, 0, none⟩)] w fun e w' => e = .returned (.bool false) ∧ Below w.heap.size w w' := by
  have hlist := list_spec ht hn'
  clear ht
  go_enter Try.func16, Try.ntmps16
  go_wp2_with (go_at_call 22; refine hlist.mono ?_; rintro e w1 ⟨vl, rfl, X⟩
               obtain ⟨ao, cap, rfl, seg, hblk⟩ := Seg.owned (d := 0) X.1
               have HG : Hid (Seg (Value.int .i64) 0 w1 ao ys.length cap ys) := seg
               have HB : Hid (Below w.heap.size w w1) := X.2
               have hm : cap ≤ 9223372036854775807 := by have := seg.max; unfold maxLen at this; omega
               have hle : ys.length ≤ cap := seg.le
               clear seg hblk X)
  generalize hL : ys.length = n at hle hn' HG ⊢
  clear hL
  go_loopg [5, 11] n (fun kx s5 s11 wr => ∃ I : Nat, s5 = .bool false ∧ s11 = .int .i64 I ∧ I ≤ n ∧ n - I ≤ kx ∧ Hid (Below w1.heap.size w1 wr))
  case atStart => exact ⟨0, rfl, rfl, Nat.zero_le _, by omega, Below.refl _ _⟩
  case round =>
    obtain ⟨I, rfl, rfl, hI, hg, J⟩ := hrel
    by_cases hlt : I < n
    · have seg1 := HG.out.below J.out
      obtain ⟨b, off, rfl, hbl, hcell⟩ := seg1.at (by omega)
      have cI := hcell I hlt
      clear seg1 hcell
      generalize ys[I]?.getD 0 = y at cI
      have hadd := add_nil y wr
      go_wp2_with (go_at_call 13; refine hadd.mono ?_; rintro e w2 ⟨rfl, W2⟩
                   have HW2 : Hid (Below wr.heap.size wr w2) := W2
                   clear W2)
      go_roundg (n - (I + 1))
      case measure => omega
      case rel => exact ⟨I + 1, rfl, by simp, by omega, Nat.le_refl _, below_step J.out HW2.out⟩
    · go_wp2
      go_ret
      exact ⟨rfl, below_step HB.out J.out⟩

end Go.Proofs.Ytdgdaldgchbbaaa
