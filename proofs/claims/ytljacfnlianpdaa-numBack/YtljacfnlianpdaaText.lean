/-
  The walks of Four, Short, Cut, and of the functions on texts.
-/
import Derived.Test.YtljacfnlianpdaaRget
import Derived.Test.YtljacfnlianpdaaPut
namespace Go.Proofs.Ytljacfnlianpdaa
open Go.RowKit

/-- A text's bytes as numbers. -/
def ofStr (s : ByteArray) : List Int := s.data.toList.map fun b => (b.toNat : Int)

theorem ofStr_length (s : ByteArray) : (ofStr s).length = s.size := by
  unfold ofStr; rw [List.length_map, Array.length_toList]; rfl
theorem ofStr_cells (s : ByteArray) : Lib.strCells s = cellsOf (ofStr s) := by
  unfold Lib.strCells cellsOf ofStr; rw [List.map_map]; rfl
theorem ofStr_byte (s : ByteArray) : ∀ x ∈ ofStr s, 0 ≤ x ∧ x ≤ 255 := by
  intro x hx
  obtain ⟨b, _, rfl⟩ := List.mem_map.1 hx
  have := b.toNat_lt
  omega
theorem ofStr_back (s : ByteArray) : strOfNums (ofStr s) = s := by
  unfold strOfNums ofStr
  rw [List.map_map]
  have : (fun n : Int => UInt8.ofNat n.toNat) ∘ (fun b : UInt8 => (b.toNat : Int)) = id := by
    funext b
    simp
  rw [this, List.map_id]

set_option maxHeartbeats 400000 in
theorem four_calls (u : Int) (w : World) (h0 : 0 ≤ u) (h1 : u ≤ 4294967295) :
    Calls Try.prog 18 #[.int .u32 u] w fun e w' => ∃ v', e = .returned v' ∧ w'.ownsRow w.heap.size 5 1 v' 4 (cellsOf [u / 16777216, u / 65536 % 256, u / 256 % 256, u % 256]) ∧ Below w.heap.size w w' := by
  go_enter Try.func18, Try.ntmps18
  go_wp2
  go_ret
  exact ⟨_, rfl, World.ownsRow_lit w _ 4 (Nat.le_refl _) (by decide) rfl, (Below.refl _ _).alloc (Nat.le_refl _) _⟩

theorem getText_err {bs : List Int} {n k e : Int} (hg : Num.get bs = (n, k, e)) (h : e ≠ 0) : Num.getText bs = ([], 0, e) := by
  unfold Num.getText; rw [hg]; exact if_pos h
theorem getText_form {bs : List Int} {n k : Int} (hg : Num.get bs = (n, k, 0)) (h : n < 0 ∨ 1048576 < n) : Num.getText bs = ([], 0, 1) := by
  unfold Num.getText; rw [hg]; simp [h]
theorem getText_more {bs : List Int} {n k : Int} (hg : Num.get bs = (n, k, 0)) (h : ¬ (n < 0 ∨ 1048576 < n)) (h2 : (bs.length : Int) < k + n) : Num.getText bs = ([], 0, 2) := by
  unfold Num.getText; rw [hg]; simp [h, h2]
theorem getText_ok {bs : List Int} {n k : Int} (hg : Num.get bs = (n, k, 0)) (h : ¬ (n < 0 ∨ 1048576 < n)) (h2 : ¬ (bs.length : Int) < k + n) : Num.getText bs = ((bs.drop k.toNat).take n.toNat, k + n, 0) := by
  unfold Num.getText; rw [hg]; simp [h, h2]

theorem dec_range (l : List Int) (i u : Nat) (hi : i ≤ 9) : ∀ n k e, Num.dec i u l = (n, k, e) → (e = 0 ∧ (i : Int) + 1 ≤ k ∧ k ≤ i + l.length ∧ k ≤ 10) ∨ (n = 0 ∧ k = 0 ∧ (e = 1 ∨ e = 2)) := by
  induction l generalizing i u with
  | nil =>
    intro n k e h
    simp only [Num.dec, Prod.mk.injEq] at h
    obtain ⟨rfl, rfl, rfl⟩ := h
    simp
  | cons c r ih =>
    intro n k e h
    rw [Num.dec] at h
    by_cases h1 : i = 9 ∧ 1 < c
    · rw [if_pos h1] at h; simp only [Prod.mk.injEq] at h; obtain ⟨rfl, rfl, rfl⟩ := h; simp
    · rw [if_neg h1] at h
      by_cases h2 : 128 ≤ c
      · rw [if_pos h2] at h
        rcases ih _ _ (by omega) n k e h with h | h
        · left; rw [List.length_cons]; omega
        · exact .inr h
      · rw [if_neg h2] at h
        by_cases h3 : c = 0 ∧ 0 < i
        · rw [if_pos h3] at h; simp only [Prod.mk.injEq] at h; obtain ⟨rfl, rfl, rfl⟩ := h; simp
        · rw [if_neg h3] at h
          have e2 : (i : Int) + 1 = k := congrArg (fun p : Int × Int × Int => p.2.1) h
          have e3 : (0 : Int) = e := congrArg (fun p : Int × Int × Int => p.2.2) h
          left
          rw [List.length_cons]
          omega

theorem get_range {bs : List Int} {n k e : Int} (h : Num.get bs = (n, k, e)) : (e = 0 ∧ 1 ≤ k ∧ k ≤ bs.length ∧ k ≤ 10) ∨ (n = 0 ∧ k = 0 ∧ (e = 1 ∨ e = 2)) := by
  have := dec_range bs 0 0 (by omega) n k e h
  simpa using this

theorem conv_empty (ao : Option Addr) (c : Nat) (w : World) : (convert 22 9 (.slice ao 0 c)).run Try.prog w = .ok (.string (strOfNums [])) w := by
  cases ao with
  | none => exact run_convert_bytes_nil w 22 5 Try.underlying22 Try.underlying5 0 c 9 Try.underlying9
  | some a =>
    rw [run_convert_bytes_string w 22 9 5 _ 0 c Try.underlying22 Try.underlying5 Try.underlying9, run_bytesToString w _ 0 c [] (by simpa using run_loadCells_list (P := Try.prog) w a [] (fun j v h => by cases h))]
    rfl

theorem conv_seg {w : World} {ao : Option Addr} {len cap : Nat} {bs : List Int} (h : Seg w ao len cap bs) : (convert 22 9 (.slice ao len cap)).run Try.prog w = .ok (.string (strOfNums bs)) w := by
  by_cases h0 : len = 0
  · subst h0
    obtain rfl : bs = [] := List.eq_nil_of_length_eq_zero h.size
    exact conv_empty ao cap w
  · obtain ⟨b, off, rfl, _, hc⟩ := h.at (by omega)
    exact run_convert_bytes_arg w 22 5 Try.underlying22 Try.underlying5 b off len cap bs h.size hc 9 Try.underlying9

theorem getD_cut (bs : List Int) (k n j : Nat) (h : j < n) : ((bs.drop k).take n).getD j 0 = bs.getD (k + j) 0 := by
  simp only [List.getD_eq_getElem?_getD]
  rw [List.getElem?_take, if_pos h, List.getElem?_drop]

/-- A part of a slice. -/
theorem Seg.part {w : World} {b off len cap : Nat} {bs : List Int} (h : Seg w (some ⟨b, off, none⟩) len cap bs) (k n c : Nat) (hk : k + n ≤ len) (hc : n ≤ c) (hm : c ≤ maxLen) : Seg w (some ⟨b, off + k, none⟩) n c ((bs.drop k).take n) := by
  refine ⟨by have := h.size; simp; omega, hc, hm, fun h => (by cases h), fun a ha j hj => ?_, fun x hx => h.byte x (List.mem_of_mem_drop (List.mem_of_mem_take hx))⟩
  cases ha
  have := h.cell _ rfl (k + j) (by omega)
  rw [Addr.add_lit] at this ⊢
  rw [getD_cut bs k n j hj, Nat.add_assoc]
  exact this

/-- What GetText answers. -/
def ansText (p : List Int × Int × Int) : Ending := .returned (.tuple #[.string (strOfNums p.1), .int .i64 p.2.1, .int .i64 p.2.2])

set_option maxHeartbeats 400000 in
theorem getText_calls (ao : Option Addr) (len cap : Nat) (bs : List Int) (w : World) (hs : Seg w ao len cap bs) :
    Calls Try.prog 16 #[.slice ao len cap] w fun e w' => e = ansText (Num.getText bs) ∧ w' = w := by
  obtain ⟨⟨n, k, e⟩, hg⟩ : ∃ p, Num.get bs = p := ⟨_, rfl⟩
  have hr := get_range hg
  have HS : Hid (Seg w ao len cap bs) := hs
  have hG := get_calls ao len cap bs w hs
  rw [hg] at hG
  have HG : Hid (Calls Try.prog 14 #[.slice ao len cap] w fun e' w' => e' = ans3 (n, k, e) ∧ w' = w) := hG
  have hmax := hs.max
  have hle := hs.le
  have HL : Hid (bs.length = len) := hs.size
  unfold maxLen at hmax
  have Hg : Hid (Num.get bs = (n, k, e)) := hg
  clear hs hG hg
  by_cases he : e = 0
  · subst he
    have hk : 1 ≤ k ∧ k ≤ len ∧ k ≤ 10 := by rcases hr with h | h <;> have := HL.out <;> omega
    clear hr
    obtain ⟨k, rfl⟩ := Int.eq_ofNat_of_zero_le (show 0 ≤ k by omega)
    have hz : ((0 : Int) != 0) = false := rfl
    by_cases hform : n < 0 ∨ 1048576 < n
    · have HV : Hid (Num.getText bs = ([], 0, 1)) := getText_form Hg.out hform
      rcases (show n < 0 ∨ (0 ≤ n ∧ 1048576 < n) by omega) with h | ⟨h, h'⟩
      all_goals
        clear hform
        go_enter Try.func16, Try.ntmps16
        go_wp2_with fail
        refine HG.out.mono ?_
        rintro e w' ⟨rfl, rfl⟩
        unfold ans3
        go_wp2
        go_ret3
        exact ⟨by rw [HV.out]; rfl, rfl⟩
    · by_cases hmore : (len : Int) < k + n
      · have HV : Hid (Num.getText bs = ([], 0, 2)) := getText_more Hg.out hform (by rw [HL.out]; exact hmore)
        have hn : 0 ≤ n ∧ n ≤ 1048576 := by omega
        clear hform
        go_enter Try.func16, Try.ntmps16
        go_wp2_with fail
        refine HG.out.mono ?_
        rintro e w' ⟨rfl, rfl⟩
        unfold ans3
        go_wp2
        go_ret3
        exact ⟨by rw [HV.out]; rfl, rfl⟩
      · have HV : Hid (Num.getText bs = ((bs.drop k).take n.toNat, k + n, 0)) := getText_ok Hg.out hform (by rw [HL.out]; exact hmore)
        have hn : 0 ≤ n ∧ n ≤ 1048576 := by omega
        obtain ⟨n, rfl⟩ := Int.eq_ofNat_of_zero_le hn.1
        obtain ⟨b, off, rfl, _, hc⟩ := HS.out.at (by omega)
        clear hform hc
        by_cases hck : cap = k
        · have hn0 : n = 0 := by omega
          subst hn0
          subst hck
          have hcv := fun ao => conv_empty ao 0 w
          go_enter Try.func16, Try.ntmps16
          go_wp2_with fail
          refine HG.out.mono ?_
          rintro e w' ⟨rfl, rfl⟩
          unfold ans3
          go_wp2
          go_ret3
          exact ⟨by rw [HV.out]; rfl, rfl⟩
        · have hcv : (convert 22 9 (.slice (some ⟨b, off + k, none⟩) n (cap - k))).run Try.prog w = .ok (.string (strOfNums ((bs.drop k).take n))) w := conv_seg (HS.out.part k n (cap - k) (by omega) (by omega) (by unfold maxLen; omega))
          have hck' : (k : Int) < (cap : Int) := by omega
          go_enter Try.func16, Try.ntmps16
          go_wp2_with fail
          refine HG.out.mono ?_
          rintro e w' ⟨rfl, rfl⟩
          unfold ans3
          go_wp2
          go_ret3
          exact ⟨by rw [HV.out]; rfl, rfl⟩
  · have HV : Hid (Num.getText bs = ([], 0, e)) := getText_err Hg.out he
    have hz : (e != 0) = true := by rw [bne_iff_ne]; exact he
    clear hr
    go_enter Try.func16, Try.ntmps16
    go_wp2_with fail
    refine HG.out.mono ?_
    rintro e w' ⟨rfl, rfl⟩
    unfold ans3
    go_wp2
    go_ret3
    exact ⟨by rw [HV.out]; rfl, rfl⟩

set_option maxHeartbeats 400000 in
theorem rgetText_calls (ao : Option Addr) (len cap : Nat) (bs : List Int) (w : World) (hs : Seg w ao len cap bs) :
    Calls Try.prog 20 #[.slice ao len cap] w fun e w' => e = ansText (Num.getText bs) ∧ w' = w := by
  obtain ⟨⟨n, k, e⟩, hg⟩ : ∃ p, Num.get bs = p := ⟨_, rfl⟩
  have hr := get_range hg
  have HS : Hid (Seg w ao len cap bs) := hs
  have hG := rget_calls ao len cap bs w hs
  rw [hg] at hG
  have HG : Hid (Calls Try.prog 19 #[.slice ao len cap] w fun e' w' => e' = ans3 (n, k, e) ∧ w' = w) := hG
  have hmax := hs.max
  have hle := hs.le
  have HL : Hid (bs.length = len) := hs.size
  unfold maxLen at hmax
  have Hg : Hid (Num.get bs = (n, k, e)) := hg
  clear hs hG hg
  by_cases he : e = 0
  · subst he
    have hk : 1 ≤ k ∧ k ≤ len ∧ k ≤ 10 := by rcases hr with h | h <;> have := HL.out <;> omega
    clear hr
    obtain ⟨k, rfl⟩ := Int.eq_ofNat_of_zero_le (show 0 ≤ k by omega)
    have hz : ((0 : Int) != 0) = false := rfl
    by_cases hform : n < 0 ∨ 1048576 < n
    · have HV : Hid (Num.getText bs = ([], 0, 1)) := getText_form Hg.out hform
      rcases (show n < 0 ∨ (0 ≤ n ∧ 1048576 < n) by omega) with h | ⟨h, h'⟩
      all_goals
        clear hform
        go_enter Try.func20, Try.ntmps20
        go_wp2_with fail
        refine HG.out.mono ?_
        rintro e w' ⟨rfl, rfl⟩
        unfold ans3
        go_wp2
        go_ret3
        exact ⟨by rw [HV.out]; rfl, rfl⟩
    · by_cases hmore : (len : Int) < k + n
      · have HV : Hid (Num.getText bs = ([], 0, 2)) := getText_more Hg.out hform (by rw [HL.out]; exact hmore)
        have hn : 0 ≤ n ∧ n ≤ 1048576 := by omega
        clear hform
        go_enter Try.func20, Try.ntmps20
        go_wp2_with fail
        refine HG.out.mono ?_
        rintro e w' ⟨rfl, rfl⟩
        unfold ans3
        go_wp2
        go_ret3
        exact ⟨by rw [HV.out]; rfl, rfl⟩
      · have HV : Hid (Num.getText bs = ((bs.drop k).take n.toNat, k + n, 0)) := getText_ok Hg.out hform (by rw [HL.out]; exact hmore)
        have hn : 0 ≤ n ∧ n ≤ 1048576 := by omega
        obtain ⟨n, rfl⟩ := Int.eq_ofNat_of_zero_le hn.1
        obtain ⟨b, off, rfl, _, hc⟩ := HS.out.at (by omega)
        clear hform hc
        by_cases hck : cap = k
        · have hn0 : n = 0 := by omega
          subst hn0
          subst hck
          have hcv := fun ao => conv_empty ao 0 w
          go_enter Try.func20, Try.ntmps20
          go_wp2_with fail
          refine HG.out.mono ?_
          rintro e w' ⟨rfl, rfl⟩
          unfold ans3
          go_wp2
          go_ret3
          exact ⟨by rw [HV.out]; rfl, rfl⟩
        · have hcv : (convert 22 9 (.slice (some ⟨b, off + k, none⟩) n (cap - k))).run Try.prog w = .ok (.string (strOfNums ((bs.drop k).take n))) w := conv_seg (HS.out.part k n (cap - k) (by omega) (by omega) (by unfold maxLen; omega))
          have hck' : (k : Int) < (cap : Int) := by omega
          go_enter Try.func20, Try.ntmps20
          go_wp2_with fail
          refine HG.out.mono ?_
          rintro e w' ⟨rfl, rfl⟩
          unfold ans3
          go_wp2
          go_ret3
          exact ⟨by rw [HV.out]; rfl, rfl⟩
  · have HV : Hid (Num.getText bs = ([], 0, e)) := getText_err Hg.out he
    have hz : (e != 0) = true := by rw [bne_iff_ne]; exact he
    clear hr
    go_enter Try.func20, Try.ntmps20
    go_wp2_with fail
    refine HG.out.mono ?_
    rintro e w' ⟨rfl, rfl⟩
    unfold ans3
    go_wp2
    go_ret3
    exact ⟨by rw [HV.out]; rfl, rfl⟩

set_option maxHeartbeats 400000 in
theorem putText_calls (ao : Option Addr) (len cap : Nat) (bs : List Int) (s : ByteArray) (w : World) (hs : Seg w ao len cap bs) (hn : len + s.size + 20 ≤ 140737488355328) :
    Calls Try.prog 15 #[.slice ao len cap, .string s] w fun e w' => ∃ v', e = .returned v' ∧ w'.ownsRow w.heap.size 5 1 v' (len + (Num.put s.size).length + s.size) (cellsOf (bs ++ Num.put s.size ++ ofStr s)) ∧ Below w.heap.size w w' := by
  obtain ⟨i0, hi, hz0, hz1, hz2⟩ := info_parts Try.info5
  have HS : Hid (Seg w ao len cap bs) := hs
  have hp := (Num.put_ten (n := (s.size : Int)) (by omega) (by omega)).2
  have hm1 : len + (Num.put s.size).length + s.size ≤ maxLen := by unfold maxLen; omega
  have hm2 : len + (Num.put s.size).length + s.size ≤ 140737488355328 := by omega
  clear hs
  go_enter Try.func15, Try.ntmps15
  go_wp2_with fail
  refine (copied_calls ao len cap bs _ _ HS.out (by omega) (by omega)).mono ?_
  rintro e w1 ⟨v1, rfl, hown1, hb1⟩
  go_wp2_with fail
  refine (putNumber_calls w.heap.size len v1 bs _ _ hown1 hb1.size (by omega) (by omega) (by omega)).mono ?_
  rintro e w2 ⟨v2, rfl, hown2, hb2⟩
  have hsz : w.heap.size ≤ w2.heap.size := by have := hb1.size; have := hb2.size; omega
  go_wp2_with (at_builtin; go_must (refine Lib.wpList_append_own_string _ rfl _ _ 22 9 rfl w.heap.size 5 i0 Try.underlying22 Try.underlying9 hi hz0 hz1 hz2 _ _ _ rfl hown2 s rfl hm1 hm2 hsz ?_); intro v3 w3 hown3 hgrow3 _)
  go_ret
  refine ⟨v3, rfl, ?_, (hb1.trans hb2).grown hgrow3 hsz (fun k hk => (hown2.lt k hk).1)⟩
  rw [ofStr_cells, ← cellsOf_append] at hown3
  exact hown3

set_option maxHeartbeats 400000 in
theorem rputText_calls (s : ByteArray) (w : World) (hn : s.size + 20 ≤ 140737488355328) :
    Calls Try.prog 17 #[.string s] w fun e w' => ∃ v', e = .returned v' ∧ w'.ownsRow w.heap.size 5 1 v' ((Num.put s.size).length + s.size) (cellsOf (Num.put s.size ++ ofStr s)) ∧ Below w.heap.size w w' := by
  obtain ⟨i0, hi, hz0, hz1, hz2⟩ := info_parts Try.info5
  have hp := (Num.put_ten (n := (s.size : Int)) (by omega) (by omega)).2
  have hm1 : (Num.put s.size).length + s.size ≤ maxLen := by unfold maxLen; omega
  have hm2 : (Num.put s.size).length + s.size ≤ 140737488355328 := by omega
  go_enter Try.func17, Try.ntmps17
  go_wp2_with fail
  refine (refPut_calls _ _ (by omega) (by omega)).mono ?_
  rintro e w2 ⟨v2, rfl, hown2, hb2⟩
  have hsz : w.heap.size ≤ w2.heap.size := hb2.size
  go_wp2_with (at_builtin; go_must (refine Lib.wpList_append_own_string _ rfl _ _ 22 9 rfl w.heap.size 5 i0 Try.underlying22 Try.underlying9 hi hz0 hz1 hz2 _ _ _ rfl hown2 s rfl hm1 hm2 hsz ?_); intro v3 w3 hown3 hgrow3 _)
  go_ret
  refine ⟨v3, rfl, ?_, hb2.grown hgrow3 hsz (fun k hk => (hown2.lt k hk).1)⟩
  rw [ofStr_cells, ← cellsOf_append] at hown3
  exact hown3

theorem Seg.front {w : World} {ao : Option Addr} {len cap : Nat} {bs : List Int} (h : Seg w ao len cap bs) (n : Nat) (hn : n ≤ len) : Seg w ao n cap (bs.take n) := by
  refine ⟨by have := h.size; simp; omega, by have := h.le; omega, h.max, fun ha => ?_, fun a ha j hj => ?_, fun x hx => h.byte x (List.mem_of_mem_take hx)⟩
  · have := h.nil ha; omega
  · have := h.cell a ha j (by omega)
    rw [this]
    simp only [List.getD_eq_getElem?_getD]
    rw [List.getElem?_take, if_pos hj]

set_option maxHeartbeats 400000 in
theorem short_calls (ao : Option Addr) (len cap : Nat) (bs : List Int) (n : Nat) (w : World) (hs : Seg w ao len cap bs) (hn : n ≤ 100) :
    Calls Try.prog 10 #[.slice ao len cap, .int .i64 n] w fun e w' => ∃ len', len' ≤ n ∧ e = .returned (.slice ao len' cap) ∧ Seg w ao len' cap (bs.take n) ∧ w' = w := by
  have hmax := hs.max
  have hle := hs.le
  unfold maxLen at hmax
  have HS : Hid (Seg w ao len cap bs) := hs
  clear hs
  by_cases h : (n : Int) < len
  · go_enter Try.func10, Try.ntmps10
    go_wp2
    go_ret
    exact ⟨n, Nat.le_refl _, rfl, HS.out.front n (by omega), rfl⟩
  · go_enter Try.func10, Try.ntmps10
    go_wp2
    go_ret
    refine ⟨len, by omega, rfl, ?_, rfl⟩
    have := HS.out.size
    rw [List.take_of_length_le (by omega)]
    exact HS.out

end Go.Proofs.Ytljacfnlianpdaa
