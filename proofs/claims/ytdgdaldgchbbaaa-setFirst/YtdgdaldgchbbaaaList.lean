/-
  List (a copy), Del, Of and Union over numbers.
-/
import Derived.Test.YtdgdaldgchbbaaaAdd
namespace Go.Proofs.Ytdgdaldgchbbaaa
open Go.RowKit Go.Shelf

set_option maxHeartbeats 2000000 in
theorem clone_spec {w : World} {v : Value} {n : Nat} {cs : List Value} (h : w.ownsRow 0 3 1 v n cs) (hn : n ≤ 1048576) (h1 : ∀ u ∈ cs, u.oneCell' = true) :
    Calls Try.prog 36 #[v] w fun e w' => ∃ v', e = .returned v' ∧ w'.ownsRow w.heap.size 3 1 v' n cs ∧ Below w.heap.size w w' := by
  obtain ⟨i0, hi0, hz0, hz1, hz2⟩ := info_parts Try.info3
  have q27 : ∀ (w : World) (a : Option Addr) (n c n' c' : Nat), (binOp .eql 27 (.slice a n c) (.slice none n' c')).run Try.prog w = .ok (.bool a.isNone) w := fun w a n c n' c' => Lib.run_eql_slice_nil w _ _ a n c n' c' Try.underlying27
  obtain ⟨ao, cap, rfl, hnc, hcm, hao⟩ := own_slice h
  rcases hao with ⟨rfl, rfl, rfl⟩ | ⟨g, rfl⟩
  · have hcs : cs = [] := List.eq_nil_of_length_eq_zero (by simpa using h.1)
    subst hcs
    clear h
    go_enter Try.func36, Try.ntmps36
    go_wp2
    go_ret
    exact ⟨_, rfl, World.ownsRow_nil _ _ _ _, Below.refl _ _⟩
  · obtain ⟨cur, hh, hs, -, -, hg, -, hl, hc, -, -⟩ := own_open h
    have A : Hid (∀ j u, cs[j]? = some u → w.cell? ⟨g, j, none⟩ = some u) := hc
    clear h hc hh
    go_enter Try.func36, Try.ntmps36
    go_wp2_with (at_builtin; refine wpList_append_own _ rfl _ _ 27 rfl w.heap.size 3 i0 (.int .i64 0) 1 8 Try.underlying27 hi0 hz0 hz1 hz2 rfl (by decide) _ _ _ rfl (World.ownsRow_made w #[] 0 (Nat.le_refl _) (Nat.zero_le _) (by simp)) ⟨g, 0, none⟩ n cap cs rfl ?qc1 ?qc2 ?qc3 ?qc4 ?qc5 ?qc6 ?_)
    case qc1 => exact hl
    case qc2 =>
      intro j u hj
      rw [Addr.add_lit, Nat.zero_add]
      exact Lib.cell?_alloc_some _ (A.out j u hj)
    case qc3 => exact h1
    case qc4 => unfold maxLen; omega
    case qc5 => omega
    case qc6 => simp
    intro v' w1 hown hgrow hnil
    go_wp2
    go_ret
    refine ⟨v', rfl, by simpa using hown, ?_⟩
    exact ((Below.refl _ w).alloc (Nat.le_refl _) _).grown hgrow (by simp) (by intro k hk; simp [Value.ownBlock] at hk; omega)

set_option maxHeartbeats 1000000 in
theorem list_spec {g : Nat} {w : World} {p : Nat} {v : Value} {xs : List Int} (h : SetI w p g v xs) (hn : xs.length ≤ 1048576) :
    Calls Try.prog 22 #[.pointer (some ⟨p, 0, none⟩)] w fun e w' => ∃ v', e = .returned v' ∧ w'.ownsRow w.heap.size 3 1 v' xs.length (xs.map (Value.int .i64)) ∧ Below w.heap.size w w' := by
  have hc := clone_spec h.own hn (one_ints xs)
  have c1 := h.cell1
  clear h
  go_enter Try.func22, Try.ntmps22
  go_wp2_with (go_at_call 36; refine hc.mono ?_; rintro e w' ⟨v', rfl, X⟩)
  go_ret
  exact ⟨_, rfl, X⟩

theorem list_nil (w : World) : Calls Try.prog 22 #[.pointer none] w fun e w' => e = .returned (.slice none 0 0) ∧ w' = w := by
  go_enter Try.func22, Try.ntmps22
  go_wp2
  go_ret
  exact ⟨rfl, rfl⟩

set_option maxHeartbeats 4000000 in
set_option maxRecDepth 100000 in
theorem delete_walk {w : World} {g n cap i j : Nat} {cs : List Value} (h : w.ownsRow 0 3 1 (.slice (some ⟨g, 0, none⟩) n cap) n cs) (hj : j ≤ n) (hij : j = i + 1) (h1c : ∀ v ∈ cs, v.oneCell' = true) :
    Calls Try.prog 35 #[.slice (some ⟨g, 0, none⟩) n cap, .int .i64 i, .int .i64 j] w fun e w' =>
      e = .returned (.slice (some ⟨g, 0, none⟩) (i + (n - j)) cap) ∧ w' = (w.drew.setCells g (0 + i * 1) (cs.drop j)).setCells g (i + (n - j)) [.int .i64 0] := by
  obtain ⟨cur, hh, hs, hnc, hm, hg, -, hl, hc, hr, hz⟩ := own_open h
  rw [Nat.mul_one] at hl hs
  obtain ⟨i0, hi0, hz0, hz1, hz2⟩ := info_parts Try.info3
  have HI0 : Hid (Try.prog.info? 3 = some i0) := hi0
  have hm' : cap ≤ 9223372036854775807 := by unfold maxLen at hm; omega
  have hdl : (cs.drop j).length = n - j := by rw [List.length_drop, hl]
  obtain ⟨A, hA, hsrc⟩ : ∃ A : Addr, (if cap = j then some (⟨g, 0, none⟩ : Addr) else some ⟨g, j, none⟩) = some A ∧ Hid (∀ t u, (cs.drop j)[t]? = some u → w.drew.cell? (A.add t) = some u) := by
    by_cases hcj : cap = j
    · refine ⟨⟨g, 0, none⟩, by simp [hcj], fun t u hu => ?_⟩
      have h0 : (cs.drop j).length = 0 := by rw [hdl]; omega
      rw [List.length_eq_zero_iff.1 h0] at hu
      simp at hu
    · refine ⟨⟨g, j, none⟩, by simp [hcj], fun t u hu => ?_⟩
      rw [Addr.add_lit]
      rw [List.getElem?_drop] at hu
      exact hc _ u hu
  have s1 : Hid ((cs.drop j).length = (n - j) * 1) := by rw [Nat.mul_one]; exact hdl
  have s2 : Hid (∀ u ∈ cs.drop j, u.oneCell' = true) := fun u hu => h1c u (List.mem_of_mem_drop hu)
  have s3 : Hid (∀ t, t < (cs.drop j).length → (w.drew.cell? ⟨g, 0 + i * 1 + t, none⟩).isSome = true ∧ w.drew.frozen? ⟨g, 0 + i * 1 + t, none⟩ = false) := by
    intro t ht
    exact ⟨hr _ (by omega), hz _⟩
  obtain ⟨W1, hW1⟩ : ∃ W1, W1 = w.drew.setCells g (0 + i * 1) (cs.drop j) := ⟨_, rfl⟩
  have hcl : ∀ ty, (Builtin.clear_ #[27] ty #[.slice (some ⟨g, i + (n - j), none⟩) (n - (i + (n - j))) (cap - (i + (n - j)))]).run Try.prog W1 = .ok (.tuple #[]) (W1.setCells g (i + (n - j)) [.int .i64 0]) := fun ty => by
    have he : n - (i + (n - j)) = 1 := by omega
    rw [he]
    exact Lib.run_clear_slice W1 27 3 ty (.int .i64 0) Try.underlying27 (fun _ => by kernel_rfl) rfl rfl g (i + (n - j)) 1 _ (by decide)
      (fun t ht => by rw [hW1]; exact isSome_setCells g (cs.drop j) (0 + i * 1) w.drew (fun t ht => hr (0 + i * 1 + t) (by omega)) _ (hr _ (by omega)))
      (fun t ht => by rw [hW1, World.frozen?_setCells]; exact hz _)
  have hW : Hid (W1 = w.drew.setCells g (0 + i * 1) (cs.drop j)) := hW1
  rw [← hW1]
  have hic : i ≤ cap := by omega
  have hjc : j ≤ cap := by omega
  have hlt : i < j := by omega
  clear hW1 hc hr hz hh hs hl hdl h hi0 hz0 hz2 hij
  go_enter Try.func35, Try.ntmps35
  go_wp2_with fail
  go_region_law (refine step_append_room rfl (.tmp 22) (.tmp 25) 27 rfl 3 i0 1 Try.underlying27 HI0.out hz1 g 0 i cap (by simp [Act.eval, Act.put]) A (n - j) (cap - j) (cs.drop j) (by simp [Act.eval, Act.put]) s1.out hsrc.out s2.out (by omega) s3.out ?_; rw [← hW.out])
  go_wp2
  go_ret
  exact ⟨rfl, rfl⟩

theorem delete_spec {w : World} {v : Value} {n i : Nat} {cs : List Value} (h : w.ownsRow 0 3 1 v n cs) (hi : i < n) (h1c : ∀ v ∈ cs, v.oneCell' = true) :
    Calls Try.prog 35 #[v, .int .i64 i, .int .i64 ((i : Int) + 1)] w fun e w' =>
      ∃ v', e = .returned v' ∧ w'.ownsRow 0 3 1 v' (n - 1) (cs.take i ++ cs.drop (i + 1)) ∧ v'.ownBlock = v.ownBlock ∧ Kept (fun k => v.ownBlock = some k) w w' := by
  obtain ⟨ao, cap, rfl, hnc, hcm, hao⟩ := own_slice h
  rcases hao with ⟨rfl, rfl, rfl⟩ | ⟨g, rfl⟩
  · omega
  · have hd := delete_walk (j := i + 1) h (by omega) rfl h1c
    obtain ⟨cur, hh, hs, -, -, hg, -, hl, hc, hr, hz⟩ := own_open h
    rw [show ((i + 1 : Nat) : Int) = (i : Int) + 1 by omega, show i + (n - (i + 1)) = n - 1 by omega, show 0 + i * 1 = i by omega] at hd
    refine hd.mono ?_
    rintro e w' ⟨rfl, rfl⟩
    have hdl : (cs.drop (i + 1)).length = n - (i + 1) := by rw [List.length_drop, hl]; omega
    obtain ⟨c1, e1, s1⟩ := heap_setCells g (cs.drop (i + 1)) i w.drew cur 3 (0, 0) hh
    obtain ⟨c2, e2, s2⟩ := heap_setCells g [.int .i64 0] (n - 1) (w.drew.setCells g i (cs.drop (i + 1))) c1 3 (0, 0) e1
    refine ⟨_, rfl, own_of_cells c2 (Nat.zero_le _) e2 (by omega) hcm (by omega) (by simp only [List.length_append, List.length_take, hdl, hl]; omega) ?_, rfl, ?_⟩
    · intro j x hj
      have hjl : j < n - 1 := by
        have := (List.getElem?_eq_some_iff.1 hj).1
        simp only [List.length_append, List.length_take, hdl, hl] at this
        omega
      rw [World.cell?_setCells_out g _ _ _ ⟨g, j, none⟩ (fun _ _ => Or.inl hjl)]
      have ht : (cs.take i).length = i := by rw [List.length_take, hl]; omega
      rcases Nat.lt_or_ge j i with h1 | h1
      · rw [World.cell?_setCells_out g _ _ _ ⟨g, j, none⟩ (fun _ _ => Or.inl h1)]
        rw [List.getElem?_append_left (by omega), List.getElem?_take, if_pos h1] at hj
        exact hc j x hj
      · rw [List.getElem?_append_right (by omega), ht] at hj
        obtain ⟨hlt, rfl⟩ := List.getElem?_eq_some_iff.1 hj
        have := World.cell?_setCells_in g (cs.drop (i + 1)) i w.drew (fun t ht => hr _ (by omega)) (j - i) hlt
        rwa [show i + (j - i) = j by omega] at this
    · have k0 : Kept (fun k => Value.ownBlock (.slice (some ⟨g, 0, none⟩) n cap) = some k) w w.drew := (Kept.refl _ w).drew
      have k1 := Kept.setCells (S := fun k => Value.ownBlock (.slice (some ⟨g, 0, none⟩) n cap) = some k) g (fun _ => rfl) (cs.drop (i + 1)) i k0
      exact Kept.setCells (S := fun k => Value.ownBlock (.slice (some ⟨g, 0, none⟩) n cap) = some k) g (fun _ => rfl) _ (n - 1) k1

/-- The call of slices.Delete inside Del, and what the store behind it leaves. -/
theorem del_delete {w1 : World} {p g pp : Nat} {v : Value} {xs : List Int} (h : SetI w1 p g v xs) (hp : pp < xs.length) :
    Calls Try.prog 35 #[v, .int .i64 pp, .int .i64 ((pp : Int) + 1)] w1 fun e w3 =>
      ∃ ao n c v', v' = .slice ao n c ∧ e = .returned (.slice ao n c) ∧ w3.cell? ⟨p, 1, none⟩ = some v ∧ w3.frozen? ⟨p, 1, none⟩ = false ∧
        Hid (∀ {w : World}, Below w.heap.size w w1 → IsSet (w3.setCell ⟨p, 1, none⟩ v') 59 3 1 p (fnv g) v' (xs.length - 1) ((xs.map (Value.int .i64)).take pp ++ (xs.map (Value.int .i64)).drop (pp + 1)) ∧ Wrote w p v (w3.setCell ⟨p, 1, none⟩ v') v') := by
  refine (delete_spec h.own hp (one_ints xs)).mono ?_
  rintro e w3 ⟨v', rfl, o3, f3, k3⟩
  have hpl : p < w1.heap.size := h.lt p (.inl rfl)
  have hpb := k3.block p hpl h.apart
  have h3 : w3.heap[p]? = some (.cells #[fnv g, v] 59 (0, 0)) := by rw [hpb]; exact h.head
  obtain ⟨ao', cap', ev, -, -, -⟩ := own_slice o3
  refine ⟨_, _, _, v', ev, by rw [ev], by simp [World.cell?, h3], by simp [World.frozen?, h3], fun {w} hb => ⟨IsSet.store h hpb o3 (fun e => h.apart (by rw [← f3]; exact e)), ?_, fun k hk => .inl (by rw [← f3]; exact hk)⟩⟩
  have k1 : Kept (Foot p v) w w1 := kept_of_below hb
  exact (k1.trans k3 (fun i _ hi => .inr hi)).setCell ⟨p, 1, none⟩ v' (fun _ => .inl rfl)

set_option maxHeartbeats 1000000 in
theorem del_in {g : Nat} {cf : Int → Int → Int} (hf : CmpFn (Value.int .i64) g cf) {w : World} {p : Nat} {v : Value} {xs : List Int} (h : SetI w p g v xs) (hs : Sorted cf xs) (hn : xs.length ≤ 1048576) (x : Int) (hi : isIn cf x xs = true) :
    Calls Try.prog 15 #[.pointer (some ⟨p, 0, none⟩), .int .i64 x] w fun e w' => ∃ v', e = .returned (.bool true) ∧ SetI w' p g v' (cut cf x xs) ∧ Wrote w p v w' v' := by
  have hc := find_spec hf h hs hn x
  rw [hi] at hc
  have hpos : pos cf x xs < xs.length := isIn_pos hi
  have HP : Hid ((cut cf x xs).map (Value.int .i64) = (xs.map (Value.int .i64)).take (pos cf x xs) ++ (xs.map (Value.int .i64)).drop (pos cf x xs + 1)) := by
    unfold cut
    simp [Hid, List.map_take, List.map_drop]
  have HL : Hid ((cut cf x xs).length = xs.length - 1) := by have := cut_length hi; show _ = _; omega
  have HS : Hid (SetI w p g v xs) := h
  clear hf hi h hs
  generalize cut cf x xs = ys at HP HL ⊢
  generalize pos cf x xs = pp at hc hpos HP
  have hpp : pp ≤ 1048576 := by omega
  go_enter Try.func15, Try.ntmps15
  go_wp2_with (first
    | (go_at_call 33; refine hc.mono ?_; rintro e w1 ⟨rfl, hB⟩
       have S1 : Hid (SetI w1 p g v xs) := IsSet.below HS.out hB
       have c1 : w1.cell? ⟨p, 1, none⟩ = some v := S1.out.cell1
       have HI := del_delete S1.out hpos
       have HB : Hid (Below w.heap.size w w1) := hB
       clear hB)
    | (go_at_call 35; refine HI.mono ?_; rintro e w3 ⟨ao', n', cap', v', ev, rfl, c3, z3, F3⟩; subst ev))
  go_ret
  have S3 := F3.out HB.out
  rw [← HP.out, ← HL.out] at S3
  exact ⟨_, rfl, S3⟩

set_option maxHeartbeats 1000000 in
theorem del_out {g : Nat} {cf : Int → Int → Int} (hf : CmpFn (Value.int .i64) g cf) {w : World} {p : Nat} {v : Value} {xs : List Int} (h : SetI w p g v xs) (hs : Sorted cf xs) (hn : xs.length ≤ 1048576) (x : Int) (hi : isIn cf x xs = false) :
    Calls Try.prog 15 #[.pointer (some ⟨p, 0, none⟩), .int .i64 x] w fun e w' => e = .returned (.bool false) ∧ Below w.heap.size w w' := by
  have hc := find_spec hf h hs hn x
  rw [hi] at hc
  clear h hs hn hf hi
  generalize pos cf x xs = pp at hc
  go_enter Try.func15, Try.ntmps15
  go_wp2_with (go_at_call 33; refine hc.mono ?_; rintro e w' ⟨rfl, hB⟩)
  go_ret
  exact ⟨rfl, hB⟩

set_option maxHeartbeats 1000000 in
theorem del_nil (x : Int) (w : World) : Calls Try.prog 15 #[.pointer none, .int .i64 x] w fun e w' => e = .returned (.bool false) ∧ Below w.heap.size w w' := by
  have hc := find_nil x w
  go_enter Try.func15, Try.ntmps15
  go_wp2_with (go_at_call 33; refine hc.mono ?_; rintro e w' ⟨rfl, hB⟩)
  go_ret
  exact ⟨rfl, hB⟩

/-- Del: it is out. -/
theorem del_spec {g : Nat} {cf : Int → Int → Int} (hf : CmpFn (Value.int .i64) g cf) {w : World} {p : Nat} {v : Value} {xs : List Int} (h : SetI w p g v xs) (hs : Sorted cf xs) (hn : xs.length ≤ 1048576) (x : Int) :
    Calls Try.prog 15 #[.pointer (some ⟨p, 0, none⟩), .int .i64 x] w fun e w' => ∃ v', e = .returned (.bool (isIn cf x xs)) ∧ SetI w' p g v' (del cf x xs) ∧ Wrote w p v w' v' := by
  unfold del
  cases hi : isIn cf x xs with
  | false =>
    refine (del_out hf h hs hn x hi).mono ?_
    rintro e w' ⟨rfl, hB⟩
    exact ⟨v, rfl, IsSet.below h hB, Wrote.of_below hB⟩
  | true => exact del_in hf h hs hn x hi

end Go.Proofs.Ytdgdaldgchbbaaa
