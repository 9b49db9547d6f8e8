/-
  Add over numbers: the set with one more, unless one like it is in.
-/
import Derived.Test.YtdgdaldgchbbaaaFind
import Derived.Test.YtdgdaldgchbbaaaInsert
namespace Go.Proofs.Ytdgdaldgchbbaaa
open Go.RowKit Go.Shelf

/-- A set of numbers at block p, ordered by the function g. -/
def SetI (w : World) (p g : Nat) (v : Value) (xs : List Int) : Prop := IsSet w 59 3 1 p (fnv g) v xs.length (xs.map (Value.int .i64))

theorem one_ints (xs : List Int) : ∀ v ∈ xs.map (Value.int .i64), v.oneCell' = true := by
  intro v hv
  obtain ⟨x, _, rfl⟩ := List.mem_map.1 hv
  rfl

/-- What a call that writes into a set leaves. -/
structure Wrote (w : World) (p : Nat) (v : Value) (w' : World) (v' : Value) : Prop where
  kept : Kept (Foot p v) w w'
  fresh : ∀ k, v'.ownBlock = some k → v.ownBlock = some k ∨ w.heap.size ≤ k

theorem Wrote.refl (w : World) (p : Nat) (v : Value) : Wrote w p v w v := ⟨Kept.refl _ _, fun _ h => .inl h⟩
theorem Wrote.of_below {w w' : World} {p : Nat} {v : Value} (h : Below w.heap.size w w') : Wrote w p v w' v := ⟨kept_of_below h, fun _ h => .inl h⟩
theorem Wrote.trans {w w1 w2 : World} {p : Nat} {v v1 v2 : Value} (h : Wrote w p v w1 v1) (k : Wrote w1 p v1 w2 v2) : Wrote w p v w2 v2 := by
  refine ⟨h.kept.trans k.kept ?_, fun i hi => ?_⟩
  · rintro i hi (rfl | e)
    · exact .inl rfl
    · rcases h.fresh i e with h1 | h1
      · exact .inr h1
      · omega
  · rcases k.fresh i hi with h1 | h1
    · exact h.fresh i h1
    · exact .inr (Nat.le_trans h.kept.size h1)

theorem map_put (cf : Int → Int → Int) (x : Int) (xs : List Int) : (put cf x xs).map (Value.int .i64) = (xs.map (Value.int .i64)).take (pos cf x xs * 1) ++ [Value.int .i64 x] ++ (xs.map (Value.int .i64)).drop (pos cf x xs * 1) := by
  unfold put
  simp [List.map_take, List.map_drop]

set_option maxHeartbeats 1000000 in
theorem add_in {g : Nat} {cf : Int → Int → Int} (hf : CmpFn (Value.int .i64) g cf) {w : World} {p : Nat} {v : Value} {xs : List Int} (h : SetI w p g v xs) (hs : Sorted cf xs) (hn : xs.length ≤ 1048576) (x : Int) (hi : isIn cf x xs = true) :
    Calls Try.prog 13 #[.pointer (some ⟨p, 0, none⟩), .int .i64 x] w fun e w' => e = .returned (.bool false) ∧ Below w.heap.size w w' := by
  have hc := find_spec hf h hs hn x
  rw [hi] at hc
  clear h hs hn hf hi
  generalize pos cf x xs = pp at hc
  go_enter Try.func13, Try.ntmps13
  go_wp2_with (go_at_call 33; refine hc.mono ?_; rintro e w' ⟨rfl, hB⟩)
  go_ret
  exact ⟨rfl, hB⟩

/-- The call of slices.Insert inside Add, and what the store behind it leaves. -/
theorem add_insert {w1 : World} {p g pp : Nat} {v : Value} {xs : List Int} (h : SetI w1 p g v xs) (hp : pp ≤ xs.length) (hn : xs.length ≤ 1048576) (x : Int) :
    Calls Try.prog 34 #[v, .int .i64 pp, .slice (some ⟨w1.heap.size, 0, none⟩) 1 1] (w1.alloc (.cells #[.int .i64 x] 3)) fun e w3 =>
      ∃ ao n c v', v' = .slice ao n c ∧ e = .returned (.slice ao n c) ∧ w3.cell? ⟨p, 1, none⟩ = some v ∧ w3.frozen? ⟨p, 1, none⟩ = false ∧
        Hid (∀ {w : World}, SetI w p g v xs → Below w.heap.size w w1 → IsSet (w3.setCell ⟨p, 1, none⟩ v') 59 3 1 p (fnv g) v' (xs.length + 1) ((xs.map (Value.int .i64)).take (pp * 1) ++ [Value.int .i64 x] ++ (xs.map (Value.int .i64)).drop (pp * 1)) ∧ Wrote w p v (w3.setCell ⟨p, 1, none⟩ v') v') := by
  have ha : IsSet (w1.alloc (.cells #[.int .i64 x] 3)) 59 3 1 p (fnv g) v xs.length (xs.map (Value.int .i64)) := h.below ((Below.refl _ _).alloc (Nat.le_refl _) _)
  have hnew : (w1.alloc (.cells #[.int .i64 x] 3)).heap[w1.heap.size]? = some (.cells #[.int .i64 x] 3 (0, 0)) := heap_alloc_new w1 _
  refine (insert_spec ha.own hnew (fun e => ?_) hp hn (one_ints xs) rfl).mono ?_
  · have := (h.own.lt _ e).2
    omega
  · rintro e w3 ⟨v', rfl, o3, f3, k3⟩
    have hpl : p < (w1.alloc (.cells #[.int .i64 x] 3)).heap.size := ha.lt p (.inl rfl)
    have hpb := k3.block p hpl ha.apart
    have h3 : w3.heap[p]? = some (.cells #[fnv g, v] 59 (0, 0)) := by rw [hpb]; exact ha.head
    obtain ⟨ao', cap', ev, -, -, -⟩ := own_slice o3
    refine ⟨_, _, _, v', ev, by rw [ev], by simp [World.cell?, h3], by simp [World.frozen?, h3], fun {w} hs hb => ⟨ha.store hpb o3 (fun e => ?_), ?_, ?_⟩⟩
    · rcases f3 p e with h1 | h1
      · exact ha.apart h1
      · omega
    · have k1 : Kept (Foot p v) w (w1.alloc (.cells #[.int .i64 x] 3)) := (kept_of_below hb).alloc _
      exact (k1.trans k3 (fun i _ hi => .inr hi)).setCell ⟨p, 1, none⟩ v' (fun _ => .inl rfl)
    · intro k hk
      rcases f3 k hk with h1 | h1
      · exact .inl h1
      · have := hb.size
        simp at h1
        exact .inr (by omega)

set_option maxHeartbeats 1000000 in
theorem add_out {g : Nat} {cf : Int → Int → Int} (hf : CmpFn (Value.int .i64) g cf) {w : World} {p : Nat} {v : Value} {xs : List Int} (h : SetI w p g v xs) (hs : Sorted cf xs) (hn : xs.length ≤ 1048576) (x : Int) (hi : isIn cf x xs = false) :
    Calls Try.prog 13 #[.pointer (some ⟨p, 0, none⟩), .int .i64 x] w fun e w' => ∃ v', e = .returned (.bool true) ∧ SetI w' p g v' (put cf x xs) ∧ Wrote w p v w' v' := by
  have hc := find_spec hf h hs hn x
  rw [hi] at hc
  have hpos : pos cf x xs ≤ xs.length := pos_le _ _ _
  have hput := map_put cf x xs
  have hlen : (put cf x xs).length = xs.length + 1 := put_length
  have HS : Hid (SetI w p g v xs) := h
  have HP : Hid ((put cf x xs).map (Value.int .i64) = (xs.map (Value.int .i64)).take (pos cf x xs * 1) ++ [Value.int .i64 x] ++ (xs.map (Value.int .i64)).drop (pos cf x xs * 1)) := hput
  have HL : Hid ((put cf x xs).length = xs.length + 1) := hlen
  clear hput hlen hf hi h hs
  generalize put cf x xs = ys at HP HL ⊢
  generalize pos cf x xs = pp at hc hpos HP
  go_enter Try.func13, Try.ntmps13
  go_wp2_with (first
    | (go_at_call 33; refine hc.mono ?_; rintro e w1 ⟨rfl, hB⟩
       have S1 : Hid (SetI w1 p g v xs) := IsSet.below HS.out hB
       have c1 : w1.cell? ⟨p, 1, none⟩ = some v := S1.out.cell1
       have hp : p < w1.heap.size := S1.out.lt p (.inl rfl)
       have HI := add_insert S1.out hpos hn x
       have HB : Hid (Below w.heap.size w w1) := hB
       clear hB)
    | (go_at_call 34; refine HI.mono ?_; rintro e w3 ⟨ao', n', cap', v', ev, rfl, c3, z3, F3⟩; subst ev))
  go_ret
  have S3 := F3.out HS.out HB.out
  rw [← HP.out, ← HL.out] at S3
  exact ⟨_, rfl, S3⟩

/-- Add: it is in. -/
theorem add_spec {g : Nat} {cf : Int → Int → Int} (hf : CmpFn (Value.int .i64) g cf) {w : World} {p : Nat} {v : Value} {xs : List Int} (h : SetI w p g v xs) (hs : Sorted cf xs) (hn : xs.length ≤ 1048576) (x : Int) :
    Calls Try.prog 13 #[.pointer (some ⟨p, 0, none⟩), .int .i64 x] w fun e w' => ∃ v', e = .returned (.bool (!isIn cf x xs)) ∧ SetI w' p g v' (ins cf x xs) ∧ Wrote w p v w' v' := by
  unfold ins
  cases hi : isIn cf x xs with
  | true =>
    refine (add_in hf h hs hn x hi).mono ?_
    rintro e w' ⟨rfl, hB⟩
    exact ⟨v, rfl, IsSet.below h hB, Wrote.of_below hB⟩
  | false => exact add_out hf h hs hn x hi

set_option maxHeartbeats 1000000 in
theorem add_nil (x : Int) (w : World) : Calls Try.prog 13 #[.pointer none, .int .i64 x] w fun e w' => e = .returned (.bool false) ∧ Below w.heap.size w w' := by
  have hc := find_nil x w
  go_enter Try.func13, Try.ntmps13
  go_wp2_with (go_at_call 33; refine hc.mono ?_; rintro e w' ⟨rfl, hB⟩)
  go_ret
  exact ⟨rfl, hB⟩

set_option maxHeartbeats 1000000 in
theorem has_spec {g : Nat} {cf : Int → Int → Int} (hf : CmpFn (Value.int .i64) g cf) {w : World} {p : Nat} {v : Value} {xs : List Int} (h : SetI w p g v xs) (hs : Sorted cf xs) (hn : xs.length ≤ 1048576) (x : Int) :
    Calls Try.prog 20 #[.pointer (some ⟨p, 0, none⟩), .int .i64 x] w fun e w' => e = .returned (.bool (isIn cf x xs)) ∧ Below w.heap.size w w' := by
  have hc := find_spec hf h hs hn x
  clear h hs hn hf
  generalize pos cf x xs = pp at hc
  generalize isIn cf x xs = qq at hc ⊢
  go_enter Try.func20, Try.ntmps20
  go_wp2_with (go_at_call 33; refine hc.mono ?_; rintro e w' ⟨rfl, hB⟩)
  go_ret
  exact ⟨rfl, hB⟩

set_option maxHeartbeats 1000000 in
theorem has_nil (x : Int) (w : World) : Calls Try.prog 20 #[.pointer none, .int .i64 x] w fun e w' => e = .returned (.bool false) ∧ Below w.heap.size w w' := by
  have hc := find_nil x w
  go_enter Try.func20, Try.ntmps20
  go_wp2_with (go_at_call 33; refine hc.mono ?_; rintro e w' ⟨rfl, hB⟩)
  go_ret
  exact ⟨rfl, hB⟩

theorem len_spec {g : Nat} {w : World} {p : Nat} {v : Value} {xs : List Int} (h : SetI w p g v xs) : Calls Try.prog 19 #[.pointer (some ⟨p, 0, none⟩)] w fun e w' => e = .returned (.int .i64 (xs.length : Nat)) ∧ w' = w := by
  obtain ⟨ao, cap, rfl, hnc, hcm, -⟩ := own_slice h.own
  have hm : cap ≤ 9223372036854775807 := by unfold maxLen at hcm; omega
  have c1 := h.cell1
  clear h hcm
  generalize xs.length = n at c1 hnc ⊢
  go_enter Try.func19, Try.ntmps19
  go_wp2
  go_ret
  exact ⟨rfl, rfl⟩

theorem len_nil (w : World) : Calls Try.prog 19 #[.pointer none] w fun e w' => e = .returned (.int .i64 0) ∧ w' = w := by
  go_enter Try.func19, Try.ntmps19
  go_wp2
  go_ret
  exact ⟨rfl, rfl⟩

set_option maxHeartbeats 1000000 in
theorem at_in {g : Nat} {w : World} {p : Nat} {v : Value} {xs : List Int} (h : SetI w p g v xs) (i : Int) (h0 : 0 ≤ i) (h1 : i < xs.length) :
    Calls Try.prog 18 #[.pointer (some ⟨p, 0, none⟩), .int .i64 i] w fun e w' => e = .returned (.tuple #[.int .i64 (xs[i.toNat]?.getD 0), .bool true]) ∧ w' = w := by
  have hl := len_spec h
  obtain ⟨ao, cap, rfl, seg, -⟩ := Seg.owned (d := 0) h.own
  have c1 := h.cell1
  obtain ⟨b, off, rfl, hb, hcell⟩ := seg.at (by omega)
  have hc := hcell i.toNat (by omega)
  clear h seg hcell
  generalize xs[i.toNat]?.getD 0 = y at hc ⊢
  generalize xs.length = n at c1 h1 hl
  obtain ⟨k, rfl⟩ : ∃ k : Nat, i = k := ⟨i.toNat, by omega⟩
  rw [Int.toNat_natCast] at hc
  have ht1 : ¬ ((k : Int) < 0) := by omega
  have ht2 : ¬ ((n : Int) ≤ (k : Int)) := by omega
  go_enter Try.func18, Try.ntmps18
  go_wp2_with (go_at_call 19; refine hl.mono ?_; rintro e w' ⟨rfl, rfl⟩)
  go_ret2
  exact ⟨rfl, rfl⟩

set_option maxHeartbeats 1000000 in
theorem at_out {g : Nat} {w : World} {p : Nat} {v : Value} {xs : List Int} (h : SetI w p g v xs) (i : Int) (ho : ¬ (0 ≤ i ∧ i < xs.length)) :
    Calls Try.prog 18 #[.pointer (some ⟨p, 0, none⟩), .int .i64 i] w fun e w' => e = .returned (.tuple #[.int .i64 0, .bool false]) ∧ w' = w := by
  have hl := len_spec h
  clear h
  generalize xs.length = n at hl ho
  go_enter Try.func18, Try.ntmps18
  by_cases h1 : i < 0
  · go_wp2_with (go_at_call 19; refine hl.mono ?_; rintro e w' ⟨rfl, rfl⟩)
    go_ret2
    exact ⟨rfl, rfl⟩
  · have h2 : (n : Int) ≤ i := by omega
    go_wp2_with (go_at_call 19; refine hl.mono ?_; rintro e w' ⟨rfl, rfl⟩)
    go_ret2
    exact ⟨rfl, rfl⟩

set_option maxHeartbeats 1000000 in
theorem at_nil (w : World) (i : Int) : Calls Try.prog 18 #[.pointer none, .int .i64 i] w fun e w' => e = .returned (.tuple #[.int .i64 0, .bool false]) ∧ w' = w := by
  have hl := len_nil w
  go_enter Try.func18, Try.ntmps18
  by_cases h1 : i < 0
  · go_wp2_with (go_at_call 19; refine hl.mono ?_; rintro e w' ⟨rfl, rfl⟩)
    go_ret2
    exact ⟨rfl, rfl⟩
  · have h2 : (0 : Int) ≤ i := by omega
    go_wp2_with (go_at_call 19; refine hl.mono ?_; rintro e w' ⟨rfl, rfl⟩)
    go_ret2
    exact ⟨rfl, rfl⟩

/-- At: the i-th. -/
theorem at_spec {g : Nat} {w : World} {p : Nat} {v : Value} {xs : List Int} (h : SetI w p g v xs) (i : Int) :
    Calls Try.prog 18 #[.pointer (some ⟨p, 0, none⟩), .int .i64 i] w fun e w' => e = .returned (.tuple #[.int .i64 (if 0 ≤ i ∧ i < xs.length then xs[i.toNat]?.getD 0 else 0), .bool (decide (0 ≤ i ∧ i < xs.length))]) ∧ w' = w := by
  by_cases hi : 0 ≤ i ∧ i < xs.length
  · rw [if_pos hi, decide_eq_true hi]
    exact at_in h i hi.1 hi.2
  · rw [if_neg hi, decide_eq_false hi]
    exact at_out h i hi

end Go.Proofs.Ytdgdaldgchbbaaa
