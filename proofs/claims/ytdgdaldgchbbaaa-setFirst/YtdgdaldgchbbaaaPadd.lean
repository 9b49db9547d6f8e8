/-
  New, Add and List over pairs.
-/
import Derived.Test.YtdgdaldgchbbaaaPins
import Derived.Deep.RegionHeld
namespace Go.Proofs.Ytdgdaldgchbbaaa
open Go.RowKit Go.Shelf Go.Sort

theorem new_pair (w : World) : Calls Try.prog 23 #[.func (.func 24) #[] #[]] w fun e w' => e = .returned (.pointer (some ⟨w.heap.size, 0, none⟩)) ∧ w' = w.alloc (.cells #[.func (.func 24) #[] #[], .slice none 0 0] 66) := by
  have hq := eqfp 24
  go_enter Try.func23, Try.ntmps23
  go_wp2
  go_ret
  exact ⟨rfl, rfl⟩

theorem set_new_pair (w : World) : SetP (w.alloc (.cells #[.func (.func 24) #[] #[], .slice none 0 0] 66)) w.heap.size (.slice none 0 0) [] :=
  ⟨heap_alloc_new w _, World.ownsRow_nil _ _ _ _, fun h => by cases h⟩

theorem cells_put (x : Int × Int) (xs : List (Int × Int)) : cellsP (put cmpP x xs) = (cellsP xs).take (pos cmpP x xs * 2) ++ [.int .i64 x.1, .int .i64 x.2] ++ (cellsP xs).drop (pos cmpP x xs * 2) := by
  have hsplit : ∀ (ys zs : List (Int × Int)), cellsP (ys ++ zs) = cellsP ys ++ cellsP zs := fun ys zs => by unfold cellsP; rw [List.flatMap_append]
  have hp := pos_le cmpP x xs
  have htd : cellsP xs = cellsP (xs.take (pos cmpP x xs)) ++ cellsP (xs.drop (pos cmpP x xs)) := by rw [← hsplit, List.take_append_drop]
  have hl : (cellsP (xs.take (pos cmpP x xs))).length = pos cmpP x xs * 2 := by rw [cellsP_length, List.length_take, Nat.min_eq_left hp]
  unfold put
  rw [hsplit, htd, ← hl, List.take_left, List.drop_left]
  show _ ++ ([.int .i64 x.1, .int .i64 x.2] ++ cellsP _) = _
  rw [List.append_assoc]

set_option maxHeartbeats 1000000 in
theorem add_in_pair {w : World} {p : Nat} {v : Value} {xs : List (Int × Int)} (h : SetP w p v xs) (hs : Sorted cmpP xs) (hn : xs.length ≤ 1048576) (x1 x2 : Int) (hi : isIn cmpP (x1, x2) xs = true) :
    Calls Try.prog 25 #[.pointer (some ⟨p, 0, none⟩), .agg #[.int .i64 x1, .int .i64 x2]] w fun e w' => e = .returned (.bool false) ∧ Below w.heap.size w w' := by
  have hb := below_alloc w (.cells #[.int .i64 x1, .int .i64 x2] 44)
  have hc := find_pair (w := w.alloc (.cells #[.int .i64 x1, .int .i64 x2] 44)) (IsSet.below h hb) hs hn (x1, x2)
  rw [hi, show encP (x1, x2) = .agg #[.int .i64 x1, .int .i64 x2] from rfl] at hc
  have HB : Hid (Below w.heap.size w (w.alloc (.cells #[.int .i64 x1, .int .i64 x2] 44))) := hb
  clear h hs hn hi hb
  generalize pos cmpP (x1, x2) xs = pp at hc
  go_enter Try.func25, Try.ntmps25
  go_wp2_with (go_at_call 37; refine hc.mono ?_; rintro e w' ⟨rfl, hB⟩)
  go_ret
  exact ⟨rfl, below_step HB.out hB⟩

/-- The call of slices.Insert inside Add, and what the store behind it leaves. -/
theorem add_insert_pair {w1 W : World} {p pp : Nat} {v : Value} {xs : List (Int × Int)} (h : SetP w1 p v xs) (hp : pp ≤ xs.length) (hn : xs.length ≤ 1048576) (x1 x2 : Int) (hW : Below w1.heap.size w1 W) (hH : W.heap[w1.heap.size]? = some (.cells #[.int .i64 x1, .int .i64 x2] 44 (0, 0))) :
    Calls Try.prog 38 #[v, .int .i64 pp, .slice (some ⟨w1.heap.size, 0, none⟩) 1 1] W fun e w3 =>
      ∃ ao n c v', v' = .slice ao n c ∧ e = .returned (.slice ao n c) ∧ w3.cell? ⟨p, 1, none⟩ = some v ∧ w3.frozen? ⟨p, 1, none⟩ = false ∧
        Hid (∀ {w : World}, Below w.heap.size w w1 → IsSet (w3.setCell ⟨p, 1, none⟩ v') 66 44 2 p (fnv 24) v' (xs.length + 1) ((cellsP xs).take (pp * 2) ++ [.int .i64 x1, .int .i64 x2] ++ (cellsP xs).drop (pp * 2)) ∧ Wrote w p v (w3.setCell ⟨p, 1, none⟩ v') v') := by
  have ha : IsSet W 66 44 2 p (fnv 24) v xs.length (cellsP xs) := IsSet.below h hW
  refine (insert_spec_pair ha.own hH (fun e => ?_) hp hn (cellsP_one xs) rfl rfl).mono ?_
  · have := (h.own.lt _ e).2
    omega
  · rintro e w3 ⟨v', rfl, o3, f3, k3⟩
    have hpl : p < W.heap.size := ha.lt p (.inl rfl)
    have hpb := k3.block p hpl ha.apart
    have h3 : w3.heap[p]? = some (.cells #[fnv 24, v] 66 (0, 0)) := by rw [hpb]; exact ha.head
    obtain ⟨ao', cap', ev, -, -, -⟩ := own_slice o3
    refine ⟨_, _, _, v', ev, by rw [ev], by simp [World.cell?, h3], by simp [World.frozen?, h3], fun {w} hb => ⟨ha.store hpb o3 (fun e => ?_), ?_, ?_⟩⟩
    · rcases f3 p e with h1 | h1
      · exact ha.apart h1
      · omega
    · have k1 : Kept (Foot p v) w W := kept_of_below (below_step hb hW)
      exact (k1.trans k3 (fun i _ hi => .inr hi)).setCell ⟨p, 1, none⟩ v' (fun _ => .inl rfl)
    · intro k hk
      rcases f3 k hk with h1 | h1
      · exact .inl h1
      · have := hb.size
        have := hW.size
        exact .inr (by omega)

set_option maxHeartbeats 4000000 in
theorem add_out_pair {w : World} {p : Nat} {v : Value} {xs : List (Int × Int)} (h : SetP w p v xs) (hs : Sorted cmpP xs) (hn : xs.length ≤ 1048576) (x1 x2 : Int) (hi : isIn cmpP (x1, x2) xs = false) :
    Calls Try.prog 25 #[.pointer (some ⟨p, 0, none⟩), .agg #[.int .i64 x1, .int .i64 x2]] w fun e w' => ∃ v', e = .returned (.bool true) ∧ SetP w' p v' (put cmpP (x1, x2) xs) ∧ Wrote w p v w' v' := by
  have hb := below_alloc w (.cells #[.int .i64 x1, .int .i64 x2] 44)
  have hc := find_pair (w := w.alloc (.cells #[.int .i64 x1, .int .i64 x2] 44)) (IsSet.below h hb) hs hn (x1, x2)
  rw [hi, show encP (x1, x2) = .agg #[.int .i64 x1, .int .i64 x2] from rfl] at hc
  have HB : Hid (Below w.heap.size w (w.alloc (.cells #[.int .i64 x1, .int .i64 x2] 44))) := hb
  have HBX : Hid ((w.alloc (.cells #[.int .i64 x1, .int .i64 x2] 44)).cell? ⟨w.heap.size, 0, none⟩ = some (.int .i64 x1) ∧ (w.alloc (.cells #[.int .i64 x1, .int .i64 x2] 44)).cell? ⟨w.heap.size, 1, none⟩ = some (.int .i64 x2)) := by
    constructor
    · rw [World.cell?_alloc_at (w := w) _ _ w.heap.size _ rfl]; rfl
    · rw [World.cell?_alloc_at (w := w) _ _ w.heap.size _ rfl]; rfl
  have hpos : pos cmpP (x1, x2) xs ≤ xs.length := pos_le _ _ _
  have HP : Hid (cellsP (put cmpP (x1, x2) xs) = (cellsP xs).take (pos cmpP (x1, x2) xs * 2) ++ [.int .i64 x1, .int .i64 x2] ++ (cellsP xs).drop (pos cmpP (x1, x2) xs * 2)) := cells_put (x1, x2) xs
  have HL : Hid ((put cmpP (x1, x2) xs).length = xs.length + 1) := put_length
  have HS : Hid (SetP w p v xs) := h
  clear hi h hs hb
  generalize put cmpP (x1, x2) xs = ys at HP HL ⊢
  generalize pos cmpP (x1, x2) xs = pp at hc hpos HP
  go_enter Try.func25, Try.ntmps25
  go_upto_region 4 with (go_at_call 37; refine hc.mono ?_; rintro e w1 ⟨rfl, hB⟩)
  have HB1 : Hid (Below w.heap.size w w1) := below_step HB.out hB
  have S1 : Hid (SetP w1 p v xs) := IsSet.below HS.out HB1.out
  have c1 : w1.cell? ⟨p, 1, none⟩ = some v := S1.out.cell1
  have hp : p < w1.heap.size := S1.out.lt p (.inl rfl)
  have e0 : w1.cell? ⟨w.heap.size, 0, none⟩ = some (.int .i64 x1) := by rw [hB.cell (World.block_lt_of_cell? _ _ HBX.out.1)]; exact HBX.out.1
  have e1 : w1.cell? ⟨w.heap.size, 1, none⟩ = some (.int .i64 x2) := by rw [hB.cell (World.block_lt_of_cell? _ _ HBX.out.2)]; exact HBX.out.2
  have hbx : w.heap.size < w1.heap.size := World.block_lt_of_cell? _ _ e0
  have HI : Hid (∀ W, Below w1.heap.size w1 W → W.heap[w1.heap.size]? = some (.cells #[.int .i64 x1, .int .i64 x2] 44 (0, 0)) → Calls Try.prog 38 #[v, .int .i64 pp, .slice (some ⟨w1.heap.size, 0, none⟩) 1 1] W fun e w3 =>
      ∃ ao n c v', v' = .slice ao n c ∧ e = .returned (.slice ao n c) ∧ w3.cell? ⟨p, 1, none⟩ = some v ∧ w3.frozen? ⟨p, 1, none⟩ = false ∧
        Hid (∀ {w : World}, Below w.heap.size w w1 → IsSet (w3.setCell ⟨p, 1, none⟩ v') 66 44 2 p (fnv 24) v' (xs.length + 1) ((cellsP xs).take (pp * 2) ++ [.int .i64 x1, .int .i64 x2] ++ (cellsP xs).drop (pp * 2)) ∧ Wrote w p v (w3.setCell ⟨p, 1, none⟩ v') v')) := fun W hW hH => add_insert_pair S1.out hpos hn x1 x2 hW hH
  clear hB hc
  go_region_with (first
    | (go_at_call 38; refine (HI.out _ ?_ ?_).mono ?_
       first | exact (Below.refl _ _).drew.alloc (Nat.le_refl _) _ | exact ((Below.refl _ _).alloc (Nat.le_refl _) _).drew
       first | exact heap_alloc_new w1.drew _ | exact heap_alloc_new w1 _
       rintro e w3 ⟨ao', n', cap', v', ev, rfl, c3, z3, F3⟩; subst ev))
  all_goals go_wp2
  all_goals go_ret
  all_goals
    have S3 := F3.out HB1.out
    rw [← HP.out, ← HL.out] at S3
    exact ⟨_, rfl, S3⟩

/-- Add: it is in. -/
theorem add_spec_pair {w : World} {p : Nat} {v : Value} {xs : List (Int × Int)} (h : SetP w p v xs) (hs : Sorted cmpP xs) (hn : xs.length ≤ 1048576) (x1 x2 : Int) :
    Calls Try.prog 25 #[.pointer (some ⟨p, 0, none⟩), .agg #[.int .i64 x1, .int .i64 x2]] w fun e w' => ∃ v', e = .returned (.bool (!isIn cmpP (x1, x2) xs)) ∧ SetP w' p v' (ins cmpP (x1, x2) xs) ∧ Wrote w p v w' v' := by
  unfold ins
  cases hi : isIn cmpP (x1, x2) xs with
  | true =>
    refine (add_in_pair h hs hn x1 x2 hi).mono ?_
    rintro e w' ⟨rfl, hB⟩
    exact ⟨v, rfl, IsSet.below h hB, Wrote.of_below hB⟩
  | false => exact add_out_pair h hs hn x1 x2 hi

set_option maxHeartbeats 2000000 in
theorem clone_pair {w : World} {v : Value} {n : Nat} {cs : List Value} (h : w.ownsRow 0 44 2 v n cs) (hn : n ≤ 1048576) (h1 : ∀ u ∈ cs, u.oneCell' = true) :
    Calls Try.prog 39 #[v] w fun e w' => ∃ v', e = .returned v' ∧ w'.ownsRow w.heap.size 44 2 v' n cs ∧ Below w.heap.size w w' := by
  obtain ⟨i0, hi0, hz0, hz1, hz2⟩ := info_parts Try.info44
  have q47 : ∀ (w : World) (a : Option Addr) (n c n' c' : Nat), (binOp .eql 47 (.slice a n c) (.slice none n' c')).run Try.prog w = .ok (.bool a.isNone) w := fun w a n c n' c' => Lib.run_eql_slice_nil w _ _ a n c n' c' Try.underlying47
  obtain ⟨ao, cap, rfl, hnc, hcm, hao⟩ := own_slice h
  rcases hao with ⟨rfl, rfl, rfl⟩ | ⟨g, rfl⟩
  · have hcs : cs = [] := List.eq_nil_of_length_eq_zero (by simpa using h.1)
    subst hcs
    clear h
    go_enter Try.func39, Try.ntmps39
    go_wp2
    go_ret
    exact ⟨_, rfl, World.ownsRow_nil _ _ _ _, Below.refl _ _⟩
  · obtain ⟨cur, hh, hs, -, -, hg, -, hl, hc, -, -⟩ := own_open h
    have A : Hid (∀ j u, cs[j]? = some u → w.cell? ⟨g, j, none⟩ = some u) := hc
    clear h hc hh
    go_enter Try.func39, Try.ntmps39
    go_wp2_with (at_builtin; refine wpList_append_own _ rfl _ _ 47 rfl w.heap.size 44 i0 (.agg #[.int .i64 0, .int .i64 0]) 2 16 Try.underlying47 hi0 hz0 hz1 hz2 rfl (by decide) _ _ _ rfl (World.ownsRow_made w #[] 0 (Nat.le_refl _) (Nat.zero_le _) (by simp)) ⟨g, 0, none⟩ n cap cs rfl ?qc1 ?qc2 ?qc3 ?qc4 ?qc5 ?qc6 ?_)
    case qc1 => exact hl
    case qc2 =>
      intro j u hj
      rw [Addr.add_lit, Nat.zero_add]
      exact Lib.cell?_alloc_some _ (A.out j u hj)
    case qc3 => exact h1
    case qc4 => unfold maxLen; omega
    case qc5 => omega
    case qc6 => simp
    intro v' w1 hown hgrow hnil
    go_wp2
    go_ret
    refine ⟨v', rfl, by simpa using hown, ?_⟩
    exact ((Below.refl _ w).alloc (Nat.le_refl _) _).grown hgrow (by simp) (by intro k hk; simp [Value.ownBlock] at hk; omega)

set_option maxHeartbeats 1000000 in
theorem list_pair {w : World} {p : Nat} {v : Value} {xs : List (Int × Int)} (h : SetP w p v xs) (hn : xs.length ≤ 1048576) :
    Calls Try.prog 26 #[.pointer (some ⟨p, 0, none⟩)] w fun e w' => ∃ v', e = .returned v' ∧ w'.ownsRow w.heap.size 44 2 v' xs.length (cellsP xs) ∧ Below w.heap.size w w' := by
  have hc := clone_pair h.own hn (cellsP_one xs)
  have c1 := h.cell1
  clear h
  go_enter Try.func26, Try.ntmps26
  go_wp2_with (go_at_call 39; refine hc.mono ?_; rintro e w' ⟨v', rfl, X⟩)
  go_ret
  exact ⟨_, rfl, X⟩

end Go.Proofs.Ytdgdaldgchbbaaa
