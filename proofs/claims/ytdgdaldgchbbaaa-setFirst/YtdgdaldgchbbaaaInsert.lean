/-
  slices.Insert of one number into a slice that the call owns: the list with one more.
-/
import Derived.Test.YtdgdaldgchbbaaaMove
import Derived.Laws.Externs
namespace Go.Proofs.Ytdgdaldgchbbaaa
open Go.RowKit

theorem kept_one {g cap n : Nat} : ∀ k, Value.ownBlock (.slice (some ⟨g, 0, none⟩) n cap) = some k → k = g := fun k hk => by
  simp [Value.ownBlock] at hk; exact hk.symm

set_option maxHeartbeats 4000000 in
set_option maxRecDepth 100000 in
theorem insert_shift {w : World} {g n cap i vb : Nat} {cs : List Value} {u : Value} (h : w.ownsRow 0 3 1 (.slice (some ⟨g, 0, none⟩) n cap) n cs) (hv : w.heap[vb]? = some (.cells #[u] 3 (0, 0))) (hne : vb ≠ g)
    (hi : i < n) (hroom : n + 1 ≤ cap) (h1c : ∀ v ∈ cs, v.oneCell' = true) (h1u : u.oneCell' = true) :
    Calls Try.prog 34 #[.slice (some ⟨g, 0, none⟩) n cap, .int .i64 i, .slice (some ⟨vb, 0, none⟩) 1 1] w fun e w' =>
      e = .returned (.slice (some ⟨g, 0, none⟩) (n + 1) cap) ∧ w' = (w.drew.setCells g (i + 1) (cs.drop i)).setCells g i [u] := by
  obtain ⟨cur, hh, hs, hnc, hm, hg, -, hl, hc, hr, hz⟩ := own_open h
  rw [Nat.mul_one] at hl hs
  have hm' : cap ≤ 9223372036854775807 := by unfold maxLen at hm; omega
  have hw1 : IntKind.i64.wrap ((i : Int) + 1) = (i : Int) + 1 := by rw [IntKind.wrap_i64]; omega
  have hb1 : (0 : Int) ≤ (i : Int) + 1 := by omega
  have hin : i ≤ n := by omega
  have htn : ((i : Int) + 1).toNat = i + 1 := by omega
  have hb3 : (i : Int) ≤ (n : Int) + 1 := by omega
  have hcv : w.cell? ⟨vb, 0, none⟩ = some u := by simp [World.cell?, hv]
  have hinfo : (Try.prog.info? 3).map (·.size) = some 1 := by
    obtain ⟨i0, hi0, _, hz1, _⟩ := info_parts Try.info3
    rw [hi0]; simp [hz1]
  have hov : ∀ lb cb, (callFunc 45 #[.slice (some ⟨vb, 0, none⟩) 1 1, .slice (some ⟨g, i + 1, none⟩) lb cb]).run Try.prog w = .ok (.value (.bool false)) w := fun lb cb => by
    rw [run_callFunc_extern Try.func45 (by kernel_rfl) (by kernel_rfl) (by kernel_rfl) (e := Extern.SlicesOverlaps.overlaps #[27, 27] #[4]) (by kernel_rfl),
      Lib.run_overlaps_apart w 27 4 3 Try.underlying27 1 (fun _ => by kernel_rfl) ⟨vb, 0, none⟩ ⟨g, i + 1, none⟩ 1 1 lb cb hne 3 3 1 cur.size (by simp [World.shape?, hv]) (by simp [World.shape?, hh]) (by omega) (by simp [World.frozen?, hv]) (by simp [World.frozen?, hv])]
    rfl
  have hdl : (cs.drop i).length = n - i := by rw [List.length_drop, hl]
  have hb2 : ¬ (cap = i + 1) := by omega
  have hb4 : ¬ (cap = i) := by omega
  have hcp1 : ∀ ty dc sc, (Builtin.copy_ #[27, 27] ty #[.slice (some ⟨g, i + 1, none⟩) (n - i) dc, .slice (some ⟨g, i, none⟩) (n + 1 - i) sc]).run Try.prog w.drew = .ok (goInt (n - i : Nat)) (w.drew.setCells g (i + 1) (cs.drop i)) := fun ty dc sc =>
    run_copy_many w.drew _ _ ty 3 1 g (i + 1) (n - i) dc ⟨g, i, none⟩ (n + 1 - i) sc (cs.drop i) Try.underlying27 hinfo (n - i) (by simp only [Nat.min_def]; split <;> omega) (by rw [hdl, Nat.mul_one])
      (fun j v hj => by rw [Addr.add_lit]; exact hc (i + j) v (by rwa [List.getElem?_drop] at hj))
      (fun j hj => hr _ (by omega)) (fun j hj => hz _) (fun v hv => h1c v (List.mem_of_mem_drop hv))
  obtain ⟨W1, hW1⟩ : ∃ W1, W1 = w.drew.setCells g (i + 1) (cs.drop i) := ⟨_, rfl⟩
  have hcp2 : ∀ ty dc, (Builtin.copy_ #[27, 27] ty #[.slice (some ⟨g, i, none⟩) (n + 1 - i) dc, .slice (some ⟨vb, 0, none⟩) 1 1]).run Try.prog W1 = .ok (goInt (1 : Nat)) (W1.setCells g i [u]) := fun ty dc =>
    run_copy_many W1 _ _ ty 3 1 g i (n + 1 - i) dc ⟨vb, 0, none⟩ 1 1 [u] Try.underlying27 hinfo 1 (by simp only [Nat.min_def]; split <;> omega) rfl
      (fun j v hj => by
        obtain ⟨hj1, rfl⟩ := List.getElem?_eq_some_iff.1 hj
        obtain rfl : j = 0 := by simpa using hj1
        rw [Addr.add_lit, hW1, World.cell?_setCells_out g _ _ _ _ (fun h _ => absurd h hne)]
        exact hcv)
      (fun j hj => by rw [hW1]; exact isSome_setCells g (cs.drop i) (i + 1) w.drew (fun t ht => hr (i + 1 + t) (by omega)) _ (hr (i + j) (by simp at hj; omega)))
      (fun j hj => by rw [hW1, World.frozen?_setCells]; exact hz _) (fun v hv => by simp at hv; subst hv; exact h1u)
  rw [← hW1] at hcp1 ⊢
  clear hc hr hz hs hl hcv hW1
  go_enter Try.func34, Try.ntmps34
  go_wp2_with (simp only [hov])
  go_region_law (refine step_copy_known rfl _ _ 27 27 rfl _ _ (by simp [Act.eval, Act.put]) (by simp [Act.eval, Act.put]) (hcp1 _ _ _) ?_)
  go_wp2_with (at_builtin; refine wpList_copy_known _ rfl _ _ 27 27 rfl _ _ rfl rfl (hcp2 _ _) ?_)
  go_ret
  exact ⟨rfl, rfl⟩

set_option maxHeartbeats 4000000 in
set_option maxRecDepth 100000 in
/-- In the middle, no room: a new row. -/
theorem insert_grow {w : World} {g n cap i vb : Nat} {cs : List Value} {u : Value} (h : w.ownsRow 0 3 1 (.slice (some ⟨g, 0, none⟩) n cap) n cs) (hv : w.heap[vb]? = some (.cells #[u] 3 (0, 0)))
    (hi : i < n) (hroom : cap < n + 1) (hn : n ≤ 1048576) (h1c : ∀ v ∈ cs, v.oneCell' = true) (h1u : u.oneCell' = true) :
    Calls Try.prog 34 #[.slice (some ⟨g, 0, none⟩) n cap, .int .i64 i, .slice (some ⟨vb, 0, none⟩) 1 1] w fun e w' =>
      ∃ v', e = .returned v' ∧ w'.ownsRow 0 3 1 v' (n + 1) (cs.take i ++ [u] ++ cs.drop i) ∧ v'.ownBlock = some w.heap.size ∧ Below w.heap.size w w' := by
  obtain ⟨cur, hh, hs, hnc, hm, hg, -, hl, hc, hr, hz⟩ := own_open h
  rw [Nat.mul_one] at hl hs
  obtain ⟨i0, hi0, hz0, hz1, hz2⟩ := info_parts Try.info3
  have hinfo : (Try.prog.info? 3).map (·.size) = some 1 := by rw [hi0]; simp [hz1]
  have hcv : w.cell? ⟨vb, 0, none⟩ = some u := by simp [World.cell?, hv]
  have hvw : vb < w.heap.size := (Array.getElem?_eq_some_iff.1 hv).1
  have hkk : (n : Int) + 1 - (i : Int) = ((n + 1 - i : Nat) : Int) := by omega
  have hik : i + (n + 1 - i) = n + 1 := by omega
  have hold : (Builtin.firstCells i0.size i (.slice (some ⟨g, 0, none⟩) i cap)).run Try.prog w.drew = .ok (cs.take i).toArray w.drew := by
    rw [hz1]
    exact run_firstCells_some w.drew 1 i ⟨g, 0, none⟩ i cap (cs.take i) (by rw [List.length_take]; omega) (fun j v hj => by
      rw [Addr.add_lit, Nat.zero_add]
      rw [List.getElem?_take] at hj
      split at hj
      · exact hc j v hj
      · cases hj)
  have hrz : ∀ ty, (Builtin.append_ #[27, 3] ty #[.slice (some ⟨g, 0, none⟩) i cap, .int .i64 ((n : Int) + 1 - (i : Int))]).run Try.prog w =
      .ok (.slice (some ⟨w.heap.size, 0, none⟩) (n + 1) (grownCap w (n + 1) cap 3)) (w.drew.alloc (.cells ((cs.take i).toArray ++ Builtin.zeroCells (Value.int .i64 0).cells (n + 1 - i) ++ Builtin.zeroCells (Value.int .i64 0).cells (grownCap w (n + 1) cap 3 - (n + 1))) 3)) := fun ty => by
    have h := Lib.run_append_grow_zeros w 27 3 ty 3 i0 _ .i64 .i64 Try.underlying27 Try.underlying3 hi0 hz0 (some ⟨g, 0, none⟩) i cap (cs.take i) hold (n + 1 - i) (by omega) (by omega) (by omega) (by omega) (by rw [hz2]; omega) (by rw [hz2, hik]; exact growslice_fits (by omega) (by omega))
    rw [hik] at h
    rw [hkk]
    exact h
  have hGn : n + 1 ≤ grownCap w (n + 1) cap 3 := grownCap_ge w _ _ _
  have hG63 : grownCap w (n + 1) cap 3 ≤ maxLen := grownCap_le_maxLen w (n + 1) cap 3 (by unfold maxLen; omega)
  generalize grownCap w (n + 1) cap 3 = G at hrz hGn hG63
  obtain ⟨ROW, hROW⟩ : ∃ ROW : Array Value, ROW = (cs.take i).toArray ++ Builtin.zeroCells (Value.int .i64 0).cells (n + 1 - i) ++ Builtin.zeroCells (Value.int .i64 0).cells (G - (n + 1)) := ⟨_, rfl⟩
  rw [← hROW] at hrz
  have hRl : ROW.size = G := by
    rw [hROW]
    simp [Builtin.zeroCells, Value.cells]
    omega
  have hRc : ∀ j u, j < i → cs[j]? = some u → ROW[j]? = some u := fun j u hj he => by
    have hlt : j < (cs.take i).length := by rw [List.length_take]; omega
    rw [hROW, Array.append_assoc, Array.getElem?_append_left (by simpa using hlt)]
    simp [hj, he]
  obtain ⟨W1, hW1⟩ : ∃ W1, W1 = w.drew.alloc (.cells ROW 3) := ⟨_, rfl⟩
  rw [← hW1] at hrz
  have hN : ∀ j, j < n + 1 → (W1.cell? ⟨w.heap.size, j, none⟩).isSome = true := fun j hj => by
    rw [hW1, World.cell?_alloc_at (w := w.drew) ROW _ w.heap.size j rfl, Array.getElem?_eq_getElem (by omega)]; rfl
  have hNc : ∀ j u, j < i → cs[j]? = some u → W1.cell? ⟨w.heap.size, j, none⟩ = some u := fun j u hj he => by
    rw [hW1, World.cell?_alloc_at (w := w.drew) ROW _ w.heap.size j rfl]; exact hRc j u hj he
  have hNf : ∀ j, W1.frozen? ⟨w.heap.size, j, none⟩ = false := fun j => by rw [hW1]; exact World.frozen?_alloc_at (w := w.drew) ROW _ w.heap.size j rfl
  have hOb : ∀ j v, w.cell? ⟨g, j, none⟩ = some v → W1.cell? ⟨g, j, none⟩ = some v := fun j v h => by rw [hW1, World.cell?_alloc_past (w := w.drew) _ g j hg]; exact h
  have hOv : W1.cell? ⟨vb, 0, none⟩ = some u := by rw [hW1, World.cell?_alloc_past (w := w.drew) _ vb 0 hvw]; exact hcv
  have hHp : W1.heap[w.heap.size]? = some (.cells ROW 3 (0, 0)) := by rw [hW1]; exact heap_alloc_new w.drew _
  have hB1 : Below w.heap.size w W1 := by rw [hW1]; exact (Below.refl _ _).drew.alloc (Nat.le_refl _) _
  clear hW1
  have hcpA : ∀ ty dc, (Builtin.copy_ #[27, 27] ty #[.slice (some ⟨w.heap.size, i, none⟩) (n + 1 - i) dc, .slice (some ⟨vb, 0, none⟩) 1 1]).run Try.prog W1 = .ok (goInt (1 : Nat)) (W1.setCells w.heap.size i [u]) := fun ty dc =>
    run_copy_many W1 _ _ ty 3 1 w.heap.size i (n + 1 - i) dc ⟨vb, 0, none⟩ 1 1 [u] Try.underlying27 hinfo 1 (by simp only [Nat.min_def]; split <;> omega) rfl
      (fun j v hj => by
        obtain ⟨hj1, rfl⟩ := List.getElem?_eq_some_iff.1 hj
        obtain rfl : j = 0 := by simpa using hj1
        rw [Addr.add_lit]
        exact hOv)
      (fun j hj => hN _ (by simp at hj; omega)) (fun j hj => hNf _) (fun v hv => by simp at hv; subst hv; exact h1u)
  have hdl : (cs.drop i).length = n - i := by rw [List.length_drop, hl]
  have hgN : g ≠ w.heap.size := by omega
  obtain ⟨W2, hW2⟩ : ∃ W2, W2 = W1.setCells w.heap.size i [u] := ⟨_, rfl⟩
  rw [← hW2] at hcpA
  have hcpB : ∀ ty dc sc, (Builtin.copy_ #[27, 27] ty #[.slice (some ⟨w.heap.size, i + 1, none⟩) (n - i) dc, .slice (some ⟨g, i, none⟩) (n - i) sc]).run Try.prog W2.drew = .ok (goInt (n - i : Nat)) (W2.drew.setCells w.heap.size (i + 1) (cs.drop i)) := fun ty dc sc =>
    run_copy_many W2.drew _ _ ty 3 1 w.heap.size (i + 1) (n - i) dc ⟨g, i, none⟩ (n - i) sc (cs.drop i) Try.underlying27 hinfo (n - i) (by simp only [Nat.min_def]; split <;> omega) (by rw [hdl, Nat.mul_one])
      (fun j v hj => by
        show W2.cell? _ = _
        rw [Addr.add_lit, hW2, World.cell?_setCells_out _ _ _ _ _ (fun h _ => absurd h hgN)]
        exact hOb _ v (hc (i + j) v (by rwa [List.getElem?_drop] at hj)))
      (fun j hj => by
        show (W2.cell? _).isSome = true
        rw [hW2]; exact isSome_setCells w.heap.size [u] i W1 (fun t ht => hN (i + t) (by simp at ht; omega)) (i + 1 + j) (hN (i + 1 + j) (by omega)))
      (fun j hj => by
        show W2.frozen? _ = false
        rw [hW2, World.frozen?_setCells]; exact hNf _) (fun v hv => h1c v (List.mem_of_mem_drop hv))
  have hin : i ≤ n := by omega
  have hb3 : (i : Int) ≤ (n : Int) := by omega
  have hGi : ¬ (G = i) := by omega
  have hGim : ¬ (G = i + 1) := by omega
  have hci : ¬ (cap = i) := by omega
  have hw1 : IntKind.i64.wrap ((i : Int) + 1) = (i : Int) + 1 := by rw [IntKind.wrap_i64]; omega
  have hb1 : (0 : Int) ≤ (i : Int) + 1 := by omega
  have htn : ((i : Int) + 1).toNat = i + 1 := by omega
  have hG63' : G ≤ 9223372036854775807 := by unfold maxLen at hG63; omega
  have FIN : Hid ((W2.drew.setCells w.heap.size (i + 1) (cs.drop i)).ownsRow 0 3 1 (.slice (some ⟨w.heap.size, 0, none⟩) (n + 1) G) (n + 1) (cs.take i ++ [u] ++ cs.drop i) ∧ Below w.heap.size w (W2.drew.setCells w.heap.size (i + 1) (cs.drop i))) := by
    rw [hW2]
    obtain ⟨c1, e1, s1⟩ := heap_setCells w.heap.size [u] i W1 ROW 3 (0, 0) hHp
    obtain ⟨c2, e2, s2⟩ := heap_setCells w.heap.size (cs.drop i) (i + 1) (W1.setCells w.heap.size i [u]).drew c1 3 (0, 0) e1
    refine ⟨own_of_cells c2 (Nat.zero_le _) e2 hGn hG63 (by omega) (by simp only [List.length_append, List.length_take, List.length_drop, List.length_cons, List.length_nil]; omega) ?_, ?_⟩
    · intro j x hj
      have := cells_laid (w := W1) (b := w.heap.size) (s := i) (m := 1) (cs := cs) (us := [u]) rfl (by omega) hNc (fun j hj => hN j (by omega)) j x hj
      rw [← drew_setCells]
      exact this
    · have k0 : Kept (fun k => w.heap.size ≤ k) w W1 := kept_of_below hB1
      have k1 := (Kept.setCells w.heap.size (fun h => absurd h (Nat.lt_irrefl _)) [u] i k0).drew
      exact (Kept.setCells w.heap.size (fun h => absurd h (Nat.lt_irrefl _)) (cs.drop i) (i + 1) k1).below (Nat.le_refl _) (fun k h1 h2 => by omega)
  clear hkk hik hold hROW hRl hRc hN hNc hNf hOb hOv hHp hB1 hW2 hc hr hz hs hl hcv hG63 hinfo hi0 hz0 hz1 hz2 hh h
  go_enter Try.func34, Try.ntmps34
  go_wp2_with (first
    | (at_builtin; refine Lib.wpList_append_run _ rfl _ _ _ _ rfl _ _ rfl rfl _ _ (hrz _) ?_)
    | (at_builtin; refine wpList_copy_known _ rfl _ _ 27 27 rfl _ _ rfl rfl (hcpA _ _) ?_))
  go_region_law (refine step_copy_known rfl _ _ 27 27 rfl _ _ (by simp [Act.eval, Act.put]) (by simp [Act.eval, Act.put]) (hcpB _ _ _) ?_)
  go_wp2
  go_ret
  exact ⟨_, rfl, FIN.out.1, rfl, FIN.out.2⟩

set_option maxHeartbeats 4000000 in
set_option maxRecDepth 100000 in
/-- Behind the last one. -/
theorem insert_end {w : World} {v u : Value} {n vb : Nat} {cs : List Value} (h : w.ownsRow 0 3 1 v n cs) (hv : w.heap[vb]? = some (.cells #[u] 3 (0, 0))) (hn : n ≤ 1048576) (h1u : u.oneCell' = true) :
    Calls Try.prog 34 #[v, .int .i64 n, .slice (some ⟨vb, 0, none⟩) 1 1] w fun e w' =>
      ∃ v', e = .returned v' ∧ w'.ownsRow 0 3 1 v' (n + 1) (cs ++ [u]) ∧ (∀ k, v'.ownBlock = some k → v.ownBlock = some k ∨ w.heap.size ≤ k) ∧ Kept (fun k => v.ownBlock = some k) w w' := by
  obtain ⟨i0, hi0, hz0, hz1, hz2⟩ := info_parts Try.info3
  have hcv : w.cell? ⟨vb, 0, none⟩ = some u := by simp [World.cell?, hv]
  have hnews : ∀ j x, [u][j]? = some x → w.cell? ((⟨vb, 0, none⟩ : Addr).add j) = some x := fun j x hj => by
    obtain ⟨hj1, rfl⟩ := List.getElem?_eq_some_iff.1 hj
    obtain rfl : j = 0 := by simpa using hj1
    rw [Addr.add_lit]
    exact hcv
  obtain ⟨v', w', hr, h2, h3, h4⟩ := append_known w 27 27 3 i0 _ 1 8 Try.underlying27 hi0 hz0 hz1 hz2 rfl (by decide) v n cs h ⟨vb, 0, none⟩ 1 1 [u] rfl hnews (fun x hx => by simp at hx; subst hx; exact h1u) (by unfold maxLen; omega) (by omega)
  have FIN : Hid (w'.ownsRow 0 3 1 v' (n + 1) (cs ++ [u]) ∧ (∀ k, v'.ownBlock = some k → v.ownBlock = some k ∨ w.heap.size ≤ k) ∧ Kept (fun k => v.ownBlock = some k) w w') := ⟨h2, h4, h3⟩
  obtain ⟨ao, cap, rfl, hnc, hcm, hao⟩ := own_slice h
  clear hnews hcv hv h h2 h3 h4 hi0 hz0 hz1 hz2 hcm
  rcases hao with ⟨rfl, rfl, rfl⟩ | ⟨g, rfl⟩
  · go_enter Try.func34, Try.ntmps34
    go_wp2_with (at_builtin; refine Lib.wpList_append_run _ rfl _ _ _ _ rfl _ _ rfl rfl _ _ hr ?_)
    go_ret
    exact ⟨_, rfl, FIN.out⟩
  · go_enter Try.func34, Try.ntmps34
    go_wp2_with (at_builtin; refine Lib.wpList_append_run _ rfl _ _ _ _ rfl _ _ rfl rfl _ _ hr ?_)
    all_goals (go_ret; exact ⟨_, rfl, FIN.out⟩)

/-- One more, wherever. -/
theorem insert_spec {w : World} {v u : Value} {n i vb : Nat} {cs : List Value} (h : w.ownsRow 0 3 1 v n cs) (hv : w.heap[vb]? = some (.cells #[u] 3 (0, 0))) (hne : v.ownBlock ≠ some vb) (hi : i ≤ n) (hn : n ≤ 1048576) (h1c : ∀ v ∈ cs, v.oneCell' = true) (h1u : u.oneCell' = true) :
    Calls Try.prog 34 #[v, .int .i64 i, .slice (some ⟨vb, 0, none⟩) 1 1] w fun e w' =>
      ∃ v', e = .returned v' ∧ w'.ownsRow 0 3 1 v' (n + 1) (cs.take (i * 1) ++ [u] ++ cs.drop (i * 1)) ∧ (∀ k, v'.ownBlock = some k → v.ownBlock = some k ∨ w.heap.size ≤ k) ∧ Kept (fun k => v.ownBlock = some k) w w' := by
  have hl : cs.length = n * 1 := h.1
  rw [Nat.mul_one] at hl ⊢
  rcases Nat.eq_or_lt_of_le hi with rfl | hlt
  · rw [List.take_of_length_le (by omega), List.drop_of_length_le (by omega), List.append_nil]
    exact insert_end h hv hn h1u
  · obtain ⟨ao, cap, rfl, hnc, hcm, hao⟩ := own_slice h
    rcases hao with ⟨rfl, rfl, rfl⟩ | ⟨g, rfl⟩
    · omega
    · obtain ⟨cur, hh, hs, -, -, hg, -, -, hc, hr, hz⟩ := own_open h
      have hne' : vb ≠ g := fun e => hne (by rw [e]; rfl)
      by_cases hroom : n + 1 ≤ cap
      · refine (insert_shift h hv hne' hlt hroom h1c h1u).mono ?_
        rintro e w' ⟨rfl, rfl⟩
        obtain ⟨c1, e1, s1⟩ := heap_setCells g (cs.drop i) (i + 1) w.drew cur 3 (0, 0) hh
        obtain ⟨c2, e2, s2⟩ := heap_setCells g [u] i (w.drew.setCells g (i + 1) (cs.drop i)) c1 3 (0, 0) e1
        refine ⟨_, rfl, own_of_cells c2 (Nat.zero_le _) e2 hroom hcm (by omega) (by simp only [List.length_append, List.length_take, List.length_drop, List.length_cons, List.length_nil]; omega) ?_, fun k hk => .inl hk, ?_⟩
        · intro j x hj
          exact cells_shifted (w := w.drew) (b := g) (s := i) (m := 1) (cs := cs) (us := [u]) rfl (by omega) hc (fun j hj => hr j (by omega)) j x hj
        · have k0 : Kept (fun k => Value.ownBlock (.slice (some ⟨g, 0, none⟩) n cap) = some k) w w.drew := (Kept.refl _ w).drew
          have k1 := Kept.setCells (S := fun k => Value.ownBlock (.slice (some ⟨g, 0, none⟩) n cap) = some k) g (fun _ => rfl) (cs.drop i) (i + 1) k0
          exact Kept.setCells (S := fun k => Value.ownBlock (.slice (some ⟨g, 0, none⟩) n cap) = some k) g (fun _ => rfl) [u] i k1
      · refine (insert_grow h hv hlt (by omega) hn h1c h1u).mono ?_
        rintro e w' ⟨v', rfl, h1, h2, h3⟩
        exact ⟨v', rfl, h1, fun k hk => .inr (by rw [h2] at hk; cases hk; exact Nat.le_refl _), kept_of_below h3⟩

end Go.Proofs.Ytdgdaldgchbbaaa
