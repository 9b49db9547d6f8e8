/-
  The set over texts: search, find, Insert, Add, Has, Len, List, by the walks over numbers laid over the texts' own functions.
-/
import Derived.Test.YtdgdaldgchbbaaaBegun
namespace Go.Proofs.Ytdgdaldgchbbaaa
open Go.RowKit Go.Shelf

theorem Try.info9 : (Try.prog.info? 9).map (fun i => (i.zero, i.size, i.bytes)) = some (some (.string ByteArray.empty), 1, 16) := by kernel_rfl

theorem eqfs (g : Nat) (w : World) : (binOp BinOp.eql 53 (.func (.func g) #[] #[]) .nilFunc).run Try.prog w = .ok (.bool false) w := by kernel_rfl
theorem new_spec_str (g : Nat) (w : World) : Calls Try.prog 27 #[fnv g] w fun e w' => e = .returned (.pointer (some ⟨w.heap.size, 0, none⟩)) ∧ w' = w.alloc (.cells #[fnv g, .slice none 0 0] 71) := by
  unfold fnv
  have hq := eqfs g
  go_enter Try.func27, Try.ntmps27
  go_wp2
  go_ret
  exact ⟨rfl, rfl⟩

/-- The deferred closure where nothing panicked. -/
theorem catch_idle_str (p : Nat) (x : Value) (w : World) (hc : w.cell? ⟨p, 0, none⟩ = some x) (hz : w.frozen? ⟨p, 0, none⟩ = false) :
    CallsD Try.prog 51 #[.pointer (some ⟨p, 0, none⟩)] .returning w fun e u' w' => e = .returned (.tuple #[]) ∧ u' = .returning ∧ w' = w.setCell ⟨p, 0, none⟩ (.bool true) := by
  refine callsD_of_wpS Try.func51 rfl fun c₀ cs hu => ?_
  apply wpS_region
  simp [wpOpsS, go_sem, recoverD, hu, Try.ntmps51, hc, hz]
  cases c₀
  simp_all [bodyPostS, results, Try.results51]

set_option maxHeartbeats 4000000 in
theorem search_spec_str {g : Nat} {cf : ByteArray → ByteArray → Int} (hf : CmpFn Value.string g cf) {w : World} {ao : Option Addr} {n cap : Nat} {xs : List ByteArray} (h : Seg Value.string ByteArray.empty w ao n cap xs) (hs : Sorted cf xs) (hn : n ≤ 1048576) (x : ByteArray) :
    Calls Try.prog 52 #[.slice ao n cap, .string x, fnv g] w fun e w' => e = .returned (.tuple #[.int .i64 (pos cf x xs), .bool (isIn cf x xs)]) ∧ w' = w := by
  have eg := hf.enters
  have HC : Hid (∀ a b W, Calls Try.prog g #[.string a, .string b] W fun e w' => e = .returned (.int .i64 (cf a b)) ∧ w' = W) := hf.gives
  have HM : Hid (∀ i j, i ≤ j → j < n → cf (xs[j]?.getD ByteArray.empty) x < 0 → cf (xs[i]?.getD ByteArray.empty) x < 0) := fun i j hij hj hx =>
    hs.mono hf.ord x hij (get_some (by rw [h.size]; omega)) (get_some (by rw [h.size]; exact hj)) hx
  have HL : Hid (xs.length = n) := h.size
  have HS : Hid (Seg Value.string ByteArray.empty w ao n cap xs) := h
  generalize hpp : pos cf x xs = pp
  have HP : Hid (pos cf x xs = pp) := hpp
  generalize hqq : isIn cf x xs = qq
  have HQ : Hid (isIn cf x xs = qq) := hqq
  clear hpp hqq h hs hf
  unfold fnv
  go_enter Try.func52, Try.ntmps52
  go_wp2
  go_loopg [9, 10] n (fun kx s9 s10 wr => ∃ lo hi : Nat, s9 = .int .i64 lo ∧ s10 = .int .i64 hi ∧ lo ≤ hi ∧ hi ≤ n ∧ hi - lo ≤ kx ∧ wr = w ∧
    Hid ((∀ t, t < lo → cf (xs[t]?.getD ByteArray.empty) x < 0) ∧ (∀ t, hi ≤ t → t < n → 0 ≤ cf (xs[t]?.getD ByteArray.empty) x)))
  case atStart => exact ⟨0, n, rfl, rfl, Nat.zero_le _, Nat.le_refl _, by omega, rfl, (⟨fun t ht => absurd ht (Nat.not_lt_zero _), fun t h1 h2 => by omega⟩ : (∀ t, t < 0 → cf (xs[t]?.getD ByteArray.empty) x < 0) ∧ (∀ t, n ≤ t → t < n → 0 ≤ cf (xs[t]?.getD ByteArray.empty) x))⟩
  case round =>
    obtain ⟨lo, hi, rfl, rfl, hlh, hin, hg, rfl, I⟩ := hrel
    by_cases hlt : lo < hi
    · obtain ⟨b, off, rfl, hb, hcell⟩ := HS.out.at (by omega)
      have cm := hcell ((lo + hi) / 2) (by omega)
      generalize hy : xs[(lo + hi) / 2]?.getD ByteArray.empty = y at cm
      have Y : Hid (xs[(lo + hi) / 2]?.getD ByteArray.empty = y) := hy
      clear hy hcell
      have hc := HC.out y x wr
      by_cases hyx : cf y x < 0
      · go_wp2_with (go_at_fn g; refine hc.mono ?_; rintro e w' ⟨rfl, rfl⟩)
        go_roundg (hi - ((lo + hi) / 2 + 1))
        case measure => omega
        case rel =>
          have I2 : Hid ((∀ t, t < (lo + hi) / 2 + 1 → cf (xs[t]?.getD ByteArray.empty) x < 0) ∧ (∀ t, hi ≤ t → t < n → 0 ≤ cf (xs[t]?.getD ByteArray.empty) x)) := ⟨fun t ht => HM.out t ((lo + hi) / 2) (by omega) (by omega) (by rw [Y.out]; exact hyx), I.out.2⟩
          exact ⟨(lo + hi) / 2 + 1, hi, by rw [show ((lo : Int) + (hi : Int)) / 2 + 1 = (((lo + hi) / 2 + 1 : Nat) : Int) by omega], rfl, by omega, hin, Nat.le_refl _, rfl, I2⟩
      · go_wp2_with (go_at_fn g; refine hc.mono ?_; rintro e w' ⟨rfl, rfl⟩)
        go_roundg ((lo + hi) / 2 - lo)
        case measure => omega
        case rel =>
          have I2 : Hid ((∀ t, t < lo → cf (xs[t]?.getD ByteArray.empty) x < 0) ∧ (∀ t, (lo + hi) / 2 ≤ t → t < n → 0 ≤ cf (xs[t]?.getD ByteArray.empty) x)) := ⟨I.out.1, fun t ht htn => Int.not_lt.1 fun hx => by have := HM.out ((lo + hi) / 2) t ht htn hx; rw [Y.out] at this; omega⟩
          exact ⟨lo, (lo + hi) / 2, rfl, by rw [show ((lo : Int) + (hi : Int)) / 2 = (((lo + hi) / 2 : Nat) : Int) by omega], by omega, by omega, Nat.le_refl _, rfl, I2⟩
    · obtain rfl : hi = lo := by omega
      have ep : pp = hi := by
        rw [← HP.out]
        refine pos_unique cf x xs hi (by rw [HL.out]; exact hin) (fun j y hj e => ?_) (fun y e => ?_)
        · have := I.out.1 j hj; rw [e] at this; exact this
        · have hlt : hi < n := by rw [← HL.out]; exact (List.getElem?_eq_some_iff.1 e).1
          have := I.out.2 hi (Nat.le_refl _) hlt; rw [e] at this; exact Int.not_lt.2 this
      subst ep
      by_cases hlast : pp < n
      · obtain ⟨b, off, rfl, hb, hcell⟩ := HS.out.at (by omega)
        have cl := hcell pp hlast
        generalize hy : xs[pp]?.getD ByteArray.empty = y at cl
        have Y : Hid (xs[pp]?.getD ByteArray.empty = y) := hy
        clear hy hcell
        have hc := HC.out y x wr
        have hq : qq = decide (cf y x = 0) := by
          rw [← HQ.out, ← Y.out]
          exact isIn_at HP.out (get_some (by rw [HL.out]; exact hlast))
        by_cases hyx : cf y x = 0
        · go_wp2_with (go_at_fn g; refine hc.mono ?_; rintro e w' ⟨rfl, rfl⟩)
          go_ret2
          exact ⟨by rw [hq]; simp [hyx], rfl⟩
        · go_wp2_with (go_at_fn g; refine hc.mono ?_; rintro e w' ⟨rfl, rfl⟩)
          go_ret2
          exact ⟨by rw [hq]; simp [hyx], rfl⟩
      · have hq : qq = false := by
          rw [← HQ.out]
          exact isIn_end HP.out (by rw [HL.out]; omega)
        go_wp2
        go_ret2
        exact ⟨by rw [hq]; simp, rfl⟩

set_option maxHeartbeats 1000000 in
theorem find_spec_str {g : Nat} {cf : ByteArray → ByteArray → Int} (hf : CmpFn Value.string g cf) {w : World} {p n : Nat} {v : Value} {xs : List ByteArray} (h : IsSet w 71 9 1 p (fnv g) v n (xs.map Value.string)) (hs : Sorted cf xs) (hn : n ≤ 1048576) (x : ByteArray) :
    Calls Try.prog 40 #[.pointer (some ⟨p, 0, none⟩), .string x] w fun e w' => e = .returned (.tuple #[.int .i64 (pos cf x xs), .bool (isIn cf x xs), .bool true]) ∧ Below w.heap.size w w' := by
  have hmf : ∀ (fn : Fn) (first cap : Array Value) (w : World), (Instr.makeFunc fn first cap).run Try.prog w = .ok (.func fn first cap) w := fun _ _ _ _ => rfl
  obtain ⟨ao, cap, rfl, seg, -⟩ := Seg.owned (d := ByteArray.empty) h.own
  have hq := eqfs g
  have c0 : w.cell? ⟨p, 0, none⟩ = some (.func (.func g) #[] #[]) := h.cell0
  have c1 := h.cell1
  have hlt := h.lt p (.inl rfl)
  have HC : Hid (∀ W, Below w.heap.size w W → Calls Try.prog 52 #[.slice ao n cap, .string x, .func (.func g) #[] #[]] W fun e w' => e = .returned (.tuple #[.int .i64 (pos cf x xs), .bool (isIn cf x xs)]) ∧ w' = W) :=
    fun W hW => search_spec_str hf (seg.below hW) hs hn x
  clear h seg hf
  generalize pos cf x xs = pp at HC ⊢
  generalize isIn cf x xs = qq at HC ⊢
  go_enter_defers Try.func40, Try.ntmps40
  go_wp2_with fail
  go_quiet (first | (go_at_call 52; exact Calls.quiet_of_same (HC.out _ (below_drewN ((Below.refl _ _).alloc (Nat.le_refl _) _) _))))
  go_wp2
  refine leaves_cons (f := 51) (args := #[.pointer (some ⟨w.heap.size, 0, none⟩)]) (by simp) (by simp [go_sem]) ?_
  refine (catch_idle_str w.heap.size (.bool true) _ ?_ ?_).mono ?_
  · simp [go_sem]
  · simp [go_sem]
  rintro e u' w'' ⟨rfl, rfl, rfl⟩
  simp [Leaves, settle, results, Try.results40, go_sem]
  exact ((below_drewN ((Below.refl _ _).alloc (Nat.le_refl _) _) _).setCell (Nat.le_refl _) _).setCell (Nat.le_refl _) _

set_option maxHeartbeats 4000000 in
set_option maxRecDepth 100000 in
theorem insert_shift_str {w : World} {g n cap i vb : Nat} {cs : List Value} {u : Value} (h : w.ownsRow 0 9 1 (.slice (some ⟨g, 0, none⟩) n cap) n cs) (hv : w.heap[vb]? = some (.cells #[u] 9 (0, 0))) (hne : vb ≠ g)
    (hi : i < n) (hroom : n + 1 ≤ cap) (h1c : ∀ v ∈ cs, v.oneCell' = true) (h1u : u.oneCell' = true) :
    Calls Try.prog 41 #[.slice (some ⟨g, 0, none⟩) n cap, .int .i64 i, .slice (some ⟨vb, 0, none⟩) 1 1] w fun e w' =>
      e = .returned (.slice (some ⟨g, 0, none⟩) (n + 1) cap) ∧ w' = (w.drew.setCells g (i + 1) (cs.drop i)).setCells g i [u] := by
  obtain ⟨cur, hh, hs, hnc, hm, hg, -, hl, hc, hr, hz⟩ := own_open h
  rw [Nat.mul_one] at hl hs
  have hm' : cap ≤ 9223372036854775807 := by unfold maxLen at hm; omega
  have hw1 : IntKind.i64.wrap ((i : Int) + 1) = (i : Int) + 1 := by rw [IntKind.wrap_i64]; omega
  have hb1 : (0 : Int) ≤ (i : Int) + 1 := by omega
  have hin : i ≤ n := by omega
  have htn : ((i : Int) + 1).toNat = i + 1 := by omega
  have hb3 : (i : Int) ≤ (n : Int) + 1 := by omega
  have hcv : w.cell? ⟨vb, 0, none⟩ = some u := by simp [World.cell?, hv]
  have hinfo : (Try.prog.info? 9).map (·.size) = some 1 := by
    obtain ⟨i0, hi0, _, hz1, _⟩ := info_parts Try.info9
    rw [hi0]; simp [hz1]
  have hov : ∀ lb cb, (callFunc 53 #[.slice (some ⟨vb, 0, none⟩) 1 1, .slice (some ⟨g, i + 1, none⟩) lb cb]).run Try.prog w = .ok (.value (.bool false)) w := fun lb cb => by
    rw [run_callFunc_extern Try.func53 (by kernel_rfl) (by kernel_rfl) (by kernel_rfl) (e := Extern.SlicesOverlaps.overlaps #[50, 50] #[4]) (by kernel_rfl),
      Lib.run_overlaps_apart w 50 4 9 Try.underlying50 1 (fun _ => by kernel_rfl) ⟨vb, 0, none⟩ ⟨g, i + 1, none⟩ 1 1 lb cb hne 9 9 1 cur.size (by simp [World.shape?, hv]) (by simp [World.shape?, hh]) (by omega) (by simp [World.frozen?, hv]) (by simp [World.frozen?, hv])]
    rfl
  have hdl : (cs.drop i).length = n - i := by rw [List.length_drop, hl]
  have hb2 : ¬ (cap = i + 1) := by omega
  have hb4 : ¬ (cap = i) := by omega
  have hcp1 : ∀ ty dc sc, (Builtin.copy_ #[50, 50] ty #[.slice (some ⟨g, i + 1, none⟩) (n - i) dc, .slice (some ⟨g, i, none⟩) (n + 1 - i) sc]).run Try.prog w.drew = .ok (goInt (n - i : Nat)) (w.drew.setCells g (i + 1) (cs.drop i)) := fun ty dc sc =>
    run_copy_many w.drew _ _ ty 9 1 g (i + 1) (n - i) dc ⟨g, i, none⟩ (n + 1 - i) sc (cs.drop i) Try.underlying50 hinfo (n - i) (by simp only [Nat.min_def]; split <;> omega) (by rw [hdl, Nat.mul_one])
      (fun j v hj => by rw [Addr.add_lit]; exact hc (i + j) v (by rwa [List.getElem?_drop] at hj))
      (fun j hj => hr _ (by omega)) (fun j hj => hz _) (fun v hv => h1c v (List.mem_of_mem_drop hv))
  obtain ⟨W1, hW1⟩ : ∃ W1, W1 = w.drew.setCells g (i + 1) (cs.drop i) := ⟨_, rfl⟩
  have hcp2 : ∀ ty dc, (Builtin.copy_ #[50, 50] ty #[.slice (some ⟨g, i, none⟩) (n + 1 - i) dc, .slice (some ⟨vb, 0, none⟩) 1 1]).run Try.prog W1 = .ok (goInt (1 : Nat)) (W1.setCells g i [u]) := fun ty dc =>
    run_copy_many W1 _ _ ty 9 1 g i (n + 1 - i) dc ⟨vb, 0, none⟩ 1 1 [u] Try.underlying50 hinfo 1 (by simp only [Nat.min_def]; split <;> omega) rfl
      (fun j v hj => by
        obtain ⟨hj1, rfl⟩ := List.getElem?_eq_some_iff.1 hj
        obtain rfl : j = 0 := by simpa using hj1
        rw [Addr.add_lit, hW1, World.cell?_setCells_out g _ _ _ _ (fun h _ => absurd h hne)]
        exact hcv)
      (fun j hj => by rw [hW1]; exact isSome_setCells g (cs.drop i) (i + 1) w.drew (fun t ht => hr (i + 1 + t) (by omega)) _ (hr (i + j) (by simp at hj; omega)))
      (fun j hj => by rw [hW1, World.frozen?_setCells]; exact hz _) (fun v hv => by simp at hv; subst hv; exact h1u)
  rw [← hW1] at hcp1 ⊢
  clear hc hr hz hs hl hcv hW1
  go_enter Try.func41, Try.ntmps41
  go_wp2_with (simp only [hov])
  go_region_law (refine step_copy_known rfl _ _ 50 50 rfl _ _ (by simp [Act.eval, Act.put]) (by simp [Act.eval, Act.put]) (hcp1 _ _ _) ?_)
  go_wp2_with (at_builtin; refine wpList_copy_known _ rfl _ _ 50 50 rfl _ _ rfl rfl (hcp2 _ _) ?_)
  go_ret
  exact ⟨rfl, rfl⟩

set_option maxHeartbeats 4000000 in
set_option maxRecDepth 100000 in
/-- In the middle, no room: a new row. -/
theorem insert_grow_str {w : World} {g n cap i vb : Nat} {cs : List Value} {u : Value} (h : w.ownsRow 0 9 1 (.slice (some ⟨g, 0, none⟩) n cap) n cs) (hv : w.heap[vb]? = some (.cells #[u] 9 (0, 0)))
    (hi : i < n) (hroom : cap < n + 1) (hn : n ≤ 1048576) (h1c : ∀ v ∈ cs, v.oneCell' = true) (h1u : u.oneCell' = true) :
    Calls Try.prog 41 #[.slice (some ⟨g, 0, none⟩) n cap, .int .i64 i, .slice (some ⟨vb, 0, none⟩) 1 1] w fun e w' =>
      ∃ v', e = .returned v' ∧ w'.ownsRow 0 9 1 v' (n + 1) (cs.take i ++ [u] ++ cs.drop i) ∧ v'.ownBlock = some w.heap.size ∧ Below w.heap.size w w' := by
  obtain ⟨cur, hh, hs, hnc, hm, hg, -, hl, hc, hr, hz⟩ := own_open h
  rw [Nat.mul_one] at hl hs
  obtain ⟨i0, hi0, hz0, hz1, hz2⟩ := info_parts Try.info9
  have hinfo : (Try.prog.info? 9).map (·.size) = some 1 := by rw [hi0]; simp [hz1]
  have hcv : w.cell? ⟨vb, 0, none⟩ = some u := by simp [World.cell?, hv]
  have hvw : vb < w.heap.size := (Array.getElem?_eq_some_iff.1 hv).1
  have hkk : (n : Int) + 1 - (i : Int) = ((n + 1 - i : Nat) : Int) := by omega
  have hik : i + (n + 1 - i) = n + 1 := by omega
  have hold : (Builtin.firstCells i0.size i (.slice (some ⟨g, 0, none⟩) i cap)).run Try.prog w.drew = .ok (cs.take i).toArray w.drew := by
    rw [hz1]
    exact run_firstCells_some w.drew 1 i ⟨g, 0, none⟩ i cap (cs.take i) (by rw [List.length_take]; omega) (fun j v hj => by
      rw [Addr.add_lit, Nat.zero_add]
      rw [List.getElem?_take] at hj
      split at hj
      · exact hc j v hj
      · cases hj)
  have hrz : ∀ ty, (Builtin.append_ #[50, 3] ty #[.slice (some ⟨g, 0, none⟩) i cap, .int .i64 ((n : Int) + 1 - (i : Int))]).run Try.prog w =
      .ok (.slice (some ⟨w.heap.size, 0, none⟩) (n + 1) (grownCap w (n + 1) cap 9)) (w.drew.alloc (.cells ((cs.take i).toArray ++ Builtin.zeroCells (Value.string ByteArray.empty).cells (n + 1 - i) ++ Builtin.zeroCells (Value.string ByteArray.empty).cells (grownCap w (n + 1) cap 9 - (n + 1))) 9)) := fun ty => by
    have h := Lib.run_append_grow_zeros w 50 3 ty 9 i0 _ .i64 .i64 Try.underlying50 Try.underlying3 hi0 hz0 (some ⟨g, 0, none⟩) i cap (cs.take i) hold (n + 1 - i) (by omega) (by omega) (by omega) (by omega) (by rw [hz2]; omega) (by rw [hz2, hik]; exact growslice_fits (by omega) (by omega))
    rw [hik] at h
    rw [hkk]
    exact h
  have hGn : n + 1 ≤ grownCap w (n + 1) cap 9 := grownCap_ge w _ _ _
  have hG63 : grownCap w (n + 1) cap 9 ≤ maxLen := grownCap_le_maxLen w (n + 1) cap 9 (by unfold maxLen; omega)
  generalize grownCap w (n + 1) cap 9 = G at hrz hGn hG63
  obtain ⟨ROW, hROW⟩ : ∃ ROW : Array Value, ROW = (cs.take i).toArray ++ Builtin.zeroCells (Value.string ByteArray.empty).cells (n + 1 - i) ++ Builtin.zeroCells (Value.string ByteArray.empty).cells (G - (n + 1)) := ⟨_, rfl⟩
  rw [← hROW] at hrz
  have hRl : ROW.size = G := by
    rw [hROW]
    simp [Builtin.zeroCells, Value.cells]
    omega
  have hRc : ∀ j u, j < i → cs[j]? = some u → ROW[j]? = some u := fun j u hj he => by
    have hlt : j < (cs.take i).length := by rw [List.length_take]; omega
    rw [hROW, Array.append_assoc, Array.getElem?_append_left (by simpa using hlt)]
    simp [hj, he]
  obtain ⟨W1, hW1⟩ : ∃ W1, W1 = w.drew.alloc (.cells ROW 9) := ⟨_, rfl⟩
  rw [← hW1] at hrz
  have hN : ∀ j, j < n + 1 → (W1.cell? ⟨w.heap.size, j, none⟩).isSome = true := fun j hj => by
    rw [hW1, World.cell?_alloc_at (w := w.drew) ROW _ w.heap.size j rfl, Array.getElem?_eq_getElem (by omega)]; rfl
  have hNc : ∀ j u, j < i → cs[j]? = some u → W1.cell? ⟨w.heap.size, j, none⟩ = some u := fun j u hj he => by
    rw [hW1, World.cell?_alloc_at (w := w.drew) ROW _ w.heap.size j rfl]; exact hRc j u hj he
  have hNf : ∀ j, W1.frozen? ⟨w.heap.size, j, none⟩ = false := fun j => by rw [hW1]; exact World.frozen?_alloc_at (w := w.drew) ROW _ w.heap.size j rfl
  have hOb : ∀ j v, w.cell? ⟨g, j, none⟩ = some v → W1.cell? ⟨g, j, none⟩ = some v := fun j v h => by rw [hW1, World.cell?_alloc_past (w := w.drew) _ g j hg]; exact h
  have hOv : W1.cell? ⟨vb, 0, none⟩ = some u := by rw [hW1, World.cell?_alloc_past (w := w.drew) _ vb 0 hvw]; exact hcv
  have hHp : W1.heap[w.heap.size]? = some (.cells ROW 9 (0, 0)) := by rw [hW1]; exact heap_alloc_new w.drew _
  have hB1 : Below w.heap.size w W1 := by rw [hW1]; exact (Below.refl _ _).drew.alloc (Nat.le_refl _) _
  clear hW1
  have hcpA : ∀ ty dc, (Builtin.copy_ #[50, 50] ty #[.slice (some ⟨w.heap.size, i, none⟩) (n + 1 - i) dc, .slice (some ⟨vb, 0, none⟩) 1 1]).run Try.prog W1 = .ok (goInt (1 : Nat)) (W1.setCells w.heap.size i [u]) := fun ty dc =>
    run_copy_many W1 _ _ ty 9 1 w.heap.size i (n + 1 - i) dc ⟨vb, 0, none⟩ 1 1 [u] Try.underlying50 hinfo 1 (by simp only [Nat.min_def]; split <;> omega) rfl
      (fun j v hj => by
        obtain ⟨hj1, rfl⟩ := List.getElem?_eq_some_iff.1 hj
        obtain rfl : j = 0 := by simpa using hj1
        rw [Addr.add_lit]
        exact hOv)
      (fun j hj => hN _ (by simp at hj; omega)) (fun j hj => hNf _) (fun v hv => by simp at hv; subst hv; exact h1u)
  have hdl : (cs.drop i).length = n - i := by rw [List.length_drop, hl]
  have hgN : g ≠ w.heap.size := by omega
  obtain ⟨W2, hW2⟩ : ∃ W2, W2 = W1.setCells w.heap.size i [u] := ⟨_, rfl⟩
  rw [← hW2] at hcpA
  have hcpB : ∀ ty dc sc, (Builtin.copy_ #[50, 50] ty #[.slice (some ⟨w.heap.size, i + 1, none⟩) (n - i) dc, .slice (some ⟨g, i, none⟩) (n - i) sc]).run Try.prog W2.drew = .ok (goInt (n - i : Nat)) (W2.drew.setCells w.heap.size (i + 1) (cs.drop i)) := fun ty dc sc =>
    run_copy_many W2.drew _ _ ty 9 1 w.heap.size (i + 1) (n - i) dc ⟨g, i, none⟩ (n - i) sc (cs.drop i) Try.underlying50 hinfo (n - i) (by simp only [Nat.min_def]; split <;> omega) (by rw [hdl, Nat.mul_one])
      (fun j v hj => by
        show W2.cell? _ = _
        rw [Addr.add_lit, hW2, World.cell?_setCells_out _ _ _ _ _ (fun h _ => absurd h hgN)]
        exact hOb _ v (hc (i + j) v (by rwa [List.getElem?_drop] at hj)))
      (fun j hj => by
        show (W2.cell? _).isSome = true
        rw [hW2]; exact isSome_setCells w.heap.size [u] i W1 (fun t ht => hN (i + t) (by simp at ht; omega)) (i + 1 + j) (hN (i + 1 + j) (by omega)))
      (fun j hj => by
        show W2.frozen? _ = false
        rw [hW2, World.frozen?_setCells]; exact hNf _) (fun v hv => h1c v (List.mem_of_mem_drop hv))
  have hin : i ≤ n := by omega
  have hb3 : (i : Int) ≤ (n : Int) := by omega
  have hGi : ¬ (G = i) := by omega
  have hGim : ¬ (G = i + 1) := by omega
  have hci : ¬ (cap = i) := by omega
  have hw1 : IntKind.i64.wrap ((i : Int) + 1) = (i : Int) + 1 := by rw [IntKind.wrap_i64]; omega
  have hb1 : (0 : Int) ≤ (i : Int) + 1 := by omega
  have htn : ((i : Int) + 1).toNat = i + 1 := by omega
  have hG63' : G ≤ 9223372036854775807 := by unfold maxLen at hG63; omega
  have FIN : Hid ((W2.drew.setCells w.heap.size (i + 1) (cs.drop i)).ownsRow 0 9 1 (.slice (some ⟨w.heap.size, 0, none⟩) (n + 1) G) (n + 1) (cs.take i ++ [u] ++ cs.drop i) ∧ Below w.heap.size w (W2.drew.setCells w.heap.size (i + 1) (cs.drop i))) := by
    rw [hW2]
    obtain ⟨c1, e1, s1⟩ := heap_setCells w.heap.size [u] i W1 ROW 9 (0, 0) hHp
    obtain ⟨c2, e2, s2⟩ := heap_setCells w.heap.size (cs.drop i) (i + 1) (W1.setCells w.heap.size i [u]).drew c1 9 (0, 0) e1
    refine ⟨own_of_cells c2 (Nat.zero_le _) e2 hGn hG63 (by omega) (by simp only [List.length_append, List.length_take, List.length_drop, List.length_cons, List.length_nil]; omega) ?_, ?_⟩
    · intro j x hj
      have := cells_laid (w := W1) (b := w.heap.size) (s := i) (m := 1) (cs := cs) (us := [u]) rfl (by omega) hNc (fun j hj => hN j (by omega)) j x hj
      rw [← drew_setCells]
      exact this
    · have k0 : Kept (fun k => w.heap.size ≤ k) w W1 := kept_of_below hB1
      have k1 := (Kept.setCells w.heap.size (fun h => absurd h (Nat.lt_irrefl _)) [u] i k0).drew
      exact (Kept.setCells w.heap.size (fun h => absurd h (Nat.lt_irrefl _)) (cs.drop i) (i + 1) k1).below (Nat.le_refl _) (fun k h1 h2 => by omega)
  clear hkk hik hold hROW hRl hRc hN hNc hNf hOb hOv hHp hB1 hW2 hc hr hz hs hl hcv hG63 hinfo hi0 hz0 hz1 hz2 hh h
  go_enter Try.func41, Try.ntmps41
  go_wp2_with (first
    | (at_builtin; refine Lib.wpList_append_run _ rfl _ _ _ _ rfl _ _ rfl rfl _ _ (hrz _) ?_)
    | (at_builtin; refine wpList_copy_known _ rfl _ _ 50 50 rfl _ _ rfl rfl (hcpA _ _) ?_))
  go_region_law (refine step_copy_known rfl _ _ 50 50 rfl _ _ (by simp [Act.eval, Act.put]) (by simp [Act.eval, Act.put]) (hcpB _ _ _) ?_)
  go_wp2
  go_ret
  exact ⟨_, rfl, FIN.out.1, rfl, FIN.out.2⟩

set_option maxHeartbeats 4000000 in
set_option maxRecDepth 100000 in
/-- Behind the last one. -/
theorem insert_end_str {w : World} {v u : Value} {n vb : Nat} {cs : List Value} (h : w.ownsRow 0 9 1 v n cs) (hv : w.heap[vb]? = some (.cells #[u] 9 (0, 0))) (hn : n ≤ 1048576) (h1u : u.oneCell' = true) :
    Calls Try.prog 41 #[v, .int .i64 n, .slice (some ⟨vb, 0, none⟩) 1 1] w fun e w' =>
      ∃ v', e = .returned v' ∧ w'.ownsRow 0 9 1 v' (n + 1) (cs ++ [u]) ∧ (∀ k, v'.ownBlock = some k → v.ownBlock = some k ∨ w.heap.size ≤ k) ∧ Kept (fun k => v.ownBlock = some k) w w' := by
  obtain ⟨i0, hi0, hz0, hz1, hz2⟩ := info_parts Try.info9
  have hcv : w.cell? ⟨vb, 0, none⟩ = some u := by simp [World.cell?, hv]
  have hnews : ∀ j x, [u][j]? = some x → w.cell? ((⟨vb, 0, none⟩ : Addr).add j) = some x := fun j x hj => by
    obtain ⟨hj1, rfl⟩ := List.getElem?_eq_some_iff.1 hj
    obtain rfl : j = 0 := by simpa using hj1
    rw [Addr.add_lit]
    exact hcv
  obtain ⟨v', w', hr, h2, h3, h4⟩ := append_known w 50 50 9 i0 _ 1 16 Try.underlying50 hi0 hz0 hz1 hz2 rfl (by decide) v n cs h ⟨vb, 0, none⟩ 1 1 [u] rfl hnews (fun x hx => by simp at hx; subst hx; exact h1u) (by unfold maxLen; omega) (by omega)
  have FIN : Hid (w'.ownsRow 0 9 1 v' (n + 1) (cs ++ [u]) ∧ (∀ k, v'.ownBlock = some k → v.ownBlock = some k ∨ w.heap.size ≤ k) ∧ Kept (fun k => v.ownBlock = some k) w w') := ⟨h2, h4, h3⟩
  obtain ⟨ao, cap, rfl, hnc, hcm, hao⟩ := own_slice h
  clear hnews hcv hv h h2 h3 h4 hi0 hz0 hz1 hz2 hcm
  rcases hao with ⟨rfl, rfl, rfl⟩ | ⟨g, rfl⟩
  · go_enter Try.func41, Try.ntmps41
    go_wp2_with (at_builtin; refine Lib.wpList_append_run _ rfl _ _ _ _ rfl _ _ rfl rfl _ _ hr ?_)
    go_ret
    exact ⟨_, rfl, FIN.out⟩
  · go_enter Try.func41, Try.ntmps41
    go_wp2_with (at_builtin; refine Lib.wpList_append_run _ rfl _ _ _ _ rfl _ _ rfl rfl _ _ hr ?_)
    all_goals (go_ret; exact ⟨_, rfl, FIN.out⟩)

/-- One more, wherever. -/
theorem insert_spec_str {w : World} {v u : Value} {n i vb : Nat} {cs : List Value} (h : w.ownsRow 0 9 1 v n cs) (hv : w.heap[vb]? = some (.cells #[u] 9 (0, 0))) (hne : v.ownBlock ≠ some vb) (hi : i ≤ n) (hn : n ≤ 1048576) (h1c : ∀ v ∈ cs, v.oneCell' = true) (h1u : u.oneCell' = true) :
    Calls Try.prog 41 #[v, .int .i64 i, .slice (some ⟨vb, 0, none⟩) 1 1] w fun e w' =>
      ∃ v', e = .returned v' ∧ w'.ownsRow 0 9 1 v' (n + 1) (cs.take (i * 1) ++ [u] ++ cs.drop (i * 1)) ∧ (∀ k, v'.ownBlock = some k → v.ownBlock = some k ∨ w.heap.size ≤ k) ∧ Kept (fun k => v.ownBlock = some k) w w' := by
  have hl : cs.length = n * 1 := h.1
  rw [Nat.mul_one] at hl ⊢
  rcases Nat.eq_or_lt_of_le hi with rfl | hlt
  · rw [List.take_of_length_le (by omega), List.drop_of_length_le (by omega), List.append_nil]
    exact insert_end_str h hv hn h1u
  · obtain ⟨ao, cap, rfl, hnc, hcm, hao⟩ := own_slice h
    rcases hao with ⟨rfl, rfl, rfl⟩ | ⟨g, rfl⟩
    · omega
    · obtain ⟨cur, hh, hs, -, -, hg, -, -, hc, hr, hz⟩ := own_open h
      have hne' : vb ≠ g := fun e => hne (by rw [e]; rfl)
      by_cases hroom : n + 1 ≤ cap
      · refine (insert_shift_str h hv hne' hlt hroom h1c h1u).mono ?_
        rintro e w' ⟨rfl, rfl⟩
        obtain ⟨c1, e1, s1⟩ := heap_setCells g (cs.drop i) (i + 1) w.drew cur 9 (0, 0) hh
        obtain ⟨c2, e2, s2⟩ := heap_setCells g [u] i (w.drew.setCells g (i + 1) (cs.drop i)) c1 9 (0, 0) e1
        refine ⟨_, rfl, own_of_cells c2 (Nat.zero_le _) e2 hroom hcm (by omega) (by simp only [List.length_append, List.length_take, List.length_drop, List.length_cons, List.length_nil]; omega) ?_, fun k hk => .inl hk, ?_⟩
        · intro j x hj
          exact cells_shifted (w := w.drew) (b := g) (s := i) (m := 1) (cs := cs) (us := [u]) rfl (by omega) hc (fun j hj => hr j (by omega)) j x hj
        · have k0 : Kept (fun k => Value.ownBlock (.slice (some ⟨g, 0, none⟩) n cap) = some k) w w.drew := (Kept.refl _ w).drew
          have k1 := Kept.setCells (S := fun k => Value.ownBlock (.slice (some ⟨g, 0, none⟩) n cap) = some k) g (fun _ => rfl) (cs.drop i) (i + 1) k0
          exact Kept.setCells (S := fun k => Value.ownBlock (.slice (some ⟨g, 0, none⟩) n cap) = some k) g (fun _ => rfl) [u] i k1
      · refine (insert_grow_str h hv hlt (by omega) hn h1c h1u).mono ?_
        rintro e w' ⟨v', rfl, h1, h2, h3⟩
        exact ⟨v', rfl, h1, fun k hk => .inr (by rw [h2] at hk; cases hk; exact Nat.le_refl _), kept_of_below h3⟩

/-- A set of numbers at block p, ordered by the function g. -/
def SetS (w : World) (p g : Nat) (v : Value) (xs : List ByteArray) : Prop := IsSet w 71 9 1 p (fnv g) v xs.length (xs.map Value.string)

theorem one_strs (xs : List ByteArray) : ∀ v ∈ xs.map Value.string, v.oneCell' = true := by
  intro v hv
  obtain ⟨x, _, rfl⟩ := List.mem_map.1 hv
  rfl

theorem map_put_str (cf : ByteArray → ByteArray → Int) (x : ByteArray) (xs : List ByteArray) : (put cf x xs).map Value.string = (xs.map Value.string).take (pos cf x xs * 1) ++ [Value.string x] ++ (xs.map Value.string).drop (pos cf x xs * 1) := by
  unfold put
  simp [List.map_take, List.map_drop]

set_option maxHeartbeats 1000000 in
theorem add_in_str {g : Nat} {cf : ByteArray → ByteArray → Int} (hf : CmpFn Value.string g cf) {w : World} {p : Nat} {v : Value} {xs : List ByteArray} (h : SetS w p g v xs) (hs : Sorted cf xs) (hn : xs.length ≤ 1048576) (x : ByteArray) (hi : isIn cf x xs = true) :
    Calls Try.prog 29 #[.pointer (some ⟨p, 0, none⟩), .string x] w fun e w' => e = .returned (.bool false) ∧ Below w.heap.size w w' := by
  have hc := find_spec_str hf h hs hn x
  rw [hi] at hc
  clear h hs hn hf hi
  generalize pos cf x xs = pp at hc
  go_enter Try.func29, Try.ntmps29
  go_wp2_with (go_at_call 40; refine hc.mono ?_; rintro e w' ⟨rfl, hB⟩)
  go_ret
  exact ⟨rfl, hB⟩

/-- The call of slices.Insert inside Add, and what the store behind it leaves. -/
theorem add_insert_str {w1 : World} {p g pp : Nat} {v : Value} {xs : List ByteArray} (h : SetS w1 p g v xs) (hp : pp ≤ xs.length) (hn : xs.length ≤ 1048576) (x : ByteArray) :
    Calls Try.prog 41 #[v, .int .i64 pp, .slice (some ⟨w1.heap.size, 0, none⟩) 1 1] (w1.alloc (.cells #[.string x] 9)) fun e w3 =>
      ∃ ao n c v', v' = .slice ao n c ∧ e = .returned (.slice ao n c) ∧ w3.cell? ⟨p, 1, none⟩ = some v ∧ w3.frozen? ⟨p, 1, none⟩ = false ∧
        Hid (∀ {w : World}, SetS w p g v xs → Below w.heap.size w w1 → IsSet (w3.setCell ⟨p, 1, none⟩ v') 71 9 1 p (fnv g) v' (xs.length + 1) ((xs.map Value.string).take (pp * 1) ++ [Value.string x] ++ (xs.map Value.string).drop (pp * 1)) ∧ Wrote w p v (w3.setCell ⟨p, 1, none⟩ v') v') := by
  have ha : IsSet (w1.alloc (.cells #[.string x] 9)) 71 9 1 p (fnv g) v xs.length (xs.map Value.string) := h.below ((Below.refl _ _).alloc (Nat.le_refl _) _)
  have hnew : (w1.alloc (.cells #[.string x] 9)).heap[w1.heap.size]? = some (.cells #[.string x] 9 (0, 0)) := heap_alloc_new w1 _
  refine (insert_spec_str ha.own hnew (fun e => ?_) hp hn (one_strs xs) rfl).mono ?_
  · have := (h.own.lt _ e).2
    omega
  · rintro e w3 ⟨v', rfl, o3, f3, k3⟩
    have hpl : p < (w1.alloc (.cells #[.string x] 9)).heap.size := ha.lt p (.inl rfl)
    have hpb := k3.block p hpl ha.apart
    have h3 : w3.heap[p]? = some (.cells #[fnv g, v] 71 (0, 0)) := by rw [hpb]; exact ha.head
    obtain ⟨ao', cap', ev, -, -, -⟩ := own_slice o3
    refine ⟨_, _, _, v', ev, by rw [ev], by simp [World.cell?, h3], by simp [World.frozen?, h3], fun {w} hs hb => ⟨ha.store hpb o3 (fun e => ?_), ?_, ?_⟩⟩
    · rcases f3 p e with h1 | h1
      · exact ha.apart h1
      · omega
    · have k1 : Kept (Foot p v) w (w1.alloc (.cells #[.string x] 9)) := (kept_of_below hb).alloc _
      exact (k1.trans k3 (fun i _ hi => .inr hi)).setCell ⟨p, 1, none⟩ v' (fun _ => .inl rfl)
    · intro k hk
      rcases f3 k hk with h1 | h1
      · exact .inl h1
      · have := hb.size
        simp at h1
        exact .inr (by omega)

set_option maxHeartbeats 1000000 in
theorem add_out_str {g : Nat} {cf : ByteArray → ByteArray → Int} (hf : CmpFn Value.string g cf) {w : World} {p : Nat} {v : Value} {xs : List ByteArray} (h : SetS w p g v xs) (hs : Sorted cf xs) (hn : xs.length ≤ 1048576) (x : ByteArray) (hi : isIn cf x xs = false) :
    Calls Try.prog 29 #[.pointer (some ⟨p, 0, none⟩), .string x] w fun e w' => ∃ v', e = .returned (.bool true) ∧ SetS w' p g v' (put cf x xs) ∧ Wrote w p v w' v' := by
  have hc := find_spec_str hf h hs hn x
  rw [hi] at hc
  have hpos : pos cf x xs ≤ xs.length := pos_le _ _ _
  have hput := map_put_str cf x xs
  have hlen : (put cf x xs).length = xs.length + 1 := put_length
  have HS : Hid (SetS w p g v xs) := h
  have HP : Hid ((put cf x xs).map Value.string = (xs.map Value.string).take (pos cf x xs * 1) ++ [Value.string x] ++ (xs.map Value.string).drop (pos cf x xs * 1)) := hput
  have HL : Hid ((put cf x xs).length = xs.length + 1) := hlen
  clear hput hlen hf hi h hs
  generalize put cf x xs = ys at HP HL ⊢
  generalize pos cf x xs = pp at hc hpos HP
  go_enter Try.func29, Try.ntmps29
  go_wp2_with (first
    | (go_at_call 40; refine hc.mono ?_; rintro e w1 ⟨rfl, hB⟩
       have S1 : Hid (SetS w1 p g v xs) := IsSet.below HS.out hB
       have c1 : w1.cell? ⟨p, 1, none⟩ = some v := S1.out.cell1
       have hp : p < w1.heap.size := S1.out.lt p (.inl rfl)
       have HI := add_insert_str S1.out hpos hn x
       have HB : Hid (Below w.heap.size w w1) := hB
       clear hB)
    | (go_at_call 41; refine HI.mono ?_; rintro e w3 ⟨ao', n', cap', v', ev, rfl, c3, z3, F3⟩; subst ev))
  go_ret
  have S3 := F3.out HS.out HB.out
  rw [← HP.out, ← HL.out] at S3
  exact ⟨_, rfl, S3⟩

/-- Add: it is in. -/
theorem add_spec_str {g : Nat} {cf : ByteArray → ByteArray → Int} (hf : CmpFn Value.string g cf) {w : World} {p : Nat} {v : Value} {xs : List ByteArray} (h : SetS w p g v xs) (hs : Sorted cf xs) (hn : xs.length ≤ 1048576) (x : ByteArray) :
    Calls Try.prog 29 #[.pointer (some ⟨p, 0, none⟩), .string x] w fun e w' => ∃ v', e = .returned (.bool (!isIn cf x xs)) ∧ SetS w' p g v' (ins cf x xs) ∧ Wrote w p v w' v' := by
  unfold ins
  cases hi : isIn cf x xs with
  | true =>
    refine (add_in_str hf h hs hn x hi).mono ?_
    rintro e w' ⟨rfl, hB⟩
    exact ⟨v, rfl, IsSet.below h hB, Wrote.of_below hB⟩
  | false => exact add_out_str hf h hs hn x hi

set_option maxHeartbeats 1000000 in
theorem has_spec_str {g : Nat} {cf : ByteArray → ByteArray → Int} (hf : CmpFn Value.string g cf) {w : World} {p : Nat} {v : Value} {xs : List ByteArray} (h : SetS w p g v xs) (hs : Sorted cf xs) (hn : xs.length ≤ 1048576) (x : ByteArray) :
    Calls Try.prog 31 #[.pointer (some ⟨p, 0, none⟩), .string x] w fun e w' => e = .returned (.bool (isIn cf x xs)) ∧ Below w.heap.size w w' := by
  have hc := find_spec_str hf h hs hn x
  clear h hs hn hf
  generalize pos cf x xs = pp at hc
  generalize isIn cf x xs = qq at hc ⊢
  go_enter Try.func31, Try.ntmps31
  go_wp2_with (go_at_call 40; refine hc.mono ?_; rintro e w' ⟨rfl, hB⟩)
  go_ret
  exact ⟨rfl, hB⟩

theorem len_spec_str {g : Nat} {w : World} {p : Nat} {v : Value} {xs : List ByteArray} (h : SetS w p g v xs) : Calls Try.prog 32 #[.pointer (some ⟨p, 0, none⟩)] w fun e w' => e = .returned (.int .i64 (xs.length : Nat)) ∧ w' = w := by
  obtain ⟨ao, cap, rfl, hnc, hcm, -⟩ := own_slice h.own
  have hm : cap ≤ 9223372036854775807 := by unfold maxLen at hcm; omega
  have c1 := h.cell1
  clear h hcm
  generalize xs.length = n at c1 hnc ⊢
  go_enter Try.func32, Try.ntmps32
  go_wp2
  go_ret
  exact ⟨rfl, rfl⟩

set_option maxHeartbeats 2000000 in
theorem clone_spec_str {w : World} {v : Value} {n : Nat} {cs : List Value} (h : w.ownsRow 0 9 1 v n cs) (hn : n ≤ 1048576) (h1 : ∀ u ∈ cs, u.oneCell' = true) :
    Calls Try.prog 42 #[v] w fun e w' => ∃ v', e = .returned v' ∧ w'.ownsRow w.heap.size 9 1 v' n cs ∧ Below w.heap.size w w' := by
  obtain ⟨i0, hi0, hz0, hz1, hz2⟩ := info_parts Try.info9
  have q27 : ∀ (w : World) (a : Option Addr) (n c n' c' : Nat), (binOp .eql 50 (.slice a n c) (.slice none n' c')).run Try.prog w = .ok (.bool a.isNone) w := fun w a n c n' c' => Lib.run_eql_slice_nil w _ _ a n c n' c' Try.underlying50
  obtain ⟨ao, cap, rfl, hnc, hcm, hao⟩ := own_slice h
  rcases hao with ⟨rfl, rfl, rfl⟩ | ⟨g, rfl⟩
  · have hcs : cs = [] := List.eq_nil_of_length_eq_zero (by simpa using h.1)
    subst hcs
    clear h
    go_enter Try.func42, Try.ntmps42
    go_wp2
    go_ret
    exact ⟨_, rfl, World.ownsRow_nil _ _ _ _, Below.refl _ _⟩
  · obtain ⟨cur, hh, hs, -, -, hg, -, hl, hc, -, -⟩ := own_open h
    have A : Hid (∀ j u, cs[j]? = some u → w.cell? ⟨g, j, none⟩ = some u) := hc
    clear h hc hh
    go_enter Try.func42, Try.ntmps42
    go_wp2_with (at_builtin; refine wpList_append_own _ rfl _ _ 50 rfl w.heap.size 9 i0 (.string ByteArray.empty) 1 16 Try.underlying50 hi0 hz0 hz1 hz2 rfl (by decide) _ _ _ rfl (World.ownsRow_made w #[] 0 (Nat.le_refl _) (Nat.zero_le _) (by simp)) ⟨g, 0, none⟩ n cap cs rfl ?qc1 ?qc2 ?qc3 ?qc4 ?qc5 ?qc6 ?_)
    case qc1 => exact hl
    case qc2 =>
      intro j u hj
      rw [Addr.add_lit, Nat.zero_add]
      exact Lib.cell?_alloc_some _ (A.out j u hj)
    case qc3 => exact h1
    case qc4 => unfold maxLen; omega
    case qc5 => omega
    case qc6 => simp
    intro v' w1 hown hgrow hnil
    go_wp2
    go_ret
    refine ⟨v', rfl, by simpa using hown, ?_⟩
    exact ((Below.refl _ w).alloc (Nat.le_refl _) _).grown hgrow (by simp) (by intro k hk; simp [Value.ownBlock] at hk; omega)

set_option maxHeartbeats 1000000 in
theorem list_spec_str {g : Nat} {w : World} {p : Nat} {v : Value} {xs : List ByteArray} (h : SetS w p g v xs) (hn : xs.length ≤ 1048576) :
    Calls Try.prog 30 #[.pointer (some ⟨p, 0, none⟩)] w fun e w' => ∃ v', e = .returned v' ∧ w'.ownsRow w.heap.size 9 1 v' xs.length (xs.map Value.string) ∧ Below w.heap.size w w' := by
  have hc := clone_spec_str h.own hn (one_strs xs)
  have c1 := h.cell1
  clear h
  go_enter Try.func30, Try.ntmps30
  go_wp2_with (go_at_call 42; refine hc.mono ?_; rintro e w' ⟨v', rfl, X⟩)
  go_ret
  exact ⟨_, rfl, X⟩

/-- A new set, and what it is. -/
theorem set_new_str (w : World) (g : Nat) : SetS (w.alloc (.cells #[fnv g, .slice none 0 0] 71)) w.heap.size g (.slice none 0 0) [] :=
  ⟨heap_alloc_new w _, World.ownsRow_nil _ _ _ _, fun h => by cases h⟩


end Go.Proofs.Ytdgdaldgchbbaaa
