/-
  The reference's place, in and has: a list in order, with one more, and whether one is there.
-/
import Derived.Test.YtdgdaldgchbbaaaBegun
import Derived.Laws.AppendOwnNone
namespace Go.Proofs.Ytdgdaldgchbbaaa
open Go.RowKit Go.Shelf

/-- The order upwards or downwards. -/
def ordI (down : Bool) : Int → Int → Int := if down then bakI else cmpI

theorem ordI_neg (down : Bool) (a b : Int) : ordI down a b < 0 ↔ (if down then b < a else a < b) := by
  cases down
  · exact cmpI_neg a b
  · exact cmpI_neg b a
theorem ordI_zero (down : Bool) (a b : Int) : ordI down a b = 0 ↔ a = b := by
  cases down
  · exact cmpI_zero a b
  · exact (cmpI_zero b a).trans ⟨fun h => h.symm, fun h => h.symm⟩
theorem ordI_ord (down : Bool) : Ord (ordI down) := by
  cases down
  · exact cmpI_ord
  · exact bakI_ord

set_option maxHeartbeats 2000000 in
theorem place_spec (down : Bool) {w : World} {ao : Option Addr} {n cap : Nat} {xs : List Int} (h : Seg (Value.int .i64) 0 w ao n cap xs) (hn : n ≤ 1048576) (x : Int) :
    Calls Try.prog 12 #[.slice ao n cap, .int .i64 x, .bool down] w fun e w' => ∃ q, e = .returned (.tuple #[.int .i64 (pos (ordI down) x xs), .bool (isIn (ordI down) x xs)]) ∧ w' = w.drewN q := by
  have HL : Hid (xs.length = n) := h.size
  have HS : Hid (Seg (Value.int .i64) 0 w ao n cap xs) := h
  have hm : cap ≤ 9223372036854775807 := by have := h.max; unfold maxLen at this; omega
  generalize hpp : pos (ordI down) x xs = pp
  have HP : Hid (pos (ordI down) x xs = pp) := hpp
  generalize hqq : isIn (ordI down) x xs = qq
  have HQ : Hid (isIn (ordI down) x xs = qq) := hqq
  clear hpp hqq h
  go_enter Try.func12, Try.ntmps12
  go_wp2
  go_loopg [8] n (fun kx s8 wr => ∃ I : Nat, s8 = .int .i64 I ∧ I ≤ n ∧ n - I ≤ kx ∧ wr = w ∧ Hid (∀ t, t < I → ordI down (xs[t]?.getD 0) x < 0))
  case atStart => exact ⟨0, rfl, Nat.zero_le _, by omega, rfl, (fun t ht => absurd ht (Nat.not_lt_zero _) : ∀ t, t < 0 → ordI down (xs[t]?.getD 0) x < 0)⟩
  case round =>
    obtain ⟨I, rfl, hI, hg, rfl, J⟩ := hrel
    by_cases hlt : I < n
    · obtain ⟨b, off, rfl, hb, hcell⟩ := HS.out.at (by omega)
      have cm := hcell I hlt
      generalize hy : xs[I]?.getD 0 = y at cm
      have Y : Hid (xs[I]?.getD 0 = y) := hy
      clear hy hcell
      by_cases hyx : ordI down y x < 0
      · have J2 : Hid (∀ t, t < I + 1 → ordI down (xs[t]?.getD 0) x < 0) := fun t ht => by
          rcases Nat.lt_or_ge t I with h1 | h1
          · exact J.out t h1
          · rw [show t = I by omega, Y.out]; exact hyx
        rw [ordI_neg] at hyx
        cases down with
        | true =>
          simp at hyx
          go_wp2
          go_roundg (n - (I + 1))
          case measure => omega
          case rel => exact ⟨I + 1, by simp, by omega, Nat.le_refl _, rfl, J2⟩
        | false =>
          simp at hyx
          go_wp2
          go_roundg (n - (I + 1))
          case measure => omega
          case rel => exact ⟨I + 1, by simp, by omega, Nat.le_refl _, rfl, J2⟩
      · have ep : pp = I := by
          rw [← HP.out]
          refine pos_unique _ x xs I (by rw [HL.out]; exact hI) (fun j z hj e => ?_) (fun z e => ?_)
          · have := J.out j hj; rw [e] at this; exact this
          · have := Y.out; rw [e] at this; cases this; exact hyx
        have hq : qq = decide (y = x) := by
          rw [← HQ.out, isIn_at (HP.out.trans ep) (get_some (d := 0) (by rw [HL.out]; exact hlt)), Y.out]
          exact decide_eq_decide.2 (ordI_zero down y x)
        subst ep
        rw [ordI_neg] at hyx
        have hltd : decide ((pp : Int) < (n : Int)) = true := by simpa using hlt
        by_cases hyz : y = x
        · have hyd : decide (y = x) = true := by simpa using hyz
          have hq' : Hid (qq = true) := hq.trans hyd
          clear hq
          cases down with
          | true =>
            simp at hyx
            go_wp2_with fail
            go_quiet (fail)
            go_wp2
            go_ret2
            exact ⟨nq, by rw [hq'.out]; rfl, rfl⟩
          | false =>
            simp at hyx
            go_wp2_with fail
            go_quiet (fail)
            go_wp2
            go_ret2
            exact ⟨nq, by rw [hq'.out]; rfl, rfl⟩
        · have hyd : decide (y = x) = false := by simpa using hyz
          have hyb : (y == x) = false := by simpa using hyz
          have hq' : Hid (qq = false) := hq.trans hyd
          clear hq
          cases down with
          | true =>
            simp at hyx
            go_wp2_with fail
            go_quiet (fail)
            go_wp2
            go_ret2
            exact ⟨nq, by rw [hq'.out]; rfl, rfl⟩
          | false =>
            simp at hyx
            go_wp2_with fail
            go_quiet (fail)
            go_wp2
            go_ret2
            exact ⟨nq, by rw [hq'.out]; rfl, rfl⟩
    · obtain rfl : I = n := by omega
      have ep : pp = I := by
        rw [← HP.out]
        refine pos_unique _ x xs I (by rw [HL.out]; exact hI) (fun j z hj e => ?_) (fun z e => ?_)
        · have := J.out j hj; rw [e] at this; exact this
        · have := (List.getElem?_eq_some_iff.1 e).1
          have := HL.out
          omega
      have hq' : Hid (qq = false) := by
        show qq = false
        rw [← HQ.out]
        exact isIn_end (HP.out.trans ep) (by rw [HL.out]; exact Nat.le_refl _)
      subst ep
      have hltd : decide ((pp : Int) < (pp : Int)) = false := by simp
      go_wp2_with fail
      go_quiet (fail)
      go_wp2
      go_ret2
      exact ⟨nq, by rw [hq'.out]; rfl, rfl⟩

set_option maxHeartbeats 1000000 in
theorem has_list {w : World} {ao : Option Addr} {n cap : Nat} {xs : List Int} (h : Seg (Value.int .i64) 0 w ao n cap xs) (hn : n ≤ 1048576) (x : Int) :
    Calls Try.prog 21 #[.slice ao n cap, .int .i64 x] w fun e w' => e = .returned (.bool (decide (x ∈ xs))) ∧ w' = w := by
  have HL : Hid (xs.length = n) := h.size
  have HS : Hid (Seg (Value.int .i64) 0 w ao n cap xs) := h
  have hm : cap ≤ 9223372036854775807 := by have := h.max; unfold maxLen at this; omega
  generalize hqq : decide (x ∈ xs) = qq
  have HQ : Hid (decide (x ∈ xs) = qq) := hqq
  clear hqq h
  go_enter Try.func21, Try.ntmps21
  go_wp2
  go_loopg [5] n (fun kx s5 wr => ∃ I : Nat, s5 = .int .i64 I ∧ I ≤ n ∧ n - I ≤ kx ∧ wr = w ∧ Hid (∀ t, t < I → ¬ xs[t]?.getD 0 = x))
  case atStart => exact ⟨0, rfl, Nat.zero_le _, by omega, rfl, (fun t ht => absurd ht (Nat.not_lt_zero _) : ∀ t, t < 0 → ¬ xs[t]?.getD 0 = x)⟩
  case round =>
    obtain ⟨I, rfl, hI, hg, rfl, J⟩ := hrel
    by_cases hlt : I < n
    · obtain ⟨b, off, rfl, hb, hcell⟩ := HS.out.at (by omega)
      have cm := hcell I hlt
      generalize hy : xs[I]?.getD 0 = y at cm
      have Y : Hid (xs[I]?.getD 0 = y) := hy
      clear hy hcell
      by_cases hyx : y = x
      · have hq : Hid (qq = true) := by
          show qq = true
          rw [← HQ.out]
          refine decide_eq_true ?_
          have := get_some (xs := xs) (d := 0) (j := I) (by rw [HL.out]; exact hlt)
          rw [Y.out, hyx] at this
          exact List.mem_of_getElem? this
        go_wp2
        go_ret
        exact ⟨by rw [hq.out]; rfl, rfl⟩
      · have J2 : Hid (∀ t, t < I + 1 → ¬ xs[t]?.getD 0 = x) := fun t ht => by
          rcases Nat.lt_or_ge t I with h1 | h1
          · exact J.out t h1
          · rw [show t = I by omega, Y.out]; exact hyx
        go_wp2
        go_roundg (n - (I + 1))
        case measure => omega
        case rel => exact ⟨I + 1, by simp, by omega, Nat.le_refl _, rfl, J2⟩
    · obtain rfl : I = n := by omega
      have hq : Hid (qq = false) := by
        show qq = false
        rw [← HQ.out]
        refine decide_eq_false fun hm => ?_
        obtain ⟨j, hj, e⟩ := List.getElem_of_mem hm
        have := J.out j (by rw [← HL.out]; exact hj)
        rw [List.getElem?_eq_getElem hj] at this
        exact this e
      go_wp2
      go_ret
      exact ⟨by rw [hq.out]; rfl, rfl⟩

/-- append of a slice that reads as a list onto one of the call's own. -/
theorem wp_append_seg {w : World} {o : Oper} {a : Act} {K : Act → World → Prop} {Q : Exit → Act → World → Prop} (s x : Operand)
    (ho : o.op = .call { callee := .builtin .append, args := #[s, x], argTypes := #[27, 27] })
    (base : Nat) (v : Value) (n : Nat) (bs : List Int) (hs : a.eval s = v) (hown : w.ownsRow base 3 1 v n (bs.map (Value.int .i64)))
    (ao : Option Addr) (m c : Nat) (xs : List Int) (hx : a.eval x = .slice ao m c) (hseg : Seg (Value.int .i64) 0 w ao m c xs) (hb : n + m ≤ 4194304) (hbase : base ≤ w.heap.size)
    (h : ∀ v' w', w'.ownsRow base 3 1 v' (n + m) ((bs ++ xs).map (Value.int .i64)) → w.grownBy w' v.ownBlock → K (a.put o.dst v') w') : o.wp Try.prog a w K Q := by
  obtain ⟨i0, hi, hz0, hz1, hz2⟩ := info_parts Try.info3
  cases ao with
  | none =>
    obtain ⟨rfl, rfl⟩ := hseg.nil rfl
    obtain rfl : xs = [] := List.eq_nil_of_length_eq_zero hseg.size
    have hrun := run_append_owned_none (P := Try.prog) (w := w) base 27 o.type 3 i0 1 Try.underlying27 hi v n _ hown
    unfold Oper.wp
    simp [execOp, ho, resolve, invoke, builtin, hs, hx, hrun, Result.andThen]
    exact h v w (by rw [List.append_nil]; exact hown) ⟨rfl, rfl, rfl, Nat.le_refl _, fun _ _ _ => rfl⟩
  | some ad =>
    refine wp_append_own w s x 27 ho base 3 i0 (.int .i64 0) 1 8 Try.underlying27 hi hz0 hz1 hz2 rfl (by decide) v n _ hs hown ad m c (xs.map (Value.int .i64)) hx (by rw [List.length_map, hseg.size, Nat.mul_one])
      (hseg.news ad rfl) (one_ints xs) (by unfold maxLen; omega) (by omega) hbase ?_
    intro v' w' h1 h2 _
    exact h v' w' (by rw [List.map_append]; exact h1) h2

theorem wpList_append_seg {w : World} {ops : Array Oper} {rest : List Oper} {o : Oper} {a : Act} {Q : Exit → Act → World → Prop} (hgd : o.guard = none) (s x : Operand)
    (ho : o.op = .call { callee := .builtin .append, args := #[s, x], argTypes := #[27, 27] })
    (base : Nat) (v : Value) (n : Nat) (bs : List Int) (hs : a.eval s = v) (hown : w.ownsRow base 3 1 v n (bs.map (Value.int .i64)))
    (ao : Option Addr) (m c : Nat) (xs : List Int) (hx : a.eval x = .slice ao m c) (hseg : Seg (Value.int .i64) 0 w ao m c xs) (hb : n + m ≤ 4194304) (hbase : base ≤ w.heap.size)
    (h : ∀ v' w', w'.ownsRow base 3 1 v' (n + m) ((bs ++ xs).map (Value.int .i64)) → w.grownBy w' v.ownBlock → wpList Try.prog ops Q rest (a.put o.dst v') w') : wpList Try.prog ops Q (o :: rest) a w :=
  wpList_plain hgd fun _ hK => wp_append_seg s x ho base v n bs hs hown ao m c xs hx hseg hb hbase fun v' w' h1 h2 => hK _ _ (h v' w' h1 h2)

theorem step_append_seg {w : World} {ops : Array Oper} {o : Oper} {a : Act} {K : Act → World → Prop} {Q : Exit → Act → World → Prop} {E : Prop} (hgd : o.guard = none) (s x : Operand)
    (ho : o.op = .call { callee := .builtin .append, args := #[s, x], argTypes := #[27, 27] })
    (base : Nat) (v : Value) (n : Nat) (bs : List Int) (hs : a.eval s = v) (hown : w.ownsRow base 3 1 v n (bs.map (Value.int .i64)))
    (ao : Option Addr) (m c : Nat) (xs : List Int) (hx : a.eval x = .slice ao m c) (hseg : Seg (Value.int .i64) 0 w ao m c xs) (hb : n + m ≤ 4194304) (hbase : base ≤ w.heap.size)
    (h : ∀ v' w', w'.ownsRow base 3 1 v' (n + m) ((bs ++ xs).map (Value.int .i64)) → w.grownBy w' v.ownBlock → K (a.put o.dst v') w') :
    if Region.wanted o (yielded ops a.tmps) = true then Oper.wp Try.prog o a w K Q else E := by
  have hw : Region.wanted o (yielded ops a.tmps) = true := by simp [Region.wanted, hgd]
  rw [if_pos hw]
  exact wp_append_seg s x ho base v n bs hs hown ao m c xs hx hseg hb hbase h

/-- The front of a slice. -/
theorem seg_take {w : World} {ao : Option Addr} {n cap : Nat} {xs : List Int} (h : Seg (Value.int .i64) 0 w ao n cap xs) {i : Nat} (hi : i ≤ n) : Seg (Value.int .i64) 0 w ao i cap (xs.take i) := by
  refine ⟨by rw [List.length_take, h.size]; omega, Nat.le_trans hi h.le, h.max, fun e => ?_, fun a ha j hj => ?_⟩
  · have := h.nil e; exact ⟨by omega, this.2⟩
  · rw [h.cell a ha j (by omega), List.getElem?_take, if_pos hj]

/-- The rest of a slice. -/
theorem seg_drop {w : World} {b off n cap : Nat} {xs : List Int} (h : Seg (Value.int .i64) 0 w (some ⟨b, off, none⟩) n cap xs) {i : Nat} (hi : i ≤ n) (ao : Option Addr) (ha : ao = if cap = i then some ⟨b, off, none⟩ else some ⟨b, off + i, none⟩) :
    Seg (Value.int .i64) 0 w ao (n - i) (cap - i) (xs.drop i) := by
  have hle := h.le
  have hmx := h.max
  refine ⟨by rw [List.length_drop, h.size], by omega, by omega, fun e => ?_, fun a ha' j hj => ?_⟩
  · rw [ha] at e; split at e <;> cases e
  · rw [ha, if_neg (by omega)] at ha'
    cases ha'
    have := h.cell _ rfl (i + j) (by omega)
    rw [Addr.add_lit] at this ⊢
    rw [Nat.add_assoc, this, List.getElem?_drop]

theorem own_later {w W : World} {base n : Nat} {v : Value} {cs : List Value} (h : w.ownsRow base 3 1 v n cs) (hb : Below w.heap.size w W) : W.ownsRow base 3 1 v n cs :=
  ownsRow_of_block h (fun i hi => hb.block i (h.lt i hi).2)

theorem Seg.drew {α : Type} {enc : α → Value} {d : α} {w : World} {ao : Option Addr} {len cap : Nat} {xs : List α} (h : Seg enc d w ao len cap xs) : Seg enc d w.drew ao len cap xs := ⟨h.size, h.le, h.max, h.nil, h.cell⟩

/-- What the second append leans on. -/
theorem grown_on {w w1 W w2 : World} {base n : Nat} {v1 : Value} {cs : List Value} (hb : Below w.heap.size w w1) (ho : w1.ownsRow base 3 1 v1 n cs) (hbase : w.heap.size ≤ base) (hw : Below w1.heap.size w1 W) (hg : W.grownBy w2 v1.ownBlock) : Below w.heap.size w w2 := by
  have h1 : Below w.heap.size w W := hb.trans (hw.mono hb.size)
  exact h1.grown hg (Nat.le_trans hb.size hw.size) (fun k hk => Nat.le_trans hbase (ho.lt k hk).1)

theorem seg_one (w : World) (x : Int) : Seg (Value.int .i64) 0 (w.alloc (.cells #[.int .i64 x] 3)) (some ⟨w.heap.size, 0, none⟩) 1 1 [x] := seg_lit w [x] (by simp) _ rfl

set_option maxHeartbeats 4000000 in
theorem in_out (down : Bool) {w : World} {ao : Option Addr} {n cap : Nat} {xs : List Int} (h : Seg (Value.int .i64) 0 w ao n cap xs) (hsp : ∀ a, ao = some a → a.spot = none) (hn : n ≤ 1000) (x : Int) (hi : isIn (ordI down) x xs = false) :
    Calls Try.prog 14 #[.slice ao n cap, .int .i64 x, .bool down] w fun e w' => ∃ v', e = .returned v' ∧ w'.ownsRow w.heap.size 3 1 v' (n + 1) ((put (ordI down) x xs).map (Value.int .i64)) ∧ Below w.heap.size w w' := by
  have hc := place_spec down h (by omega) x
  rw [hi] at hc
  have hpos : pos (ordI down) x xs ≤ n := by rw [← h.size]; exact pos_le _ _ _
  have HP : Hid (put (ordI down) x xs = xs.take (pos (ordI down) x xs) ++ [x] ++ xs.drop (pos (ordI down) x xs)) := by unfold put; simp [Hid]
  have HS : Hid (Seg (Value.int .i64) 0 w ao n cap xs) := h
  have hm : cap ≤ 9223372036854775807 := by have := h.max; unfold maxLen at this; omega
  have hle : n ≤ cap := h.le
  have hnil : ao = none → n = 0 ∧ cap = 0 := h.nil
  clear h hi
  generalize put (ordI down) x xs = ys at HP ⊢
  generalize pos (ordI down) x xs = pp at hc hpos HP
  have hpc : pp ≤ cap := by omega
  go_enter Try.func14, Try.ntmps14
  cases ao with
  | none =>
    obtain ⟨rfl, rfl⟩ := hnil rfl
    obtain rfl : pp = 0 := by omega
    clear hnil
    go_wp2_with (first
      | (go_at_call 12; refine hc.mono ?_; rintro e w1 ⟨q, rfl, rfl⟩)
      | (at_builtin; refine wpList_append_seg rfl _ _ rfl w.heap.size (.slice none 0 0) 0 [] rfl (World.ownsRow_nil _ _ _ _) none 0 0 (xs.take 0) rfl (seg_take (HS.out.drewN _) (Nat.le_refl _)) (by omega) (Nat.le_refl _) ?_
         intro v1 w1 o1 g1))
    have A1 : Hid (w1.ownsRow w.heap.size 3 1 v1 0 ((xs.take 0).map (Value.int .i64))) := by simpa [Hid] using o1
    have G1 : Hid (Below w.heap.size w w1) := (below_drewN (Below.refl _ _) _).grown g1 (Nat.le_refl _) (fun k hk => by cases hk)
    have hsz : w.heap.size ≤ w1.heap.size := G1.out.size
    clear o1 g1
    go_region_law (first
      | (refine step_append_seg rfl (.tmp 23) (.tmp 25) rfl w.heap.size v1 0 (xs.take 0) (by simp [Act.eval]) (by first | exact own_later A1.out ((Below.refl _ _).drew.alloc (Nat.le_refl _) _) | exact own_later A1.out ((Below.refl _ _).alloc (Nat.le_refl _) _).drew) (some ⟨w1.heap.size, 0, none⟩) 1 1 [x] (by simp [Act.eval]) (by first | exact seg_one w1.drew x | exact (seg_one w1 x).drew) (by omega) (by simp; omega) ?_
         intro v2 w2 o2 g2
         have G2 : Hid (Below w.heap.size w w2) := (by first | exact grown_on G1.out A1.out (Nat.le_refl _) ((Below.refl _ _).drew.alloc (Nat.le_refl _) _) g2 | exact grown_on G1.out A1.out (Nat.le_refl _) ((Below.refl _ _).alloc (Nat.le_refl _) _).drew g2)
         have A2 : Hid (w2.ownsRow w.heap.size 3 1 v2 1 ((xs.take 0 ++ [x]).map (Value.int .i64))) := o2
         clear o2 g2)
      | (refine step_append_seg rfl (.tmp 26) (.tmp 29) rfl w.heap.size v2 1 (xs.take 0 ++ [x]) (by simp [Act.eval]) A2.out none 0 0 (xs.drop 0) (by simp [Act.eval]) (HS.out.below G2.out) (by omega) G2.out.size ?_
         intro v3 w3 o3 g3
         have G3 : Hid (Below w.heap.size w w3) := grown_on G2.out A2.out (Nat.le_refl _) (Below.refl _ _) g3
         have A3 : Hid (w3.ownsRow w.heap.size 3 1 v3 (0 + 1) (ys.map (Value.int .i64))) := (by rw [HP.out]; exact o3)
         clear o3 g3))
    go_wp2
    go_ret
    exact ⟨v3, rfl, A3.out, G3.out⟩
  | some a =>
    obtain ⟨b, off, sp⟩ := a
    obtain rfl : sp = none := hsp _ rfl
    obtain ⟨A, hA⟩ : ∃ A : Addr, (if cap = pp then some (⟨b, off, none⟩ : Addr) else some ⟨b, off + pp, none⟩) = some A := by
      by_cases hcj : cap = pp
      · exact ⟨⟨b, off, none⟩, by simp [hcj]⟩
      · exact ⟨⟨b, off + pp, none⟩, by simp [hcj]⟩
    have HT : Hid (∀ W, Below w.heap.size w W → Seg (Value.int .i64) 0 W (some A) (n - pp) (cap - pp) (xs.drop pp)) := fun W hW => seg_drop (HS.out.below hW) hpos _ hA.symm
    have HN : Hid (pp + 1 + (n - pp) = n + 1) := (by omega : pp + 1 + (n - pp) = n + 1)
    have hpi : (pp : Int) ≤ (cap : Int) := by omega
    have hpn : (pp : Int) ≤ (n : Int) := by omega
    clear hnil hsp
    go_wp2_with (first
      | (go_at_call 12; refine hc.mono ?_; rintro e w1 ⟨q, rfl, rfl⟩)
      | (at_builtin; refine wpList_append_seg rfl _ _ rfl w.heap.size (.slice none 0 0) 0 [] rfl (World.ownsRow_nil _ _ _ _) (some ⟨b, off, none⟩) pp cap (xs.take pp) rfl (seg_take (HS.out.drewN _) hpos) (by omega) (Nat.le_refl _) ?_
         intro v1 w1 o1 g1))
    have A1 : Hid (w1.ownsRow w.heap.size 3 1 v1 pp ((xs.take pp).map (Value.int .i64))) := by simpa [Hid] using o1
    have G1 : Hid (Below w.heap.size w w1) := (below_drewN (Below.refl _ _) _).grown g1 (Nat.le_refl _) (fun k hk => by cases hk)
    have hsz : w.heap.size ≤ w1.heap.size := G1.out.size
    clear o1 g1
    go_region_law (first
      | (refine step_append_seg rfl (.tmp 23) (.tmp 25) rfl w.heap.size v1 pp (xs.take pp) (by simp [Act.eval]) (by first | exact own_later A1.out ((Below.refl _ _).drew.alloc (Nat.le_refl _) _) | exact own_later A1.out ((Below.refl _ _).alloc (Nat.le_refl _) _).drew) (some ⟨w1.heap.size, 0, none⟩) 1 1 [x] (by simp [Act.eval]) (by first | exact seg_one w1.drew x | exact (seg_one w1 x).drew) (by omega) (by simp; omega) ?_
         intro v2 w2 o2 g2
         have G2 : Hid (Below w.heap.size w w2) := (by first | exact grown_on G1.out A1.out (Nat.le_refl _) ((Below.refl _ _).drew.alloc (Nat.le_refl _) _) g2 | exact grown_on G1.out A1.out (Nat.le_refl _) ((Below.refl _ _).alloc (Nat.le_refl _) _).drew g2)
         have A2 : Hid (w2.ownsRow w.heap.size 3 1 v2 (pp + 1) ((xs.take pp ++ [x]).map (Value.int .i64))) := o2
         clear o2 g2)
      | (refine step_append_seg rfl (.tmp 26) (.tmp 29) rfl w.heap.size v2 (pp + 1) (xs.take pp ++ [x]) (by simp [Act.eval]) A2.out (some A) (n - pp) (cap - pp) (xs.drop pp) (by simp [Act.eval]) (HT.out _ G2.out) (by omega) G2.out.size ?_
         intro v3 w3 o3 g3
         have G3 : Hid (Below w.heap.size w w3) := grown_on G2.out A2.out (Nat.le_refl _) (Below.refl _ _) g3
         have A3 : Hid (w3.ownsRow w.heap.size 3 1 v3 (n + 1) (ys.map (Value.int .i64))) := (by rw [HP.out, ← HN.out]; exact o3)
         clear o3 g3))
    go_wp2
    go_ret
    exact ⟨v3, rfl, A3.out, G3.out⟩

set_option maxHeartbeats 1000000 in
theorem in_in (down : Bool) {w : World} {ao : Option Addr} {n cap : Nat} {xs : List Int} (h : Seg (Value.int .i64) 0 w ao n cap xs) (hn : n ≤ 1000) (x : Int) (hi : isIn (ordI down) x xs = true) :
    Calls Try.prog 14 #[.slice ao n cap, .int .i64 x, .bool down] w fun e w' => e = .returned (.slice ao n cap) ∧ Below w.heap.size w w' := by
  have hc := place_spec down h (by omega) x
  rw [hi] at hc
  clear h hi
  generalize pos (ordI down) x xs = pp at hc
  go_enter Try.func14, Try.ntmps14
  go_wp2_with (go_at_call 12; refine hc.mono ?_; rintro e w1 ⟨q, rfl, rfl⟩)
  go_ret
  exact ⟨rfl, below_drewN (Below.refl _ _) _⟩

/-- A list in order with one more: the same slice, or new memory. -/
theorem in_spec (down : Bool) {w : World} {ao : Option Addr} {n cap : Nat} {xs : List Int} (h : Seg (Value.int .i64) 0 w ao n cap xs) (hsp : ∀ a, ao = some a → a.spot = none) (hn : n ≤ 1000) (x : Int) :
    Calls Try.prog 14 #[.slice ao n cap, .int .i64 x, .bool down] w fun e w' => ∃ ao' cap', e = .returned (.slice ao' (ins (ordI down) x xs).length cap') ∧
      Hid (Seg (Value.int .i64) 0 w' ao' (ins (ordI down) x xs).length cap' (ins (ordI down) x xs) ∧ (∀ a, ao' = some a → a.spot = none) ∧ Below w.heap.size w w' ∧ (∀ a, ao' = some a → ao = some a ∨ (w.heap.size ≤ a.block ∧ a.block < w'.heap.size))) := by
  unfold ins
  cases hi : isIn (ordI down) x xs with
  | true =>
    refine (in_in down h hn x hi).mono ?_
    rintro e w' ⟨rfl, hB⟩
    simp only [cond_true]
    rw [h.size]
    exact ⟨ao, cap, rfl, h.below hB, hsp, hB, fun a ha => .inl ha⟩
  | false =>
    refine (in_out down h hsp hn x hi).mono ?_
    rintro e w' ⟨v', rfl, ho, hB⟩
    simp only [cond_false]
    have hl : (put (ordI down) x xs).length = n + 1 := by rw [put_length, h.size]
    rw [hl]
    obtain ⟨ao', cap', rfl, seg, hblk⟩ := Seg.owned (d := 0) ho
    refine ⟨ao', cap', rfl, seg, fun a ha => ?_, hB, fun a ha => .inr (ho.lt _ (hblk a ha))⟩
    obtain ⟨ao2, cap2, e2, -, -, h2⟩ := own_slice ho
    cases e2
    rcases h2 with ⟨h3, -, -⟩ | ⟨g, h3⟩
    · rw [h3] at ha; cases ha
    · rw [h3] at ha; cases ha; rfl

end Go.Proofs.Ytdgdaldgchbbaaa
