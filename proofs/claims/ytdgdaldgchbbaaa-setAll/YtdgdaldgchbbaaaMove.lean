/-
  Laws of no program: copy for elements of any number of cells, as a step of a walk and of a region that draws its order.
-/
import Derived.Test.YtdgdaldgchbbaaaBase
import Derived.Lib.Overlaps
import Derived.Lib.AppendZerosOnto
import Derived.Deep.RegionLaw
namespace Go.Proofs.Ytdgdaldgchbbaaa
open Go.RowKit

/-- copy: all is read ahead of the first write. -/
theorem run_copy_many {P : Program} (w : World) (dT sT ty elem : TypeId) (size : Nat) (b o dLen dCap : Nat) (a : Addr) (sLen sCap : Nat) (cs : List Value)
    (hu : P.underlying dT = some (.slice elem)) (hs : (P.info? elem).map (·.size) = some size) (N : Nat) (hN : Nat.min sLen dLen = N) (hn : cs.length = N * size)
    (hsrc : ∀ j v, cs[j]? = some v → w.cell? (a.add j) = some v) (hc : ∀ j, j < cs.length → (w.cell? ⟨b, o + j, none⟩).isSome = true) (hf : ∀ j, j < cs.length → w.frozen? ⟨b, o + j, none⟩ = false) (h1 : ∀ v ∈ cs, v.oneCell' = true) :
    (Builtin.copy_ #[dT, sT] ty #[.slice (some ⟨b, o, none⟩) dLen dCap, .slice (some a) sLen sCap]).run P w = .ok (goInt N) (w.setCells b o cs) := by
  have hl := run_loadCells_list (P := P) w a cs hsrc
  have hst := run_storeCells_cells (P := P) b o cs 0 w (by simpa using hc) (by simpa using hf) h1
  cases hq : P.info? elem with
  | none => simp [hq] at hs
  | some i =>
    have hi : i.size = size := by simpa [hq] using hs
    rw [hn] at hl
    simp [Builtin.copy_, run_underlying hu, Builtin.lenOf, Builtin.firstCells, sizeOf, typeInfo, hq, hi, hN, hl, hst]

theorem wp_copy_known {P : Program} (w : World) {o : Oper} {a : Act} {K : Act → World → Prop} {Q : Exit → Act → World → Prop} (d s : Operand) (t t' : TypeId)
    (ho : o.op = .call { callee := .builtin .copy, args := #[d, s], argTypes := #[t, t'] }) (v u : Value) (hd : a.eval d = v) (hs : a.eval s = u) {v' : Value} {w' : World}
    (hr : (Builtin.copy_ #[t, t'] o.type #[v, u]).run P w = .ok v' w') (h : K (a.put o.dst v') w') : o.wp P a w K Q := by
  unfold Oper.wp execOp
  simp only [ho, resolve, invoke, builtin, Sem.run_bind, Sem.run_pure, Result.andThen_ok, List.map_toArray, List.map_cons, List.map_nil, hd, hs, hr]
  exact h

theorem wpList_copy_known {P : Program} (w : World) {ops : Array Oper} {rest : List Oper} {o : Oper} {a : Act} {Q : Exit → Act → World → Prop} (hgd : o.guard = none) (d s : Operand) (t t' : TypeId)
    (ho : o.op = .call { callee := .builtin .copy, args := #[d, s], argTypes := #[t, t'] }) (v u : Value) (hd : a.eval d = v) (hs : a.eval s = u) {v' : Value} {w' : World}
    (hr : (Builtin.copy_ #[t, t'] o.type #[v, u]).run P w = .ok v' w') (h : wpList P ops Q rest (a.put o.dst v') w') : wpList P ops Q (o :: rest) a w :=
  wpList_plain hgd fun _ hK => wp_copy_known w d s t t' ho v u hd hs hr (hK _ _ h)

theorem step_copy_known {P : Program} {ops : Array Oper} {o : Oper} {a : Act} {w : World} {K : Act → World → Prop} {Q : Exit → Act → World → Prop} {E : Prop}
    (hg : o.guard = none) (d x : Operand) (dT sT : TypeId) (hop : o.op = Op.call { callee := Callee.builtin Builtin.copy, args := #[d, x], argTypes := #[dT, sT] })
    (v u : Value) (hd : a.eval d = v) (hx : a.eval x = u) {v' : Value} {w' : World} (hr : (Builtin.copy_ #[dT, sT] o.type #[v, u]).run P w = .ok v' w') (hK : K (a.put o.dst v') w') :
    if Region.wanted o (yielded ops a.tmps) = true then Oper.wp P o a w K Q else E := by
  have hw : Region.wanted o (yielded ops a.tmps) = true := by simp [Region.wanted, hg]
  rw [if_pos hw]
  unfold Oper.wp
  simp [execOp, hop, resolve, invoke, builtin, hd, hx, hr, Result.andThen]
  exact hK

theorem isSome_setCells (b : Nat) (vs : List Value) (o : Nat) (w : World) (h : ∀ j, j < vs.length → (w.cell? ⟨b, o + j, none⟩).isSome = true) (k : Nat) (hk : (w.cell? ⟨b, k, none⟩).isSome = true) : ((w.setCells b o vs).cell? ⟨b, k, none⟩).isSome = true := by
  by_cases hin : o ≤ k ∧ k < o + vs.length
  · have := World.cell?_setCells_in b vs o w h (k - o) (by omega)
    rw [show o + (k - o) = k by omega] at this
    rw [this]; rfl
  · rw [World.cell?_setCells_out b vs o w ⟨b, k, none⟩ (fun _ _ => by show k < o ∨ o + vs.length ≤ k; omega)]
    exact hk

theorem drew_setCells (b : Nat) : ∀ (vs : List Value) (o : Nat) (w : World), (w.setCells b o vs).drew = w.drew.setCells b o vs
  | [], _, _ => rfl
  | v :: r, o, w => by rw [World.setCells, World.setCells, drew_setCells b r]; rfl

/-- Cells behind two writes, the first of the tail, the second of what comes between. -/
theorem cells_shifted {w : World} {b s m : Nat} {cs us : List Value} (hu : us.length = m) (hs : s ≤ cs.length)
    (hc : ∀ j u, cs[j]? = some u → w.cell? ⟨b, j, none⟩ = some u) (hr : ∀ j, j < cs.length + m → (w.cell? ⟨b, j, none⟩).isSome = true) :
    ∀ j u, (cs.take s ++ us ++ cs.drop s)[j]? = some u → ((w.setCells b (s + m) (cs.drop s)).setCells b s us).cell? ⟨b, j, none⟩ = some u := by
  intro j u hj
  have hd : (cs.drop s).length = cs.length - s := List.length_drop
  have ht : (cs.take s).length = s := by rw [List.length_take]; omega
  have hr1 : ∀ j, j < cs.length + m → ((w.setCells b (s + m) (cs.drop s)).cell? ⟨b, j, none⟩).isSome = true := fun j hj =>
    isSome_setCells b _ _ _ (fun t ht => hr _ (by omega)) _ (hr j hj)
  rcases Nat.lt_or_ge j s with h1 | h1
  · rw [World.cell?_setCells_out b us s _ ⟨b, j, none⟩ (fun _ _ => Or.inl h1), World.cell?_setCells_out b _ _ _ ⟨b, j, none⟩ (fun _ _ => Or.inl (by show j < s + m; omega))]
    rw [List.append_assoc, List.getElem?_append_left (by omega), List.getElem?_take, if_pos h1] at hj
    exact hc j u hj
  · rcases Nat.lt_or_ge j (s + m) with h2 | h2
    · rw [List.getElem?_append_left (by rw [List.length_append]; omega), List.getElem?_append_right (by omega), ht] at hj
      obtain ⟨hlt, rfl⟩ := List.getElem?_eq_some_iff.1 hj
      have := World.cell?_setCells_in b us s (w.setCells b (s + m) (cs.drop s)) (fun t ht => hr1 _ (by omega)) (j - s) hlt
      rwa [show s + (j - s) = j by omega] at this
    · rw [World.cell?_setCells_out b us s _ ⟨b, j, none⟩ (fun _ _ => Or.inr (by show s + us.length ≤ j; omega))]
      rw [List.getElem?_append_right (by rw [List.length_append]; omega), List.length_append, ht, hu] at hj
      obtain ⟨hlt, rfl⟩ := List.getElem?_eq_some_iff.1 hj
      have := World.cell?_setCells_in b (cs.drop s) (s + m) w (fun t ht => hr _ (by omega)) (j - (s + m)) hlt
      rwa [show s + m + (j - (s + m)) = j by omega] at this

/-- The same, the writes the other way round. -/
theorem cells_laid {w : World} {b s m : Nat} {cs us : List Value} (hu : us.length = m) (hs : s ≤ cs.length)
    (hc : ∀ j u, j < s → cs[j]? = some u → w.cell? ⟨b, j, none⟩ = some u) (hr : ∀ j, j < cs.length + m → (w.cell? ⟨b, j, none⟩).isSome = true) :
    ∀ j u, (cs.take s ++ us ++ cs.drop s)[j]? = some u → ((w.setCells b s us).setCells b (s + m) (cs.drop s)).cell? ⟨b, j, none⟩ = some u := by
  intro j u hj
  have hd : (cs.drop s).length = cs.length - s := List.length_drop
  have ht : (cs.take s).length = s := by rw [List.length_take]; omega
  have hr1 : ∀ j, j < cs.length + m → ((w.setCells b s us).cell? ⟨b, j, none⟩).isSome = true := fun j hj =>
    isSome_setCells b _ _ _ (fun t ht => hr _ (by omega)) _ (hr j hj)
  rcases Nat.lt_or_ge j s with h1 | h1
  · rw [World.cell?_setCells_out b _ _ _ ⟨b, j, none⟩ (fun _ _ => Or.inl (by show j < s + m; omega)), World.cell?_setCells_out b us s _ ⟨b, j, none⟩ (fun _ _ => Or.inl h1)]
    rw [List.append_assoc, List.getElem?_append_left (by omega), List.getElem?_take, if_pos h1] at hj
    exact hc j u h1 hj
  · rcases Nat.lt_or_ge j (s + m) with h2 | h2
    · rw [World.cell?_setCells_out b _ _ _ ⟨b, j, none⟩ (fun _ _ => Or.inl (by show j < s + m; omega))]
      rw [List.getElem?_append_left (by rw [List.length_append]; omega), List.getElem?_append_right (by omega), ht] at hj
      obtain ⟨hlt, rfl⟩ := List.getElem?_eq_some_iff.1 hj
      have := World.cell?_setCells_in b us s w (fun t ht => hr _ (by omega)) (j - s) hlt
      rwa [show s + (j - s) = j by omega] at this
    · rw [List.getElem?_append_right (by rw [List.length_append]; omega), List.length_append, ht, hu] at hj
      obtain ⟨hlt, rfl⟩ := List.getElem?_eq_some_iff.1 hj
      have := World.cell?_setCells_in b (cs.drop s) (s + m) (w.setCells b s us) (fun t ht => hr1 _ (by omega)) (j - (s + m)) hlt
      rwa [show s + m + (j - (s + m)) = j by omega] at this

/-- What an owned row is. -/
theorem own_open {w : World} {base k g n cap : Nat} {E : TypeId} {cs : List Value} (h : w.ownsRow base E k (.slice (some ⟨g, 0, none⟩) n cap) n cs) :
    ∃ cur, w.heap[g]? = some (.cells cur E (0, 0)) ∧ cur.size = cap * k ∧ n ≤ cap ∧ cap ≤ maxLen ∧ g < w.heap.size ∧ base ≤ g ∧ cs.length = n * k ∧ (∀ j u, cs[j]? = some u → w.cell? ⟨g, j, none⟩ = some u) ∧
      (∀ j, j < cap * k → (w.cell? ⟨g, j, none⟩).isSome = true) ∧ (∀ j, w.frozen? ⟨g, j, none⟩ = false) := by
  have hc : ∀ j u, cs[j]? = some u → w.cell? ⟨g, j, none⟩ = some u := fun j u hj => by
    have := World.ownsRow.cells h (g := g) rfl j u hj
    rwa [Addr.add_lit, Nat.zero_add] at this
  rcases h.2 with ⟨h', _⟩ | ⟨g', cap', cur, hv, hg, hh, hn, hm, hs, ht⟩
  · cases h'
  · cases hv
    refine ⟨cur, hh, hs, hn, hm, (Array.getElem?_eq_some_iff.1 hh).1, hg, h.1, hc, fun j hj => ?_, fun j => by simp [World.frozen?, hh]⟩
    have : j < cur.size := by omega
    simp [World.cell?, hh, this]

/-- append onto an owned row: where the new row lies. -/
theorem append_known {P : Program} (w : World) (t ty e : TypeId) (i : TypeInfo) (z : Value) (size bytes : Nat) (ht : P.underlying t = some (.slice e)) (hi : P.info? e = some i) (hz : i.zero = some z)
    (hsize : i.size = size) (hby : i.bytes = bytes) (hzs : z.cells.size = size) (hsz : 0 < size)
    (v : Value) (n : Nat) (xs : List Value) (hown : w.ownsRow 0 e size v n xs)
    (a : Addr) (m c : Nat) (news : List Value) (hl : news.length = m * size) (hnews : ∀ j u, news[j]? = some u → w.cell? (a.add j) = some u) (h1 : ∀ u ∈ news, u.oneCell' = true)
    (h63 : n + m ≤ maxLen) (hbytes : (n + m) * bytes ≤ 140737488355328) :
    ∃ v' w', (Builtin.append_ #[t, t] ty #[v, .slice (some a) m c]).run P w = .ok v' w' ∧ w'.ownsRow 0 e size v' (n + m) (xs ++ news) ∧ Kept (fun k => v.ownBlock = some k) w w' ∧
      (∀ k, v'.ownBlock = some k → v.ownBlock = some k ∨ w.heap.size ≤ k) := by
  obtain ⟨v', w', hr, h2, h3, -⟩ := run_append_own (P := P) w 0 t ty e i z size bytes ht hi hz hsize hby hzs hsz v n xs hown a m c news hl hnews h1 h63 hbytes (Nat.zero_le _)
  refine ⟨v', w', hr, h2, ⟨h3.os, h3.tape, h3.output, h3.size, fun k hk hne => h3.block k hk (fun e => hne e.symm)⟩, fun k hk => ?_⟩
  have hsmall : n + m ≤ 9223372036854775807 := by simp only [maxLen] at h63; omega
  rcases hown.2 with ⟨rfl, rfl⟩ | ⟨g, cap, cur, rfl, hbg, hg, hnc, hcm, hcs, htake⟩
  · have hx : xs = [] := List.eq_nil_of_length_eq_zero (by simpa using hown.1)
    subst hx
    obtain ⟨v1, w1, hr1, h21, -, -⟩ := run_append_own (P := P) w w.heap.size t ty e i z size bytes ht hi hz hsize hby hzs hsz _ 0 [] (World.ownsRow_nil w _ e size) a m c news hl hnews h1 h63 hbytes (Nat.le_refl _)
    rw [hr] at hr1
    injection hr1 with e1 e2
    subst e1 e2
    exact .inr (h21.lt k hk).1
  · subst hsize hby
    by_cases hroom : n + m ≤ cap
    · have hfit : n * i.size + news.length ≤ cur.size := by rw [hl, hcs, ← Nat.add_mul]; exact Nat.mul_le_mul_right _ hroom
      have hr1 := run_append_room (P := P) w t ty e i ht hi g n cap cur hg a m c news hl hnews h1 hroom hfit
      rw [hr] at hr1
      injection hr1 with e1 e2
      subst e1
      exact .inl hk
    · have holds : ∀ j u, xs[j]? = some u → w.cell? ((⟨g, 0, none⟩ : Addr).add j) = some u := hown.cells (g := g) rfl
      have hr1 := run_append_grow (P := P) w t ty e i z ht hi hz ⟨g, 0, none⟩ n cap xs hown.1 holds a m c news hl hnews (by omega) (by omega) (growslice_fits (by omega) hbytes)
      rw [hr] at hr1
      injection hr1 with e1 e2
      subst e1
      simp only [Value.ownBlock, Option.some.injEq] at hk
      exact .inr (by omega)

/-- An owned slice is a slice. -/
theorem own_slice {w : World} {base k n : Nat} {E : TypeId} {v : Value} {cs : List Value} (h : w.ownsRow base E k v n cs) :
    ∃ ao cap, v = .slice ao n cap ∧ n ≤ cap ∧ cap ≤ maxLen ∧ ((ao = none ∧ n = 0 ∧ cap = 0) ∨ ∃ g, ao = some ⟨g, 0, none⟩) := by
  rcases h.2 with ⟨rfl, rfl⟩ | ⟨g, cap, cur, rfl, hg, hh, hn, hm, hs, ht⟩
  · exact ⟨none, 0, rfl, Nat.le_refl _, Nat.zero_le _, .inl ⟨rfl, rfl, rfl⟩⟩
  · exact ⟨some ⟨g, 0, none⟩, cap, rfl, hn, hm, .inr ⟨g, rfl⟩⟩

end Go.Proofs.Ytdgdaldgchbbaaa
