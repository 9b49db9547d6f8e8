/-
  find over pairs.
-/
import Derived.Test.YtdgdaldgchbbaaaPair
namespace Go.Proofs.Ytdgdaldgchbbaaa
open Go.RowKit Go.Shelf Go.Sort

theorem eqfp (g : Nat) (w : World) : (binOp BinOp.eql 45 (.func (.func g) #[] #[]) .nilFunc).run Try.prog w = .ok (.bool false) w := by kernel_rfl

theorem cellsP_length (xs : List (Int × Int)) : (cellsP xs).length = xs.length * 2 := by
  induction xs with
  | nil => rfl
  | cons a r ih =>
    have e : cellsP (a :: r) = .int .i64 a.1 :: .int .i64 a.2 :: cellsP r := rfl
    rw [e, List.length_cons, List.length_cons, ih, List.length_cons]
    omega

theorem cellsP_get : ∀ (xs : List (Int × Int)) (j : Nat), j < xs.length → (cellsP xs)[j * 2]? = some (.int .i64 (xs[j]?.getD (0, 0)).1) ∧ (cellsP xs)[j * 2 + 1]? = some (.int .i64 (xs[j]?.getD (0, 0)).2)
  | [], j, h => by simp at h
  | a :: r, 0, _ => ⟨rfl, rfl⟩
  | a :: r, j + 1, h => by
    have ih := cellsP_get r j (by simpa using h)
    have e : cellsP (a :: r) = .int .i64 a.1 :: .int .i64 a.2 :: cellsP r := rfl
    rw [e, show (j + 1) * 2 = j * 2 + 1 + 1 by omega]
    simpa using ih

theorem cellsP_one (xs : List (Int × Int)) : ∀ u ∈ cellsP xs, u.oneCell' = true := by
  intro u hu
  unfold cellsP at hu
  obtain ⟨a, _, ha⟩ := List.mem_flatMap.1 hu
  simp at ha
  rcases ha with rfl | rfl <;> rfl

theorem SegP.owned {w : World} {base n : Nat} {v : Value} {xs : List (Int × Int)} (h : w.ownsRow base 44 2 v n (cellsP xs)) :
    ∃ ao cap, v = .slice ao n cap ∧ SegP w ao n cap xs ∧ ∀ a, ao = some a → v.ownBlock = some a.block := by
  have hl : xs.length = n := by have := h.1; rw [cellsP_length] at this; omega
  obtain ⟨ao, cap, rfl, hnc, hcm, hao⟩ := own_slice h
  rcases hao with ⟨rfl, rfl, rfl⟩ | ⟨g, rfl⟩
  · exact ⟨none, 0, rfl, ⟨hl, hnc, hcm, fun _ => ⟨rfl, rfl⟩, fun a ha => (by cases ha)⟩, fun a ha => (by cases ha)⟩
  · obtain ⟨cur, -, -, -, -, hg, -, -, hc, -, -⟩ := own_open h
    refine ⟨some ⟨g, 0, none⟩, cap, rfl, ⟨hl, hnc, hcm, fun h => (by cases h), fun a ha => ?_⟩, fun a ha => by cases ha; rfl⟩
    cases ha
    exact ⟨g, rfl, hg, fun j hj => by
      have := cellsP_get xs j (by omega)
      exact ⟨hc _ _ this.1, hc _ _ this.2⟩⟩

/-- The deferred closure where nothing panicked. -/
theorem catch_pair (p : Nat) (x : Value) (w : World) (hc : w.cell? ⟨p, 0, none⟩ = some x) (hz : w.frozen? ⟨p, 0, none⟩ = false) :
    CallsD Try.prog 47 #[.pointer (some ⟨p, 0, none⟩)] .returning w fun e u' w' => e = .returned (.tuple #[]) ∧ u' = .returning ∧ w' = w.setCell ⟨p, 0, none⟩ (.bool true) := by
  refine callsD_of_wpS Try.func47 rfl fun c₀ cs hu => ?_
  apply wpS_region
  simp [wpOpsS, go_sem, recoverD, hu, Try.ntmps47, hc, hz]
  cases c₀
  simp_all [bodyPostS, results, Try.results47]

/-- A set of pairs. -/
def SetP (w : World) (p : Nat) (v : Value) (xs : List (Int × Int)) : Prop := IsSet w 66 44 2 p (fnv 24) v xs.length (cellsP xs)

set_option maxHeartbeats 2000000 in
theorem find_pair {w : World} {p : Nat} {v : Value} {xs : List (Int × Int)} (h : SetP w p v xs) (hs : Sorted cmpP xs) (hn : xs.length ≤ 1048576) (x : Int × Int) :
    Calls Try.prog 37 #[.pointer (some ⟨p, 0, none⟩), encP x] w fun e w' => e = .returned (.tuple #[.int .i64 (pos cmpP x xs), .bool (isIn cmpP x xs), .bool true]) ∧ Below w.heap.size w w' := by
  have mx := mixed
  have hmf : ∀ (fn : Fn) (first cap : Array Value) (w : World), (Instr.makeFunc fn first cap).run Try.prog w = .ok (.func fn first cap) w := fun _ _ _ _ => rfl
  obtain ⟨ao, cap, rfl, seg, -⟩ := SegP.owned h.own
  have hq := eqfp 24
  obtain ⟨x1, x2⟩ := x
  have HW : Hid (Below w.heap.size w ((w.alloc (.cells #[.int .i64 x1, .int .i64 x2] 44)).alloc (.cells #[.bool false] 4))) := ((Below.refl _ _).alloc (Nat.le_refl _) _).alloc (by simp) _
  have hp := h.lt p (.inl rfl)
  have c0 : w.cell? ⟨p, 0, none⟩ = some (.func (.func 24) #[] #[]) := h.cell0
  have c1 := h.cell1
  have HC : Hid (∀ W, Below w.heap.size w W → Calls Try.prog 48 #[.slice ao xs.length cap, .agg #[.int .i64 x1, .int .i64 x2], .func (.func 24) #[] #[]] W fun e w' => e = .returned (.tuple #[.int .i64 (pos cmpP (x1, x2) xs), .bool (isIn cmpP (x1, x2) xs)]) ∧ ∃ q os, w' = grow (W.drewN q) os) :=
    fun W hW => search_pair (seg.below hW) hs hn (x1, x2)
  clear h seg
  generalize pos cmpP (x1, x2) xs = pp at HC ⊢
  generalize isIn cmpP (x1, x2) xs = qq at HC ⊢
  generalize xs.length = n at HC c1
  rw [show encP (x1, x2) = .agg #[.int .i64 x1, .int .i64 x2] from rfl]
  go_enter_defers Try.func37, Try.ntmps37
  go_upto_region 4 with fail
  have d0 : ((w.alloc (.cells #[.int .i64 x1, .int .i64 x2] 44)).alloc (.cells #[.bool false] 4)).cell? ⟨p, 0, none⟩ = some (.func (.func 24) #[] #[]) := by rw [HW.out.cell hp]; exact c0
  have d1 : ((w.alloc (.cells #[.int .i64 x1, .int .i64 x2] 44)).alloc (.cells #[.bool false] 4)).cell? ⟨p, 1, none⟩ = some (.slice ao n cap) := by rw [HW.out.cell hp]; exact c1
  have e0 : ((w.alloc (.cells #[.int .i64 x1, .int .i64 x2] 44)).alloc (.cells #[.bool false] 4)).cell? ⟨w.heap.size, 0, none⟩ = some (.int .i64 x1) := by simp [go_sem]
  have e1 : ((w.alloc (.cells #[.int .i64 x1, .int .i64 x2] 44)).alloc (.cells #[.bool false] 4)).cell? ⟨w.heap.size, 1, none⟩ = some (.int .i64 x2) := by simp [go_sem]
  have f0 : ((w.alloc (.cells #[.int .i64 x1, .int .i64 x2] 44)).alloc (.cells #[.bool false] 4)).cell? ⟨w.heap.size + 1, 0, none⟩ = some (.bool false) := by simp [go_sem]
  have z0 : ((w.alloc (.cells #[.int .i64 x1, .int .i64 x2] 44)).alloc (.cells #[.bool false] 4)).frozen? ⟨w.heap.size + 1, 0, none⟩ = false := by simp [go_sem]
  clear c0 c1
  generalize (w.alloc (.cells #[.int .i64 x1, .int .i64 x2] 44)).alloc (.cells #[.bool false] 4) = W1 at HW d0 d1 e0 e1 f0 z0 ⊢
  have d0g := cell_grown (World.block_lt_of_cell? _ _ d0) d0
  have d1g := cell_grown (World.block_lt_of_cell? _ _ d1) d1
  have e0g := cell_grown (World.block_lt_of_cell? _ _ e0) e0
  have e1g := cell_grown (World.block_lt_of_cell? _ _ e1) e1
  have f0g := cell_grown (World.block_lt_of_cell? _ _ f0) f0
  have z0g : ∀ n os, (grow (W1.drewN n) os).frozen? ⟨w.heap.size + 1, 0, none⟩ = false := fun n os => by
    rw [(below_grow W1 n os).frozen (World.block_lt_of_cell? _ _ f0)]; exact z0
  have HW1 : Hid (∀ n os, Below w.heap.size w (grow (W1.drewN n) os)) := fun n os => below_step HW.out (below_grow _ _ _)
  refine wp_region_quiet_grown mx (by kernel_rfl) ?_
  repeat (go_big_quiet_step (first
    | (go_at_call 48; exact Calls.grown_of (HC.out _ (HW1.out _ _)))))
  refine wpQuiet_nil ?_
  intro _ hwq
  obtain ⟨⟨nq, osq⟩, hwe⟩ := hwq
  subst hwe
  have f1 := f0g nq osq
  have z1 := z0g nq osq
  have B1 : Hid (Below w.heap.size w (grow (W1.drewN nq) osq)) := HW1.out nq osq
  clear d0 d1 e0 e1 f0 z0 d0g d1g e0g e1g f0g z0g HW1 HW
  generalize grow (W1.drewN nq) osq = W2 at f1 z1 B1 ⊢
  go_wp2
  refine leaves_cons (f := 47) (args := #[.pointer (some ⟨w.heap.size + 1, 0, none⟩)]) (by simp) (by simp [go_sem]) ?_
  refine (catch_pair (w.heap.size + 1) (.bool true) _ ?_ ?_).mono ?_
  · exact World.cell?_setCell_same _ _ _ f1
  · rw [World.frozen?_setCell]; exact z1
  rintro e u' w'' ⟨rfl, rfl, rfl⟩
  have g2 : ((W2.setCell ⟨w.heap.size + 1, 0, none⟩ (.bool true)).setCell ⟨w.heap.size + 1, 0, none⟩ (.bool true)).cell? ⟨w.heap.size + 1, 0, none⟩ = some (.bool true) := World.cell?_setCell_same _ _ _ (World.cell?_setCell_same _ _ _ f1)
  simp [Leaves, settle, results, Try.results37, go_sem, g2]
  exact (B1.out.setCell (Nat.le_succ _) _).setCell (Nat.le_succ _) _

end Go.Proofs.Ytdgdaldgchbbaaa
