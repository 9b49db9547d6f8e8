/-
  find over numbers: where one stands in a set, and whether one like it is in.
-/
import Derived.Test.YtdgdaldgchbbaaaSearch
namespace Go.Proofs.Ytdgdaldgchbbaaa
open Go.RowKit Go.Shelf

theorem find_nil (x : Int) (w : World) :
    Calls Try.prog 33 #[.pointer none, .int .i64 x] w fun e w' => e = .returned (.tuple #[.int .i64 0, .bool false, .bool false]) ∧ Below w.heap.size w w' := by
  have hmf : ∀ (fn : Fn) (first cap : Array Value) (w : World), (Instr.makeFunc fn first cap).run Try.prog w = .ok (.func fn first cap) w := fun _ _ _ _ => rfl
  go_enter_defers Try.func33, Try.ntmps33
  go_wp2
  simp [bodyPostD, Leaves, results, Try.results33, go_sem]
  exact (Below.refl _ _).alloc (Nat.le_refl _) _

set_option maxHeartbeats 1000000 in
theorem find_spec {g : Nat} {cf : Int → Int → Int} (hf : CmpFn (Value.int .i64) g cf) {w : World} {p n : Nat} {v : Value} {xs : List Int} (h : IsSet w 59 3 1 p (fnv g) v n (xs.map (Value.int .i64))) (hs : Sorted cf xs) (hn : n ≤ 1048576) (x : Int) :
    Calls Try.prog 33 #[.pointer (some ⟨p, 0, none⟩), .int .i64 x] w fun e w' => e = .returned (.tuple #[.int .i64 (pos cf x xs), .bool (isIn cf x xs), .bool true]) ∧ Below w.heap.size w w' := by
  have hmf : ∀ (fn : Fn) (first cap : Array Value) (w : World), (Instr.makeFunc fn first cap).run Try.prog w = .ok (.func fn first cap) w := fun _ _ _ _ => rfl
  obtain ⟨ao, cap, rfl, seg, -⟩ := Seg.owned (d := 0) h.own
  have hq := eqfn g
  have c0 : w.cell? ⟨p, 0, none⟩ = some (.func (.func g) #[] #[]) := h.cell0
  have c1 := h.cell1
  have hlt := h.lt p (.inl rfl)
  have HC : Hid (∀ W, Below w.heap.size w W → Calls Try.prog 44 #[.slice ao n cap, .int .i64 x, .func (.func g) #[] #[]] W fun e w' => e = .returned (.tuple #[.int .i64 (pos cf x xs), .bool (isIn cf x xs)]) ∧ w' = W) :=
    fun W hW => search_spec hf (seg.below hW) hs hn x
  clear h seg hf
  generalize pos cf x xs = pp at HC ⊢
  generalize isIn cf x xs = qq at HC ⊢
  go_enter_defers Try.func33, Try.ntmps33
  go_wp2_with fail
  go_quiet (first | (go_at_call 44; exact Calls.quiet_of_same (HC.out _ (below_drewN ((Below.refl _ _).alloc (Nat.le_refl _) _) _))))
  go_wp2
  refine leaves_cons (f := 43) (args := #[.pointer (some ⟨w.heap.size, 0, none⟩)]) (by simp) (by simp [go_sem]) ?_
  refine (catch_idle w.heap.size (.bool true) _ ?_ ?_).mono ?_
  · simp [go_sem]
  · simp [go_sem]
  rintro e u' w'' ⟨rfl, rfl, rfl⟩
  simp [Leaves, settle, results, Try.results33, go_sem]
  exact ((below_drewN ((Below.refl _ _).alloc (Nat.le_refl _) _) _).setCell (Nat.le_refl _) _).setCell (Nat.le_refl _) _

end Go.Proofs.Ytdgdaldgchbbaaa
