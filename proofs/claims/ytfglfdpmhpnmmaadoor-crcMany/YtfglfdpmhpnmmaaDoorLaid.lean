/-
  What the rows' condition on the table of halves gives the walks, and a world that meets it.
-/
import Derived.Test.YtfglfdpmhpnmmaaDoorBegun
import Derived.ProofKit
import Derived.LaidMore
import Derived.Lib.LaidTab
import Derived.Laws.AppendOwnNone
import Derived.Stop.Joined
namespace Go.Proofs.YtfglfdpmhpnmmaaDoor
open Go.RowKit

def laid1 : List (String × DataW Unit) := [("donatus/crc.halves", Rows.laid_donatus_crc_halves)]

theorem own : ownKnob Tryd.prog.godebug = none := by kernel_rfl
theorem laidOut : laidOutB Tryd.prog = true := by kernel_rfl
theorem gHalves : Tryd.prog.globalNamed "donatus/crc.halves" = some 0 := by kernel_rfl
theorem tHalves : (Tryd.prog.globals[0]?).map (·.type) = some 34 := by kernel_rfl
theorem cells25 : Tryd.prog.cellsOf 25 = 1 := by kernel_rfl
theorem cells34 : Tryd.prog.cellsOf 34 = 16 := by kernel_rfl

theorem door_met (os : Os) (args : Array Value) : laidMetH Tryd.prog laid1 ((World.doorLaid Tryd.prog 14 os).forCall (fun _ _ => 0) ⟨#[], args, []⟩).memory :=
  laidMetH_of_parts3 (fuel := 8) (laidMet_of_run' 8 (by kernel_rfl) (by kernel_rfl)) (by kernel_rfl) (by kernel_rfl)

def tabZ : List Int := [0, 498536548, 997073096, 651767980, 1994146192, 1802195444, 1303535960, 1342533948, 3988292384, 4027552580, 3604390888, 3412177804, 2607071920, 2262029012, 2685067896, 3183342108]

theorem halves_of_laid {W : World} (h : laidMetH Tryd.prog laid1 W) : Halves W := by
  rw [MakeChecks.laidMetH_plain _ _ _ (by kernel_rfl)] at h
  have hT := Lib.tabIs_of_head (k := .u32) (zs := tabZ) (rest := []) gHalves tHalves Tryd.underlying34 Tryd.underlying25 cells25 cells34 h
  intro i hi
  rw [hT.cell gHalves i hi]
  have hz : ∀ j, j < 16 → tabZ.getD j 0 = ((Crc.tab.getD j 0 : Nat) : Int) := by decide
  rw [hz i hi]

/-- Bytes that lie anywhere, appended to what the call owns. -/
theorem append_seg {w : World} {ops : Array Oper} {rest : List Oper} {o : Oper} {a : Act} {Q : Exit → Act → World → Prop} (hgd : o.guard = none) (s x : Operand)
    (ho : o.op = .call { callee := .builtin .append, args := #[s, x], argTypes := #[22, 22] })
    (base : Nat) (v : Value) (n : Nat) (bs : List Int) (hs : a.eval s = v) (hown : w.ownsRow base 5 1 v n (cellsOf bs))
    (ao : Option Addr) (m c : Nat) (xs : List Int) (hx : a.eval x = .slice ao m c) (hseg : Seg w ao m c xs) (hb : n + m ≤ 140737488355328) (hbase : base ≤ w.heap.size)
    (h : ∀ v' w', w'.ownsRow base 5 1 v' (n + m) (cellsOf (bs ++ xs)) → w.grownBy w' v.ownBlock → wpList Tryd.prog ops Q rest (a.put o.dst v') w') : wpList Tryd.prog ops Q (o :: rest) a w := by
  obtain ⟨i0, hi, hz0, hz1, hz2⟩ := info_parts Tryd.info5
  cases ao with
  | none =>
    obtain ⟨rfl, rfl⟩ := hseg.nil rfl
    obtain rfl : xs = [] := List.eq_nil_of_length_eq_zero hseg.size
    refine wpList_append_own_none hgd s x 22 ho base 5 i0 1 Tryd.underlying22 hi v n (cellsOf bs) hs hown hx ?_
    exact h v w (by rw [List.append_nil]; exact hown) ⟨rfl, rfl, rfl, Nat.le_refl _, fun _ _ _ => rfl⟩
  | some ad =>
    refine wpList_append_own w hgd s x 22 ho base 5 i0 (.int .u8 0) 1 1 Tryd.underlying22 hi hz0 hz1 hz2 rfl (by decide) v n (cellsOf bs) hs hown ad m c (cellsOf xs) hx (by rw [cellsOf_length, hseg.size, Nat.mul_one])
      (hseg.news ad rfl) (cellsOf_one xs) (by unfold maxLen; omega) (by omega) hbase ?_
    intro v' w' h1 h2 _
    exact h v' w' (by rw [cellsOf_append]; exact h1) h2

theorem grown_below {w w' : World} (h : w.grownBy w' none) : Below w.heap.size w w' := (Below.refl _ _).grown h (Nat.le_refl _) (fun k hk => by cases hk)

end Go.Proofs.YtfglfdpmhpnmmaaDoor
