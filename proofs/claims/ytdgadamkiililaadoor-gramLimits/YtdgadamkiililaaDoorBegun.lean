/-
  The walk of the look that each law opens with: it holds.
-/
import Derived.Test.YtdgadamkiililaaDoorDigits
namespace Go.Proofs.YtdgadamkiililaaDoor
open Go.RowKit

/-- The two texts of that look. -/
def txt1 : ByteArray := ⟨#[37, 116, 111, 107, 101, 110, 32, 65, 32, 47, 47, 32, 120, 10, 37, 37, 32, 115, 58, 32, 65, 32, 49, 50, 59]⟩
def txt2 : ByteArray := ⟨#[97, 32, 37, 102, 111, 111]⟩

theorem scan1 : scan (by8 txt1) = ([(4, 0, 6), (1, 7, 8), (4, 14, 16), (1, 17, 18), (3, 18, 19), (1, 20, 21), (2, 22, 24), (3, 24, 25), (5, 25, 25)], -1) := by kernel_rfl
theorem scan2 : scan (by8 txt2) = ([], 2) := by kernel_rfl
theorem text1 : ((txt1.extract 0 6).toList == [37, 116, 111, 107, 101, 110]) = true := by rw [by8_toList, by8_extract]; kernel_rfl
theorem text2 : ((txt1.extract 14 16).toList == [37, 37]) = true := by rw [by8_toList, by8_extract]; kernel_rfl
theorem name1 : nameOk (by8 ⟨#[97, 95, 49]⟩) = true := by kernel_rfl
theorem name2 : nameOk (by8 ⟨#[49, 97]⟩) = false := by kernel_rfl

set_option maxHeartbeats 4000000 in
set_option maxRecDepth 20000 in
theorem begun_calls (w : World) : Calls Tryd.prog 35 #[] w fun e w' => e = .returned (.bool true) ∧ Below w.heap.size w w' := by
  have H1 : Hid (Calls Tryd.prog 46 #[.string txt1] w fun e w' => Scanned txt1 w w' e) := scan_calls txt1 w (by decide)
  have H2 : Hid (∀ W : World, Calls Tryd.prog 46 #[.string txt2] W fun e w' => Scanned txt2 W w' e) := fun W => scan_calls txt2 W (by decide)
  unfold Scanned at H1 H2
  rw [scan1] at H1
  rw [scan2] at H2
  simp only at H1 H2
  have N1 : Hid (∀ W : World, Calls Tryd.prog 36 #[.string ⟨#[97, 95, 49]⟩] W fun e w' => e = .returned (.bool true) ∧ w' = W) := fun W => by
    have := lname_calls ⟨#[97, 95, 49]⟩ W (by decide)
    rwa [name1] at this
  have N2 : Hid (∀ W : World, Calls Tryd.prog 36 #[.string ⟨#[49, 97]⟩] W fun e w' => e = .returned (.bool false) ∧ w' = W) := fun W => by
    have := lname_calls ⟨#[49, 97]⟩ W (by decide)
    rwa [name2] at this
  go_enter Tryd.func35, Tryd.ntmps35
  go_wp2_with fail
  refine H1.out.mono ?_
  rintro e w1 ⟨v1, rfl, hI1, hB1⟩
  have J1 : Hid (IsW w1 w.heap.size txt1 v1 [(4, 0, 6), (1, 7, 8), (4, 14, 16), (1, 17, 18), (3, 18, 19), (1, 20, 21), (2, 22, 24), (3, 24, 25), (5, 25, 25)] ∧ Below w.heap.size w w1) := ⟨hI1, hB1⟩
  clear hI1 hB1
  go_wp2_with fail
  refine (H2.out _).mono ?_
  rintro e w2 ⟨v2, rfl, hI2, hB2⟩
  have J2 : Hid (IsW w2 w.heap.size txt1 v1 [(4, 0, 6), (1, 7, 8), (4, 14, 16), (1, 17, 18), (3, 18, 19), (1, 20, 21), (2, 22, 24), (3, 24, 25), (5, 25, 25)] ∧ Below w.heap.size w w2) := ⟨J1.out.1.below hB2, below_step J1.out.2 hB2⟩
  clear J1 hI2 hB2 H1 H2
  obtain ⟨a1, c1, rfl, hn1, hm1, hs1⟩ := own_slice J2.out.1
  have hm1 : c1 ≤ 9223372036854775807 := by unfold maxLen at hm1; omega
  obtain ⟨g, rfl⟩ : ∃ g, a1 = some ⟨g, 0, none⟩ := hs1.elim (fun h => absurd h.2.1 (by decide)) id
  obtain ⟨p00, p01, -⟩ := J2.out.1.at (i := 0) (x := (4, 0, 6)) rfl
  obtain ⟨-, p21, p22⟩ := J2.out.1.at (i := 2) (x := (4, 14, 16)) rfl
  obtain ⟨p40, -, -⟩ := J2.out.1.at (i := 4) (x := (3, 18, 19)) rfl
  obtain ⟨p60, -, -⟩ := J2.out.1.at (i := 6) (x := (2, 22, 24)) rfl
  obtain ⟨p80, -, -⟩ := J2.out.1.at (i := 8) (x := (5, 25, 25)) rfl
  have t1 := text1
  have t2 := text2
  simp only at p00 p01 p21 p22 p40 p60 p80
  generalize txt1.extract 0 6 = x1 at p01 t1
  generalize txt1.extract 14 16 = x2 at p21 t2
  have HB : Hid (Below w.heap.size w w2) := J2.out.2
  clear hs1 J2
  have p00 : w2.cell? ⟨g, 0, none⟩ = some (.int .i64 4) := p00
  have p01 : w2.cell? ⟨g, 1, none⟩ = some (.string x1) := p01
  have p21 : w2.cell? ⟨g, 7, none⟩ = some (.string x2) := p21
  have p22 : w2.cell? ⟨g, 8, none⟩ = some (.int .i64 14) := p22
  have p40 : w2.cell? ⟨g, 12, none⟩ = some (.int .i64 3) := p40
  have p60 : w2.cell? ⟨g, 18, none⟩ = some (.int .i64 2) := p60
  have p80 : w2.cell? ⟨g, 24, none⟩ = some (.int .i64 5) := p80
  simp only [List.length_cons, List.length_nil] at hn1 ⊢
  go_wp2_with fail
  refine (N1.out _).mono ?_
  rintro e w7 ⟨rfl, rfl⟩
  go_wp2_with fail
  refine (N2.out _).mono ?_
  rintro e w8 ⟨rfl, rfl⟩
  go_wp2_with fail
  go_ret
  exact ⟨rfl, HB.out⟩

end Go.Proofs.YtdgadamkiililaaDoor
