/-
  The walks of both functions that tell a key.
-/
import Derived.Test.YtdfkkamafiiflaaWord
import Derived.BigQuiet
import Derived.Deep.LoopGhost
namespace Go.Proofs.Ytdfkkamafiiflaa
open Go.RowKit

/-- Which key it is, told one behind the other. -/
theorem key_parts (t : List UInt8) : (keyWords.contains t = true ∧ (((t == [116, 111, 107, 101, 110]) = true) ∨ ((t == [116, 111, 107, 101, 110]) = false ∧ (t == [108, 101, 102, 116]) = true) ∨ ((t == [116, 111, 107, 101, 110]) = false ∧ (t == [108, 101, 102, 116]) = false ∧ (t == [114, 105, 103, 104, 116]) = true) ∨ ((t == [116, 111, 107, 101, 110]) = false ∧ (t == [108, 101, 102, 116]) = false ∧ (t == [114, 105, 103, 104, 116]) = false ∧ (t == [110, 111, 110, 97, 115, 115, 111, 99]) = true) ∨ ((t == [116, 111, 107, 101, 110]) = false ∧ (t == [108, 101, 102, 116]) = false ∧ (t == [114, 105, 103, 104, 116]) = false ∧ (t == [110, 111, 110, 97, 115, 115, 111, 99]) = false ∧ (t == [115, 116, 97, 114, 116]) = true) ∨ ((t == [116, 111, 107, 101, 110]) = false ∧ (t == [108, 101, 102, 116]) = false ∧ (t == [114, 105, 103, 104, 116]) = false ∧ (t == [110, 111, 110, 97, 115, 115, 111, 99]) = false ∧ (t == [115, 116, 97, 114, 116]) = false ∧ (t == [101, 120, 112, 101, 99, 116]) = true) ∨ ((t == [116, 111, 107, 101, 110]) = false ∧ (t == [108, 101, 102, 116]) = false ∧ (t == [114, 105, 103, 104, 116]) = false ∧ (t == [110, 111, 110, 97, 115, 115, 111, 99]) = false ∧ (t == [115, 116, 97, 114, 116]) = false ∧ (t == [101, 120, 112, 101, 99, 116]) = false ∧ (t == [112, 114, 101, 99]) = true))) ∨ (keyWords.contains t = false ∧ (t == [116, 111, 107, 101, 110]) = false ∧ (t == [108, 101, 102, 116]) = false ∧ (t == [114, 105, 103, 104, 116]) = false ∧ (t == [110, 111, 110, 97, 115, 115, 111, 99]) = false ∧ (t == [115, 116, 97, 114, 116]) = false ∧ (t == [101, 120, 112, 101, 99, 116]) = false ∧ (t == [112, 114, 101, 99]) = false) := by
  have e : keyWords.contains t = ((t == [116, 111, 107, 101, 110]) || (t == [108, 101, 102, 116]) || (t == [114, 105, 103, 104, 116]) || (t == [110, 111, 110, 97, 115, 115, 111, 99]) || (t == [115, 116, 97, 114, 116]) || (t == [101, 120, 112, 101, 99, 116]) || (t == [112, 114, 101, 99])) := by
    unfold keyWords
    simp only [List.contains_cons, List.contains_nil, Bool.or_false, Bool.or_assoc]
  rw [e]
  cases h0 : (t == [116, 111, 107, 101, 110])
  case true => simp
  cases h1 : (t == [108, 101, 102, 116])
  case true => simp
  cases h2 : (t == [114, 105, 103, 104, 116])
  case true => simp
  cases h3 : (t == [110, 111, 110, 97, 115, 115, 111, 99])
  case true => simp
  cases h4 : (t == [115, 116, 97, 114, 116])
  case true => simp
  cases h5 : (t == [101, 120, 112, 101, 99, 116])
  case true => simp
  cases h6 : (t == [112, 114, 101, 99])
  case true => simp
  simp

set_option maxHeartbeats 2000000 in
theorem key_calls (s : ByteArray) (i : Nat) (w : World) (hi : i < s.size) (hs : s.size ≤ 1048576) :
    Calls Try.prog 25 #[.string s, .int .i64 i] w fun e w' => e = ansW (keyP (by8 s) i) ∧ w' = w := by
  have HL : Hid ((by8 s).length = s.size) := by8_length s
  have HP := fun W => prefix_calls (s.extract i s.size) ⟨#[37, 37]⟩ W
  rw [begB_two s i 37 37 hi] at HP
  have e47 : ((37 : UInt8).toNat : Int) = 37 := rfl
  rw [e47] at HP
  have HE : Hid (∀ W : World, Calls Try.prog 13 #[.string s, .int .i64 ((i : Int) + 1)] W fun e w' => e = .returned (.int .i64 (runEnd isN (by8 s) (i + 1))) ∧ w' = W) := fun W => by
    have := nameEnd_calls s (i + 1) W (by omega) hs
    simpa using this
  have h1 := le_runEnd isN (by8 s) (i + 1)
  have h2 : runEnd isN (by8 s) (i + 1) ≤ s.size := by rw [← by8_length]; exact runEnd_le (by rw [by8_length]; omega)
  have HK : Hid (keyP (by8 s) i = if pre2 37 37 (by8 s) i = true then (4, i + 2) else if keyWords.contains (part (by8 s) (i + 1) (runEnd isN (by8 s) (i + 1))) = true then (4, runEnd isN (by8 s) (i + 1)) else (0, i)) := rfl
  generalize runEnd isN (by8 s) (i + 1) = m at HE h1 h2 HK
  generalize keyP (by8 s) i = p at HK
  clear e47
  by_cases h3 : pre2 37 37 (by8 s) i = true
  · have HK2 : Hid (p = (4, i + 2)) := by have := HK.out; rwa [if_pos h3] at this
    rw [h3] at HP
    have HP2 : Hid (∀ W : World, Calls Try.prog 21 #[.string (s.extract i s.size), .string ⟨#[37, 37]⟩] W fun e w' => e = .returned (.bool true) ∧ w' = W) := HP
    clear HP HK h3
    go_enter Try.func25, Try.ntmps25
    go_wp2_with (go_at_call 21; refine (HP2.out _).mono ?_; rintro e w' ⟨rfl, rfl⟩)
    go_ret2
    exact ⟨by rw [HK2.out]; rfl, rfl⟩
  · have h3 : pre2 37 37 (by8 s) i = false := by simpa using h3
    have HK2 : Hid (p = if keyWords.contains (part (by8 s) (i + 1) m) = true then (4, m) else (0, i)) := by have := HK.out; rwa [h3, if_neg (by simp)] at this
    rw [h3] at HP
    have HP2 : Hid (∀ W : World, Calls Try.prog 21 #[.string (s.extract i s.size), .string ⟨#[37, 37]⟩] W fun e w' => e = .returned (.bool false) ∧ w' = W) := HP
    clear HP HK h3
    have ht : (s.extract (i + 1) m).toList = part (by8 s) (i + 1) m := by rw [by8_toList, by8_extract]
    have hk := key_parts (part (by8 s) (i + 1) m)
    rcases hk with ⟨h4, hk⟩ | ⟨h4, hk⟩
    · have HK3 : Hid (p = (4, m)) := by have := HK2.out; rwa [if_pos h4] at this
      rw [← ht] at hk
      clear HK2 h4 ht
      rcases hk with k0 | ⟨k0, k1⟩ | ⟨k0, k1, k2⟩ | ⟨k0, k1, k2, k3⟩ | ⟨k0, k1, k2, k3, k4⟩ | ⟨k0, k1, k2, k3, k4, k5⟩ | ⟨k0, k1, k2, k3, k4, k5, k6⟩
      all_goals
        go_enter Try.func25, Try.ntmps25
        go_wp2_with (first | (go_at_call 21; refine (HP2.out _).mono ?_; rintro e w' ⟨rfl, rfl⟩) | (go_at_call 13; refine (HE.out _).mono ?_; rintro e w' ⟨rfl, rfl⟩))
        go_ret2
        exact ⟨by rw [HK3.out]; rfl, rfl⟩
    · have HK3 : Hid (p = (0, i)) := by have := HK2.out; rwa [h4, if_neg (by simp)] at this
      rw [← ht] at hk
      clear HK2 h4 ht
      obtain ⟨k0, k1, k2, k3, k4, k5, k6⟩ := hk
      go_enter Try.func25, Try.ntmps25
      go_wp2_with (first | (go_at_call 21; refine (HP2.out _).mono ?_; rintro e w' ⟨rfl, rfl⟩) | (go_at_call 13; refine (HE.out _).mono ?_; rintro e w' ⟨rfl, rfl⟩))
      go_ret2
      exact ⟨by rw [HK3.out]; rfl, rfl⟩

/-- The key's word at a place. -/
def keyAt (k : Nat) : ByteArray := ⟨((keyWords[k]?).getD []).toArray⟩

/-- What keys lays. -/
def keyCells : Array Value := #[.string (keyAt 0), .string (keyAt 1), .string (keyAt 2), .string (keyAt 3), .string (keyAt 4), .string (keyAt 5), .string (keyAt 6)]

theorem keys_calls (w : World) : Calls Try.prog 33 #[] w fun e w' => e = .returned (.slice (some ⟨w.heap.size, 0, none⟩) 7 7) ∧ w' = w.alloc (.cells keyCells 9) := by
  go_enter Try.func33, Try.ntmps33
  go_wp2
  go_ret
  exact ⟨rfl, rfl⟩

theorem keyCells_at {k : Nat} (h : k < 7) : keyCells[k]? = some (.string (keyAt k)) := by
  match k, h with
  | 0, _ => rfl
  | 1, _ => rfl
  | 2, _ => rfl
  | 3, _ => rfl
  | 4, _ => rfl
  | 5, _ => rfl
  | 6, _ => rfl

theorem key_found {t : List UInt8} {k : Nat} (h : k < 7) (e : (t == (keyAt k).toList) = true) : keyWords.contains t = true := by
  have e : t = (keyAt k).toList := by simpa using e
  rw [by8_toList] at e
  subst e
  match k, h with
  | 0, _ => rfl
  | 1, _ => rfl
  | 2, _ => rfl
  | 3, _ => rfl
  | 4, _ => rfl
  | 5, _ => rfl
  | 6, _ => rfl

theorem key_missed {t : List UInt8} (h : ∀ j, j < 7 → (t == (keyAt j).toList) = false) : keyWords.contains t = false := by
  have h0 := h 0 (by decide)
  have h1 := h 1 (by decide)
  have h2 := h 2 (by decide)
  have h3 := h 3 (by decide)
  have h4 := h 4 (by decide)
  have h5 := h 5 (by decide)
  have h6 := h 6 (by decide)
  have e : keyWords.contains t = ((t == (keyAt 0).toList) || (t == (keyAt 1).toList) || (t == (keyAt 2).toList) || (t == (keyAt 3).toList) || (t == (keyAt 4).toList) || (t == (keyAt 5).toList) || (t == (keyAt 6).toList)) := by
    unfold keyWords keyAt
    simp only [List.contains_cons, List.contains_nil, Bool.or_false, Bool.or_assoc, ByteArray.toList_mk]
    rfl
  rw [e, h0, h1, h2, h3, h4, h5, h6]
  rfl

/-- The keys lie behind all that w has. -/
def KeysIn (w wr : World) : Prop := (∀ k, k < 7 → wr.cell? ⟨w.heap.size, k, none⟩ = some (.string (keyAt k))) ∧ Below w.heap.size w wr

theorem below_drewN {B : Nat} {a w : World} (h : Below B a w) (n : Nat) : Below B a (w.drewN n) := ⟨h.os, h.tape, h.output, h.size, h.block⟩
theorem below_step {w w1 w2 : World} (h : Below w.heap.size w w1) (k : Below w1.heap.size w1 w2) : Below w.heap.size w w2 := h.trans (k.mono h.size)

theorem keysIn_drewN {w wr : World} (h : Hid (KeysIn w wr)) (n : Nat) : Hid (KeysIn w (wr.drewN n)) := ⟨h.out.1, below_drewN h.out.2 n⟩

/-- What the reference's key answers. -/
def keyR (p : Nat × Nat) : Int := if p.1 = 0 then -1 else (p.2 : Int)

set_option maxHeartbeats 2000000 in
theorem rkey_calls (s : ByteArray) (i : Nat) (w : World) (hi : i < s.size) (hc : (bt (by8 s) i == 37) = true) (hs : s.size ≤ 1048576) :
    Calls Try.prog 30 #[.string s, .int .i64 i] w fun e w' => e = .returned (.int .i64 (keyR (keyP (by8 s) i))) ∧ Below w.heap.size w w' := by
  have HL : Hid ((by8 s).length = s.size) := by8_length s
  have HE : Hid (∀ W : World, Calls Try.prog 28 #[.string s, .int .i64 ((i : Int) + 1)] W fun e w' => e = .returned (.int .i64 (runEnd isN (by8 s) (i + 1))) ∧ w' = W) := fun W => by
    have := run_calls s (i + 1) W (by omega) hs
    simpa using this
  have h1 := le_runEnd isN (by8 s) (i + 1)
  have h2 : runEnd isN (by8 s) (i + 1) ≤ s.size := by rw [← by8_length]; exact runEnd_le (by rw [by8_length]; omega)
  have HK : Hid (keyP (by8 s) i = if pre2 37 37 (by8 s) i = true then (4, i + 2) else if keyWords.contains (part (by8 s) (i + 1) (runEnd isN (by8 s) (i + 1))) = true then (4, runEnd isN (by8 s) (i + 1)) else (0, i)) := rfl
  generalize runEnd isN (by8 s) (i + 1) = m at HE h1 h2 HK
  generalize keyP (by8 s) i = p at HK
  by_cases h3 : pre2 37 37 (by8 s) i = true
  · have HK2 : Hid (p = (4, i + 2)) := by have := HK.out; rwa [if_pos h3] at this
    obtain ⟨-, h4, h5⟩ := pre2_all h3
    rw [HL.out] at h4
    have hix2 := run_index_bt1 s i h4
    generalize bt (by8 s) (i + 1) = c2 at hix2 h5
    clear HK h3
    go_enter Try.func30, Try.ntmps30
    go_wp2
    go_ret
    exact ⟨by rw [HK2.out]; rfl, Below.refl _ _⟩
  · have h3 : pre2 37 37 (by8 s) i = false := by simpa using h3
    have HK2 : Hid (p = if keyWords.contains (part (by8 s) (i + 1) m) = true then (4, m) else (0, i)) := by have := HK.out; rwa [h3, if_neg (by simp)] at this
    have h4 : ¬ (i : Int) + 1 < s.size ∨ ((i : Int) + 1 < s.size ∧ i + 1 < s.size ∧ (bt (by8 s) (i + 1) == 37) = false) := by
      rcases pre2_parts h3 with h | ⟨_, h⟩ | ⟨_, h, h'⟩
      · rw [h] at hc; cases hc
      · left; rw [HL.out] at h; omega
      · right; rw [HL.out] at h; exact ⟨by omega, h, h'⟩
    have ht : (s.extract (i + 1) m).toList = part (by8 s) (i + 1) m := by rw [by8_toList, by8_extract]
    rw [← ht] at HK2
    clear HK h3 ht hc
    have HC : Hid (KeysIn w (w.alloc (.cells keyCells 9))) := by
      refine ⟨fun k hk => ?_, (Below.refl w.heap.size w).alloc (Nat.le_refl _) _⟩
      have := World.cell?_alloc_mark w keyCells 9 (0, 0) k
      rw [keyCells_at hk] at this
      exact this
    have hw1 : IntKind.i64.wrap ((i : Int) + 1) = (i : Int) + 1 := by rw [IntKind.wrap_i64]; omega
    have hsl : ∀ W : World, (Instr.slice 9 (.string s) (some (.int .i64 ((i : Int) + 1))) (some (.int .i64 (m : Int))) none).run Try.prog W = .ok (.string (s.extract (i + 1) m)) W := fun W => by
      rw [run_slice_string_if W 9 s .i64 .i64 _ _ Try.underlying9, if_pos ⟨by omega, by omega⟩, if_pos ⟨by omega, by omega⟩]
      rfl
    generalize hW : w.alloc (.cells keyCells 9) = w1 at HC
    have HW : Hid (w.alloc (.cells keyCells 9) = w1) := hW
    clear hW
    rcases h4 with h4 | ⟨h4, h5, h6⟩
    · go_enter Try.func30, Try.ntmps30
      go_wp2_with (first | (go_at_call 28; refine (HE.out _).mono ?_; rintro e w' ⟨rfl, rfl⟩) | (go_at_call 33; refine (keys_calls _).mono ?_; rintro e w' ⟨rfl, rfl⟩; rw [HW.out]))
      go_loopg [7] 7 (fun kx s7 wr => ∃ k : Nat, s7 = .int .i64 k ∧ k ≤ 7 ∧ 7 - k ≤ kx ∧ Hid (KeysIn w' wr) ∧ Hid (∀ j, j < k → ((s.extract (i + 1) m).toList == (keyAt j).toList) = false))
      case atStart => exact ⟨0, rfl, Nat.zero_le _, by omega, HC, (fun j hj => absurd hj (Nat.not_lt_zero _) : ∀ j, j < 0 → ((s.extract (i + 1) m).toList == (keyAt j).toList) = false)⟩
      case round =>
        obtain ⟨k, rfl, hk, hg, HI, J⟩ := hrel
        by_cases hlt : k < 7
        · have cm := HI.out.1 k hlt
          by_cases he : ((s.extract (i + 1) m).toList == (keyAt k).toList) = true
          · have HF : Hid (p = (4, m)) := by have := HK2.out; rwa [if_pos (key_found hlt he)] at this
            generalize keyAt k = kt at cm he
            clear HK2
            go_wp2_with fail
            go_quiet (fail)
            go_wp2
            go_ret
            exact ⟨by rw [HF.out]; rfl, below_drewN HI.out.2 _⟩
          · have he : ((s.extract (i + 1) m).toList == (keyAt k).toList) = false := by simpa using he
            have J2 : Hid (∀ j, j < k + 1 → ((s.extract (i + 1) m).toList == (keyAt j).toList) = false) := fun j hj => by
              rcases Nat.lt_or_ge j k with h | h
              · exact J.out j h
              · rw [show j = k by omega]; exact he
            generalize keyAt k = kt at cm he
            go_wp2_with fail
            go_quiet (fail)
            go_wp2
            go_roundg (7 - (k + 1))
            case measure => omega
            case rel => exact ⟨k + 1, by simp, by omega, Nat.le_refl _, keysIn_drewN HI _, J2⟩
        · obtain rfl : k = 7 := by omega
          have HF : Hid (p = (0, i)) := by have := HK2.out; rwa [key_missed J.out, if_neg (by simp)] at this
          go_wp2
          go_ret
          exact ⟨by rw [HF.out]; rfl, HI.out.2⟩
    · have hix2 := run_index_bt1 s i h5
      generalize bt (by8 s) (i + 1) = c2 at hix2 h6
      go_enter Try.func30, Try.ntmps30
      go_wp2_with (first | (go_at_call 28; refine (HE.out _).mono ?_; rintro e w' ⟨rfl, rfl⟩) | (go_at_call 33; refine (keys_calls _).mono ?_; rintro e w' ⟨rfl, rfl⟩; rw [HW.out]))
      go_loopg [7] 7 (fun kx s7 wr => ∃ k : Nat, s7 = .int .i64 k ∧ k ≤ 7 ∧ 7 - k ≤ kx ∧ Hid (KeysIn w' wr) ∧ Hid (∀ j, j < k → ((s.extract (i + 1) m).toList == (keyAt j).toList) = false))
      case atStart => exact ⟨0, rfl, Nat.zero_le _, by omega, HC, (fun j hj => absurd hj (Nat.not_lt_zero _) : ∀ j, j < 0 → ((s.extract (i + 1) m).toList == (keyAt j).toList) = false)⟩
      case round =>
        obtain ⟨k, rfl, hk, hg, HI, J⟩ := hrel
        by_cases hlt : k < 7
        · have cm := HI.out.1 k hlt
          by_cases he : ((s.extract (i + 1) m).toList == (keyAt k).toList) = true
          · have HF : Hid (p = (4, m)) := by have := HK2.out; rwa [if_pos (key_found hlt he)] at this
            generalize keyAt k = kt at cm he
            clear HK2
            go_wp2_with fail
            go_quiet (fail)
            go_wp2
            go_ret
            exact ⟨by rw [HF.out]; rfl, below_drewN HI.out.2 _⟩
          · have he : ((s.extract (i + 1) m).toList == (keyAt k).toList) = false := by simpa using he
            have J2 : Hid (∀ j, j < k + 1 → ((s.extract (i + 1) m).toList == (keyAt j).toList) = false) := fun j hj => by
              rcases Nat.lt_or_ge j k with h | h
              · exact J.out j h
              · rw [show j = k by omega]; exact he
            generalize keyAt k = kt at cm he
            go_wp2_with fail
            go_quiet (fail)
            go_wp2
            go_roundg (7 - (k + 1))
            case measure => omega
            case rel => exact ⟨k + 1, by simp, by omega, Nat.le_refl _, keysIn_drewN HI _, J2⟩
        · obtain rfl : k = 7 := by omega
          have HF : Hid (p = (0, i)) := by have := HK2.out; rwa [key_missed J.out, if_neg (by simp)] at this
          go_wp2
          go_ret
          exact ⟨by rw [HF.out]; rfl, HI.out.2⟩

end Go.Proofs.Ytdfkkamafiiflaa
