/-
  The walks of the functions that tell where a run of bytes ends.
-/
import Derived.Test.YtdgadamkiililaaDoorBase
namespace Go.Proofs.YtdgadamkiililaaDoor
open Go.RowKit

set_option maxHeartbeats 1000000 in
theorem nameEnd_calls (s : ByteArray) (i : Nat) (w : World) (hi : i ≤ s.size) (hs : s.size ≤ 1048576) :
    Calls Tryd.prog 48 #[.string s, .int .i64 i] w fun e w' => e = .returned (.int .i64 (runEnd isN (by8 s) i)) ∧ w' = w := by
  go_enter Tryd.func48, Tryd.ntmps48
  go_wp2
  go_loop [1] (fun v => ∃ k : Nat, k ≤ s.size ∧ v = .int .i64 k ∧ Hid (runEnd isN (by8 s) i = runEnd isN (by8 s) k)) (fun v => s.size - (intOf v).toNat)
  case atStart => exact ⟨i, hi, rfl, rfl⟩
  case round =>
    obtain ⟨k, hk, rfl, HR⟩ := hrel
    by_cases hlt : k < s.size
    · have hix := run_index_bt s k hlt
      have hl : k < (by8 s).length := by rw [by8_length]; exact hlt
      obtain ⟨c, hc⟩ : ∃ c, c = bt (by8 s) k := ⟨_, rfl⟩
      rw [← hc] at hix
      by_cases h1 : isL c = true
      · have HN : Hid (runEnd isN (by8 s) i = runEnd isN (by8 s) (k + 1)) := by
          show _ = _
          rw [HR.out, runEnd_step hl (by unfold isN; rw [← hc, h1]; rfl)]
        clear HR hl hc
        go_wp2_with (go_at_call 47; refine (begins_calls _ _).mono ?_; rintro e w' ⟨rfl, rfl⟩; rw [h1])
        go_round
        case rel => exact ⟨k + 1, by omega, by go_num, HN⟩
        case measure => simp [intOf]; omega
      · have h1 : isL c = false := by simpa using h1
        by_cases h2 : isD c = true
        · have HN : Hid (runEnd isN (by8 s) i = runEnd isN (by8 s) (k + 1)) := by
            show _ = _
            rw [HR.out, runEnd_step hl (by unfold isN; rw [← hc, h1, h2]; rfl)]
          clear HR hl hc
          go_wp2_with (first | (go_at_call 47; refine (begins_calls _ _).mono ?_; rintro e w' ⟨rfl, rfl⟩; rw [h1]) | (go_at_call 60; refine (digit_calls _ _).mono ?_; rintro e w' ⟨rfl, rfl⟩; rw [h2]))
          go_round
          case rel => exact ⟨k + 1, by omega, by go_num, HN⟩
          case measure => simp [intOf]; omega
        · have h2 : isD c = false := by simpa using h2
          have HN : Hid (runEnd isN (by8 s) i = k) := by
            show _ = _
            rw [HR.out, runEnd_stop hl (by unfold isN; rw [← hc, h1, h2]; rfl)]
          clear HR hl hc
          go_wp2_with (first | (go_at_call 47; refine (begins_calls _ _).mono ?_; rintro e w' ⟨rfl, rfl⟩; rw [h1]) | (go_at_call 60; refine (digit_calls _ _).mono ?_; rintro e w' ⟨rfl, rfl⟩; rw [h2]))
          go_ret
          exact ⟨by rw [HN.out]; rfl, rfl⟩
    · have HN : Hid (runEnd isN (by8 s) i = k) := by
        show _ = _
        rw [HR.out, runEnd_out (by rw [by8_length]; omega)]
      clear HR
      go_wp2
      go_ret
      exact ⟨by rw [HN.out]; rfl, rfl⟩


/-- Does a begin with b? -/
def begB (a b : ByteArray) : Bool := decide ((b.size : Int) ≤ (a.size : Int)) && ((a.extract 0 b.size).toList == b.toList)

set_option maxHeartbeats 1000000 in
theorem prefix31_calls (a b : ByteArray) (w : World) : Calls Tryd.prog 80 #[.string a, .string b] w fun e w' => e = .returned (.bool (begB a b)) ∧ w' = w := by
  by_cases h : (b.size : Int) ≤ (a.size : Int)
  · have H : Hid (begB a b = ((a.extract 0 b.size).toList == b.toList)) := by show _ = _; unfold begB; simp [h]
    go_enter Tryd.func80, Tryd.ntmps80
    go_wp2
    go_ret
    exact ⟨by rw [H.out]; rfl, rfl⟩
  · have H : Hid (begB a b = false) := by show _ = _; unfold begB; simp [h]
    go_enter Tryd.func80, Tryd.ntmps80
    go_wp2
    go_ret
    exact ⟨by rw [H.out]; rfl, rfl⟩

theorem prefix_calls (a b : ByteArray) (w : World) : Calls Tryd.prog 68 #[.string a, .string b] w fun e w' => e = .returned (.bool (begB a b)) ∧ w' = w := by
  go_enter Tryd.func68, Tryd.ntmps68
  go_wp2_with (go_at_call 80; refine (prefix31_calls _ _ _).mono ?_; rintro e w' ⟨rfl, rfl⟩)
  go_ret
  exact ⟨rfl, rfl⟩

theorem indexByte34_calls (s : ByteArray) (c : Int) (w : World) :
    Calls Tryd.prog 84 #[.string s, .int .u8 c] w fun e w' => e = .returned (.int .i64 (Lib.indexByte s.data.toList c.toNat.toUInt8)) ∧ w' = w := by
  go_enter Tryd.func84, Tryd.ntmps84
  go_wp2
  rw [run_callFunc_extern Tryd.func85 (by kernel_rfl) (by kernel_rfl) (by kernel_rfl) (e := Extern.BytealgIndexByte.indexByte) (by kernel_rfl), Lib.run_indexByteString]
  simp only [Result.andThen]
  rw [Oper.upon_value]
  go_wp2
  go_ret
  exact ⟨rfl, rfl⟩

theorem indexByte_calls (s : ByteArray) (c : Int) (w : World) :
    Calls Tryd.prog 81 #[.string s, .int .u8 c] w fun e w' => e = .returned (.int .i64 (Lib.indexByte s.data.toList c.toNat.toUInt8)) ∧ w' = w := by
  go_enter Tryd.func81, Tryd.ntmps81
  go_wp2_with (go_at_call 84; refine (indexByte34_calls _ _ _).mono ?_; rintro e w' ⟨rfl, rfl⟩)
  go_ret
  exact ⟨rfl, rfl⟩

end Go.Proofs.YtdgadamkiililaaDoor
