/-
  The walk of Digits: a number's digits, in new memory.
-/
import Derived.Test.YtdgadamkiililaaDoorName
import Derived.Maps.AppendAt
import Derived.Laws.Concat
namespace Go.Proofs.YtdgadamkiililaaDoor
open Go.RowKit

/-- A text of one byte. -/
def one8 (b : UInt8) : ByteArray := ⟨#[b]⟩

theorem run_one (W : World) (x : Int) : (convert 33 9 (.slice (some ⟨W.heap.size, 0, none⟩) 1 1)).run Tryd.prog (W.alloc (.cells #[.int .u8 x] 5)) = .ok (.string (one8 (UInt8.ofNat x.toNat))) (W.alloc (.cells #[.int .u8 x] 5)) := by
  have := run_convert_bytes_arg (P := Tryd.prog) (W.alloc (.cells #[.int .u8 x] 5)) 33 5 Tryd.underlying33 Tryd.underlying5 W.heap.size 0 1 1 [x] rfl (fun j hj => by
    obtain rfl : j = 0 := by omega
    rw [World.cell?_alloc_mark]; rfl) 9 Tryd.underlying9
  rw [this]
  rfl

theorem by8_append (a b : ByteArray) : by8 (a ++ b) = by8 a ++ by8 b := by
  unfold by8
  rw [ByteArray.data_append, Array.toList_append]

/-- What lays a text of one byte, for a walk. -/
theorem run_one_at (wr : World) (x : Nat) : ∃ d, (convert 33 9 (.slice (some ⟨wr.heap.size, 0, none⟩) 1 1)).run Tryd.prog (wr.alloc (.cells #[.int .u8 (x : Int)] 5)) = .ok (.string d) (wr.alloc (.cells #[.int .u8 (x : Int)] 5)) ∧
    d.size = 1 ∧ by8 d = [UInt8.ofNat x] := ⟨_, run_one wr x, rfl, rfl⟩

theorem dg_last {f n : Nat} {t : List UInt8} (h : n / 10 = 0) : dg (f + 1) n t = UInt8.ofNat (48 + n % 10) :: t := by rw [dg, if_pos h]
theorem dg_more {f n : Nat} {t : List UInt8} (h : n / 10 ≠ 0) : dg (f + 1) n t = dg f (n / 10) (UInt8.ofNat (48 + n % 10) :: t) := by rw [dg, if_neg h]

set_option maxHeartbeats 2000000 in
theorem digits_calls (n : Nat) (w : World) (hn : n ≤ 20000) : Calls Tryd.prog 29 #[.int .i64 n] w fun e w' => ∃ t, e = .returned (.string t) ∧ by8 t = dg 6 n [] ∧ Below w.heap.size w w' := by
  obtain ⟨R, HR⟩ : ∃ R, Hid (dg 6 n [] = R) := ⟨_, rfl⟩
  rw [HR.out]
  go_enter Tryd.func29, Tryd.ntmps29
  go_wp2
  go_loopg [0, 3] 6 (fun kx s0 s3 wr => ∃ (m : Nat) (t : ByteArray), s0 = .int .i64 m ∧ s3 = .string t ∧ m ≤ 20000 ∧ t.size + kx ≤ 6 ∧ Hid (∃ f, f + 1 ≤ kx ∧ m < 10 ^ (f + 1) ∧ dg (f + 1) m (by8 t) = R ∧ Below w.heap.size w wr))
  case atStart => exact ⟨n, ⟨#[]⟩, rfl, rfl, hn, Nat.le_refl _, (⟨5, Nat.le_refl _, by omega, HR.out, Below.refl _ _⟩ : ∃ f, f + 1 ≤ 6 ∧ n < 10 ^ (f + 1) ∧ dg (f + 1) n (by8 ⟨#[]⟩) = R ∧ Below w.heap.size w w)⟩
  case round =>
    obtain ⟨m, t, rfl, rfl, hm, hts, J⟩ := hrel
    obtain ⟨d, hcv, hd1, hd2⟩ := run_one_at wr (48 + m % 10)
    have hcv' : (convert 33 9 (.slice (some ⟨wr.heap.size, 0, none⟩) 1 1)).run Tryd.prog (wr.alloc (.cells #[.int .u8 (48 + (m : Int) % 10)] 5)) = .ok (.string d) (wr.alloc (.cells #[.int .u8 (48 + (m : Int) % 10)] 5)) := by
      have e : ((48 + m % 10 : Nat) : Int) = 48 + (m : Int) % 10 := by omega
      rw [e] at hcv
      exact hcv
    have HD : Hid (by8 (d ++ t) = UInt8.ofNat (48 + m % 10) :: by8 t) := by show _ = _; rw [by8_append, hd2]; rfl
    have hsz : d.size + t.size ≤ 7 := by omega
    have hsa : (d ++ t).size = 1 + t.size := by rw [ByteArray.size_append, hd1]
    clear hd2 hcv
    have hB : Hid (∀ o : Obj, Below w.heap.size w (wr.alloc o)) := fun o => by
      obtain ⟨f, -, -, -, hb⟩ := J.out
      exact hb.alloc hb.size o
    by_cases h0 : m / 10 = 0
    · have HF : Hid (by8 (d ++ t) = R) := by
        obtain ⟨f, -, -, he, -⟩ := J.out
        rw [dg_last h0] at he
        exact HD.out.trans he
      have hz : ((m : Int) / 10 == 0) = true := by simp; omega
      clear J HD h0 hsa
      go_wp2
      go_ret
      exact ⟨_, rfl, HF.out, hB.out _⟩
    · have HF : Hid (∃ f, f + 1 ≤ gk - 1 ∧ m / 10 < 10 ^ (f + 1) ∧ dg (f + 1) (m / 10) (by8 (d ++ t)) = R ∧ 1 ≤ gk) := by
        obtain ⟨f, hf, hlt, he, -⟩ := J.out
        rw [dg_more h0, ← HD.out] at he
        obtain ⟨f, rfl⟩ : ∃ g, f = g + 1 := ⟨f - 1, by
          rcases Nat.eq_zero_or_pos f with h | h
          · subst h; exfalso; apply h0; rw [Nat.pow_one] at hlt; omega
          · omega⟩
        exact ⟨f, by omega, Nat.div_lt_of_lt_mul (by rw [Nat.mul_comm, ← Nat.pow_succ]; exact hlt), he, by omega⟩
      have hz : ((m : Int) / 10 == 0) = false := by simp; omega
      have hgk : 1 ≤ gk := by obtain ⟨f, -, -, -, h⟩ := HF.out; exact h
      clear J HD h0
      go_wp2
      go_roundg (gk - 1)
      case measure => omega
      case rel =>
        refine ⟨m / 10, d ++ t, by simp, rfl, by omega, by omega, ?_⟩
        obtain ⟨f, h1, h2, h3, -⟩ := HF.out
        exact (⟨f, h1, h2, h3, hB.out _⟩ : ∃ f, f + 1 ≤ gk - 1 ∧ m / 10 < 10 ^ (f + 1) ∧ dg (f + 1) (m / 10) (by8 (d ++ t)) = R ∧ Below w.heap.size w _)

end Go.Proofs.YtdgadamkiililaaDoor
