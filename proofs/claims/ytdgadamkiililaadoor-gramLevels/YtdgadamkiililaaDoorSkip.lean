/-
  The walks of lineEnd and of both functions that pass by what stands between words.
-/
import Derived.Test.YtdgadamkiililaaDoorRun
namespace Go.Proofs.YtdgadamkiililaaDoor
open Go.RowKit

theorem by8_extract (s : ByteArray) (a b : Nat) : by8 (s.extract a b) = part (by8 s) a b := by
  have := ByteArray.extract_mk (by8 s) a b
  have e : ByteArray.mk (by8 s).toArray = s := by unfold by8; simp
  rw [e] at this
  rw [this]
  unfold by8 part
  simp

theorem part_end (l : List UInt8) (i : Nat) : part l i l.length = l.drop i := by
  unfold part
  exact List.take_of_length_le (by simp)

theorem begB_two (s : ByteArray) (i : Nat) (x y : UInt8) (hi : i < s.size) : begB (s.extract i s.size) ⟨#[x, y]⟩ = pre2 (x.toNat : Int) (y.toNat : Int) (by8 s) i := by
  have hl : i < (by8 s).length := by rw [by8_length]; exact hi
  obtain ⟨b, hd, hb⟩ := drop_at hl
  have e1 : by8 (s.extract i s.size) = (by8 s).drop i := by rw [by8_extract, ← by8_length s, part_end]
  have e2 : ((s.extract i s.size).size : Int) = ((by8 s).length - i : Nat) := by rw [← by8_length, e1, List.length_drop]
  have e3 : ((s.extract i s.size).extract 0 2).toList = ((by8 s).drop i).take 2 := by rw [by8_toList, by8_extract, e1]; rfl
  have e4 : (ByteArray.mk #[x, y]).toList = [x, y] := by rw [by8_toList]; rfl
  have e5 : (ByteArray.mk #[x, y]).size = 2 := rfl
  unfold begB pre2
  rw [e5, e2, e3, e4, hd, hb]
  by_cases h : i + 1 < (by8 s).length
  · obtain ⟨b', hd', hb'⟩ := drop_at h
    rw [hd', hb']
    have h2 : ((2 : Nat) : Int) ≤ (((by8 s).length - i : Nat) : Int) := by omega
    simp only [h2, h, decide_true, Bool.true_and, List.take_succ_cons, List.take_zero]
    have q : ∀ a c : UInt8, ((a.toNat : Int) == (c.toNat : Int)) = (a == c) := by
      intro a c
      rw [Bool.eq_iff_iff]
      simp only [beq_iff_eq]
      constructor
      · intro h; exact UInt8.toNat_inj.1 (by omega)
      · intro h; rw [h]
    rw [q, q]
    simp only [List.cons_beq_cons]
    cases (b == x) <;> cases (b' == y) <;> rfl
  · have h2 : ¬ ((2 : Nat) : Int) ≤ (((by8 s).length - i : Nat) : Int) := by omega
    simp [h]
    intro h3
    omega

theorem runLen_index : ∀ l : List UInt8, (Lib.indexByte l 10 = -1 ∧ runLen noNl l = l.length) ∨ (0 ≤ Lib.indexByte l 10 ∧ (runLen noNl l : Int) = Lib.indexByte l 10)
  | [] => .inl ⟨rfl, rfl⟩
  | b :: r => by
    unfold Lib.indexByte runLen
    by_cases h : b = 10
    · subst h
      right
      simp [noNl]
    · have h1 : (b == 10) = false := by simpa using h
      have h2 : noNl (b.toNat : Int) = true := by
        unfold noNl
        simp only [bne_iff_ne, ne_eq]
        intro e
        exact h (UInt8.toNat_inj.1 (by show b.toNat = 10; omega))
      rw [h1, h2]
      rcases runLen_index r with ⟨e1, e2⟩ | ⟨e1, e2⟩
      · left; simp [e1, e2]
      · right
        have : (Lib.indexByte r 10 == -1) = false := by simp; omega
        simp [this]; omega

set_option maxHeartbeats 1000000 in
theorem lineEnd_calls (s : ByteArray) (i : Nat) (w : World) (hi : i ≤ s.size) (hs : s.size ≤ 1048576) :
    Calls Tryd.prog 69 #[.string s, .int .i64 i] w fun e w' => e = .returned (.int .i64 (runEnd noNl (by8 s) i)) ∧ w' = w := by
  have e1 : (s.extract i s.size).data.toList = (by8 s).drop i := by
    have : by8 (s.extract i s.size) = (by8 s).drop i := by rw [by8_extract, ← by8_length s, part_end]
    exact this
  have hx := runLen_index ((by8 s).drop i)
  have hle := runLen_le noNl ((by8 s).drop i)
  rw [List.length_drop, by8_length] at hle
  have HC := fun W => indexByte_calls (s.extract i s.size) 10 W
  rw [e1] at HC
  have e2 : (10 : Int).toNat.toUInt8 = 10 := rfl
  rw [e2] at HC
  generalize hn : Lib.indexByte ((by8 s).drop i) 10 = n at HC hx
  have HR : Hid (((runEnd noNl (by8 s) i : Nat) : Int) = if n = -1 then (s.size : Int) else i + n) := by
    show _ = _
    unfold runEnd
    rcases hx with ⟨h1, h2⟩ | ⟨h1, h2⟩
    · rw [if_pos h1, h2, List.length_drop, by8_length]; omega
    · rw [if_neg (by omega)]; omega
  generalize runEnd noNl (by8 s) i = R at HR ⊢
  have HC2 : Hid (∀ W : World, Calls Tryd.prog 81 #[.string (s.extract i s.size), .int .u8 10] W fun e w' => e = .returned (.int .i64 n) ∧ w' = W) := HC
  clear HC e1 e2
  rcases hx with ⟨h1, h2⟩ | ⟨h1, h2⟩
  · have h3 : ¬ 0 ≤ n := by omega
    have HR2 : Hid ((R : Int) = s.size) := by have := HR.out; rwa [if_pos h1] at this
    clear HR h2 hle hn h1
    go_enter Tryd.func69, Tryd.ntmps69
    go_wp2_with (go_at_call 81; refine (HC2.out _).mono ?_; rintro e w' ⟨rfl, rfl⟩)
    go_ret
    exact ⟨by rw [HR2.out]; rfl, rfl⟩
  · have HR2 : Hid ((R : Int) = i + n) := by have := HR.out; rwa [if_neg (by omega)] at this
    have h4 : (i : Int) + n ≤ 1048576 := by omega
    clear HR h2 hle hn
    go_enter Tryd.func69, Tryd.ntmps69
    go_wp2_with (go_at_call 81; refine (HC2.out _).mono ?_; rintro e w' ⟨rfl, rfl⟩)
    go_ret
    exact ⟨by rw [HR2.out]; rfl, rfl⟩

theorem isB_parts {c : Int} (h : isB c = true) : (c == 32) = true ∨ ((c == 32) = false ∧ (c == 9) = true) ∨ ((c == 32) = false ∧ (c == 9) = false ∧ (c == 10) = true) := by
  unfold isB at h
  cases h1 : (c == 32) <;> cases h2 : (c == 9) <;> cases h3 : (c == 10) <;> simp_all
theorem isB_none {c : Int} (h : isB c = false) : (c == 32) = false ∧ (c == 9) = false ∧ (c == 10) = false := by
  unfold isB at h
  cases h1 : (c == 32) <;> cases h2 : (c == 9) <;> cases h3 : (c == 10) <;> simp_all

set_option maxHeartbeats 1000000 in
theorem skip_calls (s : ByteArray) (i : Nat) (w : World) (hi : i ≤ s.size) (hs : s.size ≤ 1048576) :
    Calls Tryd.prog 57 #[.string s, .int .i64 i] w fun e w' => e = .returned (.int .i64 (skip (by8 s) i)) ∧ w' = w := by
  have HL : Hid ((by8 s).length = s.size) := by8_length s
  go_enter Tryd.func57, Tryd.ntmps57
  go_wp2
  go_loop [1] (fun v => ∃ k f : Nat, k ≤ s.size ∧ v = .int .i64 k ∧ s.size < k + f ∧ Hid (skip (by8 s) i = skipF f (by8 s) k)) (fun v => s.size - (intOf v).toNat)
  case atStart => exact ⟨i, s.size + 1, hi, rfl, by omega, by show _ = _; unfold skip; rw [HL.out]⟩
  case round =>
    obtain ⟨k, f, hk, rfl, hf, HR⟩ := hrel
    by_cases hlt : k < s.size
    · have hix := run_index_bt s k hlt
      have hl : k < (by8 s).length := by rw [HL.out]; exact hlt
      obtain ⟨f, rfl⟩ : ∃ g, f = g + 1 := ⟨f - 1, by omega⟩
      have HP := fun W => prefix_calls (s.extract k s.size) ⟨#[47, 47]⟩ W
      rw [begB_two s k 47 47 hlt] at HP
      have e47 : ((47 : UInt8).toNat : Int) = 47 := rfl
      rw [e47] at HP
      obtain ⟨c, hc⟩ : ∃ c, c = bt (by8 s) k := ⟨_, rfl⟩
      rw [← hc] at hix
      by_cases h1 : isB c = true
      · have HN : Hid (skip (by8 s) i = skipF f (by8 s) (k + 1)) := by
          show _ = _
          rw [HR.out, skip_blank hl (by rw [← hc]; exact h1)]
        have h1 := isB_parts h1
        clear HR hl hc HP e47
        rcases h1 with h1 | ⟨h1, h2⟩ | ⟨h1, h2, h3⟩
        all_goals
          go_wp2
          go_round
          case rel => exact ⟨k + 1, f, by omega, by go_num, by omega, HN⟩
          case measure => simp [intOf]; omega
      · have h1 : isB c = false := by simpa using h1
        obtain ⟨h2, h3, h4⟩ := isB_none h1
        by_cases h5 : pre2 47 47 (by8 s) k = true
        · have HN : Hid (skip (by8 s) i = skipF f (by8 s) (runEnd noNl (by8 s) k)) := by
            show _ = _
            rw [HR.out, skip_line hl (by rw [← hc]; exact h1) h5]
          have hm := (line_more h5).2
          have hle : runEnd noNl (by8 s) k ≤ s.size := by rw [← HL.out]; exact runEnd_le (by omega)
          rw [h5] at HP
          have HP2 : Hid (∀ W : World, Calls Tryd.prog 68 #[.string (s.extract k s.size), .string ⟨#[47, 47]⟩] W fun e w' => e = .returned (.bool true) ∧ w' = W) := HP
          have HE : Hid (∀ W : World, Calls Tryd.prog 69 #[.string s, .int .i64 k] W fun e w' => e = .returned (.int .i64 (runEnd noNl (by8 s) k)) ∧ w' = W) := fun W => lineEnd_calls s k W hk hs
          generalize runEnd noNl (by8 s) k = m at HN hm hle HE
          clear HR hl hc HP e47 h1 h5
          go_wp2_with (first | (go_at_call 68; refine (HP2.out _).mono ?_; rintro e w' ⟨rfl, rfl⟩) | (go_at_call 69; refine (HE.out _).mono ?_; rintro e w' ⟨rfl, rfl⟩))
          go_round
          case rel => exact ⟨m, f, by omega, by go_num, by omega, HN⟩
          case measure => simp [intOf]; omega
        · have h5 : pre2 47 47 (by8 s) k = false := by simpa using h5
          have HN : Hid (skip (by8 s) i = k) := by
            show _ = _
            rw [HR.out, skip_word (by rw [← hc]; exact h1) h5]
          rw [h5] at HP
          have HP2 : Hid (∀ W : World, Calls Tryd.prog 68 #[.string (s.extract k s.size), .string ⟨#[47, 47]⟩] W fun e w' => e = .returned (.bool false) ∧ w' = W) := HP
          clear HR hl hc HP e47 h1 h5
          go_wp2_with (go_at_call 68; refine (HP2.out _).mono ?_; rintro e w' ⟨rfl, rfl⟩)
          go_ret
          exact ⟨by rw [HN.out]; rfl, rfl⟩
    · have HN : Hid (skip (by8 s) i = k) := by
        show _ = _
        rw [HR.out, skip_out (by rw [HL.out]; omega)]
      clear HR
      go_wp2
      go_ret
      exact ⟨by rw [HN.out]; rfl, rfl⟩

end Go.Proofs.YtdgadamkiililaaDoor
