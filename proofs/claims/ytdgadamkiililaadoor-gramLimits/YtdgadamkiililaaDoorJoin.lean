/-
  The walks of Join at a blank, and of putLine.
-/
import Derived.Test.YtdgadamkiililaaDoorGrow
namespace Go.Proofs.YtdgadamkiililaaDoor
open Go.RowKit

/-- Words, a blank ahead of each; words with a blank between each two. -/
def sp (l : List (List UInt8)) : List UInt8 := l.flatMap fun x => 32 :: x
def jn : List (List UInt8) → List UInt8
  | [] => []
  | x :: r => x ++ sp r

theorem sp_append (a b : List (List UInt8)) : sp (a ++ b) = sp a ++ sp b := by unfold sp; rw [List.flatMap_append]
theorem sp_one (x : List UInt8) : sp [x] = 32 :: x := by unfold sp; simp

theorem sp_take_succ {l : List (List UInt8)} {k : Nat} {x : List UInt8} (h : l[k]? = some x) : sp (l.take (k + 1)) = sp (l.take k) ++ 32 :: x := by
  rw [take_succ h, sp_append, sp_one]

theorem sp_length (l : List (List UInt8)) (h : ∀ x ∈ l, x.length ≤ 100) : (sp l).length ≤ 101 * l.length := by
  induction l with
  | nil => simp [sp]
  | cons x r ih =>
    have h1 := ih (fun y hy => h y (List.mem_cons_of_mem _ hy))
    have h2 := h x List.mem_cons_self
    have e : sp (x :: r) = (32 :: x) ++ sp r := rfl
    rw [e, List.length_append, List.length_cons, List.length_cons]
    omega

/-- A builder in memory that w has not. -/
def NewB (w wr : World) (b : Nat) (l : List UInt8) : Prop := ∃ v, Bld wr b v l ∧ Below w.heap.size w wr ∧ ∀ k, Foot b v k → w.heap.size ≤ k

theorem NewB.step {w wr wr' : World} {b : Nat} {l' : List UInt8} {v v' : Value} (hb : Below w.heap.size w wr) (hf : ∀ k, Foot b v k → w.heap.size ≤ k) (h' : Bld wr' b v' l') (hm : Moved wr b v wr' v') : NewB w wr' b l' := by
  refine ⟨v', h', hb.trans (hm.below hb.size hf), ?_⟩
  rintro k (rfl | hk)
  · exact hf k (.inl rfl)
  · rcases hm.2 k hk with h1 | h1
    · exact hf k (.inr h1)
    · exact Nat.le_trans hb.size h1

theorem writeString_new (b : Nat) (l : List UInt8) (s : ByteArray) (w W : World) (h : NewB w W b l) (hn : l.length + s.size ≤ 100000000) :
    Calls Tryd.prog 41 #[.pointer (some ⟨b, 0, none⟩), .string s] W fun e w' => e = .returned (.tuple #[.int .i64 s.size, .nilIface]) ∧ NewB w w' b (l ++ by8 s) := by
  obtain ⟨v, h1, h2, h3⟩ := h
  refine (writeString_calls b v l s W h1 hn).mono ?_
  rintro e w' ⟨v', rfl, h4, h5⟩
  exact ⟨rfl, NewB.step h2 h3 h4 h5⟩

theorem NewB.below {w wr wr' : World} {b : Nat} {l : List UInt8} (h : NewB w wr b l) (hb : Below wr.heap.size wr wr') : NewB w wr' b l := by
  obtain ⟨v, h1, h2, h3⟩ := h
  exact ⟨v, h1.below hb, below_step h2 hb, h3⟩

/-- A builder that was just made. -/
def FreshB (w wr : World) (b : Nat) : Prop := Bld wr b (.slice none 0 0) [] ∧ Below w.heap.size w wr ∧ ∀ k, Foot b (.slice none 0 0) k → w.heap.size ≤ k

theorem freshB_alloc (w wr : World) (h : Below w.heap.size w wr) : FreshB w (wr.alloc (.cells #[.pointer none, .slice none 0 0] 50)) wr.heap.size :=
  ⟨⟨⟨none, heap_alloc_new _ _, .inl rfl⟩, World.ownsRow_nil _ _ _ _, by simp [Value.ownBlock]⟩, below_step h (below_alloc _ _), fun k hk => by
    rcases hk with rfl | hk
    · exact h.size
    · simp [Value.ownBlock] at hk⟩

set_option maxHeartbeats 4000000 in
set_option maxRecDepth 20000 in
theorem join_calls (l : List ByteArray) (ao : Option Addr) (n cap : Nat) (w : World) (hr : Row w 1 ao n cap (strC l)) (hn : n = l.length) (h1 : 1 ≤ n) (hnn : n ≤ 1000) (hs : ∀ x ∈ l, x.size ≤ 100) :
    Calls Tryd.prog 42 #[.slice ao n cap, .string ⟨#[32]⟩] w fun e w' => ∃ t, e = .returned (.string t) ∧ by8 t = jn (l.map by8) ∧ Below w.heap.size w w' := by
  have HN : Hid (n = l.length) := hn
  have HR : Hid (Row w 1 ao n cap (strC l)) := hr
  have HS : Hid (∀ x ∈ l, x.size ≤ 100) := hs
  have hle := hr.le
  have hmx : cap ≤ 9223372036854775807 := by have := hr.max; unfold maxLen at this; omega
  clear hr hn hs
  by_cases hone : n = 1
  · subst hone
    obtain ⟨x, rfl⟩ : ∃ x, l = [x] := by
      match l, HN.out with
      | [x], _ => exact ⟨x, rfl⟩
    obtain ⟨b, o, rfl, c0⟩ := str_at HR.out (i := 0) (s := x) rfl
    rw [Nat.add_zero] at c0
    go_enter Tryd.func42, Tryd.ntmps42
    go_wp2
    go_ret
    exact ⟨x, rfl, by simp [jn, sp], Below.refl _ _⟩
  · have h2 : 2 ≤ n := by omega
    obtain ⟨x, r, HL⟩ : ∃ x r, Hid (l = x :: r) := by
      match l, HN.out with
      | x :: r, _ => exact ⟨x, r, rfl⟩
      | [], h => exact absurd h (by simp; omega)
    obtain ⟨b, o, rfl, hcells⟩ := HR.out.at (by omega)
    have HC : Hid (∀ (W : World), Below w.heap.size w W → ∀ (i : Nat) (s : ByteArray), l[i]? = some s → W.cell? ⟨b, o + i, none⟩ = some (.string s)) := fun W hW i s hi => cell_below hW (hcells i _ (by unfold strC; rw [List.getElem?_map, hi]; rfl))
    have e0 : ((n : Int) == 0) = false := by simp; omega
    have e1 : ((n : Int) == 1) = false := by simp; omega
    have e2 : ¬ (9223372036854775807 / ((n : Int) - 1) ≤ 1) := by
      have h3 : 2 ≤ 9223372036854775807 / ((n : Int) - 1) := (Int.le_ediv_iff_mul_le (by omega)).2 (by omega)
      omega
    clear hcells HR hone
    go_enter Tryd.func42, Tryd.ntmps42
    go_upto_block 1 with fail
    go_cut [5] (fun s5 wd => ∃ T : Nat, s5 = .int .i64 T ∧ T ≤ 200000 ∧ wd = w)
    case first =>
      go_wp2_with fail
      go_loop [5, 41] (fun s5 s41 => ∃ T k : Nat, s5 = .int .i64 T ∧ s41 = .int .i64 k ∧ k ≤ n ∧ T ≤ 1000 + 100 * k) (fun _ s41 => n - (intOf s41).toNat)
      case atStart => exact ⟨n - 1, 0, by congr 1; omega, rfl, Nat.zero_le _, by omega⟩
      case round =>
        obtain ⟨T, k, rfl, rfl, hk, hT⟩ := hrel
        by_cases hlt : k < n
        · obtain ⟨y, hy⟩ : ∃ y, l[k]? = some y := ⟨l[k]'(by rw [← HN.out]; exact hlt), List.getElem?_eq_getElem _⟩
          have c0 := HC.out w (Below.refl _ _) k y hy
          have hsz := HS.out y (List.mem_of_getElem? hy)
          clear hy
          go_wp2_with fail
          go_round
          case rel => exact ⟨T + y.size, k + 1, by simp, by simp, by omega, by omega⟩
          case measure => simp [intOf]; omega
        · go_wp2_with fail
          go_meet
          exact ⟨T, rfl, by omega, rfl⟩
    case rest =>
      obtain ⟨T, rfl, hT, hwc⟩ := hcut
      subst wc
      have HB0 : Hid (FreshB w (w.alloc (.cells #[.pointer none, .slice none 0 0] 50)) w.heap.size) := freshB_alloc w w (Below.refl _ _)
      go_upto_region 19 with fail
      generalize w.alloc (.cells #[.pointer none, .slice none 0 0] 50) = w1 at HB0 ⊢
      obtain ⟨pb, hpb⟩ : ∃ pb, pb = w.heap.size := ⟨_, rfl⟩
      rw [← hpb] at HB0 ⊢
      clear hpb
      have HG : Hid (Calls Tryd.prog 55 #[.pointer (some ⟨pb, 0, none⟩), .int .i64 T] w1 fun e w' => ∃ v', e = .returned (.tuple #[]) ∧ Bld w' pb v' [] ∧ Moved w1 pb (.slice none 0 0) w' v') := grow_calls pb T w1 HB0.out.1 (by omega)
      go_wp2_with fail
      refine HG.out.mono ?_
      rintro e w2 ⟨v2, rfl, hB2, hM2⟩
      have HB1 : Hid (NewB w w2 pb []) := NewB.step HB0.out.2.1 HB0.out.2.2 hB2 hM2
      have HW1 : Hid (Below w.heap.size w w2) := by obtain ⟨v, -, h, -⟩ := HB1.out; exact h
      have c0 := HC.out w2 HW1.out 0 x (by rw [HL.out]; rfl)
      rw [Nat.add_zero] at c0
      have hsx := HS.out x (by rw [HL.out]; exact List.mem_cons_self)
      have HC1 : Hid (Calls Tryd.prog 41 #[.pointer (some ⟨pb, 0, none⟩), .string x] w2 fun e w' => e = .returned (.tuple #[.int .i64 x.size, .nilIface]) ∧ NewB w w' pb ([] ++ by8 x)) := writeString_new pb [] x w w2 HB1.out (by simp; omega)
      clear HG hB2 hM2 HB0
      go_wp2_with fail
      refine HC1.out.mono ?_
      rintro e w3 ⟨rfl, hB3⟩
      have HB3 : Hid (NewB w w3 pb (by8 x ++ sp ((r.map by8).take 0))) := by
        show NewB _ _ _ _
        simpa [sp] using hB3
      clear HC1 hB3 HB1 HW1 c0
      have HRL : Hid (r.length = n - 1) := by have := HN.out; rw [HL.out, List.length_cons] at this; show _ = _; omega
      go_upto_block 3 with fail
      go_cut [65] (fun s65 wd => Hid (NewB w wd pb (by8 x ++ sp (r.map by8))))
      case first =>
        go_wp2_with fail
        go_loopg [65] n (fun kx s65 wr => ∃ k : Nat, s65 = .int .i64 k ∧ k ≤ n - 1 ∧ n - 1 - k ≤ kx ∧ Hid (NewB w wr pb (by8 x ++ sp ((r.map by8).take k))))
        case atStart => exact ⟨0, rfl, Nat.zero_le _, by omega, HB3⟩
        case round =>
          obtain ⟨k, rfl, hk, hg, J⟩ := hrel
          clear HB3
          by_cases hlt : k < n - 1
          · obtain ⟨y, hy⟩ : ∃ y, r[k]? = some y := ⟨r[k]'(by rw [HRL.out]; exact hlt), List.getElem?_eq_getElem _⟩
            have hyl : l[k + 1]? = some y := by rw [HL.out]; exact hy
            have HWk : Hid (Below w.heap.size w wr) := by obtain ⟨v, -, h, -⟩ := J.out; exact h
            have hsz := HS.out y (List.mem_of_getElem? hyl)
            have hlen : Hid ((by8 x ++ sp ((r.map by8).take k)).length ≤ 200000) := by
              show _ ≤ _
              have h1 := sp_length ((r.map by8).take k) (fun z hz => by
                have := List.mem_of_mem_take hz
                rw [List.mem_map] at this
                obtain ⟨q, hq, rfl⟩ := this
                rw [by8_length]
                exact HS.out q (by rw [HL.out]; exact List.mem_cons_of_mem _ hq))
              rw [List.length_append, by8_length]
              have h2 : ((r.map by8).take k).length ≤ k := by rw [List.length_take]; omega
              have h3 : 101 * ((r.map by8).take k).length ≤ 101 * k := Nat.mul_le_mul_left _ h2
              omega
            have c0 := HC.out wr HWk.out (k + 1) y hyl
            have c1 : wr.cell? ⟨b, o + 1 + k, none⟩ = some (.string y) := by rw [show o + 1 + k = o + (k + 1) by omega]; exact c0
            have HC1 : Hid (Calls Tryd.prog 41 #[.pointer (some ⟨pb, 0, none⟩), .string ⟨#[32]⟩] wr fun e w' => e = .returned (.tuple #[.int .i64 1, .nilIface]) ∧ NewB w w' pb ((by8 x ++ sp ((r.map by8).take k)) ++ [32])) := writeString_new pb _ ⟨#[32]⟩ w wr J.out (by have := hlen.out; have e : (⟨#[32]⟩ : ByteArray).size = 1 := rfl; omega)
            have HE : Hid ((by8 x ++ sp ((r.map by8).take k)) ++ [32] ++ by8 y = by8 x ++ sp ((r.map by8).take (k + 1))) := by
              show _ = _
              rw [sp_take_succ (x := by8 y) (by rw [List.getElem?_map, hy]; rfl)]
              simp
            have HC2 : Hid (∀ W, NewB w W pb ((by8 x ++ sp ((r.map by8).take k)) ++ [32]) → Calls Tryd.prog 41 #[.pointer (some ⟨pb, 0, none⟩), .string y] W fun e w' => e = .returned (.tuple #[.int .i64 y.size, .nilIface]) ∧ NewB w w' pb (by8 x ++ sp ((r.map by8).take (k + 1)))) := fun W hW => by
              have := writeString_new pb _ y w W hW (by have := hlen.out; rw [List.length_append]; simp only [List.length_cons, List.length_nil]; omega)
              rwa [HE.out] at this
            clear hy hyl c0 hlen HE J
            go_wp2_with fail
            refine HC1.out.mono ?_
            rintro e w4 ⟨rfl, hB4⟩
            have HB4 : Hid (NewB w w4 pb ((by8 x ++ sp ((r.map by8).take k)) ++ [32])) := hB4
            clear hB4
            go_wp2_with fail
            refine (HC2.out _ HB4.out).mono ?_
            rintro e w5 ⟨rfl, hB5⟩
            have HB5 : Hid (NewB w w5 pb (by8 x ++ sp ((r.map by8).take (k + 1)))) := hB5
            clear hB5 HB4 HC1 HC2
            go_wp2_with fail
            go_roundg (n - 1 - (k + 1))
            case measure => omega
            case rel => exact ⟨k + 1, by simp, by omega, Nat.le_refl _, HB5⟩
          · have HF : Hid (NewB w wr pb (by8 x ++ sp (r.map by8))) := by
              have := J.out
              rwa [List.take_of_length_le (by rw [List.length_map, HRL.out]; omega)] at this
            go_wp2_with fail
            go_meet
            exact HF
      case rest =>
        clear HB3
        obtain ⟨v, hB, hbel, hfoot⟩ := hcut.out
        have hne : by8 x ++ sp (r.map by8) ≠ [] := by
          match r, HRL.out with
          | [], h => exact absurd h (by simp; omega)
          | y :: r', _ => intro h; have := congrArg List.length h; rw [List.length_append] at this; simp [sp] at this
        have HS2 : Hid (Calls Tryd.prog 28 #[.pointer (some ⟨pb, 0, none⟩)] wc fun e w' => e = .returned (.string ⟨(by8 x ++ sp (r.map by8)).toArray⟩) ∧ Kept (Foot pb v) wc w') := bstring_calls pb v _ wc hB hne (by
          have h1 := sp_length (r.map by8) (fun z hz => by
            rw [List.mem_map] at hz
            obtain ⟨q, hq, rfl⟩ := hz
            rw [by8_length]
            exact HS.out q (by rw [HL.out]; exact List.mem_cons_of_mem _ hq))
          rw [List.length_append, by8_length]
          rw [List.length_map, HRL.out] at h1
          omega)
        have HK : Hid (∀ w', Kept (Foot pb v) wc w' → Below w.heap.size w w') := fun w' hk => hbel.trans (hk.below hbel.size (fun k hk hf => by have := hfoot k hf; omega))
        clear hB hbel hfoot hne
        go_wp2_with fail
        refine HS2.out.mono ?_
        rintro e w6 ⟨rfl, hK⟩
        have HB6 : Hid (Below w.heap.size w w6) := HK.out _ hK
        clear hK HS2
        generalize hq : (by8 x ++ sp (r.map by8)).toArray = q
        have HQ : Hid ((by8 x ++ sp (r.map by8)).toArray = q) := hq
        clear hq
        go_wp2_with fail
        go_ret
        exact ⟨_, rfl, by rw [← HQ.out, HL.out]; rfl, HB6.out⟩

/-- A line: words with blanks between, a newline behind them. -/
def lineT (l : List (List UInt8)) : List UInt8 := jn l ++ [10]

set_option maxHeartbeats 2000000 in
set_option maxRecDepth 20000 in
theorem putLine_calls (l : List ByteArray) (ao : Option Addr) (n cap b : Nat) (v : Value) (bs : List UInt8) (w : World) (hr : Row w 1 ao n cap (strC l)) (hn : n = l.length) (h1 : 1 ≤ n) (hnn : n ≤ 1000) (hs : ∀ x ∈ l, x.size ≤ 100) (hB : Bld w b v bs) (hbs : bs.length ≤ 50000000) :
    Calls Tryd.prog 25 #[.pointer (some ⟨b, 0, none⟩), .slice ao n cap] w fun e w' => ∃ v', e = .returned (.tuple #[]) ∧ Bld w' b v' (bs ++ lineT (l.map by8)) ∧ Moved w b v w' v' := by
  have HJ : Hid (Calls Tryd.prog 42 #[.slice ao n cap, .string ⟨#[32]⟩] w fun e w' => ∃ t, e = .returned (.string t) ∧ by8 t = jn (l.map by8) ∧ Below w.heap.size w w') := join_calls l ao n cap w hr hn h1 hnn hs
  have HB : Hid (Bld w b v bs) := hB
  have HLN : Hid ((jn (l.map by8)).length ≤ 200000) := by
    show _ ≤ _
    match l, hn, hs with
    | [], _, _ => simp [jn]
    | x :: r, hn, hs =>
      have h2 := sp_length (r.map by8) (fun z hz => by
        rw [List.mem_map] at hz
        obtain ⟨q, hq, rfl⟩ := hz
        rw [by8_length]
        exact hs q (List.mem_cons_of_mem _ hq))
      have h3 := hs x List.mem_cons_self
      rw [List.map_cons]
      unfold jn
      rw [List.length_append, by8_length]
      rw [List.length_map] at h2
      rw [List.length_cons] at hn
      omega
  clear hr hn hs hB
  go_enter Tryd.func25, Tryd.ntmps25
  go_wp2_with fail
  refine HJ.out.mono ?_
  rintro e w1 ⟨t, rfl, ht, hb⟩
  have hts : t.size ≤ 200000 := by rw [← by8_length, ht]; exact HLN.out
  have H1 : Hid (Calls Tryd.prog 41 #[.pointer (some ⟨b, 0, none⟩), .string t] w1 fun e w' => ∃ v', e = .returned (.tuple #[.int .i64 t.size, .nilIface]) ∧ Bld w' b v' (bs ++ by8 t) ∧ Moved w1 b v w' v') := writeString_calls b v bs t w1 (HB.out.below hb) (by omega)
  have HT : Hid (by8 t = jn (l.map by8)) := ht
  have HM : Hid (Moved w b v w1 v) := Moved.of_below hb
  clear ht hb HJ
  go_wp2_with fail
  refine H1.out.mono ?_
  rintro e w2 ⟨v2, rfl, hB2, hM2⟩
  have H2 : Hid (Calls Tryd.prog 43 #[.pointer (some ⟨b, 0, none⟩), .int .u8 10] w2 fun e w' => ∃ v', e = .returned .nilIface ∧ Bld w' b v' (bs ++ by8 t ++ [10]) ∧ Moved w2 b v2 w' v') := writeByte_calls b v2 (bs ++ by8 t) 10 w2 hB2 (by rw [List.length_append, by8_length]; omega)
  have HM2 : Hid (Moved w b v w2 v2) := HM.out.trans hM2
  clear hB2 hM2 H1 HM
  go_wp2_with fail
  refine H2.out.mono ?_
  rintro e w3 ⟨v3, rfl, hB3, hM3⟩
  have HE : Hid (Bld w3 b v3 (bs ++ lineT (l.map by8)) ∧ Moved w b v w3 v3) := ⟨by unfold lineT; rw [← HT.out, ← List.append_assoc]; exact hB3, HM2.out.trans hM3⟩
  clear hB3 hM3 H2
  go_wp2_with fail
  go_end0
  exact ⟨v3, rfl, HE.out⟩

end Go.Proofs.YtdgadamkiililaaDoor
