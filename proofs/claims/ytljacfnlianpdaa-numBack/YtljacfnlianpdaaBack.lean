/-
  Proved: whatever is handed in, the Go function NumBack returns true and leaves it as it was. No condition.
-/
import Derived.Test.YtljacfnlianpdaaBackA
import Derived.ProofKit
import Derived.OpenShut
import Derived.ShutString
import Derived.ChangeOld
import Derived.Deep.RegionHeld
import Derived.Deep.DeepCutAuto
namespace Go.Proofs.Ytljacfnlianpdaa.Back
open Go.ChangeShapes Go.WideShapes Go.ChangeAt Go.RowKit
open Go.ChangeMaps (open_string shut_string)

theorem own : ownKnob Try.prog.godebug = none := by kernel_rfl
theorem laidOut : laidOutB Try.prog = true := by kernel_rfl

theorem str_app (a b : List Int) : strOfNums a ++ strOfNums b = strOfNums (a ++ b) := by
  unfold strOfNums
  rw [List.map_append, ByteArray.mk_append_mk]

theorem str_add (a b : List Int) (h : a.length + b.length ≤ 9223372036854775807) (w : World) : (Op.stringOp .add (strOfNums a) (strOfNums b)).run Try.prog w = .ok (.string (strOfNums (a ++ b))) w := by
  rw [run_string_add_sum w _ _ (by rw [strOfNums_size, strOfNums_size]; exact h), str_app]

theorem four_byte {u : Int} (u0 : 0 ≤ u) (u1 : u ≤ 4294967295) : ∀ x ∈ [u / 16777216, u / 65536 % 256, u / 256 % 256, u % 256], 0 ≤ x ∧ x ≤ 255 := by
  intro x hx
  simp only [List.mem_cons, List.not_mem_nil, or_false] at hx
  omega

theorem wrap_part (a b : Nat) (h : b ≤ 1000) : IntKind.i64.wrap ((a : Int) + (b : Int) - (a : Int)) = (b : Int) := by
  rw [IntKind.wrap_i64]; omega

set_option maxRecDepth 100000 in
set_option maxHeartbeats 2000000 in
theorem walk (a0 : Option Addr) (l0 c0 : Nat) (z0 : List Int) (a1 : Option Addr) (l1 c1 : Nat) (z1 : List Int) (n : Int) (s : ByteArray) (u : Int) (w : World)
    (h0 : Seg w a0 l0 c0 z0) (h1 : Seg w a1 l1 c1 z1) (n0 : -9223372036854775808 ≤ n) (n1 : n ≤ 9223372036854775807) (hs : s.size ≤ 9223372036854775807) (u0 : 0 ≤ u) (u1 : u ≤ 4294967295) :
    Calls Try.prog 3 #[.slice a0 l0 c0, .slice a1 l1 c1, .int .i64 n, .string s, .int .u32 u] w fun e w' => e = .returned (.bool true) ∧ Below w.heap.size w w' := by
  have H0 : Hid (Seg w a0 l0 c0 z0) := h0
  have H1 : Hid (Seg w a1 l1 c1 z1) := h1
  clear h0 h1
  go_enter Try.func3, Try.ntmps3
  go_wp2_with fail
  refine (begun_calls _).mono ?_
  rintro e w1 ⟨rfl, hb1⟩
  go_wp2_with fail
  refine (short_calls a0 l0 c0 z0 20 _ (H0.out.below hb1) (by decide)).mono ?_
  rintro e w2 ⟨la, hla, rfl, hsa, rfl⟩
  go_wp2_with fail
  refine (short_calls a1 l1 c1 z1 20 _ (H1.out.below hb1) (by decide)).mono ?_
  rintro e w1 ⟨lr, hlr, rfl, hsr, rfl⟩
  go_wp2_with fail
  refine (cut_calls s _ hs).mono ?_
  rintro e w2 ⟨t, ht, rfl, rfl⟩
  generalize z0.take 20 = za at *
  generalize z1.take 20 = zr at *
  have HA : Hid (Seg w2 a0 la c0 za) := hsa
  have HR : Hid (Seg w2 a1 lr c1 zr) := hsr
  clear H0 H1 hsa hsr
  go_wp2_with (at_builtin; go_must (refine append_seg rfl _ _ rfl w2.heap.size _ 0 [] rfl (World.ownsRow_nil _ _ _ _) a0 la c0 za rfl HA.out (by omega) (Nat.le_refl _) ?_); intro v3 w3 hown3 hgrow3; obtain ⟨ao3, cap3, rfl, hs3⟩ := Seg.owned (bs := za) hown3 HA.out.byte)
  have hb3 : Below w2.heap.size w2 w3 := (Below.refl _ _).grown hgrow3 (Nat.le_refl _) (fun k hk => by cases hk)
  clear hgrow3 hown3
  rw [Nat.zero_add] at hs3
  refine (put_seg ao3 la cap3 za n _ hs3 (by omega) n0 n1).mono ?_
  rintro e w4 ⟨ao4, cap4, rfl, hs4, hb4⟩
  have hB4 : Below w.heap.size w w4 := below_step (below_step hb1 hb3) hb4
  have HA4 : Hid (Seg w4 a0 la c0 za) := (HA.out.below hb3).below hb4
  have HR4 : Hid (Seg w4 a1 lr c1 zr) := (HR.out.below hb3).below hb4
  have H4 : Hid (Seg w4 ao4 (la + (Num.put n).length) cap4 (za ++ Num.put n)) := hs4
  clear HA HR hs3 hs4 hb1 hb3 hb4
  have hp := Num.put_ten n0 n1
  have hza : za.length ≤ 20 := by have := HA4.out.size; omega
  go_upto_region 6 with fail
  go_cut [42] from 34 to 41 (fun x wc => x = .bool false ∧ Below w4.heap.size w4 wc)
  case first =>
    have cb := conv_seg (w := w4.drew) (H4.out.below (Below.refl _ _).drew)
    have ca := conv_seg (w := w4.drew) (HA4.out.below (Below.refl _ _).drew)
    have hadd := str_add za (Num.put n) (by omega)
    go_region_held (fun w' => (convert 22 9 (.slice ao4 (la + (Num.put n).length) cap4)).run Try.prog w' = .ok (.string (strOfNums (za ++ Num.put n))) w' ∧ (convert 22 9 (.slice a0 la c0)).run Try.prog w' = .ok (.string (strOfNums za)) w')
      (exact ⟨by assumption, by assumption⟩)
      (first
      | (go_at_call 13; refine (refPut_calls _ _ n0 n1).mono ?_; rintro e w5 ⟨v5, rfl, hown5, hb5⟩; obtain ⟨ao5, cap5, rfl, hs5⟩ := Seg.owned (bs := Num.put n) hown5 (Num.put_byte n); have cb5 := conv_seg (w := w5) (((H4.out.below (Below.refl _ _).drew)).below hb5); have ca5 := conv_seg (w := w5) ((HA4.out.below (Below.refl _ _).drew).below hb5); have cp5 := conv_seg hs5))
    all_goals (go_wp2_with fail; go_meet; exact ⟨rfl, (Below.refl _ _).drew.trans (by assumption)⟩)
  case rest =>
    obtain ⟨rfl, hbc⟩ := hcut
    have hB5 := below_step hB4 hbc
    have HA5 : Hid (Seg wc a0 la c0 za) := HA4.out.below hbc
    have HR5 : Hid (Seg wc a1 lr c1 zr) := HR4.out.below hbc
    have H5 : Hid (Seg wc ao4 (la + (Num.put n).length) cap4 (za ++ Num.put n)) := H4.out.below hbc
    obtain ⟨b4, off4, rfl, _, _⟩ := H5.out.at (by omega)
    have hla' : za.length = la := HA4.out.size
    have hc4 : la + (Num.put n).length ≤ cap4 := H5.out.le
    have hm4 : cap4 ≤ 9223372036854775807 := H5.out.max
    have HP5 : Hid (Seg wc (some ⟨b4, off4 + la, none⟩) (Num.put n).length (cap4 - la) (Num.put n)) := by
      have := seg_behind H5.out (by omega)
      rw [hla', Nat.add_sub_cancel_left] at this
      exact this
    clear HA4 HR4 H4 hbc hB4 hza hla'
    generalize hL : (Num.put n).length = L at *
    have HL : Hid ((Num.put n).length = L) := hL
    clear hL
    go_wp2_with (first
      | (at_builtin; refine append_seg rfl _ (.tmp 47) rfl wc.heap.size _ 0 [] rfl (World.ownsRow_nil _ _ _ _) _ _ _ (Num.put n) rfl HP5.out (by omega) (Nat.le_refl _) ?_; intro v6 w6 hown6 hgrow6)
      | (at_builtin; go_must (refine append_seg rfl (.tmp 48) (.tmp 49) rfl wc.heap.size v6 _ (Num.put n) rfl hown6 a1 lr c1 zr rfl (HR5.out.below (grown_below hgrow6)) (by omega) hgrow6.size ?_); intro v7 w7 hown7 hgrow7))
    have hb6 := grown_below hgrow6
    have hb7 : Below wc.heap.size wc w7 := hb6.grown hgrow7 hgrow6.size (fun k hk => (hown6.lt k hk).1)
    obtain ⟨ao7, cap7, hv7, hs7⟩ := Seg.owned (bs := Num.put n ++ zr) hown7 (fun y hy => (List.mem_append.1 hy).elim (Num.put_byte n y) (HR5.out.byte y))
    subst hv7
    have HG7 : Hid (Num.get (Num.put n ++ zr) = (n, ((L : Nat) : Int), 0)) := by
      show _ = _
      rw [Num.get_put n0 n1, HL.out]
    have HA7 : Hid (Seg w7 a0 la c0 za) := HA5.out.below hb7
    have HR7 : Hid (Seg w7 a1 lr c1 zr) := HR5.out.below hb7
    have H7 : Hid (Seg w7 (some ⟨b4, off4, none⟩) (la + L) cap4 (za ++ Num.put n)) := H5.out.below hb7
    have hB7 := below_step hB5 hb7
    clear hown6 hown7 hgrow6 hgrow7 hb6 hb7 HA5 HR5 H5 HP5 hB5
    refine (get_calls _ _ _ _ _ hs7).mono ?_
    rintro e w8 ⟨rfl, rfl⟩
    rw [HG7.out]
    unfold ans3
    clear HG7 hs7
    have hza : za.length = la := HA7.out.size
    go_wp2_with (at_builtin; go_must (refine append_seg rfl _ (.tmp 55) rfl w8.heap.size _ 0 [] rfl (World.ownsRow_nil _ _ _ _) a0 la c0 za rfl HA7.out (by omega) (Nat.le_refl _) ?_); intro v9 w9 hown9 hgrow9; obtain ⟨ao9, cap9, rfl, hs9⟩ := Seg.owned (bs := za) hown9 HA7.out.byte)
    have hb9 := grown_below hgrow9
    rw [Nat.zero_add] at hs9
    have hpt := Num.put_ten (n := (t.size : Int)) (by omega) (by omega)
    obtain ⟨N, HN, hN1, hN2⟩ : ∃ N, Hid ((Num.put t.size).length + t.size = N) ∧ N ≤ 110 ∧ 1 ≤ N := ⟨_, rfl, by omega, by omega⟩
    refine (putText_part ao9 la cap9 za t _ hs9 (by omega) N HN.out).mono ?_
    rintro e w10 ⟨ao10, cap10, rfl, hs10, hb10⟩
    have hc10 : la + N ≤ cap10 := hs10.le
    have hm10 : cap10 ≤ 9223372036854775807 := hs10.max
    have HA10 : Hid (Seg w10 a0 la c0 za) := (HA7.out.below hb9).below hb10
    have HR10 : Hid (Seg w10 a1 lr c1 zr) := (HR7.out.below hb9).below hb10
    have hB10 := below_step (below_step hB7 hb9) hb10
    obtain ⟨b10, off10, rfl, _, _⟩ := hs10.at (by omega)
    have H10 : Hid (Seg w10 (some ⟨b10, off10, none⟩) (la + N) cap10 (za ++ (Num.put t.size ++ ofStr t))) := hs10
    have HP10 : Hid (Seg w10 (some ⟨b10, off10 + la, none⟩) N (cap10 - la) (Num.put t.size ++ ofStr t)) := by
      have := seg_behind H10.out (by omega)
      rw [hza, Nat.add_sub_cancel_left] at this
      exact this
    clear hs10 hs9 hown9 hgrow9 hb9 hb10 HA7 HR7 hB7 hza hpt
    go_wp2_with (first
      | (at_builtin; refine append_seg rfl _ (.tmp 63) rfl w10.heap.size _ 0 [] rfl (World.ownsRow_nil _ _ _ _) _ _ _ (Num.put t.size ++ ofStr t) rfl HP10.out (by omega) (Nat.le_refl _) ?_; intro v11 w11 hown11 hgrow11)
      | (at_builtin; go_must (refine append_seg rfl (.tmp 64) (.tmp 65) rfl w10.heap.size v11 _ (Num.put t.size ++ ofStr t) rfl hown11 a1 lr c1 zr rfl (HR10.out.below (grown_below hgrow11)) (by omega) hgrow11.size ?_); intro v12 w12 hown12 hgrow12))
    have hb11 := grown_below hgrow11
    have hb12 : Below w10.heap.size w10 w12 := hb11.grown hgrow12 hgrow11.size (fun k hk => (hown11.lt k hk).1)
    obtain ⟨ao12, cap12, hv12, hs12⟩ := Seg.owned (bs := Num.put t.size ++ ofStr t ++ zr) hown12 (fun y hy => (List.mem_append.1 hy).elim (HP10.out.byte y) (HR10.out.byte y))
    subst hv12
    have HG12 : Hid (Num.getText (Num.put t.size ++ ofStr t ++ zr) = (ofStr t, ((N : Nat) : Int), 0)) := by
      show _ = _
      rw [getText_put t ht, HN.out]
    have HA12 : Hid (Seg w12 a0 la c0 za) := HA10.out.below hb12
    have H12 : Hid (Seg w12 (some ⟨b10, off10, none⟩) (la + N) cap10 (za ++ (Num.put t.size ++ ofStr t))) := H10.out.below hb12
    have hB12 := below_step hB10 hb12
    clear hown11 hown12 hgrow11 hgrow12 hb11 hb12 HA10 HR10 H10 HP10 hB10 H7
    refine (getText_calls _ _ _ _ _ hs12).mono ?_
    rintro e w13 ⟨rfl, rfl⟩
    rw [HG12.out]
    unfold ansText
    rw [ofStr_back]
    clear HG12 hs12
    have hcf : (convert 22 9 (.slice (some ⟨w13.heap.size, 0, none⟩) 4 4)).run Try.prog (w13.alloc (.cells #[.int .u8 (u / 16777216), .int .u8 (u / 65536 % 256), .int .u8 (u / 256 % 256), .int .u8 (u % 256)] 5))
        = .ok (.string (strOfNums [u / 16777216, u / 65536 % 256, u / 256 % 256, u % 256])) (w13.alloc (.cells #[.int .u8 (u / 16777216), .int .u8 (u / 65536 % 256), .int .u8 (u / 256 % 256), .int .u8 (u % 256)] 5)) :=
      conv_seg (seg_lit w13 [u / 16777216, u / 65536 % 256, u / 256 % 256, u % 256] (four_byte u0 u1) (show 4 ≤ maxLen by decide))
    have hbf : Below w13.heap.size w13 (w13.alloc (.cells #[.int .u8 (u / 16777216), .int .u8 (u / 65536 % 256), .int .u8 (u / 256 % 256), .int .u8 (u % 256)] 5)) := (Below.refl _ _).alloc (Nat.le_refl _) _
    obtain ⟨SF, HSF⟩ : ∃ SF, Hid (strOfNums [u / 16777216, u / 65536 % 256, u / 256 % 256, u % 256] = SF) := ⟨_, rfl⟩
    rw [HSF.out] at hcf
    go_upto_region 11 with fail
    go_cut [20] (fun x wd => x = .string SF ∧ Below w13.heap.size w13 wd)
    case first =>
      go_wp2
      go_meet
      exact ⟨rfl, hbf⟩
    case rest =>
      clear hcf hbf
      obtain ⟨rfl, hbd⟩ := hcut
      have hB13 := below_step hB12 hbd
      have HA13 : Hid (Seg wc a0 la c0 za) := HA12.out.below hbd
      have H13 : Hid (Seg wc (some ⟨b10, off10, none⟩) (la + N) cap10 (za ++ (Num.put t.size ++ ofStr t))) := H12.out.below hbd
      have hza : za.length = la := HA13.out.size
      have hpl : (Num.put t.size ++ ofStr t).length = N := by rw [List.length_append, ofStr_length]; exact HN.out
      have hadd := str_add za (Num.put t.size ++ ofStr t) (by omega)
      obtain ⟨SA, HSA⟩ : ∃ S, Hid (strOfNums za = S) := ⟨_, rfl⟩
      obtain ⟨SP, HSP⟩ : ∃ S, Hid (strOfNums (Num.put t.size ++ ofStr t) = S) := ⟨_, rfl⟩
      obtain ⟨SC, HSC⟩ : ∃ S, Hid (strOfNums (za ++ (Num.put t.size ++ ofStr t)) = S) := ⟨_, rfl⟩
      rw [HSA.out, HSP.out, HSC.out] at hadd
      have cc := conv_seg (w := wc.drew) (H13.out.below (Below.refl _ _).drew)
      have ca := conv_seg (w := wc.drew) (HA13.out.below (Below.refl _ _).drew)
      rw [HSC.out] at cc
      rw [HSA.out] at ca
      clear hza hpl
      have k1 := wrap_part la L (by omega)
      have k2 := wrap_part la N (by omega)
      have hB13' : Hid (Below w.heap.size w wc) := hB13
      clear hB12 hB13 HA12 H12 hbd
      go_upto_region 12 with fail
      go_region_held (fun w' => (convert 22 9 (.slice (some ⟨b10, off10, none⟩) (la + N) cap10)).run Try.prog w' = .ok (.string SC) w' ∧ (convert 22 9 (.slice a0 la c0)).run Try.prog w' = .ok (.string SA) w')
        (exact ⟨by assumption, by assumption⟩)
        (first
        | (go_at_call 17; refine (rputText_calls t _ (by omega)).mono ?_; rintro e w14 ⟨v14, rfl, hown14, hb14⟩; obtain ⟨ao14, cap14, rfl, hs14⟩ := Seg.owned (bs := Num.put t.size ++ ofStr t) hown14 (fun y hy => (List.mem_append.1 hy).elim (Num.put_byte _ y) (ofStr_byte t y)); have HC14 : Hid (Seg w14 (some ⟨b10, off10, none⟩) (la + N) cap10 (za ++ (Num.put t.size ++ ofStr t))) := (H13.out.below (Below.refl _ _).drew).below hb14; have HA14 : Hid (Seg w14 a0 la c0 za) := (HA13.out.below (Below.refl _ _).drew).below hb14; have cc14 := conv_seg HC14.out; have ca14 := conv_seg HA14.out; have cp14 := conv_seg hs14; rw [HSC.out] at cc14; rw [HSA.out] at ca14; rw [HSP.out] at cp14)
        | (go_at_call 18; refine (four_calls u _ u0 u1).mono ?_; rintro e w15 ⟨v15, rfl, hown15, hb15⟩; obtain ⟨ao15, cap15, rfl, hs15⟩ := Seg.owned (bs := [u / 16777216, u / 65536 % 256, u / 256 % 256, u % 256]) hown15 (four_byte u0 u1); have cf15 := conv_seg hs15; rw [HSF.out] at cf15; have cc15 := conv_seg (HC14.out.below hb15); have ca15 := conv_seg (HA14.out.below hb15); rw [HSC.out] at cc15; rw [HSA.out] at ca15))
      all_goals
        go_wp2
        go_ret
        exact ⟨rfl, below_step (below_step (below_step hB13'.out (Below.refl _ _).drew) hb14) hb15⟩

set_option maxRecDepth 100000 in
theorem lifted (os : Os) (started : os.Started) (H : Type) (enc : TypeId × Value → H) :
    ReturnsInHanded {} Try.checked os 3 .any (Rows.numBackSpec.pre6 enc Try.prog Try.f3 Rows.numBackRow.domain false) (Rows.numBackSpec.post enc Try.prog Try.f3 false true false false) := by
  refine returnsInHanded_of_change (C := Try.checked) own started (by kernel_rfl) Try.func3
    (ChangeSpec.witness6 (enc := enc) (C := Try.checked) false ⟨#[], #[.slice none 0 0, .slice none 0 0, .int .i64 0, .string ByteArray.empty, .int .u32 0], []⟩ 8 (by kernel_rfl) (by kernel_rfl) (by kernel_rfl) (by kernel_rfl)) ?_
  intro W base args ds gs before hval0 hW hcnd _
  have hval : ∀ (j : Nat) t v, Try.f3.params[j]? = some t → args[j]? = some v → Value.okWide Try.prog W .any base t v := hval0
  have hW' := hW
  obtain ⟨p, q, hA0, hV, rfl, hfz, hnd⟩ := hW
  have hA : DataW.TrodAll enc Try.prog W 0 (fun _ => true) true Try.f3.params.toList args.toList ds p := hA0
  rw [Try.params3] at hA hval
  obtain ⟨v0, vs0, d0, ds0, p0, q0, hargs, rfl, rfl, h0, r0⟩ := trodAll_cons hA
  obtain ⟨v1, vs1, d1, ds1, p1, q1, rfl, rfl, rfl, h1, r1⟩ := trodAll_cons r0
  obtain ⟨v2, vs2, d2, ds2, p2, q2, rfl, rfl, rfl, h2, r2⟩ := trodAll_cons r1
  obtain ⟨v3, vs3, d3, ds3, p3, q3, rfl, rfl, rfl, h3, r3⟩ := trodAll_cons r2
  obtain ⟨v4, vs4, d4, ds4, p4, q4, rfl, rfl, rfl, h4, r4⟩ := trodAll_cons r3
  obtain ⟨rfl, rfl, rfl⟩ := trodAll_nil r4
  obtain rfl : args = #[v0, v1, v2, v3, v4] := by cases args; simp_all
  obtain ⟨rfl, rfl⟩ := trodVars_none hV
  obtain ⟨a0, len0, cap0, rfl⟩ := okWide_slice Try.underlying22 (hval 0 22 v0 rfl rfl)
  have k0 := h0
  have lt0 : ∀ x ∈ p0, x.block < W.heap.size := by obtain ⟨m, hm⟩ := k0; exact DataW.trod_lt m _ _ _ hm
  obtain ⟨z0, w0⟩ : ∃ zs, IsRow .u8 W a0 len0 cap0 zs := by
    obtain ⟨fuel, hf⟩ := h0
    rcases open_ints Try.underlying22 Try.underlying5 (by kernel_rfl) hf with ⟨hcs, _⟩ | ⟨x, l, c, zs, hcs, _, hl, hm, hz, _, hcell, hwz⟩
    · simp [Value.cells] at hcs
      obtain ⟨rfl, rfl, rfl⟩ := hcs
      exact ⟨[], .inl ⟨rfl, rfl, rfl, rfl⟩⟩
    · simp [Value.cells] at hcs
      obtain ⟨rfl, rfl, rfl⟩ := hcs
      exact ⟨zs, .inr ⟨_, rfl, hl, hm, by simpa using hz, hcell, hwz⟩⟩
  obtain ⟨a1, len1, cap1, rfl⟩ := okWide_slice Try.underlying22 (hval 1 22 v1 rfl rfl)
  have k1 := h1
  have lt1 : ∀ x ∈ p1, x.block < W.heap.size := by obtain ⟨m, hm⟩ := k1; exact DataW.trod_lt m _ _ _ hm
  obtain ⟨z1, w1⟩ : ∃ zs, IsRow .u8 W a1 len1 cap1 zs := by
    obtain ⟨fuel, hf⟩ := h1
    rcases open_ints Try.underlying22 Try.underlying5 (by kernel_rfl) hf with ⟨hcs, _⟩ | ⟨x, l, c, zs, hcs, _, hl, hm, hz, _, hcell, hwz⟩
    · simp [Value.cells] at hcs
      obtain ⟨rfl, rfl, rfl⟩ := hcs
      exact ⟨[], .inl ⟨rfl, rfl, rfl, rfl⟩⟩
    · simp [Value.cells] at hcs
      obtain ⟨rfl, rfl, rfl⟩ := hcs
      exact ⟨zs, .inr ⟨_, rfl, hl, hm, by simpa using hz, hcell, hwz⟩⟩
  obtain ⟨a2, rfl, rfl, rfl, w2⟩ := open_int Try.underlying2 (hval 2 2 v2 rfl rfl) h2
  obtain ⟨a3, rfl, rfl, rfl, w3⟩ := open_string Try.underlying9 (hval 3 9 v3 rfl rfl) h3
  obtain ⟨a4, rfl, rfl, rfl, w4⟩ := open_int Try.underlying23 (hval 4 23 v4 rfl rfl) h4
  clear hA0 hval0
  have d2 := bounds_i64 w2
  have d4 := bounds_u32 w4
  unfold maxLen at w3
  refine (walk a0 len0 cap0 _ a1 len1 cap1 _ a2 a3 a4 W w0.seg w1.seg d2.1 d2.2 w3 d4.1 d4.2).mono fun e W' ⟨he, bel⟩ => ?_
  subst he
  exact ⟨_, rfl, _, _, _, [], _, [], hW', trodAll_mk1 (shut_bool Try.underlying4 _), (trodAll_cons_mk (Below.trod laidOut (by kernel_rfl) (of_decide_eq_true (by kernel_rfl)) k0 bel lt0) (trodAll_cons_mk (Below.trod laidOut (by kernel_rfl) (of_decide_eq_true (by kernel_rfl)) k1 bel lt1) (trodAll_cons_mk (shut_int Try.underlying2 w2) (trodAll_cons_mk (shut_string Try.underlying9 w3) (trodAll_cons_mk (shut_int Try.underlying23 w4) trodAll_mk0))))), rfl, bel.frame _, fun h => by cases h⟩

theorem over : Rows.numBackRow.holds Try.pinned (OpenSpec.ofChange Rows.numBackSpec) :=
  OpenClaim.holds_of_wide 3 Try.f3 rfl rfl rfl rfl rfl rfl rfl ⟨rfl, rfl, rfl, rfl, rfl⟩ rfl rfl rfl rfl rfl (by kernel_rfl) Try.func3 (by kernel_rfl)
    (of_decide_eq_true (by kernel_rfl)) (by unfold Func.isWrapper; first | (rw [if_pos (by decide +kernel)]; kernel_rfl) | (rw [if_neg (by decide +kernel)]; exact ⟨rfl, rfl⟩))
    (fun os started H enc _ => lifted os started H enc)

end Go.Proofs.Ytljacfnlianpdaa.Back
namespace Go.Proofs.Ytljacfnlianpdaa
theorem numBack_holds : Rows.NumBackSaid := Back.over
#print axioms numBack_holds
end Go.Proofs.Ytljacfnlianpdaa
