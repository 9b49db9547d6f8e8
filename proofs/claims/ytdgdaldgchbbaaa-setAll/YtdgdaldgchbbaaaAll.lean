/-
  SetAll: whatever the input, the call returns true and leaves all that was there as it was. No condition.
-/
import Derived.Test.YtdgdaldgchbbaaaHas
import Derived.Deep.RegionHeld
import Derived.Deep.CutBlock
import Derived.ProofKit
import Derived.OpenShut
import Derived.ShutString
import Derived.ChangeOld
namespace Go.Proofs.Ytdgdaldgchbbaaa.All
open Go.ChangeShapes Go.WideShapes Go.ChangeAt Go.RowKit Go.Shelf Go.Sort
open Go.ChangeMaps (open_string shut_string)

theorem own : ownKnob Try.prog.godebug = none := by kernel_rfl
theorem laidOut : laidOutB Try.prog = true := by kernel_rfl

set_option maxHeartbeats 40000000 in
set_option maxRecDepth 100000 in
theorem walk (a0 : Option Addr) (len0 cap0 : Nat) (V0 V1 : Nat → Int) (down : Bool) (ask : Int) (w : World) (r0 : IsPairs w a0 len0 cap0 V0 V1) :
    Calls Try.prog 3 #[.slice a0 len0 cap0, .bool down, .int .i64 ask] w fun e w' => e = .returned (.bool true) ∧ Below w.heap.size w w' := by
  have HR : Hid (IsPairs w a0 len0 cap0 V0 V1) := r0
  have hl0 : len0 ≤ cap0 := r0.bounds.1
  have hm0 : cap0 ≤ 9223372036854775807 := r0.bounds.2
  clear r0
  have H1 := begun_spec w
  go_enter Try.func3, Try.ntmps3
  go_wp2_with fail
  refine H1.mono ?_
  rintro e w1 ⟨rfl, B1⟩
  have K1 : Hid (Below w.heap.size w w1) := B1
  clear H1 B1
  go_upto_if 25 with fail
  go_cut [8] (fun x wc => ∃ G : Nat, x = .func (.func G) #[] #[] ∧ Hid (CmpFn (Value.int .i64) G (ordI down)) ∧ wc = w1)
  case first =>
    cases down with
    | true => go_wp2_with fail; go_meet; exact ⟨10, rfl, cmp10, rfl⟩
    | false => go_wp2_with fail; go_meet; exact ⟨9, rfl, cmp9, rfl⟩
  case rest =>
    obtain ⟨G, rfl, HG, rfl⟩ := hcut
    have H2 := new_spec G wc
    unfold fnv at H2
    go_wp2_with fail
    refine H2.mono ?_
    rintro e w2 ⟨rfl, rfl⟩
    have M0 : Hid (Mine w.heap.size w (wc.alloc (.cells #[.func (.func G) #[] #[], .slice none 0 0] 59)) wc.heap.size G (.slice none 0 0) []) := Mine.make w wc G K1.out
    clear H2
    go_upto_block 0 with fail
    generalize wc.alloc (.cells #[.func (.func G) #[] #[], .slice none 0 0] 59) = w2 at M0 ⊢
    generalize wc.heap.size = p at M0 ⊢
    go_cut [10] (fun s10 wd => ∃ (ml : Nat × Option Addr × Nat), s10 = .slice ml.2.1 ml.1 ml.2.2 ∧
      Hid (∃ v xs, Mine w.heap.size w wd p G v xs ∧ Free wd ml.2.1 ml.1 ml.2.2 xs (Foot p v) ∧ Sorted (ordI down) xs ∧ xs.length ≤ 120))
    case first =>
      go_wp2_with fail
      go_loopg [10, 11] 61 (fun kx s10 s11 wr => ∃ (I : Nat) (ml : Nat × Option Addr × Nat), s10 = .slice ml.2.1 ml.1 ml.2.2 ∧ s11 = .int .i64 I ∧ I ≤ len0 ∧ I ≤ 60 ∧ 60 - I < kx ∧
        Hid (∃ v xs, Mine w.heap.size w wr p G v xs ∧ Free wr ml.2.1 ml.1 ml.2.2 xs (Foot p v) ∧ Sorted (ordI down) xs ∧ xs.length ≤ 2 * I))
      case atStart => exact ⟨0, (0, none, 0), rfl, rfl, Nat.zero_le _, Nat.zero_le _, by omega, (⟨_, _, M0.out, Free.nil _ _, List.Pairwise.nil, by simp⟩ : ∃ v xs, Mine w.heap.size w _ p G v xs ∧ Free _ none 0 0 xs (Foot p v) ∧ Sorted (ordI down) xs ∧ xs.length ≤ 2 * 0)⟩
      case round =>
        clear M0
        obtain ⟨I, ⟨nl, al, cl⟩, rfl, rfl, hI, hI3, hg, J⟩ := hrel
        by_cases hlt : I < len0
        · by_cases hlt3 : I < 60
          · obtain ⟨v, xs, M, FL, HS, hxl⟩ := J.out
            obtain ⟨b, off, rfl, hb, c0, c1⟩ := (HR.out.below M.below).at hlt
            have HM : Hid (Mine w.heap.size w wr p G v xs ∧ Free wr al nl cl xs (Foot p v) ∧ Sorted (ordI down) xs) := ⟨M, FL, HS⟩
            rw [← Nat.add_assoc] at c1
            clear J M FL HS
            generalize V0 I = K at c0
            generalize V1 I = N at c1
            have B4 : Hid (Box (wr.alloc (.cells #[.int .i64 K, .int .i64 N] 29)) wr.heap.size K N (Foot p v)) := Box.make wr K N HM.out.1.lt
            have M4 : Hid (Mine w.heap.size w (wr.alloc (.cells #[.int .i64 K, .int .i64 N] 29)) p G v xs ∧ Free (wr.alloc (.cells #[.int .i64 K, .int .i64 N] 29)) al nl cl xs (Foot p v) ∧ Sorted (ordI down) xs) := ⟨HM.out.1.step (below_alloc _ _), HM.out.2.1.step (below_alloc _ _), HM.out.2.2⟩
            have hnl : nl ≤ 120 := by have := HM.out.2.1.seg.size; omega
            have PL := place_spec down M4.out.2.1.seg (by omega) N
            go_upto_region 13 with fail
            clear c0 c1 HM
            generalize wr.alloc (.cells #[.int .i64 K, .int .i64 N] 29) = w4 at B4 M4 PL ⊢
            generalize wr.heap.size = box at B4 ⊢
            have cb0 := B4.out.c0
            have cb1 := B4.out.c1
            have hpl : pos (ordI down) N xs ≤ nl := by have := pos_le (ordI down) N xs; have := M4.out.2.1.seg.size; omega
            generalize hpp : pos (ordI down) N xs = pp at PL hpl
            have HPP : Hid (pos (ordI down) N xs = pp) := hpp
            clear hpp
            generalize hqq : isIn (ordI down) N xs = qq at PL
            have HQQ : Hid (isIn (ordI down) N xs = qq) := hqq
            clear hqq
            go_upto_block 2 with (go_at_call 12; refine PL.mono ?_; rintro e w5 ⟨q, rfl, rfl⟩)
            have M5 : Hid (Mine w.heap.size w (w4.drewN q) p G v xs ∧ Free (w4.drewN q) al nl cl xs (Foot p v) ∧ Sorted (ordI down) xs ∧ Box (w4.drewN q) box K N (Foot p v)) := ⟨M4.out.1.step (below_drewN (Below.refl _ _) _), M4.out.2.1.step (below_drewN (Below.refl _ _) _), M4.out.2.2, B4.out.step (below_drewN (Below.refl _ _) _)⟩
            clear PL M4 B4 cb0 cb1
            generalize w4.drewN q = w5 at M5 ⊢
            have cb0 := M5.out.2.2.2.c0
            have cb1 := M5.out.2.2.2.c1
            go_cut [10, 15] from 28 to 156 (fun s10 _ wd => ∃ (ml : Nat × Option Addr × Nat), s10 = .slice ml.2.1 ml.1 ml.2.2 ∧
              Hid (∃ v' ys, Mine w.heap.size w wd p G v' ys ∧ Free wd ml.2.1 ml.1 ml.2.2 ys (Foot p v') ∧ Sorted (ordI down) ys ∧ Box wd box K N (Foot p v') ∧ ys.length ≤ xs.length + 2))
            case first =>
              by_cases hK0 : K = 0
              · have AD := add_spec HG.out M5.out.1.set M5.out.2.2.1 (by omega) N
                rw [HQQ.out] at AD
                have hbq : ((!qq) == qq) = false := by cases qq <;> rfl
                go_wp2_with fail
                refine AD.mono ?_
                rintro e w6 ⟨v6, rfl, S6, W6⟩
                have M6 : Hid (Mine w.heap.size w w6 p G v6 (ins (ordI down) N xs) ∧ Free w6 al nl cl xs (Foot p v6) ∧ Box w6 box K N (Foot p v6)) := ⟨M5.out.1.wrote S6 W6, M5.out.2.1.one W6, M5.out.2.2.2.one W6⟩
                clear AD S6 W6
                have cb6 := M6.out.2.2.c1
                have IN := in_free down M6.out.2.1 M6.out.1.lt (by omega) N rfl
                go_wp2_with fail
                refine IN.mono ?_
                rintro e w7 ⟨a7, n7, c7, rfl, X7⟩
                go_wp2_with fail
                go_meet
                exact ⟨(n7, a7, c7), rfl, v6, _, M6.out.1.step X7.out.2, X7.out.1, ins_sorted (ordI_ord down) M5.out.2.2.1, M6.out.2.2.step X7.out.2, by have := (ins_length_le (cf := ordI down) (x := N) (xs := xs)).1; omega⟩
              · by_cases hK1 : K = 1
                · have DL := del_spec HG.out M5.out.1.set M5.out.2.2.1 (by omega) N
                  rw [HQQ.out] at DL
                  cases qq with
                  | false =>
                    go_wp2_with fail
                    refine DL.mono ?_
                    rintro e w6 ⟨v6, rfl, S6, W6⟩
                    have hdel : del (ordI down) N xs = xs := by unfold del; rw [HQQ.out]; rfl
                    rw [hdel] at S6
                    have M6 : Hid (Mine w.heap.size w w6 p G v6 xs ∧ Free w6 al nl cl xs (Foot p v6) ∧ Box w6 box K N (Foot p v6)) := ⟨M5.out.1.wrote S6 W6, M5.out.2.1.one W6, M5.out.2.2.2.one W6⟩
                    clear DL S6 W6 hdel
                    go_wp2_with fail
                    go_meet
                    exact ⟨(nl, al, cl), rfl, v6, xs, M6.out.1, M6.out.2.1, M5.out.2.2.1, M6.out.2.2, by omega⟩
                  | true =>
                    go_wp2_with fail
                    refine DL.mono ?_
                    rintro e w6 ⟨v6, rfl, S6, W6⟩
                    have hdel : del (ordI down) N xs = xs.take pp ++ xs.drop (pp + 1) := by unfold del cut; rw [HQQ.out, HPP.out]; rfl
                    rw [hdel] at S6
                    have hlz : pp < nl := by rw [← M5.out.2.1.seg.size, ← HPP.out]; exact isIn_pos HQQ.out
                    have M6 : Hid (Mine w.heap.size w w6 p G v6 (xs.take pp ++ xs.drop (pp + 1)) ∧ Free w6 al nl cl xs (Foot p v6) ∧ Box w6 box K N (Foot p v6)) := ⟨M5.out.1.wrote S6 W6, M5.out.2.1.one W6, M5.out.2.2.2.one W6⟩
                    have HO : Hid (Sorted (ordI down) (xs.take pp ++ xs.drop (pp + 1))) := by rw [← hdel]; exact del_sorted M5.out.2.2.1
                    have HZ : Hid ((xs.take pp ++ xs.drop (pp + 1)).length ≤ xs.length) := by rw [← hdel]; exact del_length_le
                    clear DL S6 W6 hdel
                    obtain ⟨gb, goff, rfl, hgb, -⟩ := M6.out.2.1.seg.at (by omega)
                    have hclm : cl ≤ 9223372036854775807 := by have := M6.out.2.1.seg.max; unfold maxLen at this; omega
                    have hncl : nl ≤ cl := M6.out.2.1.seg.le
                    obtain ⟨A, hA⟩ : ∃ A : Addr, (if cl = pp + 1 then some (⟨gb, goff, none⟩ : Addr) else some ⟨gb, goff + (pp + 1), none⟩) = some A := by
                      by_cases hcj : cl = pp + 1
                      · exact ⟨⟨gb, goff, none⟩, by simp [hcj]⟩
                      · exact ⟨⟨gb, goff + (pp + 1), none⟩, by simp [hcj]⟩
                    have HT : Hid (∀ W, Below w6.heap.size w6 W → Seg (Value.int .i64) 0 W (some A) (nl - (pp + 1)) (cl - (pp + 1)) (xs.drop (pp + 1))) := fun W hW => seg_drop (M6.out.2.1.seg.below hW) (by omega) _ hA.symm
                    have hw1 : IntKind.i64.wrap ((pp : Int) + 1) = (pp : Int) + 1 := by rw [IntKind.wrap_i64]; omega
                    have hb1 : (0 : Int) ≤ (pp : Int) + 1 := by omega
                    have htn : ((pp : Int) + 1).toNat = pp + 1 := by omega
                    have hb3 : (pp : Int) + 1 ≤ (nl : Int) := by omega
                    have hb4 : (pp : Int) ≤ (cl : Int) := by omega
                    have hb5 : pp ≤ cl := by omega
                    go_upto_region 27 with fail
                    go_region_law (first
                      | (refine step_append_seg rfl (.const (.slice none 0 0)) (.tmp 103) rfl w6.heap.size (.slice none 0 0) 0 [] (by first | (simp [Act.eval]; done) | (simp [Act.eval, Act.put]; done)) (World.ownsRow_nil _ _ _ _) (some ⟨gb, goff, none⟩) pp cl (xs.take pp) (by first | (simp [Act.eval]; done) | (simp [Act.eval, Act.put]; done)) (seg_take M6.out.2.1.seg.drew (by omega)) (by omega) (Nat.le_refl _) ?_
                         intro v7 w7 o7 g7
                         have G7 : Hid (Below w6.heap.size w6 w7) := ((Below.refl _ _).drew).grown g7 (Nat.le_refl _) (fun k hk => (by cases hk))
                         have A7 : Hid (w7.ownsRow w6.heap.size 3 1 v7 pp ((xs.take pp).map (Value.int .i64))) := (by simpa [Hid] using o7)
                         clear o7 g7)
                      | (refine step_append_seg rfl (.tmp 104) (.tmp 108) rfl w6.heap.size v7 pp (xs.take pp) (by first | (simp [Act.eval]; done) | (simp [Act.eval, Act.put]; done)) A7.out (some A) (nl - (pp + 1)) (cl - (pp + 1)) (xs.drop (pp + 1)) (by first | (simp [Act.eval]; done) | (simp [Act.eval, Act.put]; done)) (HT.out _ G7.out) (by omega) G7.out.size ?_
                         intro v8 w8 o8 g8
                         have G8 : Hid (Below w6.heap.size w6 w8) := grown_on G7.out A7.out (Nat.le_refl _) (Below.refl _ _) g8
                         obtain ⟨a8, n8, c8, rfl, F8⟩ := free_own M6.out.1.lt o8
                         clear o8 g8))
                    go_wp2_with fail
                    go_meet
                    exact ⟨(n8, a8, c8), rfl, v6, _, M6.out.1.step G8.out, F8, HO.out, M6.out.2.2.step G8.out, by have := HZ.out; omega⟩
                · have hi1 : (ins (ordI down) N xs).length ≤ 1000 := by have := (ins_length_le (cf := ordI down) (x := N) (xs := xs)).1; omega
                  obtain ⟨N3, hN3⟩ : ∃ N3, IntKind.i64.wrap (N + 3) = N3 := ⟨_, rfl⟩
                  have hlF : Hid (∀ k, Foot p v k → k < w5.heap.size) := M5.out.1.lt
                  go_upto_region 16 with fail
                  go_region_held (fun w' => w'.cell? ⟨box, 1, none⟩ = some (.int .i64 N)) (first | exact cb1 | exact c7 | exact c8)
                    (first
                      | (go_at_call 14; refine (in_free down X7.out (fun k hk => Nat.lt_of_lt_of_le (hlF.out k hk) B7.out.size) hi1 N3 rfl).mono ?_
                         rintro e w8 ⟨a8, n8, k8, rfl, Y8⟩
                         have c8 : w8.cell? ⟨box, 1, none⟩ = some (.int .i64 N) := (by rw [Y8.out.2.cell (World.block_lt_of_cell? _ _ c7)]; exact c7))
                      | (go_at_call 14; refine (in_free down M5.out.2.1.drew hlF.out (by omega) N rfl).mono ?_
                         rintro e w7 ⟨a7, n7, k7, rfl, Y7⟩
                         have B7 : Hid (Below w5.heap.size w5 w7) := below_step ((Below.refl _ _).drew) Y7.out.2
                         have X7 : Hid (Free w7 a7 n7 k7 (ins (ordI down) N xs) (Foot p v)) := Y7.out.1
                         have c7 : w7.cell? ⟨box, 1, none⟩ = some (.int .i64 N) := (by rw [B7.out.cell (World.block_lt_of_cell? _ _ cb1)]; exact cb1)))
                  have B8 : Hid (Below w5.heap.size w5 w8) := below_step B7.out Y8.out.2
                  have M8 : Hid (Mine w.heap.size w w8 p G v xs ∧ Free w8 a8 n8 k8 (ins (ordI down) N3 (ins (ordI down) N xs)) (Foot p v) ∧ Box w8 box K N (Foot p v)) := ⟨M5.out.1.step B8.out, Y8.out.1, M5.out.2.2.2.step B8.out⟩
                  have OF := of_spec HG.out (seg_lit w8 [N, N3] (by simp) #[.int .i64 N, .int .i64 N3] rfl) (by simp)
                  unfold fnv at OF
                  have hxn : xs.length = nl := M5.out.2.1.seg.size
                  have hz8 : (ins (ordI down) N3 (ins (ordI down) N xs)).length = n8 := M8.out.2.1.seg.size
                  have hz9 : (ins (ordI down) N3 (ins (ordI down) N xs)).length ≤ xs.length + 2 := by
                    have := (ins_length_le (cf := ordI down) (x := N) (xs := xs)).1
                    have := (ins_length_le (cf := ordI down) (x := N3) (xs := ins (ordI down) N xs)).1
                    omega
                  have HZ : Hid ((ins (ordI down) N3 (ins (ordI down) N xs)).length ≤ xs.length + 2) := hz9
                  have HSO : Hid (Sorted (ordI down) (ins (ordI down) N3 (ins (ordI down) N xs))) := ins_sorted (ordI_ord down) (ins_sorted (ordI_ord down) M5.out.2.2.1)
                  have HJ : Hid (join (ordI down) xs (join (ordI down) [] [N, N3]) = ins (ordI down) N3 (ins (ordI down) N xs)) := join_two M5.out.2.2.1 N N3
                  have HD : Hid (decide (xs.length < (ins (ordI down) N3 (ins (ordI down) N xs)).length) = decide ((nl : Int) < (n8 : Int))) := (by rw [Hid, hz8, hxn]; exact decide_eq_decide.2 (by omega))
                  have hj2 : (join (ordI down) [] [N, N3]).length ≤ 2 := by have := (join_length_le (cf := ordI down) [N, N3] []).2; simpa using this
                  clear hxn hz8 hz9 B7 X7 Y7 Y8 hi1 hlF
                  generalize ins (ordI down) N3 (ins (ordI down) N xs) = zs at M8 HZ HSO HJ HD
                  go_wp2_with fail
                  refine OF.mono ?_
                  rintro e w9 ⟨v9, rfl, S9, B9, -⟩
                  have B9' : Hid (Below w8.heap.size w8 w9) := (below_alloc w8 (.cells #[.int .i64 N, .int .i64 N3] 3)).trans (B9.mono (by simp))
                  have S9' : SetI w9 (w8.heap.size + 1) G v9 (join (ordI down) [] [N, N3]) := by simpa using S9
                  have UN := union_spec HG.out (M8.out.1.step B9'.out).set S9' M5.out.2.2.1 (by omega)
                  rw [HJ.out, HD.out] at UN
                  have M9 : Hid (Mine w.heap.size w w9 p G v xs ∧ Free w9 a8 n8 k8 zs (Foot p v) ∧ Box w9 box K N (Foot p v)) := ⟨M8.out.1.step B9'.out, M8.out.2.1.step B9'.out, M8.out.2.2.step B9'.out⟩
                  clear OF S9 B9 S9' M8
                  go_wp2_with fail
                  refine UN.mono ?_
                  rintro e w10 ⟨v10, rfl, S10, W10⟩
                  have M10 : Hid (Mine w.heap.size w w10 p G v10 zs ∧ Free w10 a8 n8 k8 zs (Foot p v10) ∧ Box w10 box K N (Foot p v10)) := ⟨M9.out.1.wrote S10 W10, M9.out.2.1.one W10, M9.out.2.2.one W10⟩
                  clear UN S10 W10 M9
                  go_wp2_with fail
                  go_meet
                  exact ⟨(n8, a8, k8), rfl, v10, zs, M10.out.1, M10.out.2.1, HSO.out, M10.out.2.2, HZ.out⟩
            case rest =>
              obtain ⟨⟨n2, a2, c2⟩, rfl, J2⟩ := hcut
              obtain ⟨v2, ys, M2a, M2b, M2c, M2d, hyl⟩ := J2.out
              have M2 : Hid (Mine w.heap.size w wc p G v2 ys ∧ Free wc a2 n2 c2 ys (Foot p v2) ∧ Sorted (ordI down) ys) := ⟨M2a, M2b, M2c⟩
              have cbx : wc.cell? ⟨box, 1, none⟩ = some (.int .i64 N) := M2d.c1
              have hyn : ys.length = n2 := M2b.seg.size
              have hn2 : n2 ≤ 122 := by omega
              have hc2 : c2 ≤ 9223372036854775807 := by have := M2b.seg.max; unfold maxLen at this; omega
              have hnc2 : n2 ≤ c2 := M2b.seg.le
              clear J2 M5 cb0 cb1
              obtain ⟨N1, hN1⟩ : ∃ N1, IntKind.i64.wrap (N + 1) = N1 := ⟨_, rfl⟩
              have AT := at_spec M2a.set ask
              rw [hyn] at AT
              have HLEN : Hid (∀ W, Below wc.heap.size wc W → Calls Try.prog 19 #[.pointer (some ⟨p, 0, none⟩)] W fun e w' => e = .returned (.int .i64 (n2 : Nat)) ∧ w' = W) := fun W hW => by
                have := len_spec (M2a.step hW).set
                rwa [hyn] at this
              obtain ⟨d, hd⟩ : ∃ d : Bool, decide (N1 ∈ ys) = d := ⟨_, rfl⟩
              have HHAS : Hid (∀ W, Below wc.heap.size wc W → Calls Try.prog 20 #[.pointer (some ⟨p, 0, none⟩), .int .i64 N1] W fun e w' => e = .returned (.bool d) ∧ ∃ q os, w' = grow (W.drewN q) os) := fun W hW => by
                have := has_grown HG.out (M2a.step hW).set M2c (by omega) N1
                rwa [isIn_mem M2c, hd] at this
              have HLST : Hid (∀ W, Below wc.heap.size wc W → Calls Try.prog 21 #[.slice a2 n2 c2, .int .i64 N1] W fun e w' => e = .returned (.bool d) ∧ w' = W) := fun W hW => by
                have := has_list (M2b.step hW).seg (by omega) N1
                rwa [hd] at this
              clear hd
              have mx := mixed
              by_cases hin : 0 ≤ ask ∧ ask < n2
              · rw [if_pos hin, decide_eq_true hin] at AT
                obtain ⟨kk, rfl⟩ : ∃ kk : Nat, ask = kk := ⟨ask.toNat, by omega⟩
                have hk : kk < n2 := by omega
                obtain ⟨lb, lo, rfl, hlb, hcell⟩ := M2b.seg.at (by omega)
                have cly := hcell kk hk
                rw [Int.toNat_natCast] at AT
                clear hcell M2a M2b M2c M2d
                generalize ys[kk]?.getD 0 = y at AT cly
                go_upto_region 29 with (go_at_call 18; refine AT.mono ?_; rintro e wx ⟨rfl, rfl⟩)
                have hd1 : decide ((0 : Int) ≤ (kk : Int)) = true := by simp
                have hd2 : decide ((kk : Int) < (n2 : Int)) = true := by simpa using hk
                have cbg := cell_grown (World.block_lt_of_cell? _ _ cbx) cbx
                have clg := cell_grown (World.block_lt_of_cell? _ _ cly) cly
                refine wp_region_quiet_grown mx (by kernel_rfl) ?_
                repeat (go_big_quiet_step (first
                  | (go_at_call 19; exact Calls.grown_of (same_grown (HLEN.out _ (below_grow _ _ _))))
                  | (go_at_call 20; exact Calls.grown_of (HHAS.out _ (below_grow _ _ _)))
                  | (go_at_call 21; exact Calls.grown_of (same_grown (HLST.out _ (below_grow _ _ _))))))
                refine wpQuiet_nil ?_
                intro _ hwq
                obtain ⟨⟨nq, osq⟩, hwe⟩ := hwq
                subst hwe
                go_wp2
                go_roundg (60 - I)
                case measure => omega
                case rel => exact ⟨I + 1, (n2, _, c2), rfl, by simp, by omega, by omega, by omega, ⟨v2, ys, M2.out.1.step (below_grow _ _ _), M2.out.2.1.step (below_grow _ _ _), M2.out.2.2, by omega⟩⟩
              · rw [if_neg hin, decide_eq_false hin] at AT
                clear M2a M2b M2c M2d
                by_cases hneg : ask < 0
                · go_upto_region 29 with (go_at_call 18; refine AT.mono ?_; rintro e wx ⟨rfl, rfl⟩)
                  have hd1 : decide ((0 : Int) ≤ ask) = false := decide_eq_false (by omega)
                  have cbg := cell_grown (World.block_lt_of_cell? _ _ cbx) cbx
                  refine wp_region_quiet_grown mx (by kernel_rfl) ?_
                  repeat (go_big_quiet_step (first
                    | (go_at_call 19; exact Calls.grown_of (same_grown (HLEN.out _ (below_grow _ _ _))))
                    | (go_at_call 20; exact Calls.grown_of (HHAS.out _ (below_grow _ _ _)))
                    | (go_at_call 21; exact Calls.grown_of (same_grown (HLST.out _ (below_grow _ _ _))))))
                  refine wpQuiet_nil ?_
                  intro _ hwq
                  obtain ⟨⟨nq, osq⟩, hwe⟩ := hwq
                  subst hwe
                  go_wp2
                  go_roundg (60 - I)
                  case measure => omega
                  case rel => exact ⟨I + 1, (n2, _, c2), rfl, by simp, by omega, by omega, by omega, ⟨v2, ys, M2.out.1.step (below_grow _ _ _), M2.out.2.1.step (below_grow _ _ _), M2.out.2.2, by omega⟩⟩
                · go_upto_region 29 with (go_at_call 18; refine AT.mono ?_; rintro e wx ⟨rfl, rfl⟩)
                  have hd1 : decide ((0 : Int) ≤ ask) = true := decide_eq_true (by omega)
                  have hd2 : decide (ask < (n2 : Int)) = false := decide_eq_false (by omega)
                  have cbg := cell_grown (World.block_lt_of_cell? _ _ cbx) cbx
                  refine wp_region_quiet_grown mx (by kernel_rfl) ?_
                  repeat (go_big_quiet_step (first
                    | (go_at_call 19; exact Calls.grown_of (same_grown (HLEN.out _ (below_grow _ _ _))))
                    | (go_at_call 20; exact Calls.grown_of (HHAS.out _ (below_grow _ _ _)))
                    | (go_at_call 21; exact Calls.grown_of (same_grown (HLST.out _ (below_grow _ _ _))))))
                  refine wpQuiet_nil ?_
                  intro _ hwq
                  obtain ⟨⟨nq, osq⟩, hwe⟩ := hwq
                  subst hwe
                  go_wp2
                  go_roundg (60 - I)
                  case measure => omega
                  case rel => exact ⟨I + 1, (n2, _, c2), rfl, by simp, by omega, by omega, by omega, ⟨v2, ys, M2.out.1.step (below_grow _ _ _), M2.out.2.1.step (below_grow _ _ _), M2.out.2.2, by omega⟩⟩
          · have J2 : Hid (∃ v xs, Mine w.heap.size w wr p G v xs ∧ Free wr al nl cl xs (Foot p v) ∧ Sorted (ordI down) xs ∧ xs.length ≤ 120) := (by
              obtain ⟨v, xs, h1, h2, h3, h4⟩ := J.out
              exact ⟨v, xs, h1, h2, h3, by omega⟩)
            clear J
            go_wp2_with fail
            go_meet
            exact ⟨(nl, al, cl), rfl, J2⟩
        · have J2 : Hid (∃ v xs, Mine w.heap.size w wr p G v xs ∧ Free wr al nl cl xs (Foot p v) ∧ Sorted (ordI down) xs ∧ xs.length ≤ 120) := (by
            obtain ⟨v, xs, h1, h2, h3, h4⟩ := J.out
            exact ⟨v, xs, h1, h2, h3, by omega⟩)
          clear J
          go_wp2_with fail
          go_meet
          exact ⟨(nl, al, cl), rfl, J2⟩
    case rest =>
      as_aux_lemma =>
        obtain ⟨⟨nl, al, cl⟩, rfl, J⟩ := hcut
        obtain ⟨v, xs, Ma, Mb, Mc, hxl⟩ := J.out
        have hxn : xs.length = nl := Mb.seg.size
        have hcl : cl ≤ 9223372036854775807 := by have := Mb.seg.max; unfold maxLen at this; omega
        have hnc : nl ≤ cl := Mb.seg.le
        have HM : Hid (Mine w.heap.size w wc p G v xs ∧ Free wc al nl cl xs (Foot p v)) := ⟨Ma, Mb⟩
        have L1 := list_spec Ma.set (by omega)
        rw [hxn] at L1
        have hn : nl ≤ 120 := by omega
        clear J Ma Mb Mc hxl M0
        have HX : Hid (xs.length = nl) := hxn
        clear hxn
        go_wp2_with fail
        refine L1.mono ?_
        rintro e w3 ⟨vm, rfl, om, B3⟩
        obtain ⟨am, cm, rfl, hmc, hmm, hma⟩ := own_slice om
        have hcm : cm ≤ 9223372036854775807 := by unfold maxLen at hmm; omega
        have HO : Hid (w3.ownsRow wc.heap.size 3 1 (.slice am nl cm) nl (xs.map (Value.int .i64)) ∧ Below wc.heap.size wc w3) := ⟨om, B3⟩
        have HA : Hid ((am = none ∧ nl = 0 ∧ cm = 0) ∨ ∃ g, am = some ⟨g, 0, none⟩) := hma
        clear L1 om B3 hma hmm
        go_upto_block 3 with fail
        have HM0 : Hid (∀ wd, Below wc.heap.size wc wd → Mine w.heap.size w wd p G v xs ∧ Free wd al nl cl xs (Foot p v)) := fun wd hb => ⟨HM.out.1.step hb, HM.out.2.step hb⟩
        go_cut [19] (fun _ wd => Hid (Mine w.heap.size w wd p G v xs ∧ Free wd al nl cl xs (Foot p v)))
        case first =>
          go_wp2_with fail
          go_loopg [19] nl (fun kx s19 wr => ∃ I : Nat, s19 = .int .i64 I ∧ I ≤ nl ∧ nl - I ≤ kx ∧ Hid (Below wc.heap.size wc wr ∧ ∃ ys : List Int, wr.ownsRow wc.heap.size 3 1 (.slice am nl cm) nl (ys.map (Value.int .i64)) ∧ ∀ j, I ≤ j → ys[j]? = xs[j]?))
          case atStart => exact ⟨0, rfl, Nat.zero_le _, by omega, ⟨HO.out.2, xs, HO.out.1, fun _ _ => rfl⟩⟩
          case round =>
            clear HO
            obtain ⟨I, rfl, hI, hg, J⟩ := hrel
            by_cases hlt : I < nl
            · obtain ⟨gm, rfl⟩ : ∃ gm, am = some ⟨gm, 0, none⟩ := HA.out.elim (fun h => absurd h.2.1 (by omega)) id
              obtain ⟨Bw, ys, oy, ey⟩ := J.out
              obtain ⟨cur, -, -, -, -, hgl, hgb, -, hcy, -, hfz⟩ := own_open oy
              obtain ⟨lb, lo, rfl, hlb, hcell⟩ := (HM.out.2.step Bw).seg.at (by omega)
              have cl1 := hcell I hlt
              have hzf := hfz I
              have cm1 : wr.cell? ⟨gm, I, none⟩ = some (.int .i64 (xs[I]?.getD 0)) := hcy I _ (by
                rw [List.getElem?_map, ey I (Nat.le_refl _), get_some (d := 0) (by rw [HX.out]; exact hlt)]
                rfl)
              have HJ : Hid (Below wc.heap.size wc wr ∧ wr.ownsRow wc.heap.size 3 1 (.slice (some ⟨gm, 0, none⟩) nl cm) nl (ys.map (Value.int .i64)) ∧ (∀ j, I ≤ j → ys[j]? = xs[j]?) ∧ wc.heap.size ≤ gm) := ⟨Bw, oy, ey, hgb⟩
              clear J Bw oy ey hcell hcy hfz
              generalize xs[I]?.getD 0 = y at cl1 cm1
              go_wp2_with fail
              go_quiet (fail)
              go_wp2_with fail
              go_roundg (nl - (I + 1))
              case measure => omega
              case rel =>
                obtain ⟨Bw, oy, ey, hgb⟩ := HJ.out
                refine ⟨I + 1, by simp, by omega, Nat.le_refl _, ⟨(below_drewN Bw nq).setCell hgb _, ys.set I (-1), own_set (w := wr.drewN nq) oy I (-1), fun j hj => ?_⟩⟩
                rw [List.getElem?_set_ne (by omega)]
                exact ey j (by omega)
            · go_wp2_with fail
              go_meet
              exact HM0.out _ J.out.1
        case rest =>
          have HM2 : Hid (Mine w.heap.size w wc p G v xs ∧ Free wc al nl cl xs (Foot p v)) := hcut
          have L2 := list_spec HM2.out.1.set (by rw [HX.out]; omega)
          rw [HX.out] at L2
          clear hcut HM HM0 HO
          go_wp2_with fail
          refine L2.mono ?_
          rintro e w5 ⟨vk, rfl, ok, B5⟩
          obtain ⟨ak, ck, rfl, segk, -⟩ := Seg.owned (d := 0) ok
          have hck : ck ≤ 9223372036854775807 := by have := segk.max; unfold maxLen at this; omega
          have hkc : nl ≤ ck := segk.le
          have HM5 : Hid (Mine w.heap.size w w5 p G v xs ∧ Free w5 al nl cl xs (Foot p v) ∧ Seg (Value.int .i64) 0 w5 ak nl ck xs) := ⟨HM2.out.1.step B5, HM2.out.2.step B5, segk⟩
          clear L2 ok B5 segk HM2
          go_wp2_with fail
          go_loopg [21] nl (fun kx s21 wr => ∃ I : Nat, s21 = .int .i64 I ∧ I ≤ nl ∧ nl - I ≤ kx ∧ Hid (∃ n, wr = w5.drewN n))
          case atStart => exact ⟨0, rfl, Nat.zero_le _, by omega, (⟨0, rfl⟩ : ∃ n, w5 = w5.drewN n)⟩
          case round =>
            obtain ⟨I, rfl, hI, hg, J⟩ := hrel
            obtain ⟨nd, rfl⟩ := J.out
            clear J
            by_cases hlt : I < nl
            · obtain ⟨lb, lo, rfl, hlb, hcell⟩ := HM5.out.2.1.seg.at (by omega)
              obtain ⟨kb, ko, rfl, hkb, hcelk⟩ := HM5.out.2.2.at (by omega)
              have cl1 : (w5.drewN nd).cell? ⟨lb, lo + I, none⟩ = some (.int .i64 (xs[I]?.getD 0)) := hcell I hlt
              have ck1 : (w5.drewN nd).cell? ⟨kb, ko + I, none⟩ = some (.int .i64 (xs[I]?.getD 0)) := hcelk I hlt
              clear hcell hcelk
              generalize xs[I]?.getD 0 = y at cl1 ck1
              generalize hwn : w5.drewN nd = wn at cl1 ck1 ⊢
              have HWN : Hid (w5.drewN nd = wn) := hwn
              clear hwn
              go_wp2_with fail
              go_quiet (fail)
              go_wp2_with fail
              go_roundg (nl - (I + 1))
              case measure => omega
              case rel => exact ⟨I + 1, by simp, by omega, Nat.le_refl _, (⟨nd + nq, by rw [← HWN.out, World.drewN_drewN]⟩ : ∃ n, wn.drewN nq = w5.drewN n)⟩
            · go_wp2
              go_ret
              exact ⟨rfl, below_drewN HM5.out.1.below nd⟩

set_option maxRecDepth 100000 in
theorem lifted (os : Os) (started : os.Started) (H : Type) (enc : TypeId × Value → H) :
    ReturnsInHanded {} Try.checked os 3 .any (Rows.setAllSpec.pre6 enc Try.prog Try.f3 Rows.setAllRow.domain false) (Rows.setAllSpec.post enc Try.prog Try.f3 false true false false) := by
  refine returnsInHanded_of_change (C := Try.checked) own started (by kernel_rfl) Try.func3
    (ChangeSpec.witness6 (enc := enc) (C := Try.checked) false ⟨#[], #[.slice none 0 0, .bool false, .int .i64 0], []⟩ 8 (by kernel_rfl) (by kernel_rfl) (by kernel_rfl) (by kernel_rfl)) ?_
  intro W base args ds gs before hval0 hW hcnd _
  have hval : ∀ (j : Nat) t v, Try.f3.params[j]? = some t → args[j]? = some v → Value.okWide Try.prog W .any base t v := hval0
  have hW' := hW
  obtain ⟨p, q, hA0, hV, rfl, hfz, hnd⟩ := hW
  have hA : DataW.TrodAll enc Try.prog W 0 (fun _ => true) true Try.f3.params.toList args.toList ds p := hA0
  rw [Try.params3] at hA hval
  obtain ⟨v0, vs0, d0, ds0, p0, q0, hargs, rfl, rfl, h0, r0⟩ := trodAll_cons hA
  obtain ⟨v1, vs1, d1, ds1, p1, q1, rfl, rfl, rfl, h1, r1⟩ := trodAll_cons r0
  obtain ⟨v2, vs2, d2, ds2, p2, q2, rfl, rfl, rfl, h2, r2⟩ := trodAll_cons r1
  obtain ⟨rfl, rfl, rfl⟩ := trodAll_nil r2
  obtain rfl : args = #[v0, v1, v2] := by cases args; simp_all
  obtain ⟨rfl, rfl⟩ := trodVars_none hV
  obtain ⟨a0, len0, cap0, rfl⟩ := okWide_slice Try.underlying22 (hval 0 22 v0 rfl rfl)
  have k0 := h0
  have lt0 : ∀ x ∈ p0, x.block < W.heap.size := by obtain ⟨m, hm⟩ := k0; exact DataW.trod_lt m _ _ _ hm
  obtain ⟨V0, V1, w0⟩ : ∃ V0 V1, IsPairs W a0 len0 cap0 V0 V1 := by
    obtain ⟨fuel, hf⟩ := h0
    rcases Go.Deep.open_slice_pairs Try.underlying22 Try.underlying29 (by kernel_rfl) rfl rfl (by kernel_rfl) (by kernel_rfl) hf with ⟨hcs, _⟩ | ⟨x, l, c, m, n, U0, U1, D0, D1, P0, P1, hcs, _, hl, hm, hmm, _, hx⟩
    · simp [Value.cells] at hcs
      obtain ⟨rfl, rfl, rfl⟩ := hcs
      exact ⟨fun _ => 0, fun _ => 0, .inl ⟨rfl, rfl, rfl⟩⟩
    · simp [Value.cells] at hcs
      obtain ⟨rfl, rfl, rfl⟩ := hcs
      have each : ∀ i, i < len0 → ∃ q : Int × Int, W.cell? (x.add (i * 2)) = some (.int .i64 q.1) ∧ W.cell? (x.add (i * 2 + 1)) = some (.int .i64 q.2) := fun i hi => by
        obtain ⟨g0, g1, t0, t1⟩ := hx i (by rw [hmm]; split <;> omega)
        obtain ⟨i0, e0, -⟩ := DataW.trod_int Try.underlying3 t0
        obtain ⟨i1, e1, -⟩ := DataW.trod_int Try.underlying3 t1
        simp only [List.cons.injEq, and_true] at e0 e1
        exact ⟨(i0, i1), by rw [g0, e0], by rw [g1, e1]⟩
      obtain ⟨q, hq⟩ := Go.Deep.choose_lt each
      exact ⟨fun i => (q i).1, fun i => (q i).2, .inr ⟨x, rfl, hl, hm, hq⟩⟩
  obtain ⟨b1, rfl, rfl, rfl⟩ := open_bool Try.underlying4 (hval 1 4 v1 rfl rfl) h1
  obtain ⟨a2, rfl, rfl, rfl, w2⟩ := open_int Try.underlying3 (hval 2 3 v2 rfl rfl) h2
  clear hA0 hval0
  simp only [List.append_nil] at hW'
  refine (walk a0 len0 cap0 V0 V1 b1 a2 W w0).mono fun e W' ⟨he, bel⟩ => ?_
  subst he
  exact ⟨_, rfl, _, _, _, [], _, [], hW', trodAll_mk1 (shut_bool Try.underlying4 _), (trodAll_cons_mk (Below.trod laidOut (by kernel_rfl) (of_decide_eq_true (by kernel_rfl)) k0 bel lt0) (trodAll_cons_mk (shut_bool Try.underlying4 _) (trodAll_cons_mk (shut_int Try.underlying3 w2) trodAll_mk0))), rfl, bel.frame _, fun h => by cases h⟩

theorem over : Rows.setAllRow.holds Try.pinned (OpenSpec.ofChange Rows.setAllSpec) :=
  OpenClaim.holds_of_wide 3 Try.f3 rfl rfl rfl rfl rfl rfl rfl ⟨rfl, rfl, rfl, rfl, rfl⟩ rfl rfl rfl rfl rfl (by kernel_rfl) Try.func3 (by kernel_rfl)
    (of_decide_eq_true (by kernel_rfl)) (by unfold Func.isWrapper; first | (rw [if_pos (by decide +kernel)]; kernel_rfl) | (rw [if_neg (by decide +kernel)]; exact ⟨rfl, rfl⟩))
    (fun os started H enc _ => lifted os started H enc)

end Go.Proofs.Ytdgdaldgchbbaaa.All
namespace Go.Proofs.Ytdgdaldgchbbaaa
theorem setAll_holds : Rows.SetAllSaid := All.over
#print axioms setAll_holds
end Go.Proofs.Ytdgdaldgchbbaaa
