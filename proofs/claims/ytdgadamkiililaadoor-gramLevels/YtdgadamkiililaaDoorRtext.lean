/-
  The walk of the reference's Text.
-/
import Derived.Test.YtdgadamkiililaaDoorRlev
import Derived.Test.YtdgadamkiililaaDoorRmay
namespace Go.Proofs.YtdgadamkiililaaDoor
open Go.RowKit

/-- A rule's line, piece by piece. -/
theorem ruleT (r : Ru) : lineT ((ruleL r).map by8) = by8 r.l ++ [32, 58] ++ sp (r.r.map by8) ++ (if r.p = ⟨#[]⟩ then [] else [32, 37, 112, 114, 101, 99, 32] ++ by8 r.p) ++ [32, 59, 10] := by
  unfold ruleL lineT
  by_cases hp : r.p = ⟨#[]⟩
  · rw [if_pos hp, if_pos hp]
    simp [jn, sp, by8]
  · rw [if_neg hp, if_neg hp]
    simp [jn, sp, by8]

theorem sz32 (x : ByteArray) : ((⟨#[32]⟩ : ByteArray) ++ x).size = 1 + x.size := by rw [ByteArray.size_append]; rfl

theorem empty_of_len {s : ByteArray} (h : by8 s = []) : s = ⟨#[]⟩ := by8_inj (by rw [h]; rfl)

set_option maxHeartbeats 8000000 in
set_option maxRecDepth 20000 in
theorem rtext_calls : TextCalls 13 := by
  intro G h w T hG _ hT
  obtain ⟨r, hr⟩ := bool_of (MayP G)
  have HM : Hid (∀ W : World, Below w.heap.size w W → Calls Tryd.prog 11 #[gv h G] W fun e w' => e = .returned (.bool r) ∧ Below W.heap.size W w') := fun W hW => rmay_calls G h W r (hG.below hW) hr
  obtain ⟨ts, st, ex, rs⟩ := G
  obtain ⟨ta, tc, ra, rc⟩ := h
  have hm1 : ts.length ≤ tc ∧ tc ≤ 9223372036854775807 := by have h1 := hG.tok.le; have h2 := hG.tok.max; simp only at h1 h2; unfold maxLen at h2; omega
  have hm2 := rules_le hG.rul
  simp only at hm2
  have hs1 : ts.length ≤ 100 := hG.small.nt
  have hs2 : rs.length ≤ 200 := hG.small.nr
  have hs3 : st.size ≤ 100 := hG.small.st
  have HG : Hid (IsG w ⟨ta, tc, ra, rc⟩ ⟨ts, st, ex, rs⟩) := hG
  have HT : Hid (TextP ⟨ts, st, ex, rs⟩ T) := hT
  have HR : Hid (r = true ↔ MayP ⟨ts, st, ex, rs⟩) := hr
  unfold gv at HM ⊢
  simp only at HM ⊢
  clear hG hT hr
  obtain ⟨tn, hTN⟩ : ∃ n, ts.length = n := ⟨_, rfl⟩
  have HTN : Hid (ts.length = tn) := hTN
  obtain ⟨rn, hRN⟩ : ∃ n, rs.length = n := ⟨_, rfl⟩
  have HRN : Hid (rs.length = rn) := hRN
  rw [hTN] at hm1 hs1 HM ⊢
  rw [hRN] at hm2 hs2 HM ⊢
  clear hTN hRN
  go_enter Tryd.func13, Tryd.ntmps13
  go_upto_region 1 with fail
  have c0 : (w.alloc (.cells #[.slice ta tn tc, .string st, .int .i64 ex, .slice ra rn rc] 25)).cell? ⟨w.heap.size, 0, none⟩ = some (.slice ta tn tc) := by rw [World.cell?_alloc_mark]; rfl
  have c1 : (w.alloc (.cells #[.slice ta tn tc, .string st, .int .i64 ex, .slice ra rn rc] 25)).cell? ⟨w.heap.size, 1, none⟩ = some (.string st) := by rw [World.cell?_alloc_mark]; rfl
  have c2 : (w.alloc (.cells #[.slice ta tn tc, .string st, .int .i64 ex, .slice ra rn rc] 25)).cell? ⟨w.heap.size, 2, none⟩ = some (.int .i64 ex) := by rw [World.cell?_alloc_mark]; rfl
  have c3 : (w.alloc (.cells #[.slice ta tn tc, .string st, .int .i64 ex, .slice ra rn rc] 25)).cell? ⟨w.heap.size, 3, none⟩ = some (.slice ra rn rc) := by rw [World.cell?_alloc_mark]; rfl
  have HB : Hid (Below w.heap.size w (w.alloc (.cells #[.slice ta tn tc, .string st, .int .i64 ex, .slice ra rn rc] 25))) := below_alloc _ _
  generalize w.alloc (.cells #[.slice ta tn tc, .string st, .int .i64 ex, .slice ra rn rc] 25) = wq at c0 c1 c2 c3 HB ⊢
  obtain ⟨gb, hgb⟩ : ∃ gb, gb = w.heap.size := ⟨_, rfl⟩
  rw [← hgb] at c0 c1 c2 c3 ⊢
  clear hgb
  go_wp2_with fail
  refine (HM.out _ HB.out).mono ?_
  rintro e w1 ⟨rfl, hB1⟩
  have C0 : Hid (∀ W : World, Below w1.heap.size w1 W → W.cell? ⟨gb, 0, none⟩ = some (.slice ta tn tc) ∧ W.cell? ⟨gb, 1, none⟩ = some (.string st) ∧ W.cell? ⟨gb, 2, none⟩ = some (.int .i64 ex) ∧ W.cell? ⟨gb, 3, none⟩ = some (.slice ra rn rc)) := fun W hW => ⟨cell_below (below_step hB1 hW) c0, cell_below (below_step hB1 hW) c1, cell_below (below_step hB1 hW) c2, cell_below (below_step hB1 hW) c3⟩
  have HB1 : Hid (Below w.heap.size w w1) := below_step HB.out hB1
  clear c0 c1 c2 c3 HB hB1 HM
  cases r
  · have HF : Hid (T = ⟨#[]⟩) := HT.out.2 (fun h => by have := HR.out.2 h; cases this)
    go_wp2_with fail
    go_ret
    exact ⟨by rw [HF.out]; rfl, HB1.out⟩
  · have hMay : MayP ⟨ts, st, ex, rs⟩ := HR.out.1 rfl
    obtain ⟨l, hl1, -⟩ := hMay.tk.2
    have HLI : Hid (LevI ts l) := levI hl1
    have HTX : Hid (by8 T = tx (linesG ⟨ts, st, ex, rs⟩ l)) := HT.out.1 hMay l hl1
    have HTR : Hid (∀ W : World, Below w1.heap.size w1 W → Row W 3 ta tn tc (tokC ts)) := fun W hW => by
      have := HG.out.tok.below (below_step HB1.out hW)
      simp only at this
      rwa [HTN.out] at this
    have HRR : Hid (∀ W : World, Below w1.heap.size w1 W → RulesAt W ra rn rc rs) := fun W hW => by
      have := HG.out.rul.below (below_step HB1.out hW)
      simp only at this
      rwa [HRN.out] at this
    have HSZ : Hid (∀ t ∈ ts, t.n.size ≤ 100) := HG.out.small.tk
    have HSR : Hid (∀ r ∈ rs, r.l.size ≤ 100 ∧ r.p.size ≤ 100 ∧ r.r.length ≤ 100 ∧ ∀ x ∈ r.r, x.size ≤ 100) := HG.out.small.rl
    have he0 : 0 ≤ ex := hMay.e0
    have he1 : ex ≤ 9999 := hMay.e1
    clear hMay hl1 HG HT HR
    obtain ⟨c0, -, -, -⟩ := C0.out w1 (Below.refl _ _)
    go_upto_if 17 with fail
    go_cut [3] (fun s3 wd => wd = w1 ∧ ∃ s : ByteArray, s3 = .string s ∧ s.size ≤ 12000 ∧ Hid (by8 s = tx (tokLn ts)))
    case first =>
      by_cases htn : tn = 0
      · have HF : Hid (by8 (⟨#[]⟩ : ByteArray) = tx (tokLn ts)) := by
          have e : ts = [] := List.eq_nil_of_length_eq_zero (by rw [HTN.out]; exact htn)
          show _ = _
          rw [e]
          rfl
        have h1 : ¬ (0 : Int) < (tn : Int) := by omega
        clear htn
        go_wp2_with fail
        go_meet
        exact ⟨rfl, _, rfl, by decide, HF⟩
      · have h1 : (0 : Int) < (tn : Int) := by omega
        have HNE : Hid (ts ≠ []) := fun h => htn (by rw [← HTN.out, h]; rfl)
        clear htn
        go_wp2_with fail
        go_loopg [3, 4] tn (fun kx s3 s4 wr => ∃ (i : Nat) (s : ByteArray), s3 = .string s ∧ s4 = .int .i64 i ∧ i ≤ tn ∧ tn - i ≤ kx ∧ wr = w1 ∧ s.size ≤ 6 + 101 * i ∧ Hid (by8 s = [37, 116, 111, 107, 101, 110] ++ sp ((ts.take i).map fun t => by8 t.n)))
        case atStart => exact ⟨0, _, rfl, rfl, Nat.zero_le _, by omega, rfl, by decide, (rfl : by8 (⟨#[37, 116, 111, 107, 101, 110]⟩ : ByteArray) = [37, 116, 111, 107, 101, 110] ++ sp ((ts.take 0).map fun t => by8 t.n))⟩
        case round =>
          obtain ⟨i, s, rfl, rfl, hi, hg, hwr, hsz, J⟩ := hrel
          subst wr
          by_cases hlt : i < tn
          · obtain ⟨t, ht⟩ : ∃ t, ts[i]? = some t := ⟨ts[i]'(by rw [HTN.out]; exact hlt), List.getElem?_eq_getElem _⟩
            obtain ⟨b, o, hta, p0, p1, p2⟩ := tok_at (HTR.out w1 (Below.refl _ _)) ht
            subst hta
            have hz := HSZ.out t (List.mem_of_getElem? ht)
            have HF : Hid (by8 (s ++ (⟨#[32]⟩ ++ t.n)) = [37, 116, 111, 107, 101, 110] ++ sp ((ts.take (i + 1)).map fun t => by8 t.n)) := by
              show _ = _
              rw [take_succ ht, List.map_append, sp_append, by8_append, by8_append, J.out, List.map_singleton, sp_one, List.append_assoc]
              rfl
            obtain ⟨nm, tl, tk⟩ := t
            simp only at p0 p1 p2 hz HF
            have hq1 : (⟨#[32]⟩ : ByteArray).size + nm.size ≤ 200 := by have : (⟨#[32]⟩ : ByteArray).size = 1 := rfl; omega
            have hq2 : s.size + ((⟨#[32]⟩ : ByteArray) ++ nm).size ≤ 20000 := by rw [sz32]; omega
            have HZ : Hid ((s ++ (⟨#[32]⟩ ++ nm)).size ≤ 6 + 101 * (i + 1)) := by show _ ≤ _; rw [ByteArray.size_append, sz32]; omega
            clear ht J
            go_wp2_with fail
            go_roundg (tn - (i + 1))
            case measure => omega
            case rel => exact ⟨i + 1, _, rfl, by simp, by omega, Nat.le_refl _, rfl, HZ.out, HF⟩
          · obtain rfl : i = tn := by omega
            have HF : Hid (by8 (s ++ ⟨#[10]⟩) = tx (tokLn ts)) := by
              show _ = _
              rw [by8_append, J.out, ← HTN.out, List.take_length]
              unfold tokLn
              rw [if_neg HNE.out, tx_one]
              simp [lineT, jn, by8, Function.comp_def]
            have hq1 : s.size + (⟨#[10]⟩ : ByteArray).size ≤ 12000 := by have : (⟨#[10]⟩ : ByteArray).size = 1 := rfl; omega
            have HZ : Hid ((s ++ ⟨#[10]⟩).size ≤ 12000) := by show _ ≤ _; rw [ByteArray.size_append]; exact hq1
            clear J
            go_wp2_with fail
            go_meet
            exact ⟨rfl, _, rfl, HZ.out, HF⟩
    case rest =>
      obtain ⟨hwc, s0, rfl, hz0, HS0⟩ := hcut
      subst wc
      clear c0
      go_upto_block 2 with fail
      go_cut [3] (fun s3 wd => Hid (Below w1.heap.size w1 wd) ∧ ∃ s : ByteArray, s3 = .string s ∧ s.size ≤ 120000 ∧ Hid (by8 s = tx (tokLn ts ++ levLs ts l 8)))
      case first =>
        go_wp2_with fail
        go_loopg [3, 5] 8 (fun kx s3 s5 wr => ∃ (j : Nat) (s : ByteArray), s3 = .string s ∧ s5 = .int .i64 (j : Int) ∧ 1 ≤ j ∧ j ≤ 9 ∧ 9 - j ≤ kx ∧ Hid (Below w1.heap.size w1 wr) ∧ s.size ≤ 12000 * j ∧ Hid (by8 s = tx (tokLn ts ++ levLs ts l (j - 1))))
        case atStart => exact ⟨1, s0, rfl, rfl, Nat.le_refl _, by omega, by omega, Below.refl _ _, by omega, (by show _ = _; rw [HS0.out, show levLs ts l (1 - 1) = [] from rfl, List.append_nil])⟩
        case round =>
          obtain ⟨j, s, rfl, rfl, hj1, hj9, hg, HBo, hzs, J⟩ := hrel
          clear HS0 hz0
          by_cases hj : j ≤ 8
          · obtain ⟨wo, hwo⟩ : ∃ wo, wo = wr := ⟨_, rfl⟩
            subst wr
            have hj' : (j : Int) ≤ 8 := by omega
            have HK : Hid (∀ t ∈ ts, t.l = (j : Int) → t.a = (l[j]?).getD 0 ∧ 1 ≤ t.a ∧ t.a ≤ 3) := fun t ht he => by
              obtain ⟨h1, h2⟩ := HLI.out.of t ht
              unfold at9 at h2
              rw [he, Int.toNat_natCast] at h2
              unfold LevP at h1
              exact ⟨h2.symm, by omega, by omega⟩
            have HLN : Hid (tx (levLn ts l j) = if namesAt ts j = [] then [] else lineK ts j ((l[j]?).getD 0) ++ [10]) := lineK_ln HLI.out j hj1
            have HJ1 : Hid (levLs ts l (j + 1 - 1) = levLs ts l (j - 1) ++ levLn ts l j) := by
              show _ = _
              have := levLs_succ ts l (j - 1)
              rwa [show j - 1 + 1 = j by omega] at this
            generalize (l[j]?).getD 0 = a at HK HLN
            go_upto_block 4 with fail
            go_cut [6] from 36 to 91 (fun s6 wd => Hid (Below wo.heap.size wo wd) ∧ ∃ line : ByteArray, s6 = .string line ∧ line.size ≤ 11000 ∧ Hid (by8 line = lineK ts j a))
            case first =>
              go_wp2_with fail
              go_loopg [6, 7] tn (fun kx s6 s7 wr => ∃ (i : Nat) (line : ByteArray), s6 = .string line ∧ s7 = .int .i64 i ∧ i ≤ tn ∧ tn - i ≤ kx ∧ Hid (Below wo.heap.size wo wr) ∧ Hid (by8 line = lineK (ts.take i) j a))
              case atStart => exact ⟨0, _, rfl, rfl, Nat.zero_le _, by omega, Below.refl _ _, (rfl : by8 (⟨#[]⟩ : ByteArray) = lineK (ts.take 0) j a)⟩
              case round =>
                obtain ⟨i, line, rfl, rfl, hi, hgi, HBi, JL⟩ := hrel
                obtain ⟨c0, -, -, -⟩ := C0.out wr (below_step HBo.out HBi.out)
                have hls : line.size ≤ 100 + 101 * i := by
                  rw [← by8_length, JL.out]
                  have h1 := lineK_length (ts := ts.take i) (k := j) (a := a) (fun t ht => HSZ.out t (List.mem_of_mem_take ht))
                  rw [List.length_take, HTN.out, Nat.min_eq_left hi] at h1
                  exact h1
                by_cases hlt : i < tn
                · obtain ⟨t, ht⟩ : ∃ t, ts[i]? = some t := ⟨ts[i]'(by rw [HTN.out]; exact hlt), List.getElem?_eq_getElem _⟩
                  obtain ⟨b, o, hta, p0, p1, p2⟩ := tok_at (HTR.out wr (below_step HBo.out HBi.out)) ht
                  subst hta
                  have hz := HSZ.out t (List.mem_of_getElem? ht)
                  have hka := HK.out t (List.mem_of_getElem? ht)
                  have e1 := lineK_snoc (ts.take i) t j a
                  have e2 := lineK_skip (ts.take i) t j a
                  rw [← take_succ ht, ← JL.out] at e1 e2
                  have hE0 : namesAt (ts.take i) j = [] → line = ⟨#[]⟩ := fun h => empty_of_len (by rw [JL.out, lineK_nil h])
                  have hE1 : namesAt (ts.take i) j ≠ [] → 1 ≤ line.size := fun h => by rw [← by8_length, JL.out]; exact lineK_pos h
                  obtain ⟨nm, tl, tk⟩ := t
                  simp only at p0 p1 p2 hz hka e1 e2
                  have hq1 : (⟨#[32]⟩ : ByteArray).size + nm.size ≤ 200 := by have : (⟨#[32]⟩ : ByteArray).size = 1 := rfl; omega
                  have hq2 : line.size + ((⟨#[32]⟩ : ByteArray) ++ nm).size ≤ 20000 := by rw [sz32]; omega
                  have hqs : (line ++ ((⟨#[32]⟩ : ByteArray) ++ nm)).size = line.size + 1 + nm.size := by rw [ByteArray.size_append, sz32]; omega
                  have hgk : tn - (i + 1) < gk := by omega
                  clear ht JL
                  by_cases hlv : tl = (j : Int)
                  · have hlv1 : (tl == (j : Int)) = true := by simpa using hlv
                    obtain ⟨hka1, hka2, hka3⟩ := hka hlv
                    have e1 := e1 hlv
                    clear e2 hka hlv
                    by_cases hE : namesAt (ts.take i) j = []
                    · obtain rfl := hE0 hE
                      rw [if_pos hE] at e1
                      have HE1 : Hid (by8 (keyA a) ++ 32 :: by8 nm = lineK (ts.take (i + 1)) j a) := by show _ = _; rw [e1]; simp [by8]
                      have hcmp : ((((⟨#[]⟩ : ByteArray) ++ (⟨#[32]⟩ ++ nm)).size : Int) == (nm.size : Int) + 1) = true := by
                        have h5 : (((⟨#[]⟩ : ByteArray) ++ (⟨#[32]⟩ ++ nm)).size : Int) = (nm.size : Int) + 1 := by
                          have : (⟨#[]⟩ : ByteArray).size = 0 := rfl
                          rw [hqs, this]; omega
                        rw [h5]; simp
                      have c0' := cell_alloc c0
                      have p2' := cell_alloc p2
                      clear e1 hE hE0 hE1
                      rcases (by omega : tk = 1 ∨ tk = 2 ∨ tk = 3) with rfl | rfl | rfl
                      · have kc : (wr.alloc (.cells #[.string ⟨#[]⟩, .string ⟨#[37, 108, 101, 102, 116]⟩, .string ⟨#[37, 114, 105, 103, 104, 116]⟩, .string ⟨#[37, 110, 111, 110, 97, 115, 115, 111, 99]⟩] 9)).cell? ⟨wr.heap.size, 1, none⟩ = some (.string ⟨#[37, 108, 101, 102, 116]⟩) := by rw [World.cell?_alloc_mark]; rfl
                        have hq3 : (⟨#[37, 108, 101, 102, 116]⟩ : ByteArray).size + ((⟨#[]⟩ : ByteArray) ++ (⟨#[32]⟩ ++ nm)).size ≤ 20000 := by
                          have h0 : (⟨#[]⟩ : ByteArray).size = 0 := rfl
                          have h1 : (⟨#[37, 108, 101, 102, 116]⟩ : ByteArray).size = 5 := rfl
                          omega
                        have HF : Hid (by8 ((⟨#[37, 108, 101, 102, 116]⟩ : ByteArray) ++ ((⟨#[]⟩ : ByteArray) ++ (⟨#[32]⟩ ++ nm))) = lineK (ts.take (i + 1)) j a) := by
                          show _ = _
                          rw [← HE1.out, ← hka1, by8_append, by8_append, by8_append]
                          rfl
                        have HBF : Hid (Below wo.heap.size wo (wr.alloc (.cells #[.string ⟨#[]⟩, .string ⟨#[37, 108, 101, 102, 116]⟩, .string ⟨#[37, 114, 105, 103, 104, 116]⟩, .string ⟨#[37, 110, 111, 110, 97, 115, 115, 111, 99]⟩] 9))) := below_step HBi.out (below_alloc _ _)
                        clear hka1
                        go_wp2_with fail
                        go_roundg (tn - (i + 1))
                        case measure => omega
                        case rel => exact ⟨i + 1, _, rfl, by simp, by omega, Nat.le_refl _, HBF, HF⟩
                      · have kc : (wr.alloc (.cells #[.string ⟨#[]⟩, .string ⟨#[37, 108, 101, 102, 116]⟩, .string ⟨#[37, 114, 105, 103, 104, 116]⟩, .string ⟨#[37, 110, 111, 110, 97, 115, 115, 111, 99]⟩] 9)).cell? ⟨wr.heap.size, 2, none⟩ = some (.string ⟨#[37, 114, 105, 103, 104, 116]⟩) := by rw [World.cell?_alloc_mark]; rfl
                        have hq3 : (⟨#[37, 114, 105, 103, 104, 116]⟩ : ByteArray).size + ((⟨#[]⟩ : ByteArray) ++ (⟨#[32]⟩ ++ nm)).size ≤ 20000 := by
                          have h0 : (⟨#[]⟩ : ByteArray).size = 0 := rfl
                          have h1 : (⟨#[37, 114, 105, 103, 104, 116]⟩ : ByteArray).size = 6 := rfl
                          omega
                        have HF : Hid (by8 ((⟨#[37, 114, 105, 103, 104, 116]⟩ : ByteArray) ++ ((⟨#[]⟩ : ByteArray) ++ (⟨#[32]⟩ ++ nm))) = lineK (ts.take (i + 1)) j a) := by
                          show _ = _
                          rw [← HE1.out, ← hka1, by8_append, by8_append, by8_append]
                          rfl
                        have HBF : Hid (Below wo.heap.size wo (wr.alloc (.cells #[.string ⟨#[]⟩, .string ⟨#[37, 108, 101, 102, 116]⟩, .string ⟨#[37, 114, 105, 103, 104, 116]⟩, .string ⟨#[37, 110, 111, 110, 97, 115, 115, 111, 99]⟩] 9))) := below_step HBi.out (below_alloc _ _)
                        clear hka1
                        go_wp2_with fail
                        go_roundg (tn - (i + 1))
                        case measure => omega
                        case rel => exact ⟨i + 1, _, rfl, by simp, by omega, Nat.le_refl _, HBF, HF⟩
                      · have kc : (wr.alloc (.cells #[.string ⟨#[]⟩, .string ⟨#[37, 108, 101, 102, 116]⟩, .string ⟨#[37, 114, 105, 103, 104, 116]⟩, .string ⟨#[37, 110, 111, 110, 97, 115, 115, 111, 99]⟩] 9)).cell? ⟨wr.heap.size, 3, none⟩ = some (.string ⟨#[37, 110, 111, 110, 97, 115, 115, 111, 99]⟩) := by rw [World.cell?_alloc_mark]; rfl
                        have hq3 : (⟨#[37, 110, 111, 110, 97, 115, 115, 111, 99]⟩ : ByteArray).size + ((⟨#[]⟩ : ByteArray) ++ (⟨#[32]⟩ ++ nm)).size ≤ 20000 := by
                          have h0 : (⟨#[]⟩ : ByteArray).size = 0 := rfl
                          have h1 : (⟨#[37, 110, 111, 110, 97, 115, 115, 111, 99]⟩ : ByteArray).size = 9 := rfl
                          omega
                        have HF : Hid (by8 ((⟨#[37, 110, 111, 110, 97, 115, 115, 111, 99]⟩ : ByteArray) ++ ((⟨#[]⟩ : ByteArray) ++ (⟨#[32]⟩ ++ nm))) = lineK (ts.take (i + 1)) j a) := by
                          show _ = _
                          rw [← HE1.out, ← hka1, by8_append, by8_append, by8_append]
                          rfl
                        have HBF : Hid (Below wo.heap.size wo (wr.alloc (.cells #[.string ⟨#[]⟩, .string ⟨#[37, 108, 101, 102, 116]⟩, .string ⟨#[37, 114, 105, 103, 104, 116]⟩, .string ⟨#[37, 110, 111, 110, 97, 115, 115, 111, 99]⟩] 9))) := below_step HBi.out (below_alloc _ _)
                        clear hka1
                        go_wp2_with fail
                        go_roundg (tn - (i + 1))
                        case measure => omega
                        case rel => exact ⟨i + 1, _, rfl, by simp, by omega, Nat.le_refl _, HBF, HF⟩
                    · have HE1 : Hid (by8 (line ++ (⟨#[32]⟩ ++ nm)) = lineK (ts.take (i + 1)) j a) := by
                        show _ = _
                        rw [e1, if_neg hE, by8_append, by8_append]
                        rfl
                      have hcmp : (((line ++ (⟨#[32]⟩ ++ nm)).size : Int) == (nm.size : Int) + 1) = false := by
                        have h5 := hE1 hE
                        rw [hqs]
                        simp only [beq_eq_false_iff_ne, ne_eq]
                        omega
                      clear e1 hE hE0 hE1
                      go_wp2_with fail
                      go_roundg (tn - (i + 1))
                      case measure => omega
                      case rel => exact ⟨i + 1, _, rfl, by simp, by omega, Nat.le_refl _, HBi, HE1⟩
                  · have hlv1 : (tl == (j : Int)) = false := by simpa using hlv
                    have HE1 : Hid (by8 line = lineK (ts.take (i + 1)) j a) := (e2 hlv).symm
                    clear e1 e2 hka hlv hE0 hE1
                    go_wp2_with fail
                    go_roundg (tn - (i + 1))
                    case measure => omega
                    case rel => exact ⟨i + 1, _, rfl, by simp, by omega, Nat.le_refl _, HBi, HE1⟩
                · obtain rfl : i = tn := by omega
                  have HF : Hid (by8 line = lineK ts j a) := by
                    have := JL.out
                    rwa [← HTN.out, List.take_length] at this
                  have hlz : line.size ≤ 11000 := by omega
                  clear JL
                  go_wp2_with fail
                  go_meet
                  exact ⟨HBi, _, rfl, hlz, HF⟩
            case rest =>
              obtain ⟨HBi, line, rfl, hlz, HL⟩ := hcut
              have HBF : Hid (Below w1.heap.size w1 wc) := below_step HBo.out HBi.out
              obtain ⟨w2, hw2⟩ : ∃ w2, w2 = wc := ⟨_, rfl⟩
              subst wc
              obtain ⟨le, hle⟩ : ∃ le : Bool, (line.toList == []) = le := ⟨_, rfl⟩
              go_upto_if 87 with fail
              have HLE : Hid (le = true ↔ line = ⟨#[]⟩) := by show _ ↔ _; rw [← hle]; exact toList_nil line
              clear hle HBi
              by_cases hE : namesAt ts j = []
              · have hl0 : line = ⟨#[]⟩ := empty_of_len (by rw [HL.out, lineK_nil hE])
                have h1 : le = true := HLE.out.2 hl0
                subst h1
                have HF : Hid (by8 s = tx (tokLn ts ++ levLs ts l (j + 1 - 1))) := by
                  have e := HLN.out
                  rw [if_pos hE] at e
                  show _ = _
                  rw [HJ1.out, ← List.append_assoc, tx_append, e, List.append_nil]
                  exact J.out
                clear hE hl0 HL HLE J
                go_wp2_with fail
                go_roundg (9 - (j + 1))
                case measure => omega
                case rel => exact ⟨j + 1, s, rfl, by simp, by omega, by omega, Nat.le_refl _, HBF, by omega, HF⟩
              · have hl0 : line ≠ ⟨#[]⟩ := fun h => by
                  have h1 := lineK_pos (a := a) hE
                  rw [← HL.out, h] at h1
                  exact absurd h1 (by decide)
                have h1 : le = false := b_false HLE.out hl0
                subst h1
                have hq1 : line.size + (⟨#[10]⟩ : ByteArray).size ≤ 11001 := by have : (⟨#[10]⟩ : ByteArray).size = 1 := rfl; omega
                have hqe : (line ++ (⟨#[10]⟩ : ByteArray)).size = line.size + 1 := by rw [ByteArray.size_append]; rfl
                have hq2 : s.size + (line ++ (⟨#[10]⟩ : ByteArray)).size ≤ 12000 * (j + 1) := by omega
                have HZ : Hid ((s ++ (line ++ ⟨#[10]⟩)).size ≤ 12000 * (j + 1)) := by show _ ≤ _; rw [ByteArray.size_append]; exact hq2
                have HF : Hid (by8 (s ++ (line ++ ⟨#[10]⟩)) = tx (tokLn ts ++ levLs ts l (j + 1 - 1))) := by
                  have e := HLN.out
                  rw [if_neg hE] at e
                  show _ = _
                  rw [HJ1.out, ← List.append_assoc, tx_append, e, by8_append, by8_append, J.out, HL.out]
                  rfl
                clear hE hl0 HL HLE J
                go_wp2_with fail
                go_roundg (9 - (j + 1))
                case measure => omega
                case rel => exact ⟨j + 1, _, rfl, by simp, by omega, by omega, Nat.le_refl _, HBF, HZ.out, HF⟩
          · obtain rfl : j = 9 := by omega
            have hj' : ¬ ((9 : Nat) : Int) ≤ 8 := by omega
            have hz9 : s.size ≤ 120000 := by omega
            go_wp2_with fail
            go_meet
            exact ⟨HBo, _, rfl, hz9, J⟩
      case rest =>
        obtain ⟨HB2, s1, rfl, hz1, HS1⟩ := hcut
        obtain ⟨w2, hw2⟩ : ∃ w2, w2 = wc := ⟨_, rfl⟩
        subst wc
        clear HS0 hz0
        obtain ⟨-, c1, -, -⟩ := C0.out w2 HB2.out
        obtain ⟨se, hse⟩ : ∃ pe : Bool, (st.toList == []) = pe := ⟨_, rfl⟩
        go_upto_if 94 with fail
        have HSE : Hid (se = true ↔ st = ⟨#[]⟩) := by show _ ↔ _; rw [← hse]; exact toList_nil st
        clear hse
        go_cut [3] (fun s3 wd => wd = w2 ∧ ∃ s : ByteArray, s3 = .string s ∧ s.size ≤ 120200 ∧ Hid (by8 s = tx (tokLn ts ++ levLs ts l 8 ++ startLn st)))
        case first =>
          by_cases hst : st = ⟨#[]⟩
          · have h1 : se = true := HSE.out.2 hst
            subst h1
            have HF : Hid (by8 s1 = tx (tokLn ts ++ levLs ts l 8 ++ startLn st)) := by
              have e : startLn st = [] := by unfold startLn; rw [if_pos hst]
              rw [e, List.append_nil]; exact HS1
            clear hst
            go_wp2_with fail
            go_meet
            exact ⟨rfl, _, rfl, by omega, HF⟩
          · have h1 : se = false := b_false HSE.out hst
            subst h1
            have e7 : (⟨#[37, 115, 116, 97, 114, 116, 32]⟩ : ByteArray).size = 7 := rfl
            have e8 : ((⟨#[37, 115, 116, 97, 114, 116, 32]⟩ : ByteArray) ++ st).size = 7 + st.size := by rw [ByteArray.size_append, e7]
            have e9 : (((⟨#[37, 115, 116, 97, 114, 116, 32]⟩ : ByteArray) ++ st) ++ ⟨#[10]⟩).size = 8 + st.size := by rw [ByteArray.size_append, e8]; show 7 + st.size + 1 = _; omega
            have hq1 : (⟨#[37, 115, 116, 97, 114, 116, 32]⟩ : ByteArray).size + st.size ≤ 200 := by omega
            have hq2 : ((⟨#[37, 115, 116, 97, 114, 116, 32]⟩ : ByteArray) ++ st).size + (⟨#[10]⟩ : ByteArray).size ≤ 200 := by rw [e8]; show 7 + st.size + 1 ≤ _; omega
            have hq3 : s1.size + (((⟨#[37, 115, 116, 97, 114, 116, 32]⟩ : ByteArray) ++ st) ++ ⟨#[10]⟩).size ≤ 120200 := by omega
            have HZ : Hid ((s1 ++ (((⟨#[37, 115, 116, 97, 114, 116, 32]⟩ : ByteArray) ++ st) ++ ⟨#[10]⟩)).size ≤ 120200) := by show _ ≤ _; rw [ByteArray.size_append]; exact hq3
            have HF : Hid (by8 (s1 ++ (((⟨#[37, 115, 116, 97, 114, 116, 32]⟩ : ByteArray) ++ st) ++ ⟨#[10]⟩)) = tx (tokLn ts ++ levLs ts l 8 ++ startLn st)) := by
              have e : startLn st = [([⟨#[37, 115, 116, 97, 114, 116]⟩, st] : List ByteArray).map by8] := by unfold startLn; rw [if_neg hst]
              show _ = _
              rw [e, tx_append, tx_one, by8_append, by8_append, by8_append, HS1.out]
              simp [lineT, jn, sp, by8]
            clear hst e7 e8 e9
            go_wp2_with fail
            go_meet
            exact ⟨rfl, _, rfl, HZ.out, HF⟩
        case rest =>
          obtain ⟨hwc, s2, rfl, hz2, HS2⟩ := hcut
          subst wc
          clear HS1 hz1 HSE c1
          obtain ⟨-, -, c2, -⟩ := C0.out w2 HB2.out
          go_upto_if 103 with fail
          go_cut [3] (fun s3 wd => Hid (Below w1.heap.size w1 wd) ∧ ∃ s : ByteArray, s3 = .string s ∧ s.size ≤ 120400 ∧ Hid (by8 s = tx (tokLn ts ++ levLs ts l 8 ++ startLn st ++ expLn ex)))
          case first =>
            by_cases hex : ex = 0
            · have h1 : ¬ 0 < ex := by omega
              have HF : Hid (by8 s2 = tx (tokLn ts ++ levLs ts l 8 ++ startLn st ++ expLn ex)) := by
                have e : expLn ex = [] := by unfold expLn; rw [if_pos hex]
                rw [e, List.append_nil]; exact HS2
              clear hex
              go_wp2_with fail
              go_meet
              exact ⟨HB2, _, rfl, by omega, HF⟩
            · have h1 : 0 < ex := by omega
              have HC : Hid (Calls Tryd.prog 29 #[.int .i64 ex] w2 fun e w' => ∃ t, e = .returned (.string t) ∧ by8 t = dg 6 ex.toNat [] ∧ Below w2.heap.size w2 w') := by
                have := digits_calls ex.toNat w2 (by omega)
                rwa [show ((ex.toNat : Nat) : Int) = ex by omega] at this
              go_wp2_with fail
              refine HC.out.mono ?_
              rintro e w5 ⟨t, rfl, ht, hB5⟩
              have hts : t.size ≤ 100 := by
                rw [← by8_length, ht]
                exact dg_len _ (by omega)
              have HB5 : Hid (Below w1.heap.size w1 w5) := below_step HB2.out hB5
              have e7 : (⟨#[37, 101, 120, 112, 101, 99, 116, 32]⟩ : ByteArray).size = 8 := rfl
              have e8 : ((⟨#[37, 101, 120, 112, 101, 99, 116, 32]⟩ : ByteArray) ++ t).size = 8 + t.size := by rw [ByteArray.size_append, e7]
              have e9 : (((⟨#[37, 101, 120, 112, 101, 99, 116, 32]⟩ : ByteArray) ++ t) ++ ⟨#[10]⟩).size = 9 + t.size := by rw [ByteArray.size_append, e8]; show 8 + t.size + 1 = _; omega
              have hq1 : (⟨#[37, 101, 120, 112, 101, 99, 116, 32]⟩ : ByteArray).size + t.size ≤ 200 := by omega
              have hq2 : ((⟨#[37, 101, 120, 112, 101, 99, 116, 32]⟩ : ByteArray) ++ t).size + (⟨#[10]⟩ : ByteArray).size ≤ 200 := by rw [e8]; show 8 + t.size + 1 ≤ _; omega
              have hq3 : s2.size + (((⟨#[37, 101, 120, 112, 101, 99, 116, 32]⟩ : ByteArray) ++ t) ++ ⟨#[10]⟩).size ≤ 120400 := by omega
              have HZ : Hid ((s2 ++ (((⟨#[37, 101, 120, 112, 101, 99, 116, 32]⟩ : ByteArray) ++ t) ++ ⟨#[10]⟩)).size ≤ 120400) := by show _ ≤ _; rw [ByteArray.size_append]; exact hq3
              have HF : Hid (by8 (s2 ++ (((⟨#[37, 101, 120, 112, 101, 99, 116, 32]⟩ : ByteArray) ++ t) ++ ⟨#[10]⟩)) = tx (tokLn ts ++ levLs ts l 8 ++ startLn st ++ expLn ex)) := by
                have e : expLn ex = [[by8 ⟨#[37, 101, 120, 112, 101, 99, 116]⟩, by8 t]] := by unfold expLn; rw [if_neg hex, ← ht]
                show _ = _
                rw [e, tx_append, tx_one, by8_append, by8_append, by8_append, HS2.out]
                simp [lineT, jn, sp, by8]
              clear hex ht hB5 HC e7 e8 e9
              go_wp2_with fail
              go_meet
              exact ⟨HB5, _, rfl, HZ.out, HF⟩
          case rest =>
            obtain ⟨HB3, s3, rfl, hz3, HS3⟩ := hcut
            obtain ⟨w3, hw3⟩ : ∃ w3, w3 = wc := ⟨_, rfl⟩
            subst wc
            clear HS2 hz2 c2 HB2
            have hq0 : s3.size + (⟨#[37, 37, 10]⟩ : ByteArray).size ≤ 121000 := by have : (⟨#[37, 37, 10]⟩ : ByteArray).size = 3 := rfl; omega
            have hz4 : (s3 ++ (⟨#[37, 37, 10]⟩ : ByteArray)).size ≤ 121000 := by rw [ByteArray.size_append]; exact hq0
            have HS4 : Hid (by8 (s3 ++ (⟨#[37, 37, 10]⟩ : ByteArray)) = tx (headLn ⟨ts, st, ex, rs⟩ l)) := by
              show _ = _
              unfold headLn
              rw [tx_append, tx_one, by8_append, HS3.out]
              rfl
            go_upto_block 6 with fail
            clear hq0 HS3 hz3
            generalize s3 ++ (⟨#[37, 37, 10]⟩ : ByteArray) = s4 at hz4 HS4 ⊢
            go_cut [3] (fun s3 wd => Hid (Below w1.heap.size w1 wd) ∧ s3 = .string T)
            case first =>
              go_wp2_with fail
              go_loopg [3, 8] rn (fun kx s3 s8 wr => ∃ (i : Nat) (s : ByteArray), s3 = .string s ∧ s8 = .int .i64 i ∧ i ≤ rn ∧ rn - i ≤ kx ∧ Hid (Below w1.heap.size w1 wr) ∧ s.size ≤ 121000 + 20000 * i ∧ Hid (by8 s = tx (headLn ⟨ts, st, ex, rs⟩ l ++ (rs.take i).map fun r => (ruleL r).map by8)))
              case atStart => exact ⟨0, s4, rfl, rfl, Nat.zero_le _, by omega, HB3, by omega, (by show _ = _; rw [List.take_zero, List.map_nil, List.append_nil]; exact HS4.out)⟩
              case round =>
                obtain ⟨i, s, rfl, rfl, hi, hg, HBr, hzs, J⟩ := hrel
                clear HS4 hz4 HB3
                obtain ⟨-, -, -, c3⟩ := C0.out wr HBr.out
                by_cases hlt : i < rn
                · obtain ⟨x, hx⟩ : ∃ x, rs[i]? = some x := ⟨rs[i]'(by rw [HRN.out]; exact hlt), List.getElem?_eq_getElem _⟩
                  obtain ⟨b, o, xa, xc, hra, p0, p1, p2, hrow⟩ := (HRR.out wr HBr.out).at hx
                  subst hra
                  have hsz := HSR.out x (List.mem_of_getElem? hx)
                  have HJ2 : Hid (tx (headLn ⟨ts, st, ex, rs⟩ l ++ (rs.take (i + 1)).map fun r => (ruleL r).map by8) = by8 s ++ (by8 x.l ++ [32, 58] ++ sp (x.r.map by8) ++ (if x.p = ⟨#[]⟩ then [] else [32, 37, 112, 114, 101, 99, 32] ++ by8 x.p) ++ [32, 59, 10])) := by
                    show _ = _
                    rw [take_succ hx, List.map_append, ← List.append_assoc, tx_append, ← J.out, ← ruleT x, ← tx_one]
                    rfl
                  obtain ⟨nl, nr, np⟩ := x
                  simp only at p0 p1 p2 hrow hsz HJ2
                  obtain ⟨n, HN⟩ : ∃ n, Hid (nr.length = n) := ⟨_, rfl⟩
                  rw [HN.out] at p1 hrow hsz
                  have hle := hrow.le
                  have hmx : xc ≤ 9223372036854775807 := by have := hrow.max; unfold maxLen at this; omega
                  have HRW : Hid (Row wr 1 xa n xc (strC nr)) := hrow
                  clear hx hrow J
                  go_upto_region 33 with fail
                  have d0 : (wr.alloc (.cells #[.string nl, .slice xa n xc, .string np] 39)).cell? ⟨wr.heap.size, 0, none⟩ = some (.string nl) := by rw [World.cell?_alloc_mark]; rfl
                  have d1 : (wr.alloc (.cells #[.string nl, .slice xa n xc, .string np] 39)).cell? ⟨wr.heap.size, 1, none⟩ = some (.slice xa n xc) := by rw [World.cell?_alloc_mark]; rfl
                  have d2 : (wr.alloc (.cells #[.string nl, .slice xa n xc, .string np] 39)).cell? ⟨wr.heap.size, 2, none⟩ = some (.string np) := by rw [World.cell?_alloc_mark]; rfl
                  have HQ : Hid (Row (wr.alloc (.cells #[.string nl, .slice xa n xc, .string np] 39)) 1 xa n xc (strC nr)) := HRW.out.below (below_alloc _ _)
                  have HQB : Hid (Below w1.heap.size w1 (wr.alloc (.cells #[.string nl, .slice xa n xc, .string np] 39))) := below_step HBr.out (below_alloc _ _)
                  generalize wr.alloc (.cells #[.string nl, .slice xa n xc, .string np] 39) = wq at HQ HQB d0 d1 d2 ⊢
                  generalize wr.heap.size = tb at d0 d1 d2 ⊢
                  clear p0 p1 p2 HRW c3 HBr
                  have e2 : (⟨#[32, 58]⟩ : ByteArray).size = 2 := rfl
                  have hq1 : nl.size + (⟨#[32, 58]⟩ : ByteArray).size ≤ 200 := by omega
                  have hqe : (nl ++ (⟨#[32, 58]⟩ : ByteArray)).size = nl.size + 2 := by rw [ByteArray.size_append, e2]
                  have hq2 : s.size + (nl ++ (⟨#[32, 58]⟩ : ByteArray)).size ≤ 121102 + 20000 * i := by omega
                  have hz5 : (s ++ (nl ++ (⟨#[32, 58]⟩ : ByteArray))).size ≤ 121102 + 20000 * i := by rw [ByteArray.size_append]; exact hq2
                  have HS5 : Hid (by8 s ++ (by8 nl ++ [32, 58]) = by8 (s ++ (nl ++ (⟨#[32, 58]⟩ : ByteArray)))) := by show _ = _; rw [by8_append, by8_append]; rfl
                  go_upto_block 8 with fail
                  clear hq1 hqe hq2 e2
                  generalize s ++ (nl ++ (⟨#[32, 58]⟩ : ByteArray)) = s5 at hz5 HS5 ⊢
                  go_cut [3] from 113 to 154 (fun s3 wd => wd = wq ∧ ∃ z : ByteArray, s3 = .string z ∧ z.size ≤ 131300 + 20000 * i ∧ Hid (by8 z = by8 s5 ++ sp (nr.map by8)))
                  case first =>
                    go_wp2_with fail
                    go_loopg [3, 10] n (fun kx s3 s10 wr => ∃ (k : Nat) (z : ByteArray), s3 = .string z ∧ s10 = .int .i64 k ∧ k ≤ n ∧ n - k ≤ kx ∧ wr = wq ∧ z.size ≤ 121102 + 20000 * i + 101 * k ∧ Hid (by8 z = by8 s5 ++ sp ((nr.take k).map by8)))
                    case atStart => exact ⟨0, s5, rfl, rfl, Nat.zero_le _, by omega, rfl, by omega, (by show _ = _; rw [List.take_zero, List.map_nil]; exact (List.append_nil _).symm)⟩
                    case round =>
                      obtain ⟨k, z, rfl, rfl, hk, hg2, hwr, hzz, K⟩ := hrel
                      subst wr
                      by_cases hlt2 : k < n
                      · obtain ⟨y, hy⟩ : ∃ y, nr[k]? = some y := ⟨nr[k]'(by rw [HN.out]; exact hlt2), List.getElem?_eq_getElem _⟩
                        obtain ⟨b2, o2, hxa, q0⟩ := str_at HQ.out hy
                        subst hxa
                        have hyz := hsz.2.2.2 y (List.mem_of_getElem? hy)
                        have hq1 : (⟨#[32]⟩ : ByteArray).size + y.size ≤ 200 := by have : (⟨#[32]⟩ : ByteArray).size = 1 := rfl; omega
                        have hq2 : z.size + ((⟨#[32]⟩ : ByteArray) ++ y).size ≤ 121102 + 20000 * i + 101 * (k + 1) := by rw [sz32]; omega
                        have HZ : Hid ((z ++ (⟨#[32]⟩ ++ y)).size ≤ 121102 + 20000 * i + 101 * (k + 1)) := by show _ ≤ _; rw [ByteArray.size_append]; exact hq2
                        have HF : Hid (by8 (z ++ (⟨#[32]⟩ ++ y)) = by8 s5 ++ sp ((nr.take (k + 1)).map by8)) := by
                          show _ = _
                          rw [take_succ hy, List.map_append, sp_append, by8_append, by8_append, K.out, List.map_singleton, sp_one, List.append_assoc]
                          rfl
                        clear hy K
                        go_wp2_with fail
                        go_roundg (n - (k + 1))
                        case measure => omega
                        case rel => exact ⟨k + 1, _, rfl, by simp, by omega, Nat.le_refl _, rfl, HZ.out, HF⟩
                      · obtain rfl : k = n := by omega
                        have HF : Hid (by8 z = by8 s5 ++ sp (nr.map by8)) := by
                          have := K.out
                          rwa [← HN.out, List.take_length] at this
                        have hzf : z.size ≤ 131300 + 20000 * i := by omega
                        clear K
                        go_wp2_with fail
                        go_meet
                        exact ⟨rfl, _, rfl, hzf, HF⟩
                  case rest =>
                    obtain ⟨hwc, z, rfl, hzz, HZS⟩ := hcut
                    subst wc
                    obtain ⟨pe, hpe⟩ : ∃ pe : Bool, (np.toList == []) = pe := ⟨_, rfl⟩
                    go_upto_if 147 with fail
                    have HPE : Hid (pe = true ↔ np = ⟨#[]⟩) := by show _ ↔ _; rw [← hpe]; exact toList_nil np
                    clear hpe
                    have e3 : (⟨#[32, 59, 10]⟩ : ByteArray).size = 3 := rfl
                    by_cases hp : np = ⟨#[]⟩
                    · have h1 : pe = true := HPE.out.2 hp
                      subst h1
                      have hq1 : z.size + (⟨#[32, 59, 10]⟩ : ByteArray).size ≤ 121000 + 20000 * (i + 1) := by omega
                      have HZ : Hid ((z ++ ⟨#[32, 59, 10]⟩).size ≤ 121000 + 20000 * (i + 1)) := by show _ ≤ _; rw [ByteArray.size_append]; exact hq1
                      have HF : Hid (by8 (z ++ ⟨#[32, 59, 10]⟩) = tx (headLn ⟨ts, st, ex, rs⟩ l ++ (rs.take (i + 1)).map fun r => (ruleL r).map by8)) := by
                        show _ = _
                        rw [HJ2.out, if_pos hp, by8_append, HZS.out, ← HS5.out]
                        simp [by8]
                      clear hp HJ2 HZS HS5
                      go_wp2_with fail
                      go_roundg (rn - (i + 1))
                      case measure => omega
                      case rel => exact ⟨i + 1, _, rfl, by simp, by omega, Nat.le_refl _, HQB, HZ.out, HF⟩
                    · have h1 : pe = false := b_false HPE.out hp
                      subst h1
                      have e7 : (⟨#[32, 37, 112, 114, 101, 99, 32]⟩ : ByteArray).size = 7 := rfl
                      have e8 : ((⟨#[32, 37, 112, 114, 101, 99, 32]⟩ : ByteArray) ++ np).size = 7 + np.size := by rw [ByteArray.size_append, e7]
                      have e9 : (z ++ ((⟨#[32, 37, 112, 114, 101, 99, 32]⟩ : ByteArray) ++ np)).size = z.size + 7 + np.size := by rw [ByteArray.size_append, e8]; omega
                      have hq1 : (⟨#[32, 37, 112, 114, 101, 99, 32]⟩ : ByteArray).size + np.size ≤ 200 := by omega
                      have hq2 : z.size + ((⟨#[32, 37, 112, 114, 101, 99, 32]⟩ : ByteArray) ++ np).size ≤ 121000 + 20000 * (i + 1) := by omega
                      have hq3 : (z ++ ((⟨#[32, 37, 112, 114, 101, 99, 32]⟩ : ByteArray) ++ np)).size + (⟨#[32, 59, 10]⟩ : ByteArray).size ≤ 121000 + 20000 * (i + 1) := by omega
                      have HZ : Hid (((z ++ ((⟨#[32, 37, 112, 114, 101, 99, 32]⟩ : ByteArray) ++ np)) ++ ⟨#[32, 59, 10]⟩).size ≤ 121000 + 20000 * (i + 1)) := by show _ ≤ _; rw [ByteArray.size_append]; exact hq3
                      have HF : Hid (by8 ((z ++ ((⟨#[32, 37, 112, 114, 101, 99, 32]⟩ : ByteArray) ++ np)) ++ ⟨#[32, 59, 10]⟩) = tx (headLn ⟨ts, st, ex, rs⟩ l ++ (rs.take (i + 1)).map fun r => (ruleL r).map by8)) := by
                        show _ = _
                        rw [HJ2.out, if_neg hp, by8_append, by8_append, by8_append, HZS.out, ← HS5.out]
                        simp [by8]
                      clear hp HJ2 HZS HS5
                      go_wp2_with fail
                      go_roundg (rn - (i + 1))
                      case measure => omega
                      case rel => exact ⟨i + 1, _, rfl, by simp, by omega, Nat.le_refl _, HQB, HZ.out, HF⟩
                · obtain rfl : i = rn := by omega
                  have HF : Hid (s = T) := by
                    apply by8_inj
                    rw [HTX.out, J.out, ← HRN.out, List.take_length]
                    rfl
                  clear J
                  go_wp2_with fail
                  go_meet
                  exact ⟨HBr, by rw [HF.out]⟩
            case rest =>
              obtain ⟨HBF, rfl⟩ := hcut
              have HBE : Hid (Below w.heap.size w wc) := below_step HB1.out HBF.out
              go_wp2_with fail
              go_ret
              exact ⟨rfl, HBE.out⟩

end Go.Proofs.YtdgadamkiililaaDoor
