/- Texts that the proofs of the First statements stand on, part Own15. -/
import Derived.Test.YtngclmglmhiljaaGreatDoorRows
import Derived.ProofKit
import Derived.LaidMore
import Derived.Lib.LaidTab
import Derived.Test.YtngclmglmhiljaaGreatDoorOwn14
set_option maxHeartbeats 16000000
set_option maxRecDepth 100000
namespace Go.Proofs.YtngclmglmhiljaaGreatDoor
open Go.RowKit
theorem qkt (w:World) (hp:Pow w):Calls Tryz.prog 26 #[] w fun e w'=>e=.returned (.bool true)/\Below w.heap.size w w':=by
 have HB:Hid (Calls Tryz.prog 52 #[] w fun e w'=>e=.returned (.bool true)/\Below w.heap.size w w'):=qks w hp
 clear hp
 go_enter Tryz.func26,Tryz.ntmps26
 go_wp2_with fail
 refine HB.out.mono ?_
 rintro e V ⟨rfl,hb⟩
 go_wp2_with fail
 go_ret
 exact ⟨rfl,hb⟩
def Lst (w w':World) (l:List Nat) (e:Ending):Prop:=∃ la lc,e=.returned (.slice la l.length lc)/\Row w' 1 la l.length lc (natC l)/\Below w.heap.size w w'
theorem Told.is {w w':World} {m:Nat} {Q:Nat->Prop} {e:Ending} {l:List Nat} (h:Told w w' m Q e) (k:IsL m Q l):Lst w w' l e:=by
 obtain ⟨l',la,lc,h1,h2,h3,h4⟩:=h
 have:=h2.uni k
 subst this
 exact ⟨la,lc,h1,Row.of_own h3,h4⟩
theorem qrw:IsL 4 (FstP (spG qu) 4) [0]:=qdn (fun t=>t == 0) (fun t _=>by rw [qax,beq_iff_eq];omega)
theorem qqs:IsL 4 (FolP (spG qu) 4) [1,2,3]:=qdn (fun t=>t != 0) (fun t _=>by rw [qqj,bne_iff_ne];omega)
theorem q_of:IsL 4 (fun t=>FstL (spG qu) [1,4] t\/((∀ z∈[1,4],Nul (spG qu) z)/\(t:Int)=3)) [1]:=qdn (fun t=>t == 1) (fun t _=>by
 rw [qbd,qax,beq_iff_eq]
 constructor
 ·intro h;exact .inl (.inl ⟨by omega,h⟩)
 ·rintro (h | ⟨h,-⟩)
  ·omega
  ·exact absurd (h 1 (by simp)) (qdm 1))
theorem qsg:IsL 4 (fun t=>FstL (spG qu) [] t\/((∀ z∈([]:List Nat),Nul (spG qu) z)/\(t:Int)=3)) [3]:=qdn (fun t=>t == 3) (fun t _=>by
 rw [beq_iff_eq]
 constructor
 ·intro h;exact .inr ⟨fun z hz=>(by cases hz),by omega⟩
 ·rintro (h | ⟨-,h⟩)
  ·exact absurd h qc9
  ·omega)
theorem qcb (W:World) (l:List Nat) (n:Nat) (hn:l.length=n) (hn2:n<=1000):Row (W.alloc (.cells (natC l).toArray 3)) 1 (some ⟨W.heap.size,0,none⟩) n n (natC l):=by
 refine ⟨by rw [js,hn,Nat.mul_one],Nat.le_refl _,by unfold maxLen;omega,.inr ⟨_,_,rfl,fun j u hu=>?_⟩⟩
 have h:(W.alloc (.cells (natC l).toArray 3)).heap[W.heap.size]?=some (.cells (natC l).toArray 3 (0,0)):=heap_alloc_new _ _
 rw [Nat.zero_add,qe h,<-hu]
 exact List.getElem?_toArray
theorem qsh:qu.ts.length+1+(lfs qu.rs).length=5:=by rw [vt];rfl
theorem qja (w:World) (h:Hd) (hG:IsG w h qu):Calls Tryz.prog 10 #[gv h qu] w fun e w'=>∃ na nc la lc aa ac ra rc,e=.returned (.tuple #[.agg #[.int .i64 3,.int .i64 1,.int .i64 4,.int .i64 0,.slice na 5 nc,.slice la 3 lc,.slice aa 3 ac,.slice ra 4 rc],.int .i64 0])/\IsSp w' ⟨na,nc,la,lc,aa,ac,ra,rc⟩ (spG qu)/\Below w.heap.size w w':=by
 refine (qmg qu h w 0 hG qhr).mono ?_
 rintro e w' ⟨⟨na,nc,la,lc,aa,ac,ra,rc⟩,rfl,hs,hb⟩
 have e1:spK qu 0=spG qu:=if_pos rfl
 rw [e1] at hs ⊢
 refine ⟨na,nc,la,lc,aa,ac,ra,rc,?_,hs,hb⟩
 rw [xy]
 rfl
theorem qku (w:World) (hp:Pow w):Calls Tryz.prog 9 #[] w fun e w'=>e=.returned (.bool true)/\Below w.heap.size w w':=by
 have HP:Hid (Pow w):=hp
 clear hp
 have HSM:Hid (∀ V:World,Calls Tryz.prog 25 #[] V fun e w'=>∃ ta tc ra rc,e=.returned (.agg #[.slice ta 3 tc,.string ⟨#[]⟩,.int .i64 0,.slice ra 3 rc])/\(∃ qs,OwnG w' V.heap.size ⟨ta,tc,ra,rc⟩ qu qs)/\Below V.heap.size V w'):=fun V=>(qdb V).mono fun e w' ⟨⟨ta,tc,ra,rc⟩,qs,h1,h2,h3⟩=>⟨ta,tc,ra,rc,h1,⟨qs,h2⟩,h3⟩
 go_enter Tryz.func9,Tryz.ntmps9
 go_wp2_with fail
 refine (HSM.out _).mono ?_
 rintro e V1 ⟨ta,tc,ra0,rc0,rfl,ho1,hB1⟩
 have HC:Hid (Calls Tryz.prog 10 #[.agg #[.slice ta 3 tc,.string ⟨#[]⟩,.int .i64 0,.slice ra0 3 rc0]] V1 fun e w'=>∃ na nc la lc aa ac ra rc,e=.returned (.tuple #[.agg #[.int .i64 3,.int .i64 1,.int .i64 4,.int .i64 0,.slice na 5 nc,.slice la 3 lc,.slice aa 3 ac,.slice ra 4 rc],.int .i64 0])/\IsSp w' ⟨na,nc,la,lc,aa,ac,ra,rc⟩ (spG qu)/\Below V1.heap.size V1 w'):=by
  obtain ⟨qs,ho⟩:=ho1
  exact qja V1 ⟨ta,tc,ra0,rc0⟩ (ho.isG qan)
 have HB1:Hid (Below w.heap.size w V1):=hB1
 clear ho1 hB1 HSM
 go_wp2_with fail
 refine HC.out.mono ?_
 rintro e V2 ⟨na,nc,la,lc,aa,ac,ra,rc,rfl,hs,hB2⟩
 have hv:Below V2.heap.size V2 (V2.alloc (.cells #[.int .i64 3,.int .i64 1,.int .i64 4,.int .i64 0,.slice na 5 nc,.slice la 3 lc,.slice aa 3 ac,.slice ra 4 rc] 31)):=qb _ _
 have hx:(V2.alloc (.cells #[.int .i64 3,.int .i64 1,.int .i64 4,.int .i64 0,.slice na 5 nc,.slice la 3 lc,.slice aa 3 ac,.slice ra 4 rc] 31)).heap[V2.heap.size]?=some (.cells #[.int .i64 3,.int .i64 1,.int .i64 4,.int .i64 0,.slice na 5 nc,.slice la 3 lc,.slice aa 3 ac,.slice ra 4 rc] 31 (0,0)):=heap_alloc_new _ _
 have H2:Hid (IsSp (V2.alloc (.cells #[.int .i64 3,.int .i64 1,.int .i64 4,.int .i64 0,.slice na 5 nc,.slice la 3 lc,.slice aa 3 ac,.slice ra 4 rc] 31)) ⟨na,nc,la,lc,aa,ac,ra,rc⟩ (spG qu)/\(V2.alloc (.cells #[.int .i64 3,.int .i64 1,.int .i64 4,.int .i64 0,.slice na 5 nc,.slice la 3 lc,.slice aa 3 ac,.slice ra 4 rc] 31)).heap[V2.heap.size]?=some (.cells #[.int .i64 3,.int .i64 1,.int .i64 4,.int .i64 0,.slice na 5 nc,.slice la 3 lc,.slice aa 3 ac,.slice ra 4 rc] 31 (0,0))/\Below w.heap.size w (V2.alloc (.cells #[.int .i64 3,.int .i64 1,.int .i64 4,.int .i64 0,.slice na 5 nc,.slice la 3 lc,.slice aa 3 ac,.slice ra 4 rc] 31))):=⟨hs.below hv,hx,qd (qd HB1.out hB2) hv⟩
 clear hs hv hx hB2 HC HB1
 go_upto_region 2 with fail
 generalize V2.alloc (.cells #[.int .i64 3,.int .i64 1,.int .i64 4,.int .i64 0,.slice na 5 nc,.slice la 3 lc,.slice aa 3 ac,.slice ra 4 rc] 31)=V3 at H2 ⊢
 generalize V2.heap.size=sb at H2 ⊢
 have k0:V3.cell? ⟨sb,0,none⟩=some (.int .i64 3):=by rw [qe H2.out.2.1];rfl
 have k1:V3.cell? ⟨sb,1,none⟩=some (.int .i64 1):=by rw [qe H2.out.2.1];rfl
 have k2:V3.cell? ⟨sb,2,none⟩=some (.int .i64 4):=by rw [qe H2.out.2.1];rfl
 have k3:V3.cell? ⟨sb,3,none⟩=some (.int .i64 0):=by rw [qe H2.out.2.1];rfl
 have k4:V3.cell? ⟨sb,4,none⟩=some (.slice na 5 nc):=by rw [qe H2.out.2.1];rfl
 have k5:V3.cell? ⟨sb,5,none⟩=some (.slice la 3 lc):=by rw [qe H2.out.2.1];rfl
 have k6:V3.cell? ⟨sb,6,none⟩=some (.slice aa 3 ac):=by rw [qe H2.out.2.1];rfl
 have k7:V3.cell? ⟨sb,7,none⟩=some (.slice ra 4 rc):=by rw [qe H2.out.2.1];rfl
 have HN:Hid (Calls Tryz.prog 17 #[.agg #[.int .i64 3,.int .i64 1,.int .i64 4,.int .i64 0,.slice na 5 nc,.slice la 3 lc,.slice aa 3 ac,.slice ra 4 rc]] V3 fun e w'=>∃ fb p E WL,e=.returned (.pointer (some ⟨fb,0,none⟩))/\FS w' V3.heap.size fb p 5 (spG qu) E WL/\Below V3.heap.size V3 w'):=by
  have hns:=qqy qhr
  rw [qsh] at hns
  have hc:=qgs V3 ⟨na,nc,la,lc,aa,ac,ra,rc⟩ (spG qu) 5 hns H2.out.1
  have e1:sv ⟨na,nc,la,lc,aa,ac,ra,rc⟩ (spG qu)=.agg #[.int .i64 3,.int .i64 1,.int .i64 4,.int .i64 0,.slice na 5 nc,.slice la 3 lc,.slice aa 3 ac,.slice ra 4 rc]:=by
   unfold sv sC
   rw [xy]
   rfl
  rw [e1] at hc
  exact hc
 go_wp2_with fail
 refine HN.out.mono ?_
 rintro e V4 ⟨fb,p,E,WL,rfl,hfs,hB4⟩
 clear k0 k1 k2 k3 k4 k5 k6 k7 HN
 have H4:Hid (FS V4 V3.heap.size fb p 5 (spG qu) E WL/\Below w.heap.size w V4):=⟨hfs,qd H2.out.2.2 hB4⟩
 clear hfs hB4 H2
 have HA:Hid (∀ V,Below V4.heap.size V4 V->(Calls Tryz.prog 20 #[.pointer (some ⟨fb,0,none⟩),.int .i64 4] V fun e w'=>Lst V w' [0] e)/\(Calls Tryz.prog 21 #[.pointer (some ⟨fb,0,none⟩),.int .i64 4] V fun e w'=>Lst V w' [1,2,3] e)/\(Calls Tryz.prog 23 #[.pointer (some ⟨fb,0,none⟩),.int .i64 4] V fun e w'=>e=.returned (.bool false)/\w'=V)/\(∀ sa sc,Row V 1 sa 2 sc (natC [1,4])->Calls Tryz.prog 19 #[.pointer (some ⟨fb,0,none⟩),.slice sa 2 sc,.int .i64 3] V fun e w'=>Lst V w' [1] e)/\(Calls Tryz.prog 19 #[.pointer (some ⟨fb,0,none⟩),.slice none 0 0,.int .i64 3] V fun e w'=>Lst V w' [3] e)):=fun V hV=>by
  have hF:=H4.out.1.below hV
  have ht:=ve.1
  refine ⟨?_,?_,?_,fun sa sc hr=>?_,?_⟩
  ·refine (qgt V _ fb 5 p E _ WL hF 4 (by omega) (by rw [ht];omega)).mono fun e w' h=>?_
   rw [ht] at h
   exact h.is qrw
  ·refine (qdx V _ fb 5 p E _ WL hF 4 (by omega) (by rw [ht];omega)).mono fun e w' h=>?_
   rw [ht] at h
   exact h.is qqs
  ·have hn:isF E 4=false:=by
    cases hb:isF E 4
    ·rfl
    ·exact absurd ((hF.emp 4).1 hb) (qdm 4)
   have:=qc0 V fb p.eb 5 5 4 (isF E 4) hF.fm.c1 (by omega) (hF.fm.ce (by omega))
   rw [hn] at this
   exact this
  ·refine (qck V _ fb 5 p E _ WL hF [1,4] sa 2 sc rfl (by omega) hr (fun z hz=>by
    simp only [List.mem_cons,List.not_mem_nil,or_false] at hz
    rw [ht]
    rcases hz with rfl | rfl <;> omega) 3 (.inr ⟨by omega,by rw [ht];omega⟩)).mono fun e w' h=>?_
   rw [ht] at h
   exact h.is q_of
  ·refine (qck V _ fb 5 p E _ WL hF [] none 0 0 rfl (by omega) ⟨rfl,Nat.le_refl _,Nat.zero_le _,.inl ⟨rfl,rfl,rfl⟩⟩ (fun z hz=>by cases hz) 3 (.inr ⟨by omega,by rw [ht];omega⟩)).mono fun e w' h=>?_
   rw [ht] at h
   exact h.is qsg
 have HPW:Hid (Pow V4):=HP.out.below H4.out.2
 go_wp2_with fail
 refine (qkt V4 HPW.out).mono ?_
 rintro e V5 ⟨rfl,hb5⟩
 have HB5:Hid (Below V4.heap.size V4 V5):=hb5
 clear hb5
 go_wp2_with fail
 refine ((HA.out V5 HB5.out).1).mono ?_
 rintro e V5a ⟨la5,lc5,rfl,hr5,hb5⟩
 have HR5:Hid (Row (V5a.alloc (.cells #[.int .i64 0] 3)) 1 la5 1 lc5 (natC [0])/\Row (V5a.alloc (.cells #[.int .i64 0] 3)) 1 (some ⟨V5a.heap.size,0,none⟩) 1 1 (natC [0])/\Below V4.heap.size V4 (V5a.alloc (.cells #[.int .i64 0] 3))):=⟨hr5.below (qb _ _),qcb V5a [0] 1 rfl (by omega),qd (qd HB5.out hb5) (qb _ _)⟩
 clear hr5 hb5
 go_wp2_with fail
 refine (qbr [0] la5 (some ⟨V5a.heap.size,0,none⟩) 1 lc5 1 (V5a.alloc (.cells #[.int .i64 0] 3)) HR5.out.1 HR5.out.2.1 rfl (by omega)).mono ?_
 rintro e V6 ⟨rfl,hb6⟩
 have HB6:Hid (Below V4.heap.size V4 V6):=qd HR5.out.2.2 hb6
 clear hb6 HR5
 go_wp2_with fail
 refine ((HA.out V6 HB6.out).2.1).mono ?_
 rintro e V6a ⟨la6,lc6,rfl,hr6,hb6⟩
 have HR6:Hid (Row (V6a.alloc (.cells #[.int .i64 1,.int .i64 2,.int .i64 3] 3)) 1 la6 3 lc6 (natC [1,2,3])/\Row (V6a.alloc (.cells #[.int .i64 1,.int .i64 2,.int .i64 3] 3)) 1 (some ⟨V6a.heap.size,0,none⟩) 3 3 (natC [1,2,3])/\Below V4.heap.size V4 (V6a.alloc (.cells #[.int .i64 1,.int .i64 2,.int .i64 3] 3))):=⟨hr6.below (qb _ _),qcb V6a [1,2,3] 3 rfl (by omega),qd (qd HB6.out hb6) (qb _ _)⟩
 clear hr6 hb6
 go_wp2_with fail
 refine (qbr [1,2,3] la6 (some ⟨V6a.heap.size,0,none⟩) 3 lc6 3 (V6a.alloc (.cells #[.int .i64 1,.int .i64 2,.int .i64 3] 3)) HR6.out.1 HR6.out.2.1 rfl (by omega)).mono ?_
 rintro e V7 ⟨rfl,hb7⟩
 have HB7:Hid (Below V4.heap.size V4 V7):=qd HR6.out.2.2 hb7
 clear hb7 HR6
 go_wp2_with fail
 refine ((HA.out V7 HB7.out).2.2.1).mono ?_
 rintro e V7b ⟨rfl,rfl⟩
 have HB8:Hid (Below V4.heap.size V4 (V7b.alloc (.cells #[.int .i64 1,.int .i64 4] 3))/\Row (V7b.alloc (.cells #[.int .i64 1,.int .i64 4] 3)) 1 (some ⟨V7b.heap.size,0,none⟩) 2 2 (natC [1,4])):=⟨qd HB7.out (qb _ _),qcb V7b [1,4] 2 rfl (by omega)⟩
 go_wp2_with fail
 refine ((HA.out (V7b.alloc (.cells #[.int .i64 1,.int .i64 4] 3)) HB8.out.1).2.2.2.1 (some ⟨V7b.heap.size,0,none⟩) 2 HB8.out.2).mono ?_
 rintro e V8a ⟨la8,lc8,rfl,hr8,hb8⟩
 have HR8:Hid (Row (V8a.alloc (.cells #[.int .i64 1] 3)) 1 la8 1 lc8 (natC [1])/\Row (V8a.alloc (.cells #[.int .i64 1] 3)) 1 (some ⟨V8a.heap.size,0,none⟩) 1 1 (natC [1])/\Below V4.heap.size V4 (V8a.alloc (.cells #[.int .i64 1] 3))):=⟨hr8.below (qb _ _),qcb V8a [1] 1 rfl (by omega),qd (qd HB8.out.1 hb8) (qb _ _)⟩
 clear hr8 hb8
 go_wp2_with fail
 refine (qbr [1] la8 (some ⟨V8a.heap.size,0,none⟩) 1 lc8 1 (V8a.alloc (.cells #[.int .i64 1] 3)) HR8.out.1 HR8.out.2.1 rfl (by omega)).mono ?_
 rintro e V9 ⟨rfl,hb9⟩
 have HB9:Hid (Below V4.heap.size V4 V9):=qd HR8.out.2.2 hb9
 clear hb9 HR8
 go_wp2_with fail
 refine ((HA.out V9 HB9.out).2.2.2.2).mono ?_
 rintro e V9a ⟨la9,lc9,rfl,hr9,hb9⟩
 have HR9:Hid (Row (V9a.alloc (.cells #[.int .i64 3] 3)) 1 la9 1 lc9 (natC [3])/\Row (V9a.alloc (.cells #[.int .i64 3] 3)) 1 (some ⟨V9a.heap.size,0,none⟩) 1 1 (natC [3])/\Below V4.heap.size V4 (V9a.alloc (.cells #[.int .i64 3] 3))):=⟨hr9.below (qb _ _),qcb V9a [3] 1 rfl (by omega),qd (qd HB9.out hb9) (qb _ _)⟩
 clear hr9 hb9
 go_wp2_with fail
 refine (qbr [3] la9 (some ⟨V9a.heap.size,0,none⟩) 1 lc9 1 (V9a.alloc (.cells #[.int .i64 3] 3)) HR9.out.1 HR9.out.2.1 rfl (by omega)).mono ?_
 rintro e V10 ⟨rfl,hb10⟩
 have HB10:Hid (Below V4.heap.size V4 V10):=qd HR9.out.2.2 hb10
 clear hb10 HR9
 go_wp2_with fail
 go_ret
 exact ⟨rfl,H4.out.2.trans (HB10.out.mono H4.out.2.size)⟩
def qg3:List (String × DataW Unit):=[("math/bits.deBruijn32tab", Rows.laid_math_bits_deBruijn32tab),("math/bits.deBruijn64tab", Rows.laid_math_bits_deBruijn64tab),("internal/strconv.uint64pow10", Rows.laid_internal_strconv_uint64pow10),("strconv.ErrRange", Rows.laid_strconv_ErrRange),("strconv.ErrSyntax", Rows.laid_strconv_ErrSyntax)]
theorem own:ownKnob Tryz.prog.godebug=none:=by kernel_rfl
theorem qo7:laidOutB Tryz.prog=true:=by kernel_rfl
theorem gPow:Tryz.prog.globalNamed "internal/strconv.uint64pow10" = some 3:=by kernel_rfl
theorem tPow:(Tryz.prog.globals[3]?).map (·.type)=some 212:=by kernel_rfl
theorem qqt:Tryz.prog.cellsOf 73=1:=by kernel_rfl
theorem qqu:Tryz.prog.cellsOf 212=20:=by kernel_rfl
theorem qqv (os:Os) (args:Array Value):laidMetH Tryz.prog qg3 ((World.doorLaid Tryz.prog 136 os).forCall (fun _ _=>0) ⟨#[],args,[]⟩).memory :=
 laidMetH_of_parts3 (fuel:=8) (laidMet_of_run' 8 (by kernel_rfl) (by kernel_rfl)) (by kernel_rfl) (by kernel_rfl)
def powZ:List Int:=[1,10,100,1000,10000,100000,1000000,10000000,100000000,1000000000,10000000000,100000000000,1000000000000,10000000000000,100000000000000,1000000000000000,10000000000000000,100000000000000000,1000000000000000000,10000000000000000000]
theorem qlu {W:World} (h:laidMetH Tryz.prog qg3 W):Pow W:=by
 rw [MakeChecks.laidMetH_plain _ _ _ (by kernel_rfl)] at h
 obtain ⟨ps,⟨_,_,_,_,_,_,_,_,_,_,⟨_,_,_,_,_,_,_,_,_,_,⟨g',t',cs,fuel,p,q,hg',ht',hvar,hd,_,_⟩,_⟩,_⟩,_⟩:=h
 obtain rfl:=Option.some.inj (gPow.symm.trans hg')
 obtain rfl:=Option.some.inj (tPow.symm.trans ht')
 have hT:Lib.TabIs Tryz.prog W "internal/strconv.uint64pow10" .u64 powZ:=by
  unfold Lib.TabIs
  rw [hvar,<-Lib.cells_of_tab (zs:=powZ) Tryz.underlying212 Tryz.underlying73 qqt qqu hd]
 intro i hi
 rw [hT.cell gPow i hi]
 have hz:∀ j,j<20->powZ.getD j 0=((10 ^ j:Nat):Int):=by decide
 rw [hz i hi]
end Go.Proofs.YtngclmglmhiljaaGreatDoor
