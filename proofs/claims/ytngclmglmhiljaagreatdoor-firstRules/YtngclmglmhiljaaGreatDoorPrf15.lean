/- Texts that the proofs of the First statements stand on, part Prf15. -/
import Derived.Test.YtngclmglmhiljaaGreatDoorRows
import Derived.ProofKit
import Derived.LaidMore
import Derived.Lib.LaidTab
import Derived.Test.YtngclmglmhiljaaGreatDoorPrf14
set_option maxHeartbeats 16000000
set_option maxRecDepth 100000
namespace Go.Proofs.YtngclmglmhiljaaGreatDoor
open Go.RowKit
theorem qkt(w:World)(b:Pow w):Calls Tryz.prog 26 #[] w fun e a=>e=.returned (.bool true)/\Below w.heap.size w a:=by
 have c:Hid (Calls Tryz.prog 52 #[] w fun e a=>e=.returned (.bool true)/\Below w.heap.size w a):=qks w b;clear b;go_enter Tryz.func26,Tryz.ntmps26;go_wp2_with fail;refine c.out.mono ?_;rintro e V ⟨rfl,d⟩;go_wp2_with fail;go_ret;exact⟨rfl,d⟩
def Lst (w w':World) (l:List Nat) (e:Ending):Prop:=∃la lc,e=.returned (.slice la l.length lc)/\Row w' 1 la l.length lc (natC l)/\Below w.heap.size w w'
theorem Told.is{w a:World}{m:Nat}{Q:Nat->Prop}{e:Ending}{l:List Nat}(h:Told w a m Q e)(k:IsL m Q l):Lst w a l e:=by
 obtain⟨l',g,i,b,c,d,f⟩:=h;have:=c.uni k;subst this;exact⟨g,i,b,Row.of_own d,f⟩
theorem qrw:IsL 4 (FstP (spG qu) 4) [0]:=qdn (fun t=>t == 0) (fun t _=>by rw[qax,beq_iff_eq];omega)
theorem qqs:IsL 4 (FolP (spG qu) 4) [1,2,3]:=qdn (fun t=>t != 0) (fun t _=>by rw[qqj,bne_iff_ne];omega)
theorem q_of:IsL 4 (fun t=>FstL (spG qu) [1,4] t\/((∀z∈[1,4],Nul (spG qu) z)/\(t:Int)=3)) [1]:=qdn (fun t=>t == 1) (fun t _=>by
 rw[qbd,qax,beq_iff_eq]
 constructor
 ·intro h;exact .inl (.inl ⟨by omega,h⟩)
 ·rintro(h | ⟨h,-⟩)
  ·omega
  ·exact absurd (h 1 (by simp)) (qdm 1))
theorem qsg:IsL 4 (fun t=>FstL (spG qu) [] t\/((∀z∈([]:List Nat),Nul (spG qu) z)/\(t:Int)=3)) [3]:=qdn (fun t=>t == 3) (fun t _=>by
 rw[beq_iff_eq]
 constructor
 ·intro h;exact .inr ⟨fun z a=>(by cases a),by omega⟩
 ·rintro(h | ⟨-,h⟩)
  ·exact absurd h qc9
  ·omega)
theorem qcb(W:World)(l:List Nat)(n:Nat)(a:l.length=n)(b:n<=1000):Row (W.alloc (.cells (natC l).toArray 3)) 1 (some ⟨W.heap.size,0,none⟩) n n (natC l):=by
 refine⟨by rw[js,a,Nat.mul_one],Nat.le_refl _,by unfold maxLen;omega,.inr ⟨_,_,rfl,fun j u c=>?_⟩⟩
 have h:(W.alloc (.cells (natC l).toArray 3)).heap[W.heap.size]?=some (.cells (natC l).toArray 3 (0,0)):=heap_alloc_new _ _;rw[Nat.zero_add,qe h,<-c];exact List.getElem?_toArray
theorem qsh:qu.ts.length+1+(lfs qu.rs).length=5:=by rw[vt];rfl
theorem qja(w:World)(h:Hd)(n:IsG w h qu):Calls Tryz.prog 10 #[gv h qu] w fun e k=>∃f g c d a b i j,e=.returned (.tuple #[.agg #[.int .i64 3,.int .i64 1,.int .i64 4,.int .i64 0,.slice f 5 g,.slice c 3 d,.slice a 3 b,.slice i 4 j],.int .i64 0])/\IsSp k ⟨f,g,c,d,a,b,i,j⟩ (spG qu)/\Below w.heap.size w k:=by
 refine(qmg qu h w 0 n qhr).mono ?_;rintro e k ⟨⟨f,g,c,d,a,b,i,j⟩,rfl,l,o⟩;have m:spK qu 0=spG qu:=if_pos rfl;rw[m]at l ⊢;refine⟨f,g,c,d,a,b,i,j,?_,l,o⟩;rw[xy];rfl
theorem qku(w:World)(hp:Pow w):Calls Tryz.prog 9 #[] w fun e b=>e=.returned (.bool true)/\Below w.heap.size w b:=by
 have HP:Hid (Pow w):=hp;clear hp
 have X:Hid (∀V:World,Calls Tryz.prog 25 #[] V fun e b=>∃M N c d,e=.returned (.agg #[.slice M 3 N,.string ⟨#[]⟩,.int .i64 0,.slice c 3 d])/\(∃qs,OwnG b V.heap.size ⟨M,N,c,d⟩ qu qs)/\Below V.heap.size V b):=fun V=>(qdb V).mono fun e b ⟨⟨M,N,c,d⟩,qs,h1,h2,h3⟩=>⟨M,N,c,d,h1,⟨qs,h2⟩,h3⟩
 go_enter Tryz.func9,Tryz.ntmps9;go_wp2_with fail;refine(X.out _).mono ?_;rintro e Y ⟨M,N,b9,c3,rfl,a6,Z⟩
 have HC:Hid (Calls Tryz.prog 10 #[.agg #[.slice M 3 N,.string ⟨#[]⟩,.int .i64 0,.slice b9 3 c3]] Y fun e b=>∃k l i j f g c d,e=.returned (.tuple #[.agg #[.int .i64 3,.int .i64 1,.int .i64 4,.int .i64 0,.slice k 5 l,.slice i 3 j,.slice f 3 g,.slice c 4 d],.int .i64 0])/\IsSp b ⟨k,l,i,j,f,g,c,d⟩ (spG qu)/\Below Y.heap.size Y b):=by
  obtain⟨qs,ho⟩:=a6;exact qja Y ⟨M,N,b9,c3⟩ (ho.isG qan)
 have P:Hid (Below w.heap.size w Y):=Z;clear a6 Z X;go_wp2_with fail;refine HC.out.mono ?_;rintro e v ⟨k,l,i,j,f,g,c,d,rfl,hs,a0⟩;have hv:Below v.heap.size v (v.alloc (.cells #[.int .i64 3,.int .i64 1,.int .i64 4,.int .i64 0,.slice k 5 l,.slice i 3 j,.slice f 3 g,.slice c 4 d] 31)):=qb _ _;have hx:(v.alloc (.cells #[.int .i64 3,.int .i64 1,.int .i64 4,.int .i64 0,.slice k 5 l,.slice i 3 j,.slice f 3 g,.slice c 4 d] 31)).heap[v.heap.size]?=some (.cells #[.int .i64 3,.int .i64 1,.int .i64 4,.int .i64 0,.slice k 5 l,.slice i 3 j,.slice f 3 g,.slice c 4 d] 31 (0,0)):=heap_alloc_new _ _
 have t:Hid (IsSp (v.alloc (.cells #[.int .i64 3,.int .i64 1,.int .i64 4,.int .i64 0,.slice k 5 l,.slice i 3 j,.slice f 3 g,.slice c 4 d] 31)) ⟨k,l,i,j,f,g,c,d⟩ (spG qu)/\(v.alloc (.cells #[.int .i64 3,.int .i64 1,.int .i64 4,.int .i64 0,.slice k 5 l,.slice i 3 j,.slice f 3 g,.slice c 4 d] 31)).heap[v.heap.size]?=some (.cells #[.int .i64 3,.int .i64 1,.int .i64 4,.int .i64 0,.slice k 5 l,.slice i 3 j,.slice f 3 g,.slice c 4 d] 31 (0,0))/\Below w.heap.size w (v.alloc (.cells #[.int .i64 3,.int .i64 1,.int .i64 4,.int .i64 0,.slice k 5 l,.slice i 3 j,.slice f 3 g,.slice c 4 d] 31))):=⟨hs.below hv,hx,qd (qd P.out a0) hv⟩
 clear hs hv hx a0 HC P
 go_upto_region 2 with fail
 generalize v.alloc (.cells #[.int .i64 3,.int .i64 1,.int .i64 4,.int .i64 0,.slice k 5 l,.slice i 3 j,.slice f 3 g,.slice c 4 d] 31)=r at t ⊢;generalize v.heap.size=I at t ⊢
 have k0:r.cell? ⟨I,0,none⟩=some (.int .i64 3):=by rw[qe t.out.2.1];rfl
 have k1:r.cell? ⟨I,1,none⟩=some (.int .i64 1):=by rw[qe t.out.2.1];rfl
 have k2:r.cell? ⟨I,2,none⟩=some (.int .i64 4):=by rw[qe t.out.2.1];rfl
 have k3:r.cell? ⟨I,3,none⟩=some (.int .i64 0):=by rw[qe t.out.2.1];rfl
 have k4:r.cell? ⟨I,4,none⟩=some (.slice k 5 l):=by rw[qe t.out.2.1];rfl
 have k5:r.cell? ⟨I,5,none⟩=some (.slice i 3 j):=by rw[qe t.out.2.1];rfl
 have k6:r.cell? ⟨I,6,none⟩=some (.slice f 3 g):=by rw[qe t.out.2.1];rfl
 have k7:r.cell? ⟨I,7,none⟩=some (.slice c 4 d):=by rw[qe t.out.2.1];rfl
 have HN:Hid (Calls Tryz.prog 17 #[.agg #[.int .i64 3,.int .i64 1,.int .i64 4,.int .i64 0,.slice k 5 l,.slice i 3 j,.slice f 3 g,.slice c 4 d]] r fun e b=>∃s p E K,e=.returned (.pointer (some ⟨s,0,none⟩))/\FS b r.heap.size s p 5 (spG qu) E K/\Below r.heap.size r b):=by
  have a5:=qqy qhr;rw[qsh]at a5;have hc:=qgs r ⟨k,l,i,j,f,g,c,d⟩ (spG qu) 5 a5 t.out.1
  have e1:sv ⟨k,l,i,j,f,g,c,d⟩ (spG qu)=.agg #[.int .i64 3,.int .i64 1,.int .i64 4,.int .i64 0,.slice k 5 l,.slice i 3 j,.slice f 3 g,.slice c 4 d]:=by
   unfold sv sC;rw[xy];rfl
  rw[e1]at hc;exact hc
 go_wp2_with fail;refine HN.out.mono ?_;rintro e a ⟨s,p,E,K,rfl,a4,a1⟩;clear k0 k1 k2 k3 k4 k5 k6 k7 HN
 have H4:Hid (FS a r.heap.size s p 5 (spG qu) E K/\Below w.heap.size w a):=⟨a4,qd t.out.2.2 a1⟩
 clear a4 a1 t
 have O:Hid (∀V,Below a.heap.size a V->(Calls Tryz.prog 20 #[.pointer (some ⟨s,0,none⟩),.int .i64 4] V fun e b=>Lst V b [0] e)/\(Calls Tryz.prog 21 #[.pointer (some ⟨s,0,none⟩),.int .i64 4] V fun e b=>Lst V b [1,2,3] e)/\(Calls Tryz.prog 23 #[.pointer (some ⟨s,0,none⟩),.int .i64 4] V fun e b=>e=.returned (.bool false)/\b=V)/\(∀sa sc,Row V 1 sa 2 sc (natC [1,4])->Calls Tryz.prog 19 #[.pointer (some ⟨s,0,none⟩),.slice sa 2 sc,.int .i64 3] V fun e b=>Lst V b [1] e)/\(Calls Tryz.prog 19 #[.pointer (some ⟨s,0,none⟩),.slice none 0 0,.int .i64 3] V fun e b=>Lst V b [3] e)):=fun V hV=>by
  have L:=H4.out.1.below hV;have G:=ve.1;refine⟨?_,?_,?_,fun sa sc hr=>?_,?_⟩
  ·refine(qgt V _ s 5 p E _ K L 4 (by omega) (by rw[G];omega)).mono fun e b h=>?_
   rw[G]at h;exact h.is qrw
  ·refine(qdx V _ s 5 p E _ K L 4 (by omega) (by rw[G];omega)).mono fun e b h=>?_
   rw[G]at h;exact h.is qqs
  ·have hn:isF E 4=false:=by
    cases hb:isF E 4
    ·rfl
    ·exact absurd ((L.emp 4).1 hb) (qdm 4)
   have:=qc0 V s p.eb 5 5 4 (isF E 4) L.fm.c1 (by omega) (L.fm.ce (by omega));rw[hn]at this;exact this
  ·refine(qck V _ s 5 p E _ K L [1,4] sa 2 sc rfl (by omega) hr (fun z hz=>by
    simp only[List.mem_cons,List.not_mem_nil,or_false]at hz;rw[G]
    rcases hz with rfl | rfl <;> omega) 3 (.inr ⟨by omega,by rw[G];omega⟩)).mono fun e b h=>?_
   rw[G]at h;exact h.is q_of
  ·refine(qck V _ s 5 p E _ K L [] none 0 0 rfl (by omega) ⟨rfl,Nat.le_refl _,Nat.zero_le _,.inl ⟨rfl,rfl,rfl⟩⟩ (fun z hz=>by cases hz) 3 (.inr ⟨by omega,by rw[G];omega⟩)).mono fun e b h=>?_
   rw[G]at h;exact h.is qsg
 have c4:Hid (Pow a):=HP.out.below H4.out.2;go_wp2_with fail;refine(qkt a c4.out).mono ?_;rintro e V5 ⟨rfl,x⟩;have R:Hid (Below a.heap.size a V5):=x;clear x;go_wp2_with fail;refine((O.out V5 R.out).1).mono ?_;rintro e m ⟨b1,b5,rfl,a7,x⟩
 have B:Hid (Row (m.alloc (.cells #[.int .i64 0] 3)) 1 b1 1 b5 (natC [0])/\Row (m.alloc (.cells #[.int .i64 0] 3)) 1 (some ⟨m.heap.size,0,none⟩) 1 1 (natC [0])/\Below a.heap.size a (m.alloc (.cells #[.int .i64 0] 3))):=⟨a7.below (qb _ _),qcb m [0] 1 rfl (by omega),qd (qd R.out x) (qb _ _)⟩
 clear a7 x;go_wp2_with fail;refine(qbr [0] b1 (some ⟨m.heap.size,0,none⟩) 1 b5 1 (m.alloc (.cells #[.int .i64 0] 3)) B.out.1 B.out.2.1 rfl (by omega)).mono ?_;rintro e V6 ⟨rfl,y⟩;have S:Hid (Below a.heap.size a V6):=qd B.out.2.2 y;clear y B;go_wp2_with fail;refine((O.out V6 S.out).2.1).mono ?_;rintro e n ⟨b2,b6,rfl,a8,y⟩
 have C:Hid (Row (n.alloc (.cells #[.int .i64 1,.int .i64 2,.int .i64 3] 3)) 1 b2 3 b6 (natC [1,2,3])/\Row (n.alloc (.cells #[.int .i64 1,.int .i64 2,.int .i64 3] 3)) 1 (some ⟨n.heap.size,0,none⟩) 3 3 (natC [1,2,3])/\Below a.heap.size a (n.alloc (.cells #[.int .i64 1,.int .i64 2,.int .i64 3] 3))):=⟨a8.below (qb _ _),qcb n [1,2,3] 3 rfl (by omega),qd (qd S.out y) (qb _ _)⟩
 clear a8 y;go_wp2_with fail;refine(qbr [1,2,3] b2 (some ⟨n.heap.size,0,none⟩) 3 b6 3 (n.alloc (.cells #[.int .i64 1,.int .i64 2,.int .i64 3] 3)) C.out.1 C.out.2.1 rfl (by omega)).mono ?_;rintro e V7 ⟨rfl,a2⟩;have T:Hid (Below a.heap.size a V7):=qd C.out.2.2 a2;clear a2 C;go_wp2_with fail;refine((O.out V7 T.out).2.2.1).mono ?_;rintro e u ⟨rfl,rfl⟩
 have J:Hid (Below a.heap.size a (u.alloc (.cells #[.int .i64 1,.int .i64 4] 3))/\Row (u.alloc (.cells #[.int .i64 1,.int .i64 4] 3)) 1 (some ⟨u.heap.size,0,none⟩) 2 2 (natC [1,4])):=⟨qd T.out (qb _ _),qcb u [1,4] 2 rfl (by omega)⟩
 go_wp2_with fail;refine((O.out (u.alloc (.cells #[.int .i64 1,.int .i64 4] 3)) J.out.1).2.2.2.1 (some ⟨u.heap.size,0,none⟩) 2 J.out.2).mono ?_;rintro e o ⟨b3,b7,rfl,a9,a3⟩
 have D:Hid (Row (o.alloc (.cells #[.int .i64 1] 3)) 1 b3 1 b7 (natC [1])/\Row (o.alloc (.cells #[.int .i64 1] 3)) 1 (some ⟨o.heap.size,0,none⟩) 1 1 (natC [1])/\Below a.heap.size a (o.alloc (.cells #[.int .i64 1] 3))):=⟨a9.below (qb _ _),qcb o [1] 1 rfl (by omega),qd (qd J.out.1 a3) (qb _ _)⟩
 clear a9 a3;go_wp2_with fail;refine(qbr [1] b3 (some ⟨o.heap.size,0,none⟩) 1 b7 1 (o.alloc (.cells #[.int .i64 1] 3)) D.out.1 D.out.2.1 rfl (by omega)).mono ?_;rintro e V9 ⟨rfl,A⟩;have U:Hid (Below a.heap.size a V9):=qd D.out.2.2 A;clear A D;go_wp2_with fail;refine((O.out V9 U.out).2.2.2.2).mono ?_;rintro e q ⟨b4,b8,rfl,b0,A⟩
 have F:Hid (Row (q.alloc (.cells #[.int .i64 3] 3)) 1 b4 1 b8 (natC [3])/\Row (q.alloc (.cells #[.int .i64 3] 3)) 1 (some ⟨q.heap.size,0,none⟩) 1 1 (natC [3])/\Below a.heap.size a (q.alloc (.cells #[.int .i64 3] 3))):=⟨b0.below (qb _ _),qcb q [3] 1 rfl (by omega),qd (qd U.out A) (qb _ _)⟩
 clear b0 A;go_wp2_with fail;refine(qbr [3] b4 (some ⟨q.heap.size,0,none⟩) 1 b8 1 (q.alloc (.cells #[.int .i64 3] 3)) F.out.1 F.out.2.1 rfl (by omega)).mono ?_;rintro e c5 ⟨rfl,H⟩;have Q:Hid (Below a.heap.size a c5):=qd F.out.2.2 H;clear H F;go_wp2_with fail;go_ret;exact⟨rfl,H4.out.2.trans (Q.out.mono H4.out.2.size)⟩
def qg3:List (String × DataW Unit):=[("math/bits.deBruijn32tab", Rows.laid_math_bits_deBruijn32tab),("math/bits.deBruijn64tab", Rows.laid_math_bits_deBruijn64tab),("internal/strconv.uint64pow10", Rows.laid_internal_strconv_uint64pow10),("strconv.ErrRange", Rows.laid_strconv_ErrRange),("strconv.ErrSyntax", Rows.laid_strconv_ErrSyntax)]
theorem own:ownKnob Tryz.prog.godebug=none:=by kernel_rfl
theorem qo7:laidOutB Tryz.prog=true:=by kernel_rfl
theorem gPow:Tryz.prog.globalNamed "internal/strconv.uint64pow10" = some 3:=by kernel_rfl
theorem tPow:(Tryz.prog.globals[3]?).map (·.type)=some 212:=by kernel_rfl
theorem qqt:Tryz.prog.cellsOf 73=1:=by kernel_rfl
theorem qqu:Tryz.prog.cellsOf 212=20:=by kernel_rfl
theorem qqv(os:Os)(args:Array Value):laidMetH Tryz.prog qg3 ((World.doorLaid Tryz.prog 136 os).forCall (fun _ _=>0) ⟨#[],args,[]⟩).memory :=
 laidMetH_of_parts3 (fuel:=8) (laidMet_of_run' 8 (by kernel_rfl) (by kernel_rfl)) (by kernel_rfl) (by kernel_rfl)
def powZ:List Int:=[1,10,100,1000,10000,100000,1000000,10000000,100000000,1000000000,10000000000,100000000000,1000000000000,10000000000000,100000000000000,1000000000000000,10000000000000000,100000000000000000,1000000000000000000,10000000000000000000]
theorem qlu{W:World}(h:laidMetH Tryz.prog qg3 W):Pow W:=by
 rw[MakeChecks.laidMetH_plain _ _ _ (by kernel_rfl)]at h;obtain⟨l,⟨_,_,_,_,_,_,_,_,_,_,⟨_,_,_,_,_,_,_,_,_,_,⟨k,t',cs,fuel,p,q,b,c,a,hd,_,_⟩,_⟩,_⟩,_⟩:=h;obtain rfl:=Option.some.inj (gPow.symm.trans b);obtain rfl:=Option.some.inj (tPow.symm.trans c)
 have f:Lib.TabIs Tryz.prog W "internal/strconv.uint64pow10" .u64 powZ:=by
  unfold Lib.TabIs;rw[a,<-Lib.cells_of_tab (zs:=powZ) Tryz.underlying212 Tryz.underlying73 qqt qqu hd]
 intro i d;rw[f.cell gPow i d]
 have g:∀j,j<20->powZ.getD j 0=((10 ^ j:Nat):Int):=by decide
 rw[g i d]
end Go.Proofs.YtngclmglmhiljaaGreatDoor
