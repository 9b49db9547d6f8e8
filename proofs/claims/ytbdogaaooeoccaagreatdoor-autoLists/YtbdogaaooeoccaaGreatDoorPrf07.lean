/- Texts that the proofs of the Auto statements stand on, part Prf07. -/
import Derived.Deep.RegionHeld
import Derived.Lib.SliceRun
import Derived.Test.YtbdogaaooeoccaaGreatDoorPrf06
set_option maxHeartbeats 16000000
set_option maxRecDepth 100000
namespace Go.Proofs.YtbdogaaooeoccaaGreatDoor
open Go.RowKit
theorem yi{f:FuncId}{b:Func}(i:Tryz.prog.funcs[f]?=some b)(a:(b.name == "runtime.NumGoroutine")=false) (h:b.body.isNone=false) (args:Array Value) (w:World):(callFunc f args).run Tryz.prog w=.ok (.enter f args) w:=by
 have c:b.name ≠ "runtime.NumGoroutine" := by simpa using a
 have d:¬b.body.isNone=true:=by rw[h];simp
 have g:¬b.body=none:=by simpa using d
 simp[callFunc,i,c,g]
theorem qsk(args:Array Value)(w:World):(callFunc 129 args).run Tryz.prog w=.ok (.enter 129 args) w:=yi Tryz.func129 (by kernel_rfl) (by kernel_rfl) args w
theorem qsl(args:Array Value)(w:World):(callFunc 68 args).run Tryz.prog w=.ok (.enter 68 args) w:=yi Tryz.func68 (by kernel_rfl) (by kernel_rfl) args w
def IY (w:World) (h:SHd) (S:Sp) (p:YP) (b4 gm n:Nat) (vs:List (Option Addr × Nat)) (wt:List (List Nat)) (W:World) (va:Option Addr) (vc:Nat) (fd:List Bool) (fr:List Nat):Prop :=
 ∃ms,YM w W h S p b4 gm va vc vs fd fr ms wt/\MK n fd fr/\ms.length=S.rs.length/\Miss S ms (prc fd fr) (fun _=>0)/\Zero S ms fd/\qbb S fd/\Toks S fd
theorem qsm{w:World}{h:SHd}{S:Sp}{p:YP}{d g n:Nat}{j:List (Option Addr × Nat)}{k:List (List Nat)}:∀W b c fd a,IY w h S p d g n j k W b c fd a->MK n fd a/\∃f,Mrk W w.heap.size p.mb f b c fd a:=by
 rintro W b c fd a ⟨l,y,i,-⟩;exact⟨i,p.fb,y.yb.mrk⟩
theorem qsn{w:World}{h:SHd}{S:Sp}{p:YP}{k q n:Nat}{t:List (Option Addr × Nat)}{c:List (List Nat)}(C:WF S)(B:IsSp w h S)(v:n=S.tk+1+S.nt)(D:c.length=n)(I:Wts S S.rs.length c)(f:∀(x:Nat) (l:List Nat),c[x]?=some l->l.length<=100000):
  ∀W m o fd d x,IY w h S p k q n t c W m o fd (d++[x])->Calls Tryz.prog 129 (#[.int .i64 (x:Int)]++#[.pointer (some ⟨p.b5,0,none⟩),.pointer (some ⟨k,0,none⟩),.pointer (some ⟨p.b3,0,none⟩),.pointer (some ⟨p.b1,0,none⟩)]) (popW W p.mb m d.length o) fun e G=>e=.returned (.tuple #[])/\∃g j a b,IY w h S p k q n t c G g j a b/\lft n a b<lft n fd (d++[x]):=by
 rintro W m o fd d x ⟨Z,y,U,u,Q,T,H,R⟩;obtain⟨Y,J,K,L⟩:=U.pop
 obtain⟨l,s⟩:∃l,c[x]?=some l:=⟨c[x]'(by rw[D];exact L),List.getElem?_eq_getElem _⟩
 have y1:LK w (popW W p.mb m d.length o) h S p k q t c n fd d l 0:=⟨m,o,fd,d,Z,y.pop,u,Adds.refl Y,qqd Q K J I s,T,H⟩
 refine(qlz w _ h S p k q t c n x fd d l y1 C B v s (qsi I s) H (f x l s)).mono ?_;rintro e G ⟨rfl,g,j,a,b,F,y',E,A,N,O,M⟩;refine⟨rfl,g,j,a,b,⟨F,y',A.ok,E,?_,O,M,fun z X=>A.up z (R z X)⟩,?_⟩
 ·rw[A.pr];intro i r P V;have:=N i r P V;rw[List.drop_length]at this;exact this
 ·rw[qjy A];exact qmk L K J
theorem qqq{w W:World}{h:SHd}{S:Sp}{p:YP}{d f n:Nat}{k:Option Addr}{l:Nat}{m:List (Option Addr × Nat)}{fd:List Bool}{b:List Nat}{j:List Int}{o:List (List Nat)}(y:Y1 w W h S p d f n S.rs.length S.rs.length 0 k l m fd b j o)(v:∀x,x<S.tk->isF fd x=true):IY w h S p d f n m o W k l fd b:=by
 have u:∀x,prc fd b x=false:=by
  intro x;unfold prc
  cases s:isF fd x
  ·rfl
  ·have:=y.np x s;simp[this]
 refine⟨j,y.ym,y.ok,y.ml,fun i r c a=>?_,fun i r x c a t z=>?_,y.der,v⟩
 ·rw[qto u];exact(y.emp i r c (List.getElem?_eq_some_iff.1 a).1 a).1
 ·obtain⟨g,q⟩:=y.emp i r c (List.getElem?_eq_some_iff.1 a).1 a;rw[z]at g;simp only[Option.some.injEq]at g;exact q x (List.eq_nil_of_length_eq_zero (by omega)) t
def BRes (w w':World) (n:Nat) (P:Nat->Prop) (e:Ending):Prop:=∃fb fd,e=.returned (.slice (some ⟨fb,0,none⟩) n n)/\fd.length=n/\w'.ownsRow w.heap.size 4 1 (.slice (some ⟨fb,0,none⟩) n n) n (booC fd)/\xm P fd/\Below w.heap.size w w'
theorem qb9(w:World)(h:SHd)(S:Sp)(n:Nat)(d7:n=S.tk+1+S.nt)(Q:WF S)(d9:IsSp w h S):
  Calls Tryz.prog 107 #[sv h S] w fun e w'=>BRes w w' n (Der S) e:=by
 have hz:Szs S n:=by rw[d7];exact Q.szs
 have hn:n<=1000:=by have:=Q.tk;have:=Q.nt;omega
 have k2:=Q.nr
 have HC:Hid (∀V:World,Calls Tryz.prog 63 #[.agg (sC h S)] V fun e w'=>e=.returned (.int .i64 (n:Int))/\Below V.heap.size V w'):=fun V=>qcu h S V n hz
 have a2:Hid (∀(V:World) (z:Nat),z<n->Calls Tryz.prog 65 #[.agg (sC h S),.int .i64 (z:Int)] V fun e w'=>e=.returned (.bool true)/\Below V.heap.size V w'):=fun V z E=>qcn h S V n z hz E
 have a1:Hid (∀(V:World) (z:Nat),z<n->S.tk<z->Calls Tryz.prog 64 #[.agg (sC h S),.int .i64 (z:Int)] V fun e w'=>e=.returned (.bool true)/\Below V.heap.size V w'):=fun V z E ht=>qh9 h S V n z hz E ht
 have a0:Hid (∀(V:World),Calls Tryz.prog 64 #[.agg (sC h S),.int .i64 (-1)] V fun e w'=>e=.returned (.bool false)/\Below V.heap.size V w'):=fun V=>qfe h S V
 have C:=hid3 Q d9 d7;have c9:Below w.heap.size w (w.alloc (.cells (sC h S) 31)):=qb _ _;have a5:(w.alloc (.cells (sC h S) 31)).heap[w.heap.size]?=some (.cells (sC h S) 31 (0,0)):=heap_alloc_new _ _;obtain⟨rb,ro,-,-,U,-⟩:=d9.rl.at Q.hd;have L:=hid U;clear Q d9 d7 hz;unfold sv sC;unfold sC at HC a2 a1 a0;rw[U]at HC a2 a1 a0 ⊢;clear U
 obtain⟨d,A⟩:∃d,Hid (S.rs.length=d):=⟨_,rfl⟩
 rw[A.out]at HC a2 a1 a0 k2 ⊢;go_enter Tryz.func107,Tryz.ntmps107
 go_upto_region 1 with fail
 have e0:w.alloc (.cells #[.int .i64 (S.tk:Int),.int .i64 (S.nt:Int),.int .i64 (S.st:Int),.int .i64 S.ex,.slice h.na S.nm.length h.nc,.slice h.la S.lv.length h.lc,.slice h.aa S.az.length h.ac,.slice (some ⟨rb,ro,none⟩) d h.rc] 31)=w.alloc (.cells (sC h S) 31):=by unfold sC;rw[L.out,A.out]
 rw[e0];generalize w.alloc (.cells (sC h S) 31)=W0 at c9 a5 ⊢
 obtain⟨b1,f8⟩:∃b1,Hid (b1=w.heap.size):=⟨_,rfl⟩
 rw[<-f8.out]at a5 ⊢;obtain⟨c0,c1,c2,c3,c4,c5,c6,P⟩:=sbox a5;rw[L.out,A.out]at P;have b9:=hid2 c9 a5;clear e0 c9 a5;go_wp2_with fail;refine(HC.out _).mono ?_;rintro e W1 ⟨rfl,F⟩;have a6:=hid2 (qd b9.out.1 F) (qf F b9.out.2);clear F b9;go_wp2_with fail;refine(qc3 W1 n hn).mono ?_;rintro e W2 ⟨R,fb,rfl,hM,d4⟩;clear c0 c1 c2 c3 c4 c5 c6 P;have h3:Below W2.heap.size W2 (W2.alloc (.cells #[.pointer (some ⟨R,0,none⟩)] 105)):=qb _ _
 have HA:Hid (Below w.heap.size w (W2.alloc (.cells #[.pointer (some ⟨R,0,none⟩)] 105))/\(W2.alloc (.cells #[.pointer (some ⟨R,0,none⟩)] 105)).heap[b1]?=some (.cells (sC h S) 31 (0,0))/\(W2.alloc (.cells #[.pointer (some ⟨R,0,none⟩)] 105)).heap[W2.heap.size]?=some (.cells #[.pointer (some ⟨R,0,none⟩)] 105 (0,0))/\Mrk (W2.alloc (.cells #[.pointer (some ⟨R,0,none⟩)] 105)) w.heap.size R fb none 0 (List.replicate n false) []) :=
  ⟨qd (qd a6.out.1 d4) h3,qf h3 (qf d4 a6.out.2),heap_alloc_new _ _,(hM.mono a6.out.1.size).keep (fun k hk=>h3.block k (hM.loc hk).2.1)⟩
 clear hM d4 a6 h3
 go_upto_region 2 with fail
 obtain⟨b3,f9⟩:∃b3,Hid (b3=W2.heap.size):=⟨_,rfl⟩
 rw[<-f9.out]at HA ⊢;generalize W2.alloc (.cells #[.pointer (some ⟨R,0,none⟩)] 105)=W3 at HA ⊢;clear f9;obtain⟨W4,i8,h6,T⟩:=qo3 W3 w.heap.size d (by omega) HA.out.1.size;obtain⟨-,-,-,-,-,-,-,P⟩:=sbox HA.out.2.1;rw[L.out,A.out]at P;have h5:Below W4.heap.size W4 (W4.alloc (.cells #[.slice (some ⟨W3.heap.size,0,none⟩) d d] 28)):=qb _ _
 have HE:Hid (Below W3.heap.size W3 (W4.alloc (.cells #[.slice (some ⟨W3.heap.size,0,none⟩) d d] 28))/\(W4.alloc (.cells #[.slice (some ⟨W3.heap.size,0,none⟩) d d] 28)).heap[W4.heap.size]?=some (.cells #[.slice (some ⟨W3.heap.size,0,none⟩) d d] 28 (0,0))/\(W4.alloc (.cells #[.slice (some ⟨W3.heap.size,0,none⟩) d d] 28)).ownsRow w.heap.size 3 1 (.slice (some ⟨W3.heap.size,0,none⟩) d d) d (intC (List.replicate d 0))/\W4.heap.size<(W4.alloc (.cells #[.slice (some ⟨W3.heap.size,0,none⟩) d d] 28)).heap.size) :=
  ⟨qd T h5,heap_alloc_new _ _,h6.alloc _,by rw[qz];omega⟩
 clear h6 T h5;have k0:=vn C.out.2.1.rl;rw[A.out]at k0
 go_upto_region 3 with fail
 clear i8 P
 obtain⟨u,c8⟩:∃u,Hid (u=W3.heap.size):=⟨_,rfl⟩
 obtain⟨B,g0⟩:∃B,Hid (B=W4.heap.size):=⟨_,rfl⟩
 rw[<-c8.out,<-g0.out]at HE ⊢;generalize W4.alloc (.cells #[.slice (some ⟨u,0,none⟩) d d] 28)=O at HE ⊢
 have Z:Hid (Below w.heap.size w O/\O.heap[b1]?=some (.cells (sC h S) 31 (0,0))/\O.heap[b3]?=some (.cells #[.pointer (some ⟨R,0,none⟩)] 105 (0,0))/\Mrk O w.heap.size R fb none 0 (List.replicate n false) []/\O.heap[B]?=some (.cells #[.slice (some ⟨u,0,none⟩) d d] 28 (0,0))/\O.ownsRow w.heap.size 3 1 (.slice (some ⟨u,0,none⟩) d d) d (intC (List.replicate d 0))/\B<O.heap.size):=by
  obtain⟨q1,q2,q3,q4⟩:=HA.out;obtain⟨r1,r2,r3,r4⟩:=HE.out;rw[c8.out]at r1;have b6:=r1;exact⟨qd q1 b6,qf b6 q2,qf b6 q3,q4.keep (fun k hk=>b6.block k (q4.loc hk).2.1),r2,r3,r4⟩
 clear HA HE c8 g0;obtain⟨W6,j0,g6,g4⟩:=qco O w.heap.size n hn Z.out.1.size
 have d3:O.cell? ⟨b3,0,none⟩=some (.pointer (some ⟨R,0,none⟩)):=by rw[qe Z.out.2.2.1];rfl
 have dm:O.cell? ⟨R,0,none⟩=some (.slice (some ⟨fb,0,none⟩) n n):=by rw[qe Z.out.2.2.2.1.box,List.length_replicate];rfl
 have h7:Below W6.heap.size W6 (W6.alloc (.cells #[.slice (some ⟨O.heap.size,0,none⟩) n n] 92)):=qb _ _
 have H7:Hid (Y1 w (W6.alloc (.cells #[.slice (some ⟨O.heap.size,0,none⟩) n n] 92)) h S ⟨b1,b3,W6.heap.size,R,fb,O.heap.size⟩ B u n 0 0 0 none 0 (List.replicate n (none,0)) (List.replicate n false) [] (List.replicate d 0) (List.replicate n [])):=by
  obtain⟨q1,q2,q3,q4,q5,q6,q7⟩:=Z.out;have hb:=qd g4 h7
  have h9:∀x,isF (List.replicate n false) x=true->False:=by
   intro x E;unfold isF at E
   cases hq:(List.replicate n false)[x]? with
   | none=>rw[hq]at E;cases E
   | some b =>
    rw[hq]at E;have:=List.mem_of_getElem? hq;rw[List.mem_replicate]at this;rw[this.2]at E
    cases E
  refine⟨⟨⟨qd q1 hb,qf hb q2,qf hb q3,?_,q4.keep (fun k hk=>hb.block k (q4.loc hk).2.1),g6.below h7,fun k hk=>(qkf hk).elim⟩,?_,?_,(fun e=>by cases e),fun k hk=>(qkf hk).elim,?_⟩,by rw[List.length_replicate];exact A.out.symm,by simp,⟨by simp,List.nodup_nil,(fun x E=>by cases E)⟩,fun x E=>(h9 x E).elim,fun x E=>(h9 x E).elim,(fun j r h0 h1=>by omega),qo4 S n 0,fun x l hl=>?_⟩
  ·simp only[List.length_replicate];exact heap_alloc_new _ _
  ·rw[List.length_replicate];exact qf hb q5
  ·rw[List.length_replicate];exact qh q6 (fun i hi=>hb.block i (World.ownsRow.lt q6 i hi).2)
  ·simp only;omega
  ·have:=List.mem_of_getElem? hl;rw[List.mem_replicate]at this;rw[this.2];simp
 clear g6 g4 h7 Z
 go_upto_region 4 with fail
 clear j0 d3 dm;generalize W6.alloc (.cells #[.slice (some ⟨O.heap.size,0,none⟩) n n] 92)=W7 at H7 ⊢;generalize W6.heap.size=b5 at H7 ⊢;generalize O.heap.size=wb at H7 ⊢
 obtain⟨p,HP⟩:∃p:YP,Hid (p=⟨b1,b3,b5,R,fb,wb⟩):=⟨_,rfl⟩
 have p1:b1=p.b1:=by rw[HP.out]
 have p3:b3=p.b3:=by rw[HP.out]
 have p5:b5=p.b5:=by rw[HP.out]
 have pm:R=p.mb:=by rw[HP.out]
 have pf:fb=p.fb:=by rw[HP.out]
 have pw:wb=p.wb:=by rw[HP.out]
 rw[<-HP.out]at H7;clear HP f8;subst p1 p3 p5 pm pf pw;obtain⟨-,-,-,-,-,-,-,P⟩:=sbox H7.out.ym.yb.bs;rw[L.out,A.out]at P
 go_upto_block 0 with fail
 clear P
 go_cut [27] (fun s27 wd=>Hid (∃q s t fd m o f,Y1 w wd h S p B u n d d 0 q s t fd m o f))
 case first =>
  go_wp2_with fail
  go_loopg [27] d (fun kx s27 wr=>∃i:Nat,s27=.int .i64 i/\i<=d/\d - i<=kx/\Hid (∃q s t fd m o f,Y1 w wr h S p B u n i i 0 q s t fd m o f))
  case atStart=>exact⟨0,rfl,Nat.zero_le _,by omega,(⟨_,_,_,_,_,_,_,H7.out⟩:∃q s t fd m o f,Y1 w W7 h S p B u n 0 0 0 q s t fd m o f)⟩
  case round =>
   clear H7;obtain⟨i,rfl,hi,hg,J⟩:=hrel
   by_cases a9:i<d
   ·have a3:(i:Int)<(d:Int):=by omega
    obtain⟨q,s,t,fd,m,o,f,y⟩:=J.out
    obtain⟨r,hr⟩:∃r,S.rs[i]?=some r:=⟨S.rs[i]'(by rw[A.out];exact a9),List.getElem?_eq_getElem _⟩
    obtain⟨m6,m8,xa,xc,U,d0,d1,d2,d3,f6⟩:=C.out.2.1.rl.at hr;rw[L.out]at U
    cases U
    have d0:=qt y.ym.yb.bel d0;have d1:=qt y.ym.yb.bel d1;have d2:=qt y.ym.yb.bel d2;have d3:=qt y.ym.yb.bel d3;have k6:=zk f6;have k1:=(C.out.1.rr r (List.mem_of_getElem? hr)).1;have HR:=hid2 hr f6;have hv:Below wr.heap.size wr (wr.alloc (.cells #[.int .i64 r.l,.slice xa r.r.length xc,.int .i64 r.lv,.int .i64 r.a] 56)):=qb _ _
    have HV:Hid (Y1 w (wr.alloc (.cells #[.int .i64 r.l,.slice xa r.r.length xc,.int .i64 r.lv,.int .i64 r.a] 56)) h S p B u n i i 0 q s t fd m o f/\(wr.alloc (.cells #[.int .i64 r.l,.slice xa r.r.length xc,.int .i64 r.lv,.int .i64 r.a] 56)).heap[wr.heap.size]?=some (.cells #[.int .i64 r.l,.slice xa r.r.length xc,.int .i64 r.lv,.int .i64 r.a] 56 (0,0))):=⟨y.below hv,heap_alloc_new _ _⟩
    clear y J hr f6 hv
    go_upto_region 7 with fail
    obtain⟨Y,g3⟩:∃Y,Hid (Y=wr.heap.size):=⟨_,rfl⟩
    rw[<-g3.out]at HV ⊢;generalize wr.alloc (.cells #[.int .i64 r.l,.slice xa r.r.length xc,.int .i64 r.lv,.int .i64 r.a] 56)=V at HV ⊢;clear g3 d0 d1 d2 d3;obtain⟨c0,c1,c2,c3,c4,c5,c6,P⟩:=sbox HV.out.1.ym.yb.bs
    have e0:V.cell? ⟨Y,0,none⟩=some (.int .i64 r.l):=by rw[qe HV.out.2];rfl
    rw[L.out,A.out]at P
    by_cases i1:i=0
    ·subst i1
     have i5:r.l=-1:=by
      have h1:=C.out.1.hd;rw[HR.out.1]at h1
      cases h1
      rfl
     rw[i5]at e0;go_wp2_with fail;refine(a0.out _).mono ?_;rintro e V1 ⟨rfl,F⟩
     have K:Hid (∃q s t fd m o f,Y1 w V1 h S p B u n 1 1 0 q s t fd m o f):=⟨q,s,t,fd,m,o,f,(HV.out.1.below F).skip⟩
     clear F c0 c1 c2 c3 c4 c5 c6 P e0;go_wp2_with fail;go_roundg (d - (0+1))
     case measure=>omega
     case rel=>exact⟨1,by simp,by omega,by omega,K⟩
    ·obtain⟨xl,f0,f7,f5⟩:=C.out.1.rl i r (by omega) HR.out.1;rw[<-C.out.2.2]at f5;rw[f0]at e0;go_wp2_with fail;refine(a1.out _ _ f5 f7).mono ?_;rintro e V1 ⟨rfl,F⟩;have D:=hid2 (HV.out.1.below F) (qf F HV.out.2);clear F c0 c1 c2 c3 c4 c5 c6 P e0 HV
     have N:Hid (r.l=(xl:Int)/\S.tk<xl/\xl<n/\0<i):=⟨f0,f7,f5,by omega⟩
     clear f0 f7
     have f1:V1.cell? ⟨B,0,none⟩=some (.slice (some ⟨u,0,none⟩) d d):=by
      have:=D.out.1.ym.bi;rw[D.out.1.ml,A.out]at this;rw[qe this];rfl
     have f2:V1.cell? ⟨Y,1,none⟩=some (.slice xa r.r.length xc):=by rw[qe D.out.2];rfl
     have a8:i<o.length:=by rw[D.out.1.ml,A.out];exact a9
     have f3:V1.cell? ⟨u,i,none⟩=some (.int .i64 o[i]):=by
      rw[D.out.1.ym.mis.cellAt i (by omega)];unfold intC;rw[List.getElem?_map,List.getElem?_eq_getElem a8];rfl
     have f4:=D.out.1.ym.mis.frozenAt i;have y2:Y1 w (V1.setCell ⟨u,i,none⟩ (.int .i64 (r.r.length:Int))) h S p B u n i i 0 q s t fd m (o.set i (r.r.length:Int)) f:=D.out.1.put
     have g1:(V1.setCell ⟨u,i,none⟩ (.int .i64 (r.r.length:Int))).cell? ⟨B,0,none⟩=some (.slice (some ⟨u,0,none⟩) d d):=by
      have:=y2.ym.bi;rw[y2.ml,A.out]at this;rw[qe this];rfl
     have g2:(V1.setCell ⟨u,i,none⟩ (.int .i64 (r.r.length:Int))).cell? ⟨u,i,none⟩=some (.int .i64 (r.r.length:Int)):=by
      rw[y2.ym.mis.cellAt i (by rw[List.length_set];omega)]
      unfold intC;rw[List.getElem?_map,List.getElem?_set_self a8];rfl
     have v:Hid (Y1 w (V1.setCell ⟨u,i,none⟩ (.int .i64 (r.r.length:Int))) h S p B u n i i 0 q s t fd m (o.set i (r.r.length:Int)) f/\(V1.setCell ⟨u,i,none⟩ (.int .i64 (r.r.length:Int))).heap[Y]?=some (.cells #[.int .i64 r.l,.slice xa r.r.length xc,.int .i64 r.lv,.int .i64 r.a] 56 (0,0))/\(o.set i (r.r.length:Int))[i]?=some (r.r.length:Int)) :=
      ⟨y2,(Below.heap_setCell _ _ _ _ (show Y≠u from qu ⟨_,D.out.2⟩ (za D.out.1.ym.mis rfl) (by decide))).trans D.out.2,List.getElem?_set_self a8⟩
     generalize o[i]=z0 at f3;clear y2 D a8
     obtain⟨I,M⟩:∃I,Hid (r.r.length=I):=⟨_,rfl⟩
     rw[M.out]at f2 g1 g2 v k1 k6
     go_upto_if 47 with fail
     generalize V1.setCell ⟨u,i,none⟩ (.int .i64 (I:Int))=V2 at v g1 g2 ⊢;clear f1 f2 f3 f4 g1 g2
     go_cut [27] from 27 to 73 (fun s27 wd=>s27=.int .i64 (i:Int)/\Hid ((∃q s t fd m o f,Y1 w wd h S p B u n i (i+1) 0 q s t fd m o f)/\wd.heap[Y]?=some (.cells #[.int .i64 r.l,.slice xa I xc,.int .i64 r.lv,.int .i64 r.a] 56 (0,0))))
     case first =>
      by_cases i2:I=0
      ·subst i2
       have m3:V2.cell? ⟨p.b3,0,none⟩=some (.pointer (some ⟨p.mb,0,none⟩)):=by rw[qe v.out.1.ym.yb.bm];rfl
       have m7:V2.cell? ⟨Y,0,none⟩=some (.int .i64 (xl:Int)):=by rw[qe v.out.2.1,N.out.1];rfl
       have H:=List.eq_nil_of_length_eq_zero M.out;have h2:=Der.rule i r xl N.out.2.2.2 HR.out.1 N.out.1 (fun y hy=>by rw[H]at hy;cases hy)
       have HD:=hid2 h2 H;clear h2 H;go_wp2_with fail;refine(qaq V2 w.heap.size p.mb p.fb s n xl q fd m v.out.1.ym.yb.mrk v.out.1.ok N.out.2.2.1 hn v.out.1.ym.yb.bel.size).mono ?_;rintro e V3 ⟨rfl,k7,l0,a4,X⟩
       have K:Hid ((∃q s t fd m o f,Y1 w V3 h S p B u n i (i+1) 0 q s t fd m o f)/\V3.heap[Y]?=some (.cells #[.int .i64 r.l,.slice xa 0 xc,.int .i64 r.lv,.int .i64 r.a] 56 (0,0))):=by
        obtain⟨t1,t2,t3⟩:=v.out.1.mark N.out.2.2.1 HD.out.1 a4 X;refine⟨⟨_,_,_,_,_,_,_,t1.told HR.out.1 (by rw[M.out];exact v.out.2.2) (fun i0 _ i6=>?_)⟩,?_⟩
        ·have k4:=N.out.1;rw[i6]at k4
         have:i0=xl:=by omega
         rw[this];exact t2
        ·rw[X.1.block Y (Array.getElem?_eq_some_iff.1 v.out.2.1).1 (v.out.1.ym.yb.mrk.notMF ⟨_,v.out.2.1⟩ (by decide) (by decide) (by decide))];exact v.out.2.1
       clear a4 X m3 m7;go_wp2_with fail;go_meet;exact⟨rfl,K⟩
      ·have l3:((I:Int) == 0)=false:=by
        have:(I:Int)≠0:=by omega
        simpa using this
       have K:Hid ((∃q s t fd m o f,Y1 w V2 h S p B u n i (i+1) 0 q s t fd m o f)/\V2.heap[Y]?=some (.cells #[.int .i64 r.l,.slice xa I xc,.int .i64 r.lv,.int .i64 r.a] 56 (0,0))) :=
        ⟨⟨_,_,_,_,_,_,_,v.out.1.told HR.out.1 (by rw[M.out];exact v.out.2.2) (fun i0 H _=>by have:=M.out;rw[H]at this;simp at this;omega)⟩,v.out.2.1⟩
       go_wp2_with fail;go_meet;exact⟨rfl,K⟩
     case rest =>
      obtain⟨rfl,J2⟩:=hcut
      obtain⟨w2,l6⟩:∃w2,w2=wc:=⟨_,rfl⟩
      subst wc
      have m1:w2.cell? ⟨Y,1,none⟩=some (.slice xa I xc):=by rw[qe J2.out.2];rfl
      clear v;go_wp2_with fail;clear m1
      go_loopg [55] I (fun kx s55 wr=>∃k:Nat,s55=.int .i64 k/\k<=I/\I - k<=kx/\Hid (∃q s t fd m o f,Y1 w wr h S p B u n i (i+1) k q s t fd m o f))
      case atStart=>exact⟨0,rfl,Nat.zero_le _,by omega,(J2.out.1:∃q s t fd m o f,Y1 w w2 h S p B u n i (i+1) 0 q s t fd m o f)⟩
      case round =>
       clear J2;obtain⟨k,rfl,hk,l4,J⟩:=hrel
       by_cases h4:k<I
       ·have d6:(k:Int)<(I:Int):=by omega
        obtain⟨q,s,t,fd,m,o,f,y⟩:=J.out
        obtain⟨z,hz⟩:∃z,r.r[k]?=some z:=⟨r.r[k]'(by rw[M.out];exact h4),List.getElem?_eq_getElem _⟩
        obtain⟨b2,o2,k5,q1⟩:=yd (HR.out.2.below y.ym.yb.bel) hz;subst k5
        have h8:z<n:=by rw[C.out.2.2];exact(C.out.1.rr r (List.mem_of_getElem? HR.out.1)).2 z (List.mem_of_getElem? hz)
        obtain⟨c0,c1,c2,c3,c4,c5,c6,P⟩:=sbox y.ym.yb.bs;rw[L.out,A.out]at P
        have HY:Hid (Y1 w wr h S p B u n i (i+1) k q s t fd m o f/\(rgt S i)[k]?=some z):=⟨y,by rw[qkg HR.out.1];exact hz⟩
        clear y hz J;go_wp2_with fail;refine(a2.out _ _ h8).mono ?_;rintro e V4 ⟨rfl,T⟩;have y4:=(HY.out.1.below T).below (qo V4);obtain⟨qa,qm,qc,g,c,W',q2,q3,q4,b8,d1,f1,d5,n1,n2,y5⟩:=y4.push N.out.2.2.2 HY.out.2 h8 (by omega)
        have q5:V4.cell? ⟨p.b5,0,none⟩=some (.slice (some ⟨p.wb,0,none⟩) n n):=by
         have:=(HY.out.1.below T).ym.yb.bw;rw[y4.wl]at this;rw[qe this];rfl
        have q2:V4.cell? ⟨p.wb,z,none⟩=some (.slice qa qm qc):=q2;have d8:(Builtin.append_ #[28,28] 28 #[.slice qa qm qc,.slice (some ⟨V4.heap.size,0,none⟩) 1 1]).run Tryz.prog (V4.alloc (.cells #[.int .i64 (i:Int)] 3)).drew=.ok (.slice (some ⟨g,0,none⟩) (qm+1) c) W':=b8
        have K:Hid (∃q s t fd m o f,Y1 w (W'.setCell ⟨p.wb,z,none⟩ (.slice (some ⟨g,0,none⟩) (qm+1) c)) h S p B u n i (i+1) (k+1) q s t fd m o f):=⟨_,_,_,_,_,_,_,y5⟩
        clear y4 y5 T HY b8 c0 c1 c2 c3 c4 c5 c6 P q1
        go_upto_region 15 with fail
        have m5:=qp q5 (.cells #[.int .i64 (i:Int)] 3);have m4:=qp q2 (.cells #[.int .i64 (i:Int)] 3)
        have l2:(z:Int)<(n:Int):=by omega
        go_region_law(refine zb rfl (.tmp 67) (.tmp 69) rfl rfl (by simp[Act.eval]) (by simp[Act.eval]) d8 ?_)
        all_goals
         go_wp2_with fail;go_roundg (I - (k+1))
         case measure=>omega
         case rel=>exact⟨k+1,by simp,by omega,Nat.le_refl _,K⟩
       ·have d6:¬(k:Int)<(I:Int):=by omega
        have K:Hid (∃q s t fd m o f,Y1 w wr h S p B u n (i+1) (i+1) 0 q s t fd m o f):=by
         obtain⟨q,s,t,fd,m,o,f,y⟩:=J.out;exact⟨q,s,t,fd,m,o,f,y.next (by rw[qkg HR.out.1,M.out];omega) (by omega)⟩
        clear J;go_wp2_with fail;go_roundg (d - (i+1))
        case measure=>omega
        case rel=>exact⟨i+1,by simp,by omega,Nat.le_refl _,K⟩
   ·have a3:¬(i:Int)<(d:Int):=by omega
    have K:Hid (∃q s t fd m o f,Y1 w wr h S p B u n d d 0 q s t fd m o f):=by
     have:i=d:=by omega
     subst this;exact J.out
    clear J;go_wp2_with fail;go_meet;exact K
 case rest =>
  obtain⟨w8,l7⟩:∃w8,w8=wc:=⟨_,rfl⟩
  subst wc;obtain⟨q,s,t,fd,m,o,f,y⟩:=hcut.out;obtain⟨c0,-,-,-,-,-,-,-⟩:=sbox y.ym.yb.bs
  have m3:w8.cell? ⟨p.b3,0,none⟩=some (.pointer (some ⟨p.mb,0,none⟩)):=by rw[qe y.ym.yb.bm];rfl
  have m0:w8.cell? ⟨p.mb,0,none⟩=some (.slice (some ⟨p.fb,0,none⟩) n n):=by rw[qe y.ym.yb.mrk.box,y.ok.len];rfl
  have l5:S.tk<n:=by have:=C.out.2.2;omega
  have l1:(S.tk:Int)<(n:Int):=by omega
  have i7:min (S.tk:Int) (n:Int)=(S.tk:Int):=by omega
  have HY:=hid (y.below (qo w8));clear y hcut H7 HC a2 a1 a0
  go_upto_region 18 with fail
  go_cut [81,82] (fun s81 s82 wd=>s81=.int .i64 (S.tk:Int)/\s82=.int .i64 0/\wd=w8.drew)
  case first =>
   go_region
   all_goals
    go_wp2_with fail;go_meet;exact⟨rfl,rfl,rfl⟩
  case rest =>
   obtain⟨rfl,rfl,k3⟩:=hcut;subst k3;clear c0 m3 m0 i7;go_wp2_with fail
   go_loopg [82] S.tk (fun kx s82 wr=>∃k:Nat,s82=.int .i64 k/\k<=S.tk/\S.tk - k<=kx/\Hid (∃q s t fd m o f,Y1 w wr h S p B u n d d 0 q s t fd m o f/\∀x,x<k->isF fd x=true))
   case atStart=>exact⟨0,rfl,Nat.zero_le _,by omega,(⟨_,_,_,_,_,_,_,HY.out,fun x E=>absurd E (Nat.not_lt_zero _)⟩:∃q s t fd m o f,Y1 w w8.drew h S p B u n d d 0 q s t fd m o f/\∀x,x<0->isF fd x=true)⟩
   case round =>
    clear HY;obtain⟨k,rfl,hk,hg,J⟩:=hrel;obtain⟨q,s,t,fd,m,o,f,y,E⟩:=J.out
    have m3:wr.cell? ⟨p.b3,0,none⟩=some (.pointer (some ⟨p.mb,0,none⟩)):=by rw[qe y.ym.yb.bm];rfl
    have G:=hid2 y E;clear y E J
    by_cases a9:k<S.tk
    ·have a3:(k:Int)<(S.tk:Int):=by omega
     go_wp2_with fail;refine(qaq wr w.heap.size p.mb p.fb s n k q fd m G.out.1.ym.yb.mrk G.out.1.ok (by omega) hn G.out.1.ym.yb.bel.size).mono ?_;rintro e V3 ⟨rfl,k7,l0,a4,X⟩
     have K:Hid (∃q s t fd m o f,Y1 w V3 h S p B u n d d 0 q s t fd m o f/\∀x,x<k+1->isF fd x=true):=by
      obtain⟨t1,t2,t3⟩:=G.out.1.mark (x:=k) (by omega) (Der.tok k a9) a4 X;refine⟨_,_,_,_,_,_,_,t1,fun x E=>?_⟩
      rcases Nat.lt_or_ge x k with h1 | h1
      ·exact t3 x (G.out.2 x h1)
      ·have:x=k:=by omega
       subst this;exact t2
     clear a4 X m3;go_wp2_with fail;go_roundg (S.tk - (k+1))
     case measure=>omega
     case rel=>exact⟨k+1,by simp,by omega,Nat.le_refl _,K⟩
    ·have a3:¬(k:Int)<(S.tk:Int):=by omega
     have HI:Hid (IY w h S p B u n t f wr q s fd m):=by
      have y1:=G.out.1;rw[<-A.out]at y1;exact qqq y1 (fun x E=>G.out.2 x (by omega))
     have HW:Hid (f.length=n/\Wts S S.rs.length f/\∀(x:Nat) (l:List Nat),f[x]?=some l->l.length<=100000):=by
      have y1:=G.out.1;rw[<-A.out]at y1;exact⟨y1.wl,qqp y1.wts,fun x l hl=>by have:=y1.rows x l hl;rw[A.out]at this;omega⟩
     clear G;go_wp2_with fail;refine(qek 129 #[.pointer (some ⟨p.b5,0,none⟩),.pointer (some ⟨B,0,none⟩),.pointer (some ⟨p.b3,0,none⟩),.pointer (some ⟨p.b1,0,none⟩)] qsk w.heap.size p.mb n hn (IY w h S p B u n t f) qsm (qsn C.out.1 C.out.2.1 C.out.2.2 HW.out.1 HW.out.2.1 HW.out.2.2) wr q s fd m HI.out).mono ?_;rintro e V5 ⟨rfl,m9,n0,a7,m2,y5,b0,-,g7,g9,g5,g8⟩
     have l9:V5.cell? ⟨p.b3,0,none⟩=some (.pointer (some ⟨p.mb,0,none⟩)):=by rw[qe y5.yb.bm];rfl
     have l8:V5.cell? ⟨p.mb,0,none⟩=some (.slice (some ⟨p.fb,0,none⟩) n n):=by rw[qe y5.yb.mrk.box,b0.len];rfl
     have K:Hid (a7.length=n/\V5.ownsRow w.heap.size 4 1 (.slice (some ⟨p.fb,0,none⟩) n n) n (booC a7)/\xm (Der S) a7/\Below w.heap.size w V5):=by
      have h1:=y5.yb.mrk.fnd;rw[b0.len]at h1;exact⟨b0.len,h1,qnf g7 g9 g5 g8,y5.yb.bel⟩
     clear y5 b0 g7 g9 g5 g8 m3;go_wp2_with fail;go_ret;exact⟨p.fb,a7,rfl,K.out⟩
structure WG (S:Sp):Prop where
 nm:S.nm.length=S.tk+1+S.nt
 tk:S.tk<=100
 nt:S.nt<=200
 nr:S.rs.length<=300
 st:S.tk<S.st/\S.st<S.tk+1+S.nt
 rl:∀(i:Nat) (r:SR),S.rs[i]?=some r->r.l=-1\/∃x:Nat,r.l=(x:Int)/\S.tk<x/\x<S.tk+1+S.nt
 rr:∀r∈S.rs,r.r.length<=100/\∀y∈r.r,y<S.tk+1+S.nt
theorem WG.szs{S:Sp}(h:WG S):Szs S (S.tk+1+S.nt):=⟨h.nm,rfl,h.tk,h.nt⟩
def RcH (S:Sp) (x:Nat):Prop:=∀P:Nat->Prop,P S.st->(∀(i:Nat) (r:SR) (x y:Nat),S.rs[i]?=some r->r.l=(x:Int)->P x->y∈r.r->P y)->P x
theorem RcH.start{S:Sp}:RcH S S.st:=fun _ a _=>a
theorem RcH.rule{S:Sp}(i:Nat)(r:SR)(x y:Nat)(d:S.rs[i]?=some r)(c:r.l=(x:Int))(h:RcH S x)(f:y∈r.r):RcH S y:=fun P b a=>a i r x y d c (h P b a) f
def qgt (S:Sp) (fd:List Bool):Prop:=∀x,isF fd x=true->RcH S x
def ClH (S:Sp) (P:Nat->Bool) (fd:List Bool):Prop:=∀(i:Nat) (r:SR) (x y:Nat),S.rs[i]?=some r->r.l=(x:Int)->P x=true->y∈r.r->isF fd y=true
def RlH (S:Sp) (i:Nat) (wt:List (List Nat)):Prop:=∀(x:Nat) (l:List Nat),wt[x]?=some l->∀j,j∈l↔(j<i/\∃r,S.rs[j]?=some r/\r.l=(x:Int))
theorem qkh{S:Sp}{fd:List Bool}(d:ClH S (isF fd) fd)(hd:qgt S fd)(f:isF fd S.st=true):xm (RcH S) fd:=by
 have a:∀x,RcH S x->isF fd x=true:=by
  intro x g;exact g (fun x=>isF fd x=true) f d
 intro x b c
 constructor
 ·rintro rfl;exact hd x (by unfold isF;rw[c];rfl)
 ·intro h;have:=a x h;unfold isF at this;rw[c]at this;exact this
def LH (w W:World) (h:SHd) (S:Sp) (p:YP) (vs:List (Option Addr × Nat)) (wt:List (List Nat)) (n:Nat) (fd:List Bool) (fr:List Nat) (l:List Nat) (k:Nat):Prop :=
 ∃va vc fd' fr',YB w W h S p va vc vs fd' fr' wt/\Adds n fd fr fd' fr'/\qgt S fd'/\∀(j i:Nat) (r:SR) (y:Nat),j<k->l[j]?=some i->S.rs[i]?=some r->y∈r.r->isF fd' y=true
def LH2 (w W:World) (h:SHd) (S:Sp) (p:YP) (vs:List (Option Addr × Nat)) (wt:List (List Nat)) (n:Nat) (fd:List Bool) (fr:List Nat) (l:List Nat) (k:Nat) (r:SR) (k2:Nat):Prop :=
 ∃va vc fd' fr',YB w W h S p va vc vs fd' fr' wt/\Adds n fd fr fd' fr'/\qgt S fd'/\(∀(j i:Nat) (r:SR) (y:Nat),j<k->l[j]?=some i->S.rs[i]?=some r->y∈r.r->isF fd' y=true)/\∀(j y:Nat),j<k2->r.r[j]?=some y->isF fd' y=true
theorem LH.open{w W:World}{h:SHd}{S:Sp}{p:YP}{d:List (Option Addr × Nat)}{f:List (List Nat)}{n:Nat}{fd:List Bool}{c:List Nat}{l:List Nat}{k:Nat}(y:LH w W h S p d f n fd c l k)(r:SR):LH2 w W h S p d f n fd c l k r 0:=by
 obtain⟨s,t,a,b,g,i,m,o⟩:=y;exact⟨s,t,a,b,g,i,m,o,fun j y q=>absurd q (Nat.not_lt_zero _)⟩
theorem LH2.shut{w W:World}{h:SHd}{S:Sp}{p:YP}{q:List (Option Addr × Nat)}{s:List (List Nat)}{n:Nat}{fd:List Bool}{f:List Nat}{l:List Nat}{k i:Nat}{r:SR}(y:LH2 w W h S p q s n fd f l k r r.r.length)(A:l[k]?=some i)(B:S.rs[i]?=some r):LH w W h S p q s n fd f l (k+1):=by
 obtain⟨E,F,c,d,t,u,v,x,z⟩:=y;refine⟨E,F,c,d,t,u,v,fun j C D y G a b o=>?_⟩
 rcases Nat.lt_or_ge j k with h | h
 ·exact x j C D y h a b o
 ·have:j=k:=by omega
  subst this;rw[A]at a
  cases a
  rw[B]at b
  cases b
  obtain⟨m,g⟩:=List.getElem?_of_mem o;exact z m y (List.getElem?_eq_some_iff.1 g).1 g
theorem LH2.below{w W c:World}{h:SHd}{S:Sp}{p:YP}{g:List (Option Addr × Nat)}{i:List (List Nat)}{n:Nat}{fd:List Bool}{d:List Nat}{l:List Nat}{k f:Nat}{r:SR}(y:LH2 w W h S p g i n fd d l k r f)(o:Below W.heap.size W c):LH2 w c h S p g i n fd d l k r f:=by
 obtain⟨q,s,a,b,j,m⟩:=y;exact⟨q,s,a,b,j.below o,m⟩
theorem LH2.mark{w W:World}{h:SHd}{S:Sp}{p:YP}{B:List (Option Addr × Nat)}{C:List (List Nat)}{n:Nat}{fd:List Bool}{A:List Nat}{l:List Nat}{k b z:Nat}{r:SR}(y:LH2 w W h S p B C n fd A l k r b)(L:r.r[b]?=some z)(a:z<n)(J:n<=1000)(t:RcH S z):
  Calls Tryz.prog 66 #[.pointer (some ⟨p.mb,0,none⟩),.int .i64 (z:Int)] W fun e D=>e=.returned (.tuple #[])/\LH2 w D h S p B C n fd A l k r (b+1):=by
 obtain⟨Q,R,d,f,g,m,G,H,I⟩:=y;refine(qaq W w.heap.size p.mb p.fb R n z Q d f g.mrk m.ok a J g.bel.size).mono ?_;rintro e T ⟨rfl,v,x,o,q⟩;obtain⟨c,E,F⟩:=qch m.ok a;refine⟨rfl,v,x,_,_,g.mark o q,m.trans c,fun u K=>?_,fun j i r y M N O P=>c.up y (H j i r y M N O P),fun j y U s=>?_⟩
 ·rcases F u K with e | e
  ·exact G u e
  ·subst e;exact t
 ·rcases Nat.lt_or_ge j b with h | h
  ·exact c.up y (I j y h s)
  ·have:j=b:=by omega
   subst this;rw[L]at s
   cases s
   exact E
theorem ql0(w W:World)(h:SHd)(S:Sp)(p:YP)(o:List (Option Addr × Nat))(b:List (List Nat))(n x:Nat)(fd:List Bool)(s:List Nat)(l:List Nat)(y:LH w W h S p o b n fd s l 0)(g:WG S)(Q:IsSp w h S)(B:n=S.tk+1+S.nt)(L:b[x]?=some l)(hw:∀i∈l,∃r,S.rs[i]?=some r/\r.l=(x:Int))(hd:RcH S x)(a7:l.length<=100000):
  Calls Tryz.prog 68 #[.int .i64 (x:Int),.pointer (some ⟨p.b5,0,none⟩),.pointer (some ⟨p.b1,0,none⟩),.pointer (some ⟨p.b3,0,none⟩)] W fun e W'=>e=.returned (.tuple #[])/\LH w W' h S p o b n fd s l l.length:=by
 have HY:Hid (LH w W h S p o b n fd s l 0):=y
 have f:Hid (WG S/\IsSp w h S/\n=S.tk+1+S.nt/\RcH S x/\b[x]?=some l):=⟨g,Q,B,hd,L⟩
 have HW:Hid (∀i∈l,∃r,S.rs[i]?=some r/\r.l=(x:Int)):=hw;obtain⟨d2,d5,b9,c5,Z,-⟩:=y;obtain⟨q,hq,c1,-⟩:=Z.grd.at L
 have c0:W.cell? ⟨p.b5,0,none⟩=some (.slice (some ⟨p.wb,0,none⟩) b.length b.length):=by rw[qe Z.bw];rfl
 have hx:x<b.length:=(List.getElem?_eq_some_iff.1 L).1;have HQ:Hid (o[x]?=some q):=hq;obtain⟨qa,qc⟩:=q;simp only at c1;have M:=zq (Z.grd.row x _ l hq L);simp only at M;have a9:S.rs.length<=300:=g.nr
 have HN:Hid (n<=1000):=by
  have h1:=g.tk;have h2:=g.nt;show n<=1000;omega
 have a0:Hid (∀(V:World) (z:Nat),z<n->Calls Tryz.prog 65 #[.agg (sC h S),.int .i64 (z:Int)] V fun e w'=>e=.returned (.bool true)/\Below V.heap.size V w'):=fun V z u=>qcn h S V n z (by rw[B];exact g.szs) u
 clear Z hq L hd Q g hw B;generalize b.length=wn at c0 hx
 obtain⟨m,HM⟩:∃m,Hid (l.length=m):=⟨_,rfl⟩
 rw[HM.out]at c1 a7 M ⊢;go_enter Tryz.func68,Tryz.ntmps68;go_wp2_with fail
 go_loopg [14] m (fun kx s14 wr=>∃k:Nat,s14=.int .i64 k/\k<=m/\m - k<=kx/\Hid (LH w wr h S p o b n fd s l k))
 case atStart=>exact⟨0,rfl,Nat.zero_le _,by omega,HY⟩
 case round =>
  clear c0 c1 HY;obtain⟨k,rfl,hk,hg,J⟩:=hrel
  by_cases a8:k<m
  ·obtain⟨va,vc,a4,a5,y,-⟩:=J.out
   obtain⟨i,Y⟩:∃i,l[k]?=some i:=⟨l[k]'(by rw[HM.out];exact a8),List.getElem?_eq_getElem _⟩
   obtain⟨r,C,P⟩:=HW.out i (List.mem_of_getElem? Y);have a6:i<S.rs.length:=(List.getElem?_eq_some_iff.1 C).1;have b0:r.r.length<=100:=(f.out.1.rr r (List.mem_of_getElem? C)).1;have a:=y.grd.row x _ l HQ.out f.out.2.2.2.2;simp only at a;rw[HM.out]at a
   obtain⟨qg,rfl⟩:∃qg,qa=some ⟨qg,0,none⟩:=by
    obtain⟨ao,c,e,-,-,X⟩:=zo a
    cases e
    rcases X with ⟨-,X,-⟩ | X
    ·omega
    ·exact X
   have d1:wr.cell? ⟨qg,k,none⟩=some (.int .i64 (i:Int)):=by
    rw[a.cellAt k (by omega)];unfold natC;rw[List.getElem?_map,Y];rfl
   obtain⟨rb,ro,xa,xc,D,-,G,-,-,E⟩:=f.out.2.1.rl.at C;have g1:=qt y.bel G;obtain⟨-,-,-,-,-,-,-,U⟩:=sbox y.bs;rw[D]at U;have O:=vn f.out.2.1.rl;have b6:=zk E;have a2:Hid (Row w 1 xa r.r.length xc (natC r.r)):=E
   have HR:Hid (l[k]?=some i/\S.rs[i]?=some r/\∀z∈r.r,z<n/\RcH S z):=⟨Y,C,fun z u=>⟨by rw[f.out.2.2.1];exact(f.out.1.rr r (List.mem_of_getElem? C)).2 z u,RcH.rule i r x z C P f.out.2.2.2.1 u⟩⟩
   have F:Hid (LH2 w wr h S p o b n fd s l k r 0):=J.out.open r;have a3:Hid (YB w wr h S p va vc o a4 a5 b):=y;have b8:Hid (h.ra=some ⟨rb,ro,none⟩):=D
   have K:(i:Int)<(S.rs.length:Int):=by omega
   have b7:(k:Int)<(m:Int):=by omega
   clear y J a Y C P D E G;generalize S.rs.length=rn at a9 a6 U O K;generalize h.rc=rc at U O
   obtain⟨t,v⟩:∃t,Hid (r.r.length=t):=⟨_,rfl⟩
   rw[v.out]at b0 b6 g1
   obtain⟨wo,d0⟩:∃wo,wo=wr:=⟨_,rfl⟩
   subst wr;go_wp2_with fail;clear d1 g1 U
   go_loopg [25] t (fun kx s25 wr=>∃d:Nat,s25=.int .i64 d/\d<=t/\t - d<=kx/\Hid (LH2 w wr h S p o b n fd s l k r d))
   case atStart=>exact⟨0,rfl,Nat.zero_le _,by omega,F⟩
   case round =>
    clear F a3;obtain⟨d,rfl,c9,c8,J⟩:=hrel
    by_cases N:d<t
    ·have A:(d:Int)<(t:Int):=by omega
     obtain⟨z,u⟩:∃z,r.r[d]?=some z:=⟨r.r[d]'(by rw[v.out];exact N),List.getElem?_eq_getElem _⟩
     obtain⟨d3,d6,c3,c6,y,-⟩:=J.out;obtain⟨b2,o2,b4,q1⟩:=yd (a2.out.below y.bel) u;subst b4;obtain⟨R,T⟩:=HR.out.2.2 z (List.mem_of_getElem? u);obtain⟨s0,s1,s2,s3,s4,s5,s6,s7⟩:=sbox y.bs
     have HZ:Hid (r.r[d]?=some z/\z<n/\RcH S z):=⟨u,R,T⟩
     have HC:Hid (Calls Tryz.prog 65 #[.agg (sC h S),.int .i64 (z:Int)] wr fun e w'=>e=.returned (.bool true)/\Below wr.heap.size wr w'):=a0.out wr z R;unfold sC at HC;clear y u T;go_wp2_with fail;refine HC.out.mono ?_;rintro e V ⟨rfl,H⟩;have JV:Hid (LH2 w V h S p o b n fd s l k r d):=J.out.below H;obtain⟨d4,d7,c4,c7,y3,-⟩:=JV.out
     have t3:V.cell? ⟨p.b3,0,none⟩=some (.pointer (some ⟨p.mb,0,none⟩)):=by rw[qe y3.bm];rfl
     clear y3 H HC J s0 s1 s2 s3 s4 s5 s6 s7 q1;go_wp2_with fail;refine(JV.out.mark HZ.out.1 HZ.out.2.1 HN.out HZ.out.2.2).mono ?_;rintro e V2 ⟨rfl,I⟩;have a1:Hid (LH2 w V2 h S p o b n fd s l k r (d+1)):=I;clear I JV t3;go_wp2_with fail;go_roundg (t - (d+1))
     case measure=>omega
     case rel=>exact⟨d+1,by simp,by omega,Nat.le_refl _,a1⟩
    ·have A:¬(d:Int)<(t:Int):=by omega
     have HF:Hid (LH w wr h S p o b n fd s l (k+1)):=by
      have:d=t:=by omega
      subst this;have j:=J.out;rw[<-v.out]at j;exact j.shut HR.out.1 HR.out.2.1
     clear J;go_wp2_with fail;go_roundg (m - (k+1))
     case measure=>omega
     case rel=>exact⟨k+1,by simp,by omega,Nat.le_refl _,HF⟩
  ·have HF:Hid (LH w wr h S p o b n fd s l m):=by
    have:k=m:=by omega
    subst this;exact J.out
   clear J;go_wp2_with fail;go_end0;exact⟨rfl,HF.out⟩
structure H1 (w W:World) (h:SHd) (S:Sp) (p:YP) (n i:Nat) (va:Option Addr) (vc:Nat) (vs:List (Option Addr × Nat)) (wt:List (List Nat)):Prop where
 yb:YB w W h S p va vc vs (List.replicate n false) [] wt
 wl:wt.length=n
 rls:RlH S i wt
 rows:∀(x:Nat) (l:List Nat),wt[x]?=some l->l.length<=i
theorem H1.below{w W a:World}{h:SHd}{S:Sp}{p:YP}{n i:Nat}{b:Option Addr}{c:Nat}{d:List (Option Addr × Nat)}{f:List (List Nat)}(y:H1 w W h S p n i b c d f)(g:Below W.heap.size W a):H1 w a h S p n i b c d f :=
 ⟨y.yb.below g,y.wl,y.rls,y.rows⟩
theorem qqr(S:Sp)(n:Nat):RlH S 0 (List.replicate n []):=by
 intro x l b j;have a:=List.mem_of_getElem? b;rw[List.mem_replicate]at a;rw[a.2]
 constructor
 ·intro h;cases h
 ·rintro⟨h,-⟩;omega
theorem H1.skip{w W:World}{h:SHd}{S:Sp}{p:YP}{n i:Nat}{c:Option Addr}{d:Nat}{f:List (Option Addr × Nat)}{g:List (List Nat)}{r:SR}(y:H1 w W h S p n i c d f g)(m:S.rs[i]?=some r)(s:r.l=-1):H1 w W h S p n (i+1) c d f g :=
 ⟨y.yb,y.wl,fun x l b j=>(y.rls x l b j).trans ⟨fun h=>⟨by omega,h.2⟩,fun⟨o,q,a,k⟩=>⟨by
  rcases Nat.lt_or_ge j i with h4 | h4
  ·exact h4
  ·have:j=i:=by omega
   subst this;rw[m]at a
   cases a
   omega,q,a,k⟩⟩,fun x l b=>Nat.le_succ_of_le (y.rows x l b)⟩
theorem qqs{S:Sp}{i x:Nat}{d:List (List Nat)}{l:List Nat}{r:SR}(h:RlH S i d)(n:S.rs[i]?=some r)(o:r.l=(x:Int))(k:d[x]?=some l):RlH S (i+1) (d.set x (l++[i])):=by
 intro y m c j;rw[List.getElem?_set]at c;have g:x<d.length:=(List.getElem?_eq_some_iff.1 k).1
 by_cases p:x=y
 ·subst p;rw[if_pos rfl,if_pos g]at c
  cases c
  rw[List.mem_append,List.mem_singleton,h x l k j]
  constructor
  ·rintro(⟨f,a⟩ | rfl)
   ·exact⟨by omega,a⟩
   ·exact⟨by omega,r,n,o⟩
  ·rintro⟨f,a⟩
   rcases Nat.lt_or_ge j i with b | b
   ·exact .inl ⟨b,a⟩
   ·exact .inr (by omega)
 ·rw[if_neg p]at c;rw[h y m c j]
  constructor
  ·rintro⟨f,a⟩;exact⟨by omega,a⟩
  ·rintro⟨f,q,a,b⟩
   rcases Nat.lt_or_ge j i with h5 | h5
   ·exact⟨h5,q,a,b⟩
   ·have:j=i:=by omega
    subst this;rw[n]at a
    cases a
    rw[o]at b;omega
theorem H1.push{w W:World}{h:SHd}{S:Sp}{p:YP}{n i x:Nat}{G:Option Addr}{H:Nat}{N:List (Option Addr × Nat)}{C:List (List Nat)}{r:SR}(y:H1 w W h S p n i G H N C)(K:S.rs[i]?=some r)(L:r.l=(x:Int))(v:x<n)(T:i<10000):
  ∃A o t g c b,W.cell? ⟨p.wb,x,none⟩=some (.slice A o t)/\o<=t/\t<=9223372036854775807/\(Builtin.append_ #[28,28] 28 #[.slice A o t,.slice (some ⟨W.heap.size,0,none⟩) 1 1]).run Tryz.prog (W.alloc (.cells #[.int .i64 (i:Int)] 3))=.ok (.slice (some ⟨g,0,none⟩) (o+1) c) b /\
   b.cell? ⟨p.wb,x,none⟩=some (.slice A o t)/\b.frozen? ⟨p.wb,x,none⟩=false/\b.cell? ⟨p.b5,0,none⟩=some (.slice (some ⟨p.wb,0,none⟩) n n)/\Kept (fun k=>Loc W k 28\/Loc W k 3) W b /\
   ∃B D,H1 w (b.setCell ⟨p.wb,x,none⟩ (.slice (some ⟨g,0,none⟩) (o+1) c)) h S p n (i+1) G H B D:=by
 obtain⟨l,f⟩:∃l,C[x]?=some l:=⟨C[x]'(by rw[y.wl];exact v),List.getElem?_eq_getElem _⟩
 obtain⟨q,u,c1,-⟩:=y.yb.grd.at f;have F:=y.rows x l f;obtain⟨g,c,b,d,-,-,M,-,-,-⟩:=y.yb.grd.add (i:=i) y.yb.bel.size f u (by omega);obtain⟨Q,c2,P,a,I,J,E,O,R,U⟩:=y.yb.push (i:=i) f u (by omega);rw[d]at a
 injection a with e1 e2
 cases e1
 subst e2;have s:=zq (y.yb.grd.row x q l u f);rw[y.wl]at E;refine⟨q.1,l.length,q.2,g,c,b,c1,s.1,s.2,d,I,J,E,M.weaken (fun k e=>.inr (y.yb.grd.lt ⟨x,q,u,e⟩).2.2),_,_,O,by rw[List.length_set];exact y.wl,qqs y.rls K L f,fun z m j=>?_⟩
 rw[List.getElem?_set]at j
 split at j
 ·split at j
  ·cases j
   rw[List.length_append];simp;omega
  ·cases j
 ·have:=y.rows z m j;omega
def IH (w:World) (h:SHd) (S:Sp) (p:YP) (n:Nat) (vs:List (Option Addr × Nat)) (wt:List (List Nat)) (W:World) (va:Option Addr) (vc:Nat) (fd:List Bool) (fr:List Nat):Prop :=
 YB w W h S p va vc vs fd fr wt/\MK n fd fr/\ClH S (prc fd fr) fd/\qgt S fd/\isF fd S.st=true
theorem qso{w:World}{h:SHd}{S:Sp}{p:YP}{n:Nat}{g:List (Option Addr × Nat)}{i:List (List Nat)}:∀W b c fd a,IH w h S p n g i W b c fd a->MK n fd a/\∃d,Mrk W w.heap.size p.mb d b c fd a:=by
 rintro W b c fd a ⟨y,f,-⟩;exact⟨f,p.fb,y.mrk⟩
theorem qsp{w:World}{h:SHd}{S:Sp}{p:YP}{n:Nat}{B:List (Option Addr × Nat)}{c:List (List Nat)}(G:WG S)(F:IsSp w h S)(D:n=S.tk+1+S.nt)(H:c.length=n)(M:RlH S S.rs.length c)(f:∀(x:Nat) (l:List Nat),c[x]?=some l->l.length<=100000):
  ∀W o q fd d x,IH w h S p n B c W o q fd (d++[x])->Calls Tryz.prog 68 (#[.int .i64 (x:Int)]++#[.pointer (some ⟨p.b5,0,none⟩),.pointer (some ⟨p.b1,0,none⟩),.pointer (some ⟨p.b3,0,none⟩)]) (popW W p.mb o d.length q) fun e J=>e=.returned (.tuple #[])/\∃g k a b,IH w h S p n B c J g k a b/\lft n a b<lft n fd (d++[x]):=by
 rintro W o q fd d x ⟨y,Y,U,K,V⟩;obtain⟨Z,O,I,P⟩:=Y.pop
 obtain⟨l,t⟩:∃l,c[x]?=some l:=⟨c[x]'(by rw[H];exact P),List.getElem?_eq_getElem _⟩
 have y1:LH w (popW W p.mb o d.length q) h S p B c n fd d l 0:=⟨o,q,fd,d,y.pop,Adds.refl Z,K,fun j i r y s=>absurd s (Nat.not_lt_zero _)⟩
 refine(ql0 w _ h S p B c n x fd d l y1 G F D t (fun i X=>?_) (K x I) (f x l t)).mono ?_
 ·obtain⟨-,T⟩:=(M x l t i).1 X;exact T
 rintro e J ⟨rfl,g,k,a,b,y',A,Q,R⟩;refine⟨rfl,g,k,a,b,⟨y',A.ok,?_,Q,A.up _ V⟩,?_⟩
 ·rw[A.pr];intro i r z u v N E L;rw[qmi I O z]at E
  by_cases m:z=x
  ·subst m;have C:i∈l:=(M z l t i).2 ⟨(List.getElem?_eq_some_iff.1 v).1,r,v,N⟩;obtain⟨j,s⟩:=List.getElem?_of_mem C;exact R j i r u (List.getElem?_eq_some_iff.1 s).1 s v L
  ·rw[if_neg m]at E;exact A.up u (U i r z u v N E L)
 ·rw[qjy A];exact qmk P I O
theorem qc5(w:World)(h:SHd)(S:Sp)(n:Nat)(b6:n=S.tk+1+S.nt)(N:WG S)(f7:IsSp w h S)(rb ro:Nat)(M:h.ra=some ⟨rb,ro,none⟩):
  Calls Tryz.prog 44 #[sv h S] w fun e T=>BRes w T n (RcH S) e:=by
 have hz:Szs S n:=by rw[b6];exact N.szs
 have hn:n<=1000:=by have:=N.tk;have:=N.nt;omega
 have g4:S.rs.length<=300:=N.nr
 have HC:Hid (∀V:World,Calls Tryz.prog 63 #[.agg (sC h S)] V fun e T=>e=.returned (.int .i64 (n:Int))/\Below V.heap.size V T):=fun V=>qcu h S V n hz
 have a5:Hid (∀(V:World) (z:Nat),z<n->Calls Tryz.prog 65 #[.agg (sC h S),.int .i64 (z:Int)] V fun e T=>e=.returned (.bool true)/\Below V.heap.size V T):=fun V z H=>qcn h S V n z hz H
 have U:Hid (∀(V:World) (z:Nat),z<n->S.tk<z->Calls Tryz.prog 64 #[.agg (sC h S),.int .i64 (z:Int)] V fun e T=>e=.returned (.bool true)/\Below V.heap.size V T):=fun V z H ht=>qh9 h S V n z hz H ht
 have a4:Hid (∀(V:World),Calls Tryz.prog 64 #[.agg (sC h S),.int .i64 (-1)] V fun e T=>e=.returned (.bool false)/\Below V.heap.size V T):=fun V=>qfe h S V
 have q:Hid (WG S/\IsSp w h S/\n=S.tk+1+S.nt):=⟨N,f7,b6⟩
 have b2:Below w.heap.size w (w.alloc (.cells (sC h S) 31)):=qb _ _;have Z:(w.alloc (.cells (sC h S) 31)).heap[w.heap.size]?=some (.cells (sC h S) 31 (0,0)):=heap_alloc_new _ _;have I:Hid (h.ra=some ⟨rb,ro,none⟩):=M;clear N f7 b6 hz;unfold sv sC;unfold sC at HC a5 U a4;rw[M]at HC a5 U a4 ⊢;clear M
 obtain⟨D,o⟩:∃D,Hid (S.rs.length=D):=⟨_,rfl⟩
 rw[o.out]at HC a5 U a4 g4 ⊢;go_enter Tryz.func44,Tryz.ntmps44
 go_upto_region 1 with fail
 have e0:w.alloc (.cells #[.int .i64 (S.tk:Int),.int .i64 (S.nt:Int),.int .i64 (S.st:Int),.int .i64 S.ex,.slice h.na S.nm.length h.nc,.slice h.la S.lv.length h.lc,.slice h.aa S.az.length h.ac,.slice (some ⟨rb,ro,none⟩) D h.rc] 31)=w.alloc (.cells (sC h S) 31):=by unfold sC;rw[I.out,o.out]
 rw[e0];generalize w.alloc (.cells (sC h S) 31)=W0 at b2 Z ⊢
 obtain⟨b1,d4⟩:∃b1,Hid (b1=w.heap.size):=⟨_,rfl⟩
 rw[<-d4.out]at Z ⊢;obtain⟨c0,c1,c2,c3,c4,c5,c6,R⟩:=sbox Z;rw[I.out,o.out]at R
 have a9:Hid (Below w.heap.size w W0/\W0.heap[b1]?=some (.cells (sC h S) 31 (0,0))):=⟨b2,Z⟩
 clear e0 b2 Z;go_wp2_with fail;refine(HC.out _).mono ?_;rintro e W1 ⟨rfl,s⟩
 have a0:Hid (Below w.heap.size w W1/\W1.heap[b1]?=some (.cells (sC h S) 31 (0,0))):=⟨qd a9.out.1 s,qf s a9.out.2⟩
 clear s a9;go_wp2_with fail;refine(qc3 W1 n hn).mono ?_;rintro e W2 ⟨O,fb,rfl,hM,b4⟩;clear c0 c1 c2 c3 c4 c5 c6 R;have h3:Below W2.heap.size W2 (W2.alloc (.cells #[.pointer (some ⟨O,0,none⟩)] 105)):=qb _ _
 have HA:Hid (Below w.heap.size w (W2.alloc (.cells #[.pointer (some ⟨O,0,none⟩)] 105))/\(W2.alloc (.cells #[.pointer (some ⟨O,0,none⟩)] 105)).heap[b1]?=some (.cells (sC h S) 31 (0,0))/\(W2.alloc (.cells #[.pointer (some ⟨O,0,none⟩)] 105)).heap[W2.heap.size]?=some (.cells #[.pointer (some ⟨O,0,none⟩)] 105 (0,0))/\Mrk (W2.alloc (.cells #[.pointer (some ⟨O,0,none⟩)] 105)) w.heap.size O fb none 0 (List.replicate n false) []) :=
  ⟨qd (qd a0.out.1 b4) h3,qf h3 (qf b4 a0.out.2),heap_alloc_new _ _,(hM.mono a0.out.1.size).keep (fun k hk=>h3.block k (hM.loc hk).2.1)⟩
 clear hM b4 a0 h3
 go_upto_region 2 with fail
 obtain⟨b3,d6⟩:∃b3,Hid (b3=W2.heap.size):=⟨_,rfl⟩
 rw[<-d6.out]at HA ⊢;generalize W2.alloc (.cells #[.pointer (some ⟨O,0,none⟩)] 105)=X at HA ⊢;clear d6;have g3:=vn q.out.2.1.rl;rw[o.out]at g3;obtain⟨W6,g2,f3,d9⟩:=qco X w.heap.size n hn HA.out.1.size
 have d3:X.cell? ⟨b3,0,none⟩=some (.pointer (some ⟨O,0,none⟩)):=by rw[qe HA.out.2.2.1];rfl
 have dm:X.cell? ⟨O,0,none⟩=some (.slice (some ⟨fb,0,none⟩) n n):=by rw[qe HA.out.2.2.2.box,List.length_replicate];rfl
 have h7:Below W6.heap.size W6 (W6.alloc (.cells #[.slice (some ⟨X.heap.size,0,none⟩) n n] 92)):=qb _ _
 have H7:Hid (H1 w (W6.alloc (.cells #[.slice (some ⟨X.heap.size,0,none⟩) n n] 92)) h S ⟨b1,b3,W6.heap.size,O,fb,X.heap.size⟩ n 0 none 0 (List.replicate n (none,0)) (List.replicate n [])):=by
  obtain⟨q1,q2,q3,q4⟩:=HA.out;have hb:Below X.heap.size X (W6.alloc (.cells #[.slice (some ⟨X.heap.size,0,none⟩) n n] 92)):=qd d9 h7;refine⟨⟨qd q1 hb,qf hb q2,qf hb q3,?_,q4.keep (fun k hk=>hb.block k (q4.loc hk).2.1),f3.below h7,fun k hk=>(qkf hk).elim⟩,by simp,qqr S n,fun x l hl=>?_⟩
  ·simp only[List.length_replicate];exact heap_alloc_new _ _
  ·have:=List.mem_of_getElem? hl;rw[List.mem_replicate]at this;rw[this.2];simp
 clear f3 d9 h7 HA
 go_upto_region 3 with fail
 clear g2 d3 dm;generalize W6.alloc (.cells #[.slice (some ⟨X.heap.size,0,none⟩) n n] 92)=W7 at H7 ⊢;generalize W6.heap.size=b5 at H7 ⊢;generalize X.heap.size=wb at H7 ⊢
 obtain⟨p,HP⟩:∃p:YP,Hid (p=⟨b1,b3,b5,O,fb,wb⟩):=⟨_,rfl⟩
 have p1:b1=p.b1:=by rw[HP.out]
 have p3:b3=p.b3:=by rw[HP.out]
 have p5:b5=p.b5:=by rw[HP.out]
 have pm:O=p.mb:=by rw[HP.out]
 have pf:fb=p.fb:=by rw[HP.out]
 have pw:wb=p.wb:=by rw[HP.out]
 rw[<-HP.out]at H7;clear HP d4;subst p1 p3 p5 pm pf pw;obtain⟨-,-,-,-,-,-,-,R⟩:=sbox H7.out.yb.bs;rw[I.out,o.out]at R
 go_upto_block 0 with fail
 clear R
 go_cut [19] (fun s19 wd=>Hid (∃B C A m,H1 w wd h S p n D B C A m))
 case first =>
  go_wp2_with fail
  go_loopg [19] D (fun kx s19 wr=>∃i:Nat,s19=.int .i64 i/\i<=D/\D - i<=kx/\Hid (∃B C A m,H1 w wr h S p n i B C A m))
  case atStart=>exact⟨0,rfl,Nat.zero_le _,by omega,(⟨_,_,_,_,H7.out⟩:∃B C A m,H1 w W7 h S p n 0 B C A m)⟩
  case round =>
   clear H7;obtain⟨i,rfl,hi,hg,J⟩:=hrel
   by_cases g1:i<D
   ·have f5:(i:Int)<(D:Int):=by omega
    obtain⟨B,C,A,m,y⟩:=J.out
    obtain⟨r,hr⟩:∃r,S.rs[i]?=some r:=⟨S.rs[i]'(by rw[o.out];exact g1),List.getElem?_eq_getElem _⟩
    obtain⟨h2,h4,xa,xc,M,d0,d1,d2,d3,g5⟩:=q.out.2.1.rl.at hr;rw[I.out]at M
    cases M
    have d0:=qt y.yb.bel d0;have d1:=qt y.yb.bel d1;have d2:=qt y.yb.bel d2;have d3:=qt y.yb.bel d3;have HR:Hid (S.rs[i]?=some r):=hr;have hv:Below wr.heap.size wr (wr.alloc (.cells #[.int .i64 r.l,.slice xa r.r.length xc,.int .i64 r.lv,.int .i64 r.a] 56)):=qb _ _
    have P:Hid (H1 w (wr.alloc (.cells #[.int .i64 r.l,.slice xa r.r.length xc,.int .i64 r.lv,.int .i64 r.a] 56)) h S p n i B C A m/\(wr.alloc (.cells #[.int .i64 r.l,.slice xa r.r.length xc,.int .i64 r.lv,.int .i64 r.a] 56)).heap[wr.heap.size]?=some (.cells #[.int .i64 r.l,.slice xa r.r.length xc,.int .i64 r.lv,.int .i64 r.a] 56 (0,0))):=⟨y.below hv,heap_alloc_new _ _⟩
    clear y J hr g5 hv
    go_upto_region 6 with fail
    obtain⟨Q,d8⟩:∃Q,Hid (Q=wr.heap.size):=⟨_,rfl⟩
    rw[<-d8.out]at P ⊢;generalize wr.alloc (.cells #[.int .i64 r.l,.slice xa r.r.length xc,.int .i64 r.lv,.int .i64 r.a] 56)=V at P ⊢;clear d8 d0 d1 d2 d3;obtain⟨c0,c1,c2,c3,c4,c5,c6,R⟩:=sbox P.out.1.yb.bs
    have e0:V.cell? ⟨Q,0,none⟩=some (.int .i64 r.l):=by rw[qe P.out.2];rfl
    rw[I.out,o.out]at R
    rcases q.out.1.rl i r HR.out with hl1 | ⟨xl,hxl,hxt,hxn⟩
    ·rw[hl1]at e0;go_wp2_with fail;refine(a4.out _).mono ?_;rintro e V1 ⟨rfl,s⟩
     have HF:Hid (∃B C A m,H1 w V1 h S p n (i+1) B C A m):=⟨B,C,A,m,(P.out.1.below s).skip HR.out hl1⟩
     clear s c0 c1 c2 c3 c4 c5 c6 R e0;go_wp2_with fail;go_roundg (D - (i+1))
     case measure=>omega
     case rel=>exact⟨i+1,by simp,by omega,by omega,HF⟩
    ·rw[<-q.out.2.2]at hxn;rw[hxl]at e0;go_wp2_with fail;refine(U.out _ _ hxn hxt).mono ?_;rintro e V4 ⟨rfl,F⟩;have G:=qf F P.out.2;have y4:=(P.out.1.below F).below (qo V4);obtain⟨qa,qm,qc,g,c,W',q2,q3,q4,a8,d1,f1,d5,j,h8,h9,y5⟩:=y4.push HR.out hxl hxn (by omega)
     have q5:V4.cell? ⟨p.b5,0,none⟩=some (.slice (some ⟨p.wb,0,none⟩) n n):=by
      have:=(P.out.1.below F).yb.bw;rw[y4.wl]at this;rw[qe this];rfl
     have q7:V4.cell? ⟨Q,0,none⟩=some (.int .i64 (xl:Int)):=by rw[qe G,hxl];rfl
     have a7:W'.heap[Q]?=some (.cells #[.int .i64 r.l,.slice xa r.r.length xc,.int .i64 r.lv,.int .i64 r.a] 56 (0,0)):=by
      rw[j.block Q (Array.getElem?_eq_some_iff.1 G).1 (fun e=>?_)]
      ·exact G
      ·rcases e with e | e
       ·exact qu ⟨_,G⟩ e (by decide) rfl
       ·exact qu ⟨_,G⟩ e (by decide) rfl
     have n5:p.b5≠p.wb:=qu ⟨_,(P.out.1.below F).yb.bw⟩ (P.out.1.below F).yb.grd.loc.2.2 (by decide);have n7:Q≠p.wb:=qu ⟨_,G⟩ (P.out.1.below F).yb.grd.loc.2.2 (by decide)
     have d7:W'.cell? ⟨Q,0,none⟩=some (.int .i64 (xl:Int)):=by rw[qe a7,hxl];rfl
     have q2:V4.cell? ⟨p.wb,xl,none⟩=some (.slice qa qm qc):=q2;have Y:(Builtin.append_ #[28,28] 28 #[.slice qa qm qc,.slice (some ⟨V4.heap.size,0,none⟩) 1 1]).run Tryz.prog (V4.alloc (.cells #[.int .i64 (i:Int)] 3)).drew=.ok (.slice (some ⟨g,0,none⟩) (qm+1) c) W':=a8
     have HF:Hid (∃B C A m,H1 w (W'.setCell ⟨p.wb,xl,none⟩ (.slice (some ⟨g,0,none⟩) (qm+1) c)) h S p n (i+1) B C A m):=⟨_,_,_,_,y5⟩
     clear y4 y5 F P a8 c0 c1 c2 c3 c4 c5 c6 R e0 G a7 j hxl
     go_upto_region 7 with fail
     have c8:=qp q5 (.cells #[.int .i64 (i:Int)] 3);have h0:=qp q2 (.cells #[.int .i64 (i:Int)] 3);have c9:=qp q7 (.cells #[.int .i64 (i:Int)] 3)
     have g6:(xl:Int)<(n:Int):=by omega
     have s5:(W'.setCell ⟨p.wb,xl,none⟩ (.slice (some ⟨g,0,none⟩) (qm+1) c)).cell? ⟨p.b5,0,none⟩=some (.slice (some ⟨p.wb,0,none⟩) n n):=zg d5 n5;have s7:(W'.setCell ⟨p.wb,xl,none⟩ (.slice (some ⟨g,0,none⟩) (qm+1) c)).cell? ⟨Q,0,none⟩=some (.int .i64 (xl:Int)):=zg d7 n7;refine wp_region_held_drew (S:=fun T=>T.cell? ⟨p.b5,0,none⟩=some (.slice (some ⟨p.wb,0,none⟩) n n)/\T.cell? ⟨Q,0,none⟩=some (.int .i64 (xl:Int))) (by kernel_rfl) ⟨q5,q7⟩ (fun d=>?_);refine wpAnyH_take (i:=0) (v:=.slice (some ⟨p.wb,0,none⟩) n n) rfl (by kernel_rfl) (by kernel_rfl) (by kernel_rfl) (fun _ _ _ h=>h) (Or.inl ⟨by rfl,fun w9 f=>?_⟩) d ?_
     ·obtain⟨t,u⟩:=f
      go_simp
     simp only[Act.put];refine wpAnyH_take (i:=1) (v:=.pointer (some ⟨Q,0,none⟩)) rfl (by kernel_rfl) (by kernel_rfl) (by kernel_rfl) (fun _ _ _ h=>h) (Or.inl ⟨by rfl,fun w9 f=>?_⟩) d ?_
     ·obtain⟨t,u⟩:=f
      go_simp
     simp only[Act.put];refine wpAnyH_take (i:=2) (v:=.int .i64 (xl:Int)) rfl (by kernel_rfl) (by kernel_rfl) (by kernel_rfl) (fun _ _ _ h=>h) (Or.inl ⟨by rfl,fun w9 f=>?_⟩) d ?_
     ·obtain⟨t,u⟩:=f
      go_simp
     simp only[Act.put];refine wpAnyH_take (i:=3) (v:=.slice (some ⟨p.wb,0,none⟩) n n) rfl (by kernel_rfl) (by kernel_rfl) (by kernel_rfl) (fun _ _ _ h=>h) (Or.inl ⟨by rfl,fun w9 f=>?_⟩) d ?_
     ·obtain⟨t,u⟩:=f
      go_simp
     simp only[Act.put];refine wpAnyH_take (i:=4) (v:=.pointer (some ⟨Q,0,none⟩)) rfl (by kernel_rfl) (by kernel_rfl) (by kernel_rfl) (fun _ _ _ h=>h) (Or.inl ⟨by rfl,fun w9 f=>?_⟩) d ?_
     ·obtain⟨t,u⟩:=f
      go_simp
     simp only[Act.put];refine wpAnyH_take (i:=5) (v:=.int .i64 (xl:Int)) rfl (by kernel_rfl) (by kernel_rfl) (by kernel_rfl) (fun _ _ _ h=>h) (Or.inl ⟨by rfl,fun w9 f=>?_⟩) d ?_
     ·obtain⟨t,u⟩:=f
      go_simp
     simp only[Act.put];refine wpAnyH_take (i:=6) (v:=.pointer (some ⟨p.wb,xl,none⟩)) rfl (by kernel_rfl) (by kernel_rfl) (by kernel_rfl) (fun _ _ _ h=>h) (Or.inl ⟨by rfl,fun w9 f=>?_⟩) d ?_
     ·obtain⟨t,u⟩:=f
      go_simp
     simp only[Act.put];refine wpAnyH_take (i:=8) (v:=.int .i64 (i:Int)) rfl (by kernel_rfl) (by kernel_rfl) (by kernel_rfl) (fun _ _ _ h=>h) (Or.inl ⟨by rfl,fun w9 f=>?_⟩) d ?_
     ·obtain⟨t,u⟩:=f
      go_simp
     simp only[Act.put];refine wpAnyH_ready (rs:=[7,9]) (by kernel_rfl) (by simp) ?_;refine AllReadyH.cons rfl (fun K j=>?_) (AllReadyH.cons rfl (fun K j=>?_) AllReadyH.nil)
     ·go_simp
      refine j.out _ _ ⟨q5,q7⟩ (fun d=>?_);clear j K;refine wpAnyH_ready (rs:=[9]) (by kernel_rfl) (by simp) ?_;refine AllReadyH.cons rfl (fun K j=>?_) AllReadyH.nil
      go_simp
      refine j.out _ _ ⟨c8,c9⟩ (fun d=>?_);clear j K;refine wpAnyH_ready (rs:=[10]) (by kernel_rfl) (by simp) ?_;refine AllReadyH.cons rfl (fun K j=>?_) AllReadyH.nil;refine zb rfl (.tmp 35) (.tmp 37) rfl rfl (by simp[Act.eval]) (by simp[Act.eval]) Y (j.out _ _ ⟨d5,d7⟩ (fun d=>?_));simp only[Act.put];clear j K;refine wpAnyH_take (i:=11) (v:=.pointer (some ⟨p.wb,xl,none⟩)) rfl (by kernel_rfl) (by kernel_rfl) (by kernel_rfl) (fun _ _ _ h=>h) (Or.inl ⟨by rfl,fun w9 f=>?_⟩) d ?_
      ·obtain⟨t,u⟩:=f
       go_simp
      simp only[Act.put];refine wpAnyH_ready (rs:=[12]) (by kernel_rfl) (by simp) ?_;refine AllReadyH.cons rfl (fun K j=>?_) AllReadyH.nil
      go_simp
      refine j.out _ _ ⟨s5,s7⟩ (fun d=>?_);clear j K;refine wpAnyH_done (by kernel_rfl) ?_ _;go_wp2_with fail;go_roundg (D - (i+1))
      case measure=>omega
      case rel=>exact⟨i+1,by simp,by omega,Nat.le_refl _,HF⟩
     ·go_simp
      refine j.out _ _ ⟨c8,c9⟩ (fun d=>?_);clear j K;refine wpAnyH_ready (rs:=[7]) (by kernel_rfl) (by simp) ?_;refine AllReadyH.cons rfl (fun K j=>?_) AllReadyH.nil
      go_simp
      refine j.out _ _ ⟨c8,c9⟩ (fun d=>?_);clear j K;refine wpAnyH_ready (rs:=[10]) (by kernel_rfl) (by simp) ?_;refine AllReadyH.cons rfl (fun K j=>?_) AllReadyH.nil;refine zb rfl (.tmp 35) (.tmp 37) rfl rfl (by simp[Act.eval]) (by simp[Act.eval]) Y (j.out _ _ ⟨d5,d7⟩ (fun d=>?_));simp only[Act.put];clear j K;refine wpAnyH_take (i:=11) (v:=.pointer (some ⟨p.wb,xl,none⟩)) rfl (by kernel_rfl) (by kernel_rfl) (by kernel_rfl) (fun _ _ _ h=>h) (Or.inl ⟨by rfl,fun w9 f=>?_⟩) d ?_
      ·obtain⟨t,u⟩:=f
       go_simp
      simp only[Act.put];refine wpAnyH_ready (rs:=[12]) (by kernel_rfl) (by simp) ?_;refine AllReadyH.cons rfl (fun K j=>?_) AllReadyH.nil
      go_simp
      refine j.out _ _ ⟨s5,s7⟩ (fun d=>?_);clear j K;refine wpAnyH_done (by kernel_rfl) ?_ _;go_wp2_with fail;go_roundg (D - (i+1))
      case measure=>omega
      case rel=>exact⟨i+1,by simp,by omega,Nat.le_refl _,HF⟩
   ·have f5:¬(i:Int)<(D:Int):=by omega
    have HF:Hid (∃B C A m,H1 w wr h S p n D B C A m):=by
     have:i=D:=by omega
     subst this;exact J.out
    clear J;go_wp2_with fail;go_meet;exact HF
 case rest =>
  obtain⟨w8,g7⟩:∃w8,w8=wc:=⟨_,rfl⟩
  subst wc;obtain⟨B,C,A,m,y⟩:=hcut.out;obtain⟨c0,c1,c2,c3,c4,c5,c6,R⟩:=sbox y.yb.bs;rw[I.out,o.out]at R;have HY:Hid (H1 w w8 h S p n D B C A m):=y
  have b8:S.st<n:=by have:=q.out.1.st;have:=q.out.2.2;omega
  clear y hcut H7 HC U;go_wp2_with fail;refine(a5.out _ _ b8).mono ?_;rintro e V1 ⟨rfl,s⟩;clear c0 c1 c2 c3 c4 c5 c6 R;have E:Hid (H1 w V1 h S p n D B C A m):=HY.out.below s;clear HY s;obtain⟨-,-,c2,-,-,-,-,-⟩:=sbox E.out.yb.bs
  have m3:V1.cell? ⟨p.b3,0,none⟩=some (.pointer (some ⟨p.mb,0,none⟩)):=by rw[qe E.out.yb.bm];rfl
  have b0:Hid (MK n (List.replicate n false) []):=⟨by simp,List.nodup_nil,fun x H=>by cases H⟩
  go_wp2_with fail;refine(qaq V1 w.heap.size p.mb p.fb C n S.st B _ [] E.out.yb.mrk b0.out b8 hn E.out.yb.bel.size).mono ?_;rintro e V2 ⟨rfl,f9,g0,f6,f8⟩;clear m3 c2
  have b9:∀x,isF (List.replicate n false) x=true->False:=by
   intro x H;unfold isF at H
   cases hq:(List.replicate n false)[x]? with
   | none=>rw[hq]at H;cases H
   | some b =>
    rw[hq]at H;have:=List.mem_of_getElem? hq;rw[List.mem_replicate]at this;rw[this.2]at H
    cases H
  have HI:Hid (IH w h S p n A m V2 f9 g0 (mkd (List.replicate n false) [] S.st).1 (mkd (List.replicate n false) [] S.st).2):=by
   obtain⟨a1,a2,a3⟩:=qch b0.out b8;refine⟨E.out.yb.mark f6 f8,a1.ok,?_,fun z hz=>?_,a2⟩
   ·rw[a1.pr];intro i r x y hr H hp hy;unfold prc at hp;simp only[Bool.and_eq_true]at hp;exact(b9 x hp.1).elim
   ·rcases a3 z hz with e | e
    ·exact(b9 z e).elim
    ·subst e;exact RcH.start
  have HW:Hid (m.length=n/\RlH S S.rs.length m/\∀(x:Nat) (l:List Nat),m[x]?=some l->l.length<=100000):=by
   have y1:=E.out;rw[<-o.out]at y1;exact⟨y1.wl,y1.rls,fun x l hl=>by have:=y1.rows x l hl;rw[o.out]at this;omega⟩
  have m3:V2.cell? ⟨p.b3,0,none⟩=some (.pointer (some ⟨p.mb,0,none⟩)):=by rw[qe HI.out.1.bm];rfl
  clear E f6 f8 b9 b0;generalize (mkd (List.replicate n false) [] S.st).1=fd at HI;generalize (mkd (List.replicate n false) [] S.st).2=fr at HI;go_wp2_with fail;refine(qek 68 #[.pointer (some ⟨p.b5,0,none⟩),.pointer (some ⟨p.b1,0,none⟩),.pointer (some ⟨p.b3,0,none⟩)] qsl w.heap.size p.mb n hn (IH w h S p n A m) qso (qsp q.out.1 q.out.2.1 q.out.2.2 HW.out.1 HW.out.2.1 HW.out.2.2) V2 f9 g0 fd fr HI.out).mono ?_;rintro e V5 ⟨rfl,h5,h6,L,y5,a6,f0,f2,f4⟩
  have g9:V5.cell? ⟨p.b3,0,none⟩=some (.pointer (some ⟨p.mb,0,none⟩)):=by rw[qe y5.bm];rfl
  have g8:V5.cell? ⟨p.mb,0,none⟩=some (.slice (some ⟨p.fb,0,none⟩) n n):=by rw[qe y5.mrk.box,a6.len];rfl
  have HF:Hid (L.length=n/\V5.ownsRow w.heap.size 4 1 (.slice (some ⟨p.fb,0,none⟩) n n) n (booC L)/\xm (RcH S) L/\Below w.heap.size w V5):=by
   have h1:=y5.mrk.fnd;rw[a6.len]at h1
   have hC:ClH S (isF L) L:=fun i r x y hr H hp hy=>f0 i r x y hr H (by rw[qml];exact hp) hy
   exact⟨a6.len,h1,qkh hC f2 f4,y5.bel⟩
  clear y5 a6 f0 f2 f4 m3;go_wp2_with fail;go_ret;exact⟨p.fb,L,rfl,HF.out⟩
structure WH (S:Sp):Prop where
 nm:S.nm.length=S.tk+1+S.nt
 tk:S.tk<=100
 nt:S.nt<=200
 nr:S.rs.length<=300
 st:S.tk<S.st/\S.st<S.tk+1+S.nt
 rl:∀(i:Nat) (r:SR),S.rs[i]?=some r->∃x:Nat,r.l=(x:Int)/\S.tk<x/\x<S.tk+1+S.nt
 rr:∀r∈S.rs,r.r.length<=100/\∀y∈r.r,y<S.tk+1+S.nt
theorem qhp(w:World)(h:SHd)(S:Sp)(n:Nat)(b:n=S.tk+1+S.nt)(a:WH S)(d:IsSp w h S)(f g:Nat)(c:h.ra=some ⟨f,g,none⟩):
  Calls Tryz.prog 44 #[sv h S] w fun e k=>BRes w k n (RcH S) e :=
 qc5 w h S n b ⟨a.nm,a.tk,a.nt,a.nr,a.st,fun i r j=>.inr (a.rl i r j),a.rr⟩ d f g c
theorem qsq{S:Sp}(c:WF S)(x:Nat):RcH S x↔Rch S x:=by
 have g:∀(i:Nat) (r:SR) (y:Nat),S.rs[i]?=some r->r.l=(y:Int)->0<i:=fun i r y a b=>by
  rcases Nat.eq_zero_or_pos i with rfl | h
  ·rw[c.hd]at a
   cases a
   simp only at b;omega
  ·exact h
 constructor
 ·exact fun h=>h (Rch S) Rch.start (fun i r x y a b d f=>Rch.rule i r x y (g i r x a b) a b d f)
 ·exact fun h=>h (RcH S) RcH.start (fun i r x y _ a b d f=>RcH.rule i r x y a b d f)
theorem qd3(w:World)(h:SHd)(S:Sp)(n:Nat)(c:n=S.tk+1+S.nt)(a:WF S)(b:IsSp w h S):
  Calls Tryz.prog 44 #[sv h S] w fun e l=>BRes w l n (Rch S) e:=by
 obtain⟨j,k,-,-,f,-⟩:=b.rl.at a.hd
 have g:WG S:=⟨a.nm,a.tk,a.nt,a.nr,a.st,fun i r d=>?_,a.rr⟩
 ·have:=qc5 w h S n c g b j k f
  rwa [show RcH S=Rch S from funext fun x=>propext (qsq a x)]at this
 ·rcases Nat.eq_zero_or_pos i with rfl | h
  ·rw[a.hd]at d
   cases d
   exact .inl rfl
  ·exact .inr (a.rl i r h d)
def hasT (tk:Nat) (r:SR):Bool:=r.r.any (fun z=>decide (z<tk))
def noT (S:Sp):Sp:=⟨S.tk,S.nt,S.st,S.ex,S.nm,S.lv,S.az,S.rs.filter (fun r=>!hasT S.tk r)⟩
def noH (S:Sp):Sp:=⟨S.tk,S.nt,S.st,S.ex,S.nm,S.lv,S.az,S.rs.drop 1⟩
theorem qhq{b:Nat}{r:SR}:hasT b r=false↔∀y∈r.r,b<=y:=by
 unfold hasT;rw[List.any_eq_false]
 constructor
 ·intro h y a;have:=h y a;rw[decide_eq_true_eq]at this;omega
 ·intro h y a;have:=h y a;rw[decide_eq_true_eq];omega
theorem qmr{S:Sp}(h:WF S):S.rs=⟨-1,[S.st],0,0⟩ :: S.rs.drop 1:=by
 have:=h.hd
 cases b:S.rs with
 | nil=>rw[b]at this;cases this
 | cons a l =>
  rw[b]at this
  cases this
  rfl
theorem qfv{S:Sp}{r:SR}(h:r∈S.rs.drop 1):∃j,0<j/\S.rs[j]?=some r:=by
 obtain⟨i,a⟩:=List.getElem?_of_mem h;rw[List.getElem?_drop]at a;exact⟨1+i,by omega,a⟩
theorem qfw{S:Sp}(h:WF S):(noT S).rs=⟨-1,[S.st],0,0⟩ :: (S.rs.drop 1).filter (fun r=>!hasT S.tk r):=by
 have b:hasT S.tk ⟨-1,[S.st],0,0⟩=false:=qhq.2 (fun y a=>by
  rw[List.mem_singleton]at a;subst a
  exact Nat.le_of_lt h.st.1)
 show S.rs.filter _=_;rw[qmr h,List.filter_cons,b];rfl
theorem qo8{S:Sp}(h:WF S){i:Nat}{r:SR}(b:0<i)(a:(noT S).rs[i]?=some r):r∈S.rs.drop 1/\hasT S.tk r=false:=by
 rw[qfw h]at a
 obtain⟨j,rfl⟩:∃j,i=j+1:=⟨i - 1,by omega⟩
 rw[List.getElem?_cons_succ]at a;have:=List.mem_filter.1 (List.mem_of_getElem? a);exact⟨this.1,by simpa using this.2⟩
theorem qtx{S:Sp}(h:WF S):WF (noT S):=by
 refine⟨h.nm,h.lv,h.az,h.tk,h.nt,Nat.le_trans (List.length_filter_le _ _) h.nr,?_,h.st,fun i r b a=>?_,fun r a=>h.rr r (List.mem_filter.1 a).1⟩
 ·rw[qfw h];rfl
 ·obtain⟨c,-⟩:=qo8 h b a;obtain⟨j,d,f⟩:=qfv c;exact h.rl j r d f
theorem qms{S:Sp}(h:WF S){x:Nat}(C:S.tk<=x):Der (noT S) x↔Nul S x:=by
 constructor
 ·intro hd
  have:=hd (fun y=>y<S.tk\/Nul S y) (fun y b=>.inl b) (fun i r x g f d b=>by
   obtain⟨c,o⟩:=qo8 h g f;obtain⟨j,s,A⟩:=qfv c;refine .inr (Nul.rule j r x s A d (fun y a=>?_))
   rcases b y a with h3 | h3
   ·have:=qhq.1 o y a;omega
   ·exact h3)
  rcases this with c | c
  ·omega
  ·exact c
 ·intro v
  have:=v (fun y=>Der (noT S) y/\S.tk<y) (fun i r x g f d b=>by
   obtain⟨z,B,m,-⟩:=h.rl i r g f
   have n:z=x:=by rw[B]at d;omega
   subst n;have p:=qhq.2 (fun y a=>Nat.le_of_lt (b y a).2)
   have l:1+(i - 1)=i:=by omega
   have u:=List.mem_of_getElem? (i:=i - 1) (by rw[List.getElem?_drop,l];exact f)
   have q:r∈(S.rs.drop 1).filter (fun r=>!hasT S.tk r):=List.mem_filter.2 ⟨u,by rw[p];rfl⟩
   obtain⟨k,t⟩:=List.getElem?_of_mem q
   refine⟨Der.rule (k+1) r z (Nat.succ_pos k) (by rw[qfw h,List.getElem?_cons_succ];exact t) d (fun y a=>(b y a).1),m⟩)
  exact this.1
theorem qty{S:Sp}(h:WF S):WH (noH S):=by
 refine⟨h.nm,h.tk,h.nt,?_,h.st,fun i r a=>?_,fun r a=>h.rr r (List.mem_of_mem_drop a)⟩
 ·show(S.rs.drop 1).length<=300;rw[List.length_drop];have:=h.nr;omega
 ·have a:(S.rs.drop 1)[i]?=some r:=a;rw[List.getElem?_drop]at a;exact h.rl (1+i) r (by omega) a
theorem qsr{S:Sp}{x:Nat}:RcH (noH S) x↔Rch S x:=by
 constructor
 ·intro h;refine h (Rch S) Rch.start (fun i r x y a b c d=>?_);have a:(S.rs.drop 1)[i]?=some r:=a;rw[List.getElem?_drop]at a;exact Rch.rule (1+i) r x y (by omega) a b c d
 ·intro h;refine h (RcH (noH S)) RcH.start (fun i r x y f a b c d=>?_);refine RcH.rule (i - 1) r x y ?_ b c d;show(S.rs.drop 1)[i - 1]?=some r;rw[List.getElem?_drop]
  have:1+(i - 1)=i:=by omega
  rw[this];exact a
def okL (tk n:Nat) (r:SR):Bool:=decide ((tk:Int)<r.l/\r.l<(n:Int))
theorem qqt{S:Sp}(h:WF S):S.rs.filter (okL S.tk (S.tk+1+S.nt))=S.rs.drop 1:=by
 have a:okL S.tk (S.tk+1+S.nt) ⟨-1,[S.st],0,0⟩=false:=by
  unfold okL;rw[decide_eq_false_iff_not];simp only;omega
 have b:(S.rs.drop 1).filter (okL S.tk (S.tk+1+S.nt))=S.rs.drop 1:=List.filter_eq_self.2 (fun r d=>by
  obtain⟨j,c,f⟩:=qfv d;obtain⟨z,g,i,k⟩:=h.rl j r c f;unfold okL;rw[decide_eq_true_eq,g]
  omega)
 conv=>lhs;rw[qmr h]
 rw[List.filter_cons,a,b];rfl
theorem qss{W:World}{T E n b h:Nat}{a c:Option Addr}{i:TypeInfo}(g:Tryz.prog.underlying T=some (.slice E))(d:Tryz.prog.info? E=some i)(f:n<=b):
  (Builtin.append_ #[T,T] T #[.slice a n b,.slice c 0 h]).run Tryz.prog W=.ok (.slice a n b) W:=by
 cases a <;> cases c <;> simp[Builtin.append_,run_underlying g,sizeOf,typeInfo,d,Builtin.lenOf,Builtin.firstCells,f,loadCells,loadCellsFrom,storeCells]
theorem qki{W:World}{B T E k n O m y:Nat}{v Q:Option Addr}{z:Value}{by_:Nat}{cs us:List Value}(M:Tryz.prog.underlying T=some (.slice E))(D:(Tryz.prog.info? E).map (fun i=>(i.zero,i.size,i.bytes))=some (some z,k,by_))(s:z.cells.size=k)(K:0<k)(C:by_<=100)(d:∀u∈us,u.oneCell'=true)(h:W.ownsRow B E k (.slice v n O) n cs)(S:B<=W.heap.size)(H:Row W k Q m y us)(hn:n+m<1000000)(X:0<m):
  ∃g c A,(Builtin.append_ #[T,T] T #[.slice v n O,.slice Q m y]).run Tryz.prog W=.ok (.slice (some ⟨g,0,none⟩) (n+m) c) A/\A.ownsRow B E k (.slice (some ⟨g,0,none⟩) (n+m) c) (n+m) (cs++us) /\
   Kept (fun j=>blk v=some j) W A/\(blk v=some g\/W.heap.size<=g):=by
 obtain⟨N,J,p,q,r⟩:=info_parts D;obtain⟨b,o,rfl,U⟩:=H.at X
 have a:∀j x,us[j]?=some x->W.cell? ((⟨b,o,none⟩:Addr).add j)=some x:=fun j x V=>by
  rw[Addr.add_lit];exact U j x V
 have f:(n+m) * by_<=140737488355328:=Nat.le_trans (Nat.mul_le_mul (by omega:n+m<=1000000) C) (by decide);obtain⟨v',Y,L,I,Z,-⟩:=run_append_own (P:=Tryz.prog) W B T T E N _ k by_ M J p q r s K _ n _ h ⟨b,o,none⟩ m y us H.len a d (by unfold maxLen;omega) f S
 obtain⟨v1,w1,l,-,F,G⟩:=qai (P:=Tryz.prog) W T T E N _ k by_ M J p q r s K _ n _ (zc h (Nat.zero_le _)) ⟨b,o,none⟩ m y us H.len a d (by unfold maxLen;omega) f
 rw[L]at l
 injection l with e1 e2
 subst e1 e2;obtain⟨R,c,rfl,h4,h5,t⟩:=zo I
 obtain⟨g,rfl⟩:∃g,R=some ⟨g,0,none⟩:=by
  rcases t with ⟨-,t,-⟩ | t
  ·omega
  ·exact t
 refine⟨g,c,Y,L,I,F.weaken (fun k e=>ze e),?_⟩
 rcases G g rfl with h7 | h7
 ·exact .inl (ze h7)
 ·exact .inr h7
theorem qqu(l:List Nat):∀u∈natC l,u.oneCell'=true:=by
 intro u a;obtain⟨x,-,rfl⟩:=List.mem_map.1 a;rfl
theorem qqv(l m:List Nat):natC (l++m)=natC l++natC m:=by unfold natC;rw[List.map_append]
theorem qst{W:World}{B n d m p:Nat}{b o:Option Addr}{l us:List Nat}(h:W.ownsRow B 3 1 (.slice b n d) n (natC l))(s:B<=W.heap.size)(k:Row W 1 o m p (natC us))(y:n+m<1000000):
  ∃f c a,(Builtin.append_ #[28,28] 28 #[.slice b n d,.slice o m p]).run Tryz.prog W=.ok (.slice f (n+m) c) a/\a.ownsRow B 3 1 (.slice f (n+m) c) (n+m) (natC (l++us)) /\
   Kept (fun j=>blk b=some j) W a/\∀g,blk f=some g->blk b=some g\/W.heap.size<=g:=by
 by_cases x:0<m
 ·obtain⟨g,c,a,A,z,v,t⟩:=qki u29 i3 rfl (by decide) (by decide) (qqu us) h s k y x;refine⟨_,c,a,A,by rw[qqv];exact z,v,fun q e=>by cases e;exact t⟩
 ·have r:m=0:=by omega
  subst r;have i:=k.len;rw[j3,Nat.zero_mul]at i;have:us=[]:=List.length_eq_zero_iff.1 i;subst this;obtain⟨C,u,-⟩:=info_parts i3;refine⟨b,d,W,qss u29 u (zq h).1,by rw[List.append_nil];exact h,Kept.refl _ _,fun q e=>.inl e⟩
theorem qo9{W:World}{B n m:Nat}{b:Option Addr}{l:List Nat}(h:W.ownsRow B 3 1 (.slice b n m) n (natC l))(d:B<=W.heap.size)(p:n<100000)(y:Nat):
  ∃g c a,(Builtin.append_ #[28,28] 28 #[.slice b n m,.slice (some ⟨W.heap.size,0,none⟩) 1 1]).run Tryz.prog (W.alloc (.cells #[.int .i64 (y:Int)] 3))=.ok (.slice (some ⟨g,0,none⟩) (n+1) c) a/\a.ownsRow B 3 1 (.slice (some ⟨g,0,none⟩) (n+1) c) (n+1) (natC (l++[y]))/\Kept (fun j=>blk b=some j) W a/\Below B W a:=by
 obtain⟨g,c,a,r,q,o,-⟩:=xy (us:=[.int .i64 (y:Int)]) u29 i3 rfl (by decide) (by decide) rfl (fun u f=>by rw[List.mem_singleton]at f;subst f;rfl) h d p
 have i:=((Kept.refl _ W).alloc _).trans o (fun k _ e=>ze e);exact⟨g,c,a,r,by rw[jk];exact q,i,i.below d (fun j s e=>by have:=(qw h e).1;omega)⟩
abbrev QR:=SR × Option Addr × Nat
theorem j1(qs:List QR):(srC qs).length=qs.length * 4:=by
 unfold srC;exact qct _ (fun _=>rfl) qs
theorem qtz{qs:List QR}{i:Nat}{q:QR}(h:qs[i]?=some q)(j:Nat)(b:j<4):(srC qs)[i * 4+j]?=[Value.int .i64 q.1.l,.slice q.2.1 q.1.r.length q.2.2,.int .i64 q.1.lv,.int .i64 q.1.a][j]? :=
 qav (fun q:QR=>[Value.int .i64 q.1.l,.slice q.2.1 q.1.r.length q.2.2,.int .i64 q.1.lv,.int .i64 q.1.a]) (fun _=>rfl) qs i q j h b
theorem qsu(qs:List QR):∀u∈srC qs,u.oneCell'=true:=by
 intro u a;obtain⟨q,-,h⟩:=List.mem_flatMap.1 a;simp only[List.mem_cons,List.not_mem_nil,or_false]at h
 rcases h with rfl | rfl | rfl | rfl <;> rfl
theorem qmt:∀{qs:List QR} {i:Nat} {q:QR},i<qs.length->((((srC qs).set (i * 4) (.int .i64 q.1.l)).set (i * 4+1) (.slice q.2.1 q.1.r.length q.2.2)).set (i * 4+2) (.int .i64 q.1.lv)).set (i * 4+3) (.int .i64 q.1.a)=srC (qs.set i q)
 | [],_,_,h=>absurd h (Nat.not_lt_zero _)
 | _ :: _,0,_,_=>rfl
 | p :: qs,i+1,q,h=>by
  have c:=qmt (qs:=qs) (i:=i) (q:=q) (by simpa using h)
  have e:∀(p:QR) (qs:List QR),srC (p :: qs)=.int .i64 p.1.l :: .slice p.2.1 p.1.r.length p.2.2 :: .int .i64 p.1.lv :: .int .i64 p.1.a :: srC qs:=fun _ _=>rfl
  have b:(i+1) * 4=i * 4+1+1+1+1:=by omega
  rw[e,List.set_cons_succ,e,b];simp only[List.set_cons_succ];rw[c]
theorem qqw(qs:List QR)(i:Nat):(srC qs).take (i * 4)=srC (qs.take i):=by
 induction i generalizing qs with
 | zero=>simp[srC]
 | succ i ih =>
  cases qs with
  | nil=>simp[srC]
  | cons p qs =>
   have e:∀(p:QR) (qs:List QR),srC (p :: qs)=.int .i64 p.1.l :: .slice p.2.1 p.1.r.length p.2.2 :: .int .i64 p.1.lv :: .int .i64 p.1.a :: srC qs:=fun _ _=>rfl
   have b:(i+1) * 4=i * 4+1+1+1+1:=by omega
   rw[e,List.take_succ_cons,e,b];simp only[List.take_succ_cons];rw[ih]
theorem qqx{V:World}{B g n c i:Nat}{cs:List QR}(h:V.ownsRow B 56 4 (.slice (some ⟨g,0,none⟩) n c) n (srC cs))(f:i<n)(q:QR):
  ((((V.setCell ⟨g,i * 4,none⟩ (.int .i64 q.1.l)).setCell ⟨g,i * 4+1,none⟩ (.slice q.2.1 q.1.r.length q.2.2)).setCell ⟨g,i * 4+2,none⟩ (.int .i64 q.1.lv)).setCell ⟨g,i * 4+3,none⟩ (.int .i64 q.1.a)).ownsRow B 56 4 (.slice (some ⟨g,0,none⟩) n c) n (srC (cs.set i q)):=by
 have d:=h.1;rw[j1]at d;have b:=(((((h.stored (i * 4) (.int .i64 q.1.l)).1).stored (i * 4+1) (.slice q.2.1 q.1.r.length q.2.2)).1.stored (i * 4+2) (.int .i64 q.1.lv)).1.stored (i * 4+3) (.int .i64 q.1.a)).1;rw[qmt (by omega)]at b;exact b
theorem qpa{V:World}{g i:Nat}{a b d e:Value}:Kept (fun k=>k=g) V ((((V.setCell ⟨g,i * 4,none⟩ a).setCell ⟨g,i * 4+1,none⟩ b).setCell ⟨g,i * 4+2,none⟩ d).setCell ⟨g,i * 4+3,none⟩ e) :=
 Kept.setCell (S:=fun k=>k=g) (Kept.setCell (S:=fun k=>k=g) (Kept.setCell (S:=fun k=>k=g) (Kept.setCell (S:=fun k=>k=g) (Kept.refl _ V) ⟨g,i * 4,none⟩ a (fun _=>rfl)) ⟨g,i * 4+1,none⟩ b (fun _=>rfl)) ⟨g,i * 4+2,none⟩ d (fun _=>rfl)) ⟨g,i * 4+3,none⟩ e (fun _=>rfl)
theorem qqy(V:World)(g:Nat)(cs:Array Value):Kept (fun k=>k=g) V (V.setRow g cs):=by
 refine⟨rfl,rfl,rfl,by simp[World.setRow],fun k b a=>?_⟩;unfold World.setRow;rw[Array.getElem?_modify];rw[if_neg (fun e=>a e.symm)]
theorem qpb{V:World}{B g n c i:Nat}{cs:List QR}(h:V.ownsRow B 56 4 (.slice (some ⟨g,0,none⟩) n c) n (srC cs))(x:i<n):
  ∃l,(∀q,(Builtin.clear_ #[29] q #[.slice (some ⟨g,i * 4,none⟩) (n - i) (c - i)]).run Tryz.prog V=.ok (.tuple #[]) l)/\l.ownsRow B 56 4 (.slice (some ⟨g,0,none⟩) i c) i (srC (cs.take i))/\Kept (fun k=>k=g) V l:=by
 obtain⟨y,r,p,t,u⟩:=info_parts i62
 rcases h.2 with ⟨d,-⟩ | ⟨g',c',cur,d,hb,hh,h2,h3,h4,h5⟩
 ·cases d
 cases d
 obtain⟨m,s⟩:∃m,n - i=m+1:=⟨n - i - 1,by omega⟩
 have b:(Builtin.zeroCells (Value.agg #[.int .i64 0,.slice none 0 0,.int .i64 0,.int .i64 0]).cells (m+1)).toList.length=(m+1) * 4:=by
  simp[Builtin.zeroCells,Value.cells]
 have a:∀v∈(Builtin.zeroCells (Value.agg #[.int .i64 0,.slice none 0 0,.int .i64 0,.int .i64 0]).cells (m+1)).toList,v.oneCell'=true:=by
  intro v d;simp only[Builtin.zeroCells,Array.toList_map,List.mem_map]at d;obtain⟨j,-,rfl⟩:=d
  have:j % 4=0\/j % 4=1\/j % 4=2\/j % 4=3:=by omega
  simp only[Value.cells]
  rcases this with e | e | e | e <;> simp[e] <;> rfl
 obtain⟨zs,f⟩:∃zs,Builtin.zeroCells (Value.agg #[.int .i64 0,.slice none 0 0,.int .i64 0,.int .i64 0]).cells (m+1)=zs:=⟨_,rfl⟩
 rw[f]at b a;have o:=run_storeCells_at (P:=Tryz.prog) g (i * 4) 56 zs.toList 0 cur V hh (by rw[b];omega) a
 refine⟨V.setRow g (cur.toList.take (i * 4+0)++zs.toList++cur.toList.drop (i * 4+0+zs.toList.length)).toArray,fun q=>?_,?_,qqy V g _⟩
 ·rw[s];simp only[Builtin.clear_];simp[run_underlying u30,zeroValue,r,p,typeInfo,f,o]
 ·refine⟨by rw[j1,List.length_take];have:=h.1;rw[j1]at this;omega,.inr ⟨g,c,_,rfl,hb,setRow_heap _ _ _ _ _ _ hh,by omega,h3,?_,?_⟩⟩
  ·rw[List.size_toArray,List.length_append,List.length_append,List.length_take,List.length_drop,b,Array.length_toList];omega
  ·rw[<-qqw,<-h5];simp only[Nat.add_zero];rw[List.append_assoc,List.take_append_of_le_length (by rw[List.length_take,Array.length_toList];omega),List.take_take,List.take_take,Nat.min_self,Nat.min_eq_left (by omega)]
theorem qnu{V:World}{B g n c i:Nat}{cs:List QR}(h:V.ownsRow B 56 4 (.slice (some ⟨g,0,none⟩) n c) n (srC cs))(z:i<n)(b d q:Value):
  ∃l m o p,V.cell? ⟨g,i * 4,none⟩=some l/\(V.setCell ⟨g,i * 4,none⟩ b).cell? ⟨g,i * 4+1,none⟩=some m/\((V.setCell ⟨g,i * 4,none⟩ b).setCell ⟨g,i * 4+1,none⟩ d).cell? ⟨g,i * 4+2,none⟩=some o/\(((V.setCell ⟨g,i * 4,none⟩ b).setCell ⟨g,i * 4+1,none⟩ d).setCell ⟨g,i * 4+2,none⟩ q).cell? ⟨g,i * 4+3,none⟩=some p/\V.frozen? ⟨g,i * 4,none⟩=false/\(V.setCell ⟨g,i * 4,none⟩ b).frozen? ⟨g,i * 4+1,none⟩=false/\((V.setCell ⟨g,i * 4,none⟩ b).setCell ⟨g,i * 4+1,none⟩ d).frozen? ⟨g,i * 4+2,none⟩=false/\(((V.setCell ⟨g,i * 4,none⟩ b).setCell ⟨g,i * 4+1,none⟩ d).setCell ⟨g,i * 4+2,none⟩ q).frozen? ⟨g,i * 4+3,none⟩=false:=by
 have f:=(h.stored (i * 4) b).1;have k:=(f.stored (i * 4+1) d).1;have r:=(k.stored (i * 4+2) q).1
 have a:∀{U:World} {xs:List Value} (j:Nat),U.ownsRow B 56 4 (.slice (some ⟨g,0,none⟩) n c) n xs->j<n * 4->∃u,U.cell? ⟨g,j,none⟩=some u:=fun {U xs} j s A=>by
  have C:=s.1;exact⟨xs[j]'(by omega),by rw[s.cellAt j (by omega)];exact List.getElem?_eq_getElem _⟩
 obtain⟨l,t⟩:=a (i * 4) h (by omega);obtain⟨m,v⟩:=a (i * 4+1) f (by omega);obtain⟨o,x⟩:=a (i * 4+2) k (by omega);obtain⟨p,y⟩:=a (i * 4+3) r (by omega);exact⟨l,m,o,p,t,v,x,y,h.frozenAt _,f.frozenAt _,k.frozenAt _,r.frozenAt _⟩
theorem qpc{w:World}{b:Option Addr}{n a:Nat}{rs:List SR}(h:qcm w b n a rs):∃qs:List QR,qs.map (·.1)=rs/\Row w 4 b n a (srC qs)/\∀q∈qs,Row w 1 q.2.1 q.1.r.length q.2.2 (natC q.1.r):=h
theorem qff(W:World)(qs:List QR)(s:Option Addr)(n m:Nat)(h:Row W 4 s n m (srC qs))(p:0<n)(u:n<=1000):
  Calls Tryz.prog 78 #[.slice s n m] W fun e f=>∃g c,e=.returned (.slice (some ⟨g,0,none⟩) n c)/\f.ownsRow W.heap.size 56 4 (.slice (some ⟨g,0,none⟩) n c) n (srC qs)/\Below W.heap.size W f:=by
 have i:Below W.heap.size W (W.alloc (.cells #[] 56)):=qb _ _;have j:(W.alloc (.cells #[] 56)).heap[W.heap.size]?=some (.cells #[] 56 (0,0)):=heap_alloc_new _ _
 have r:(W.alloc (.cells #[] 56)).ownsRow W.heap.size 56 4 (.slice (some ⟨W.heap.size,0,none⟩) 0 0) 0 []:=⟨rfl,.inr ⟨W.heap.size,0,#[],rfl,Nat.le_refl _,j,Nat.le_refl _,by unfold maxLen;omega,rfl,rfl⟩⟩
 obtain⟨g,c,f,a,d,l,-⟩:=qki u30 i62 rfl (by decide) (by decide) (qsu qs) r i.size (h.below i) (by omega) p;rw[Nat.zero_add,List.nil_append]at d;rw[Nat.zero_add]at a
 have t:Hid (f.ownsRow W.heap.size 56 4 (.slice (some ⟨g,0,none⟩) n c) n (srC qs)/\Below W.heap.size W f):=⟨d,i.trans (l.below i.size (fun k l e=>by cases e;exact absurd l (Nat.lt_irrefl _)))⟩
 obtain⟨b,o,rfl,-⟩:=h.at p;have q:(binOp .eql 29 (.slice (some ⟨b,o,none⟩) n m) (.slice none 0 0)).run Tryz.prog W=.ok (.bool false) W:=Lib.run_eql_slice_nil W 29 56 (some ⟨b,o,none⟩) n m 0 0 u30;clear r d l j i h;go_enter Tryz.func78,Tryz.ntmps78;go_wp2_with(at_builtin;refine Lib.wpList_append_run _ rfl _ _ _ _ rfl _ _ rfl rfl _ _ a ?_)
 go_ret;exact⟨g,c,rfl,t.out⟩
theorem qfx{V:World}{B g n c i:Nat}{cs:List QR}{q:QR}(h:V.ownsRow B 56 4 (.slice (some ⟨g,0,none⟩) n c) n (srC cs))(b:cs[i]?=some q):V.cell? ⟨g,i * 4,none⟩=some (.int .i64 q.1.l)/\V.cell? ⟨g,i * 4+1,none⟩=some (.slice q.2.1 q.1.r.length q.2.2)/\V.cell? ⟨g,i * 4+2,none⟩=some (.int .i64 q.1.lv)/\V.cell? ⟨g,i * 4+3,none⟩=some (.int .i64 q.1.a):=by
 have f:=h.1;rw[j1]at f;have m:=(List.getElem?_eq_some_iff.1 b).1
 have k:∀j,j<4->V.cell? ⟨g,i * 4+j,none⟩=[Value.int .i64 q.1.l,.slice q.2.1 q.1.r.length q.2.2,.int .i64 q.1.lv,.int .i64 q.1.a][j]?:=fun j d=>by
  rw[h.cellAt (i * 4+j) (by omega)];exact qtz b j d
 exact⟨k 0 (by omega),k 1 (by omega),k 2 (by omega),k 3 (by omega)⟩
theorem ql1(F:FuncId)(p:Array Value)(Q:∀(args:Array Value) (W:World),(callFunc F args).run Tryz.prog W=.ok (.enter F args) W)(f:QR->Bool)(W:World)(qs:List QR)(B g n c:Nat)(h:W.ownsRow B 56 4 (.slice (some ⟨g,0,none⟩) n c) n (srC qs))(U:n<=1000)(E:∀V,Below W.heap.size W V->∀q∈qs,Calls Tryz.prog F (#[.agg #[.int .i64 q.1.l,.slice q.2.1 q.1.r.length q.2.2,.int .i64 q.1.lv,.int .i64 q.1.a]]++p) V fun e I=>e=.returned (.bool (f q))/\Below V.heap.size V I):
  Calls Tryz.prog 108 #[.slice (some ⟨g,0,none⟩) n c,.func (.func F) #[] p] W fun e K=>Below W.heap.size W K/\((e=.returned (.int .i64 (-1))/\∀q∈qs,f q=false)\/∃i:Nat,e=.returned (.int .i64 (i:Int))/\i<n/\(∀q∈qs.take i,f q=false)/\∃q,qs[i]?=some q/\f q=true):=by
 have H:=hid E;have A:=hid h;have G:=h.1;rw[j1]at G
 have y:Hid (qs.length=n):=by show qs.length=n;omega
 have R:=zq h;clear h E G;go_enter Tryz.func108,Tryz.ntmps108;go_wp2_with fail
 go_loopg [8] n (fun kx s8 wr=>∃i:Nat,s8=.int .i64 i/\i<=n/\n - i<=kx/\Hid (Below W.heap.size W wr/\∀q∈qs.take i,f q=false))
 case atStart=>exact⟨0,rfl,Nat.zero_le _,by omega,(⟨Below.refl _ _,fun q o=>by cases o⟩:Below W.heap.size W W/\∀q∈qs.take 0,f q=false)⟩
 case round =>
  obtain⟨i,rfl,T,S,J⟩:=hrel
  by_cases s:i<n
  ·have t:(i:Int)<(n:Int):=by omega
   obtain⟨q,o⟩:∃q,qs[i]?=some q:=⟨qs[i]'(by rw[y.out];exact s),List.getElem?_eq_getElem _⟩
   obtain⟨L,M,N,O⟩:=qfx (qh A.out (fun j P=>J.out.1.block j (qw A.out (ze P)).2.1)) o;have x:=hid (H.out wr J.out.1 q (List.mem_of_getElem? o));have C:=hid o;clear o;go_wp2_with fail;refine x.out.mono ?_;rintro e V ⟨rfl,u⟩;clear L M N O x
   cases v:f q
   ·have m:Hid (Below W.heap.size W V/\∀q∈qs.take (i+1),f q=false):=by
     refine⟨qd J.out.1 u,fun z k=>?_⟩;rw[List.take_add_one,List.mem_append]at k
     rcases k with k | k
     ·exact J.out.2 z k
     ·rw[C.out]at k;rw[Option.toList_some,List.mem_singleton]at k;subst k;exact v
    clear J v u;go_wp2_with fail;go_roundg (n - (i+1))
    case measure=>omega
    case rel=>exact⟨i+1,by simp,by omega,Nat.le_refl _,m⟩
   ·have m:Hid (Below W.heap.size W V/\(∀q∈qs.take i,f q=false)/\∃q,qs[i]?=some q/\f q=true):=⟨qd J.out.1 u,J.out.2,q,C.out,v⟩
    clear J v u;go_wp2_with fail;go_ret;exact⟨m.out.1,.inr ⟨i,rfl,s,m.out.2⟩⟩
  ·have t:¬(i:Int)<(n:Int):=by omega
   have m:Hid (Below W.heap.size W wr/\∀q∈qs,f q=false):=by
    have:i=n:=by omega
    subst this;have D:=J.out.2;rw[List.take_of_length_le (by rw[y.out];exact Nat.le_refl _)]at D
    exact⟨J.out.1,D⟩
   clear J;go_wp2_with fail;go_ret;exact⟨m.out.1,.inl ⟨rfl,fun a b d h=>m.out.2 (a,b,d) h⟩⟩
structure DL (W V:World) (B g n c:Nat) (pr:QR->Bool) (qs:List QR) (i j:Nat):Prop where
 kep:Kept (fun k=>k=g) W V
 own:∃cs:List QR,cs.length=n/\V.ownsRow B 56 4 (.slice (some ⟨g,0,none⟩) n c) n (srC cs)/\cs.take i=(qs.take j).filter (fun q=>!pr q)/\cs.drop j=qs.drop j
 lt:i<j
theorem ql2{α:Type}{l:List α}{i:Nat}{x:α}(h:i<l.length):(l.set i x).take (i+1)=l.take i++[x]:=by
 rw[List.take_add_one,List.getElem?_set,if_pos rfl,if_pos h,List.take_set_of_le (Nat.le_refl i)];rfl
theorem qbj{qs:List QR}{j:Nat}{q:QR}(h:qs[j]?=some q):qs.take (j+1)=qs.take j++[q]:=by rw[List.take_add_one,h];rfl
theorem qib(F:FuncId)(A:Array Value)(hE:∀(args:Array Value) (W:World),(callFunc F args).run Tryz.prog W=.ok (.enter F args) W)(f:QR->Bool)(W:World)(qs:List QR)(B g n c:Nat)(h:W.ownsRow B 56 4 (.slice (some ⟨g,0,none⟩) n c) n (srC qs))(hn:n<=1000)(hP:∀V,Kept (fun k=>k=g) W V->∀q∈qs,Calls Tryz.prog F (#[.agg #[.int .i64 q.1.l,.slice q.2.1 q.1.r.length q.2.2,.int .i64 q.1.lv,.int .i64 q.1.a]]++A) V fun e V'=>e=.returned (.bool (f q))/\Below V.heap.size V V'):
  Calls Tryz.prog 77 #[.slice (some ⟨g,0,none⟩) n c,.func (.func F) #[] A] W fun e N=>∃m,e=.returned (.slice (some ⟨g,0,none⟩) m c)/\m<=n/\N.ownsRow B 56 4 (.slice (some ⟨g,0,none⟩) m c) m (srC (qs.filter (fun q=>!f q)))/\Kept (fun k=>k=g) W N:=by
 have HP:=hid hP;have Z:=hid h;have hl:=h.1;rw[j1]at hl
 have HL:Hid (qs.length=n):=by show qs.length=n;omega
 have hc:=zq h;have HX:=hid (ql1 F A hE f W qs B g n c h hn (fun V hV=>hP V (zm hV)));clear h hP hl;go_enter Tryz.func77,Tryz.ntmps77;go_wp2_with fail;refine HX.out.mono ?_;rintro e V ⟨p,⟨rfl,Q⟩ | ⟨i,rfl,hi,x,q,s,T⟩⟩
 ·have y:Hid (V.ownsRow B 56 4 (.slice (some ⟨g,0,none⟩) n c) n (srC (qs.filter (fun q=>!f q)))/\Kept (fun k=>k=g) W V):=by
   have e:qs.filter (fun q=>!f q)=qs:=List.filter_eq_self.2 (fun q s=>by rw[Q q s];rfl)
   rw[e];exact⟨qh Z.out (fun j H=>p.block j (qw Z.out (ze H)).2.1),zm p⟩
  clear Q p;go_wp2_with fail;go_ret;exact⟨n,rfl,Nat.le_refl _,y.out⟩
 ·have HD:Hid (DL W V B g n c f qs i (i+1)):=by
   have hf:(qs.take i).filter (fun q=>!f q)=qs.take i:=List.filter_eq_self.2 (fun q s=>by rw[x q s];rfl)
   refine⟨zm p,⟨qs,HL.out,qh Z.out (fun j H=>p.block j (qw Z.out (ze H)).2.1),?_,rfl⟩,Nat.lt_succ_self i⟩;rw[qbj s,List.filter_append,hf];simp[T]
  have a0:¬(i:Int)=-1:=by omega
  clear x s T p HX
  go_upto_block 0 with fail
  go_cut [5] (fun s5 wd=>∃i:Nat,s5=.int .i64 i/\i<n/\Hid (DL W wd B g n c f qs i n))
  case first =>
   go_wp2_with fail
   go_loopg [5,6] n (fun kx s5 s6 wr=>∃i j:Nat,s5=.int .i64 i/\s6=.int .i64 j/\i<j/\j<=n/\n - j<=kx/\Hid (DL W wr B g n c f qs i j))
   case atStart=>exact⟨i,i+1,rfl,by simp,by omega,by omega,by omega,HD⟩
   case round =>
    clear HD a0;obtain⟨i,j,rfl,rfl,a6,H,hg,J⟩:=hrel
    by_cases a3:j<n
    ·have P:(j:Int)<(n:Int):=by omega
     have a1:(i:Int)<(n:Int):=by omega
     obtain⟨cs,v,D,X,hd⟩:=J.out.own
     obtain⟨q,s⟩:∃q,qs[j]?=some q:=⟨qs[j]'(by rw[HL.out];exact a3),List.getElem?_eq_getElem _⟩
     have R:cs[j]?=some q:=by
      have h1:(cs.drop j)[0]?=(qs.drop j)[0]?:=by rw[hd]
      rw[List.getElem?_drop,List.getElem?_drop]at h1
      simpa [s] using h1
     obtain⟨d0,d1,d2,d3⟩:=qfx D R;have hv:Below wr.heap.size wr (wr.alloc (.cells #[.int .i64 q.1.l,.slice q.2.1 q.1.r.length q.2.2,.int .i64 q.1.lv,.int .i64 q.1.a] 56)):=qb _ _;have C:Kept (fun k=>k=g) W (wr.alloc (.cells #[.int .i64 q.1.l,.slice q.2.1 q.1.r.length q.2.2,.int .i64 q.1.lv,.int .i64 q.1.a] 56)):=J.out.kep.alloc _;have HC:=hid (HP.out _ C q (List.mem_of_getElem? s))
     have u:Hid ((wr.alloc (.cells #[.int .i64 q.1.l,.slice q.2.1 q.1.r.length q.2.2,.int .i64 q.1.lv,.int .i64 q.1.a] 56)).heap[wr.heap.size]?=some (.cells #[.int .i64 q.1.l,.slice q.2.1 q.1.r.length q.2.2,.int .i64 q.1.lv,.int .i64 q.1.a] 56 (0,0))/\wr.heap.size<(wr.alloc (.cells #[.int .i64 q.1.l,.slice q.2.1 q.1.r.length q.2.2,.int .i64 q.1.lv,.int .i64 q.1.a] 56)).heap.size/\g<wr.heap.size):=⟨heap_alloc_new _ _,by rw[qz];omega,(qw D (b:=g) rfl).2.1⟩
     have d:Hid (cs.length=n/\(wr.alloc (.cells #[.int .i64 q.1.l,.slice q.2.1 q.1.r.length q.2.2,.int .i64 q.1.lv,.int .i64 q.1.a] 56)).ownsRow B 56 4 (.slice (some ⟨g,0,none⟩) n c) n (srC cs)/\cs.take i=(qs.take j).filter (fun q=>!f q)/\cs.drop j=qs.drop j/\qs[j]?=some q/\Kept (fun k=>k=g) W (wr.alloc (.cells #[.int .i64 q.1.l,.slice q.2.1 q.1.r.length q.2.2,.int .i64 q.1.lv,.int .i64 q.1.a] 56))):=⟨v,D.alloc _,X,hd,s,C⟩
     obtain⟨⟨L,M,o,Y⟩,I,K⟩:=q;simp only at d0 d1 d2 d3;clear J v D X hd s R hv C
     go_upto_region 8 with fail
     generalize wr.alloc _=U at HC u d ⊢
     obtain⟨t,HB⟩:∃t,Hid (t=wr.heap.size):=⟨_,rfl⟩
     rw[<-HB.out]at u ⊢
     obtain⟨e0,e1,e2,e3⟩:U.cell? ⟨t,0,none⟩=some (.int .i64 L)/\U.cell? ⟨t,1,none⟩=some (.slice I M.length K)/\U.cell? ⟨t,2,none⟩=some (.int .i64 o)/\U.cell? ⟨t,3,none⟩=some (.int .i64 Y):=⟨by rw[qe u.out.1];rfl,by rw[qe u.out.1];rfl,by rw[qe u.out.1];rfl,by rw[qe u.out.1];rfl⟩
     clear d0 d1 d2 d3;go_wp2_with fail;refine HC.out.mono ?_;rintro e G ⟨rfl,p⟩;clear e0 e1 e2 e3 HC
     obtain⟨e0,e1,e2,e3⟩:G.cell? ⟨t,0,none⟩=some (.int .i64 L)/\G.cell? ⟨t,1,none⟩=some (.slice I M.length K)/\G.cell? ⟨t,2,none⟩=some (.int .i64 o)/\G.cell? ⟨t,3,none⟩=some (.int .i64 Y):=by
      have h7:=qf p u.out.1;exact⟨by rw[qe h7];rfl,by rw[qe h7];rfl,by rw[qe h7];rfl,by rw[qe h7];rfl⟩
     have z:=hid2 (qh d.out.2.1 (fun j H=>p.block j (qw d.out.2.1 (ze H)).2.1)) (d.out.2.2.2.2.2.trans (zm (S:=fun k=>k=g) p) (fun _ _ e=>e));clear p
     cases hp:f (⟨L,M,o,Y⟩,I,K)
     ·have y:Hid (DL W ((((G.setCell ⟨g,i * 4,none⟩ (.int .i64 L)).setCell ⟨g,i * 4+1,none⟩ (.slice I M.length K)).setCell ⟨g,i * 4+2,none⟩ (.int .i64 o)).setCell ⟨g,i * 4+3,none⟩ (.int .i64 Y)) B g n c f qs (i+1) (j+1)):=by
       refine⟨z.out.2.trans qpa (fun _ _ e=>e),⟨_,?_,qqx z.out.1 (by omega) (⟨L,M,o,Y⟩,I,K),?_,?_⟩,by omega⟩
       ·rw[List.length_set];exact d.out.1
       ·rw[ql2 (by rw[d.out.1];omega),d.out.2.2.1,qbj d.out.2.2.2.2.1,List.filter_append]
        simp[hp]
       ·rw[List.drop_set_of_lt (by omega),<-List.drop_drop,d.out.2.2.2.1,List.drop_drop]
      obtain⟨u0,u1,u2,u3,k0,k1,k2,k3,f0,f1,f2,f3⟩:=qnu z.out.1 (by omega:i<n) (.int .i64 L) (.slice I M.length K) (.int .i64 o);clear z d u hp;go_wp2_with fail;go_roundg (n - (j+1))
      case measure=>omega
      case rel=>exact⟨i+1,j+1,by simp,by simp,by omega,by omega,Nat.le_refl _,y⟩
     ·have y:Hid (DL W G B g n c f qs i (j+1)):=by
       refine⟨z.out.2,⟨cs,d.out.1,z.out.1,?_,?_⟩,by omega⟩
       ·rw[qbj d.out.2.2.2.2.1,List.filter_append,<-d.out.2.2.1];simp[hp]
       ·rw[<-List.drop_drop,d.out.2.2.2.1,List.drop_drop]
      clear z d u hp;go_wp2_with fail;go_roundg (n - (j+1))
      case measure=>omega
      case rel=>exact⟨i,j+1,rfl,by simp,by omega,by omega,Nat.le_refl _,y⟩
    ·have a2:j=n:=by omega
     subst a2
     have P:¬(j:Int)<(j:Int):=by omega
     go_wp2_with fail;go_meet;exact⟨i,rfl,by omega,J⟩
  case rest =>
   obtain⟨w8,a7⟩:∃w8,w8=wc:=⟨_,rfl⟩
   subst wc;obtain⟨i,rfl,hi,J⟩:=hcut;obtain⟨cs,v,D,X,-⟩:=J.out.own;obtain⟨N,a4,E,O⟩:=qpb D hi
   have y:Hid (N.ownsRow B 56 4 (.slice (some ⟨g,0,none⟩) i c) i (srC (qs.filter (fun q=>!f q)))/\Kept (fun k=>k=g) W N):=by
    rw[X,List.take_of_length_le (by rw[HL.out];exact Nat.le_refl _)]at E
    exact⟨E,J.out.kep.trans O (fun _ _ e=>e)⟩
   have a1:(i:Int)<=(n:Int):=by omega
   have a5:i<=c:=by omega
   clear J v D X E O HD;go_wp2_with fail;go_ret;exact⟨i,rfl,by omega,y.out⟩
theorem qbt(W:World)(c n b:Nat)(a:Option Addr)(c1:W.cell? ⟨c,1,none⟩=some (.slice a n b))(x:Int):
  Calls Tryz.prog 88 #[.pointer (some ⟨c,0,none⟩),.int .i64 x] W fun e g=>e=.returned (.bool (decide (0<=x/\x<(n:Int))))/\g=W:=by
 by_cases f:0<=x
 ·by_cases d:x<(n:Int)
  ·go_enter Tryz.func88,Tryz.ntmps88;go_wp2_with fail;go_ret;exact⟨by simp[f,d],rfl⟩
  ·go_enter Tryz.func88,Tryz.ntmps88;go_wp2_with fail;go_ret;exact⟨by simp[d],rfl⟩
 ·go_enter Tryz.func88,Tryz.ntmps88;go_wp2_with fail;go_ret;exact⟨by simp;omega,rfl⟩
theorem j4(W:World)(c d n b:Nat)(a:Option Addr)(c0:W.cell? ⟨c,0,none⟩=some (.int .i64 (d:Int)))(c1:W.cell? ⟨c,1,none⟩=some (.slice a n b))(x:Int):
  Calls Tryz.prog 83 #[.pointer (some ⟨c,0,none⟩),.int .i64 x] W fun e g=>e=.returned (.bool (decide ((d:Int)<x/\x<(n:Int))))/\g=W:=by
 by_cases f:(d:Int)<x
 ·go_enter Tryz.func83,Tryz.ntmps83;go_wp2_with fail;refine(qbt W c n b a c1 x).mono ?_;rintro e w1 ⟨rfl,rfl⟩;go_wp2_with fail;go_ret;exact⟨by simp[f];omega,rfl⟩
 ·go_enter Tryz.func83,Tryz.ntmps83;go_wp2_with fail;go_ret;exact⟨by simp;omega,rfl⟩
theorem qel(W:World)(c d n b:Nat)(a:Option Addr)(c0:W.cell? ⟨c,0,none⟩=some (.int .i64 (d:Int)))(c1:W.cell? ⟨c,1,none⟩=some (.slice a n b))(x:Int):
  Calls Tryz.prog 89 #[.pointer (some ⟨c,0,none⟩),.int .i64 x] W fun e g=>e=.returned (.bool (decide (x≠(d:Int)/\0<=x/\x<(n:Int))))/\g=W:=by
 by_cases f:x=(d:Int)
 ·subst f;go_enter Tryz.func89,Tryz.ntmps89;go_wp2_with fail;go_ret;exact⟨by simp,rfl⟩
 ·have h:(x == (d:Int))=false:=by simpa using f
  go_enter Tryz.func89,Tryz.ntmps89;go_wp2_with fail;refine(qbt W c n b a c1 x).mono ?_;rintro e w1 ⟨rfl,rfl⟩;go_wp2_with fail;go_ret;exact⟨by simp[f],rfl⟩
theorem y9(W:World)(c n b x:Nat)(a:Option Addr)(c1:W.cell? ⟨c,1,none⟩=some (.slice a n b))(f:n<=1000)(g:x<n):
  Calls Tryz.prog 85 #[.pointer (some ⟨c,0,none⟩),.int .i64 (x:Int)] W fun e d=>e=.returned (.int .i64 ((n+x:Nat):Int))/\d=W:=by
 go_enter Tryz.func85,Tryz.ntmps85;go_wp2_with fail;go_ret;exact⟨by simp,rfl⟩
theorem qem(W:World)(c d n a x:Nat)(b:Bool)(c1:W.cell? ⟨c,1,none⟩=some (.slice (some ⟨d,0,none⟩) n a))(f:x<n)(j:W.cell? ⟨d,x,none⟩=some (.bool b)):
  Calls Tryz.prog 57 #[.pointer (some ⟨c,0,none⟩),.int .i64 (x:Int)] W fun e i=>e=.returned (.bool b)/\i=W:=by
 have g:(x:Int)<(n:Int):=by omega
 have h:(0:Int)<=(x:Int):=by omega
 go_enter Tryz.func57,Tryz.ntmps57;go_wp2_with fail;refine(qbt W c n a _ c1 (x:Int)).mono ?_;rintro e w1 ⟨rfl,rfl⟩
 have hd:decide (0<=(x:Int)/\(x:Int)<(n:Int))=true:=by simp[f]
 rw[hd];go_wp2_with fail;go_ret;exact⟨rfl,rfl⟩
structure FP where
 eb:Nat
 ob:Nat
 oc:Nat
 vs:List (Option Addr × Nat)
structure FM (W:World) (B fb:Nat) (p:FP) (n tk:Nat) (E:List Bool) (WL:List (List Nat)):Prop where
 box:W.heap[fb]?=some (.cells #[.int .i64 (tk:Int),.slice (some ⟨p.eb,0,none⟩) n n,.slice (some ⟨p.ob,0,none⟩) WL.length p.oc] 120 (0,0))
 new:B<=fb
 el:E.length=n
 emp:W.ownsRow B 4 1 (.slice (some ⟨p.eb,0,none⟩) n n) n (booC E)
 len:p.vs.length=WL.length
 bod:W.ownsRow B 28 1 (.slice (some ⟨p.ob,0,none⟩) WL.length p.oc) WL.length (grC p.vs WL)
 row:∀(x:Nat) (q:Option Addr × Nat) (l:List Nat),p.vs[x]?=some q->WL[x]?=some l->W.ownsRow B 3 1 (.slice q.1 l.length q.2) l.length (natC l)
 dis:∀(x y:Nat) (q r:Option Addr × Nat) (k:Nat),x≠y->p.vs[x]?=some q->p.vs[y]?=some r->blk q.1=some k->blk r.1≠some k
def FK (fb:Nat) (p:FP) (k:Nat):Prop:=k=fb\/k=p.eb\/k=p.ob\/GR p.vs k
theorem FM.lt{W:World}{B c n g:Nat}{p:FP}{E:List Bool}{a:List (List Nat)}(h:FM W B c p n g E a){k:Nat}(d:FK c p k):B<=k/\k<W.heap.size/\(Loc W k 120\/Loc W k 4\/Loc W k 28\/Loc W k 3):=by
 rcases d with rfl | rfl | rfl | ⟨x,q,hq,hb⟩
 ·exact⟨h.new,(Array.getElem?_eq_some_iff.1 h.box).1,.inl ⟨_,h.box⟩⟩
 ·have:=qw h.emp (b:=p.eb) rfl;exact⟨this.1,this.2.1,.inr (.inl this.2.2)⟩
 ·have:=qw h.bod (b:=p.ob) rfl;exact⟨this.1,this.2.1,.inr (.inr (.inl this.2.2))⟩
 ·have f:x<a.length:=by rw[<-h.len];exact(List.getElem?_eq_some_iff.1 hq).1
  have:=qw (h.row x q a[x] hq (List.getElem?_eq_getElem f)) hb;exact⟨this.1,this.2.1,.inr (.inr (.inr this.2.2))⟩
theorem FM.not{W:World}{B b n l:Nat}{p:FP}{E:List Bool}{c:List (List Nat)}(h:FM W B b p n l E c){k T:Nat}(a:Loc W k T)(d:T≠120)(f:T≠4)(g:T≠28)(i:T≠3):¬FK b p k:=by
 intro j
 rcases (h.lt j).2.2 with e | e | e | e
 ·exact qu a e d rfl
 ·exact qu a e f rfl
 ·exact qu a e g rfl
 ·exact qu a e i rfl
theorem FM.keep{W d:World}{B b n j:Nat}{p:FP}{E:List Bool}{f:List (List Nat)}(h:FM W B b p n j E f)(c:∀k,FK b p k->d.heap[k]?=W.heap[k]?):FM d B b p n j E f:=by
 refine⟨by rw[c b (.inl rfl)];exact h.box,h.new,h.el,?_,h.len,?_,fun x q l g m=>?_,h.dis⟩
 ·exact qh h.emp (fun i a=>by cases a;exact c _ (.inr (.inl rfl)))
 ·exact qh h.bod (fun i a=>by cases a;exact c _ (.inr (.inr (.inl rfl))))
 ·exact qh (h.row x q l g m) (fun i a=>c i (.inr (.inr (.inr ⟨x,q,g,ze a⟩))))
theorem FM.below{W a:World}{B c n d:Nat}{p:FP}{E:List Bool}{b:List (List Nat)}(h:FM W B c p n d E b)(f:Below W.heap.size W a):FM a B c p n d E b :=
 h.keep (fun k g=>f.block k (h.lt g).2.1)
theorem FM.kept{W b:World}{F:Nat->Prop}{B a n f:Nat}{p:FP}{E:List Bool}{c:List (List Nat)}(h:FM W B a p n f E c)(k:Kept F W b)(g:∀j,FK a p j->¬F j):FM b B a p n f E c :=
 h.keep (fun j d=>k.block j (h.lt d).2.1 (g j d))
def FV (W:World) (fb:Nat) (p:FP) (W':World) (p':FP):Prop:=Kept (FK fb p) W W'/\∀k,FK fb p' k->FK fb p k\/W.heap.size<=k
theorem FV.refl(W:World)(a:Nat)(p:FP):FV W a p W p:=⟨Kept.refl _ _,fun _ h=>.inl h⟩
theorem FV.trans{W b c:World}{a:Nat}{p f g:FP}(h:FV W a p b f)(k:FV b a f c g):FV W a p c g:=by
 refine⟨h.1.trans k.1 (fun j d e=>?_),fun j d=>?_⟩
 ·rcases h.2 j e with h1 | h1
  ·exact h1
  ·omega
 ·rcases k.2 j d with h1 | h1
  ·exact h.2 j h1
  ·exact .inr (Nat.le_trans h.1.size h1)
theorem FV.below{W a:World}{B b n g:Nat}{p f:FP}{E:List Bool}{c:List (List Nat)}(h:FM W B b p n g E c)(d:B<=W.heap.size)(v:FV W b p a f):Below B W a :=
 v.1.below d (fun k i e=>by have:=(h.lt e).1;omega)
theorem FM.c0{W:World}{B a n b:Nat}{p:FP}{E:List Bool}{c:List (List Nat)}(h:FM W B a p n b E c):W.cell? ⟨a,0,none⟩=some (.int .i64 (b:Int)):=by rw[qe h.box];rfl
theorem FM.c1{W:World}{B a n c:Nat}{p:FP}{E:List Bool}{b:List (List Nat)}(h:FM W B a p n c E b):W.cell? ⟨a,1,none⟩=some (.slice (some ⟨p.eb,0,none⟩) n n):=by rw[qe h.box];rfl
theorem FM.c2{W:World}{B b n c:Nat}{p:FP}{E:List Bool}{a:List (List Nat)}(h:FM W B b p n c E a):W.cell? ⟨b,2,none⟩=some (.slice (some ⟨p.ob,0,none⟩) a.length p.oc):=by rw[qe h.box];rfl
theorem FM.ce{W:World}{B c n f:Nat}{p:FP}{E:List Bool}{b:List (List Nat)}(h:FM W B c p n f E b){x:Nat}(d:x<n):W.cell? ⟨p.eb,x,none⟩=some (.bool (isF E x)):=by
 have a:x<E.length:=by rw[h.el];exact d
 have:=h.emp.cellAt x (by omega);rw[this];unfold booC;rw[List.getElem?_map,vy a];rfl
theorem FM.at{W:World}{B f n i:Nat}{p:FP}{E:List Bool}{a:List (List Nat)}(h:FM W B f p n i E a){x:Nat}{l:List Nat}(b:a[x]?=some l):∃q,p.vs[x]?=some q/\W.cell? ⟨p.ob,x,none⟩=some (.slice q.1 l.length q.2)/\W.frozen? ⟨p.ob,x,none⟩=false:=by
 have d:=(List.getElem?_eq_some_iff.1 b).1;have c:p.vs[x]?=some (p.vs[x]'(by rw[h.len];exact d)):=List.getElem?_eq_getElem _
 refine⟨_,c,?_,h.bod.frozenAt x⟩;rw[h.bod.cellAt x (by omega)];unfold grC
 have g:(p.vs.zip a)[x]?=some (p.vs[x]'(by rw[h.len];exact d),l):=by rw[List.getElem?_zip_eq_some];exact⟨c,b⟩
 rw[List.getElem?_map,g];rfl
theorem FM.lay{W:World}{B A n tk:Nat}{p:FP}{E:List Bool}{o:List (List Nat)}(h:FM W B A p n tk E o)(hB:B<=W.heap.size){x i:Nat}{l:List Nat}{q:Option Addr × Nat}(S:o[x]?=some l)(H:p.vs[x]?=some q)(hn:l.length<100000):
  ∃g c d,(Builtin.append_ #[28,28] 28 #[.slice q.1 l.length q.2,.slice (some ⟨W.heap.size,0,none⟩) 1 1]).run Tryz.prog (W.alloc (.cells #[.int .i64 (i:Int)] 3))=.ok (.slice (some ⟨g,0,none⟩) (l.length+1) c) d /\
   d.cell? ⟨A,2,none⟩=some (.slice (some ⟨p.ob,0,none⟩) o.length p.oc)/\d.cell? ⟨p.ob,x,none⟩=some (.slice q.1 l.length q.2)/\d.frozen? ⟨p.ob,x,none⟩=false /\
   FM (d.setCell ⟨p.ob,x,none⟩ (.slice (some ⟨g,0,none⟩) (l.length+1) c)) B A ⟨p.eb,p.ob,p.oc,p.vs.set x (some ⟨g,0,none⟩,c)⟩ n tk E (o.set x (l++[i]))/\FV W A p (d.setCell ⟨p.ob,x,none⟩ (.slice (some ⟨g,0,none⟩) (l.length+1) c)) ⟨p.eb,p.ob,p.oc,p.vs.set x (some ⟨g,0,none⟩,c)⟩:=by
 obtain⟨g,c,d,t,ho,hk,hg⟩:=xy (us:=[.int .i64 (i:Int)]) u29 i3 rfl (by decide) (by decide) rfl (fun u hu=>by rw[List.mem_singleton]at hu;subst hu;rfl) (h.row x q l H S) hB hn
 have hx:=(List.getElem?_eq_some_iff.1 S).1
 have v:x<p.vs.length:=by rw[h.len];exact hx
 have hG:∀k,blk q.1=some k->GR p.vs k:=fun k e=>⟨x,q,H,e⟩
 have J:=((Kept.refl _ W).alloc _).trans hk (fun k _ e=>ze e);have M:=hg.imp ze id;have R:Loc W p.ob 28:=(qw h.bod (b:=p.ob) rfl).2.2
 have Z:∀k,blk q.1=some k->Loc W k 3:=fun k e=>(qw (h.row x q l H S) e).2.2
 have Q:¬blk q.1=some p.ob:=fun e=>qu (Z _ e) R (by decide) rfl
 have V:¬blk q.1=some A:=fun e=>qu (Z _ e) ⟨_,h.box⟩ (by decide) rfl
 have X:¬blk q.1=some p.eb:=fun e=>qu (Z _ e) (qw h.emp (b:=p.eb) rfl).2.2 (by decide) rfl
 have T:=(J.block A (h.lt (.inl rfl)).2.1 V).trans h.box;have K:d.ownsRow B 28 1 (.slice (some ⟨p.ob,0,none⟩) o.length p.oc) o.length (grC p.vs o):=qh h.bod (fun j f=>by cases f;exact J.block _ (h.lt (.inr (.inr (.inl rfl)))).2.1 Q)
 have ge:d.ownsRow B 4 1 (.slice (some ⟨p.eb,0,none⟩) n n) n (booC E):=qh h.emp (fun j f=>by cases f;exact J.block _ (h.lt (.inr (.inl rfl))).2.1 X)
 have U:g≠p.ob:=fun e=>qu (za ho rfl) (za K rfl) (by decide) e
 obtain⟨q',P,c1,-⟩:=h.at S;rw[H]at P
 cases P
 have c2:d.cell? ⟨p.ob,x,none⟩=some (.slice q.1 l.length q.2):=by
  have:d.heap[p.ob]?=W.heap[p.ob]?:=J.block _ (h.lt (.inr (.inr (.inl rfl)))).2.1 Q;unfold World.cell? at c1 ⊢;rw[this];exact c1
 have a1:A≠p.ob:=qu ⟨_,T⟩ (za K rfl) (by decide);have a0:p.eb≠p.ob:=qu (za ge rfl) (za K rfl) (by decide);refine⟨g,c,d,t,by rw[qe T];rfl,c2,K.frozenAt x,⟨?_,h.new,h.el,?_,?_,?_,?_,?_⟩,?_,?_⟩
 ·rw[Below.heap_setCell _ _ _ _ a1,List.length_set];exact T
 ·exact qh ge (fun j f=>by cases f;exact Below.heap_setCell _ _ _ _ a0)
 ·rw[List.length_set,List.length_set];exact h.len
 ·have s1:=(K.stored x (.slice (some ⟨g,0,none⟩) (l.length+1) c)).1;rw[List.length_set]
  have e:grC (p.vs.set x (some ⟨g,0,none⟩,c)) (o.set x (l++[i]))=(grC p.vs o).set x (.slice (some ⟨g,0,none⟩) (l.length+1) c):=by
   unfold grC;rw[qdk,List.map_set];simp
  rw[e];exact s1
 ·intro y r m a O;rw[List.getElem?_set]at a O
  by_cases I:x=y
  ·subst I;rw[if_pos rfl,if_pos v]at a;rw[if_pos rfl,if_pos hx]at O
   cases a
   cases O
   rw[jk,List.length_append];exact qh ho (fun j f=>by cases f;exact Below.heap_setCell _ _ _ _ U)
  ·rw[if_neg I]at a O;have C:=h.row y r m a O;refine qh C (fun j f=>?_);have N:=ze f;rw[Below.heap_setCell _ _ _ _ (qu (za C f) R (by decide)),J.block j (qw C N).2.1 (fun e=>h.dis x y q r j I H a e N)]
 ·intro y z r s k D a t G;rw[List.getElem?_set]at a t
  have old:∀(u:Nat) (s:Option Addr × Nat),p.vs[u]?=some s->x≠u->blk s.1=some g->False:=by
   intro u s hs Y L
   rcases M with F | F
   ·exact h.dis x u q s g Y H hs F L
   ·have:=(h.lt (.inr (.inr (.inr ⟨u,s,hs,L⟩)))).2.1;omega
  by_cases F:x=y
  ·subst F;rw[if_pos rfl,if_pos v]at a;rw[if_neg D]at t
   cases a
   cases G
   exact fun e=>old z s t D e
  ·rw[if_neg F]at a
   by_cases h2:x=z
   ·subst h2;rw[if_pos rfl,if_pos v]at t
    cases t
    intro e
    cases e
    exact old y r a F G
   ·rw[if_neg h2]at t;exact h.dis y z r s k D a t G
 ·exact Kept.setCell (J.weaken (fun k e=>.inr (.inr (.inr (hG k e))))) _ _ (fun _=>.inr (.inr (.inl rfl)))
 ·rintro k (rfl | rfl | rfl | ⟨y,r,a,G⟩)
  ·exact .inl (.inl rfl)
  ·exact .inl (.inr (.inl rfl))
  ·exact .inl (.inr (.inr (.inl rfl)))
  ·rw[List.getElem?_set]at a
   by_cases I:x=y
   ·subst I;rw[if_pos rfl,if_pos v]at a
    cases a
    cases G
    exact M.imp (fun e=>.inr (.inr (.inr (hG _ e)))) id
   ·rw[if_neg I]at a;exact .inl (.inr (.inr (.inr ⟨y,r,a,G⟩)))
theorem FM.fork{W:World}{B d n tk:Nat}{p:FP}{E:List Bool}{f:List (List Nat)}(h:FM W B d p n tk E f)(hB:B<=W.heap.size)(a b:Nat)(hn:f.length<100000):
  ∃g c m,(Builtin.append_ #[92,92] 92 #[.slice (some ⟨p.ob,0,none⟩) f.length p.oc,.slice (some ⟨W.heap.size+1,0,none⟩) 1 1]).run Tryz.prog ((W.alloc (.cells #[.int .i64 (a:Int),.int .i64 (b:Int)] 3)).alloc (.cells #[.slice (some ⟨W.heap.size,0,none⟩) 2 2] 28))=.ok (.slice (some ⟨g,0,none⟩) (f.length+1) c) m /\
   m.cell? ⟨d,2,none⟩=some (.slice (some ⟨p.ob,0,none⟩) f.length p.oc)/\m.frozen? ⟨d,2,none⟩=false /\
   FM (m.setCell ⟨d,2,none⟩ (.slice (some ⟨g,0,none⟩) (f.length+1) c)) B d ⟨p.eb,g,c,p.vs++[(some ⟨W.heap.size,0,none⟩,2)]⟩ n tk E (f++[[a,b]])/\FV W d p (m.setCell ⟨d,2,none⟩ (.slice (some ⟨g,0,none⟩) (f.length+1) c)) ⟨p.eb,g,c,p.vs++[(some ⟨W.heap.size,0,none⟩,2)]⟩:=by
 have Q:Below W.heap.size W (W.alloc (.cells #[.int .i64 (a:Int),.int .i64 (b:Int)] 3)):=qb _ _;have h1:=h.below Q;have t:(W.alloc (.cells #[.int .i64 (a:Int),.int .i64 (b:Int)] 3)).heap.size=W.heap.size+1:=qz _ _;have R:(W.alloc (.cells #[.int .i64 (a:Int),.int .i64 (b:Int)] 3)).heap[W.heap.size]?=some (.cells #[.int .i64 (a:Int),.int .i64 (b:Int)] 3 (0,0)):=heap_alloc_new _ _;obtain⟨g,c,m,K,ho,hk,hg⟩:=xy (us:=[.slice (some ⟨W.heap.size,0,none⟩) 2 2]) u39 i29 rfl (by decide) (by decide) rfl (fun u hu=>by rw[List.mem_singleton]at hu;subst hu;rfl) h1.bod (by rw[t];omega) hn
 rw[t]at K hg;have P:Kept (fun k=>k=p.ob) W m:=((Kept.refl _ W).alloc _).trans (((Kept.refl _ _).alloc _).trans hk (fun k _ e=>(by cases e;rfl))) (fun k _ e=>e)
 have G:g=p.ob\/W.heap.size+1<=g:=hg.imp (fun e=>by cases e;rfl) id
 have A:Loc W p.ob 28:=(qw h.bod (b:=p.ob) rfl).2.2;have N:=qu ⟨_,h.box⟩ A (by decide);have Y:=qu (qw h.emp (b:=p.eb) rfl).2.2 A (by decide);have Z:=qu (qw h.emp (b:=p.eb) rfl).2.2 ⟨_,h.box⟩ (by decide);have O:=(P.block d (h.lt (.inl rfl)).2.1 N).trans h.box
 have T:m.heap[W.heap.size]?=some (.cells #[.int .i64 (a:Int),.int .i64 (b:Int)] 3 (0,0)):=by
  have k1:Kept (fun k=>k=p.ob) (W.alloc (.cells #[.int .i64 (a:Int),.int .i64 (b:Int)] 3)) m:=((Kept.refl _ _).alloc _).trans hk (fun k _ e=>(by cases e;rfl))
  rw[k1.block _ (by rw[t];omega) (fun e=>by have:=(h.lt (.inr (.inr (.inl e)))).2.1;omega)]
  exact R
 have a0:g≠d:=by
  rcases G with rfl | h2
  ·exact Ne.symm N
  ·have:=(h.lt (.inl (rfl:d=d))).2.1;omega
 refine⟨g,c,m,K,by rw[qe O];rfl,qj O 2,⟨?_,h.new,h.el,?_,?_,?_,?_,?_⟩,?_,?_⟩
 ·rw[setCell_eq_setRow m d 2 _ 120 (0,0) _ O,List.length_append];exact setRow_heap _ _ _ _ 120 _ O
 ·exact qh h.emp (fun j D=>by cases D;rw[Below.heap_setCell _ _ _ _ Z,P.block _ (h.lt (.inr (.inl rfl))).2.1 Y])
 ·rw[List.length_append,List.length_append,h.len];rfl
 ·have e:grC (p.vs++[(some ⟨W.heap.size,0,none⟩,2)]) (f++[[a,b]])=grC p.vs f++[.slice (some ⟨W.heap.size,0,none⟩) 2 2]:=by
   unfold grC;rw[List.zip_append h.len,List.map_append];rfl
  rw[e,List.length_append];exact qh ho (fun j D=>by cases D;exact Below.heap_setCell _ _ _ _ a0)
 ·intro x q l i H
  rcases Nat.lt_or_ge x f.length with hx | hx
  ·rw[List.getElem?_append_left (by rw[h.len];exact hx)]at i
   rw[List.getElem?_append_left hx]at H;have o:=h.row x q l i H;refine qh o (fun j D=>?_);have I:=za o D;rw[Below.heap_setCell _ _ _ _ (qu I ⟨_,h.box⟩ (by decide)),P.block j (qw o (ze D)).2.1 (qu I A (by decide))]
  ·have L:=(List.getElem?_eq_some_iff.1 H).1;rw[List.length_append]at L;simp only[List.length_singleton]at L
   have U:x=f.length:=by omega
   subst U;rw[List.getElem?_append_right (Nat.le_refl _),Nat.sub_self]at H;rw[<-h.len,List.getElem?_append_right (Nat.le_refl _),Nat.sub_self]at i
   cases i
   cases H
   have S:W.heap.size≠d:=by have:=(h.lt (.inl (rfl:d=d))).2.1;omega
   refine⟨rfl,.inr ⟨W.heap.size,2,#[.int .i64 (a:Int),.int .i64 (b:Int)],rfl,hB,?_,Nat.le_refl 2,by unfold maxLen;omega,rfl,rfl⟩⟩
   rw[Below.heap_setCell _ _ _ _ S];exact T
 ·intro x y q r k V i K C
  have v:∀(z:Nat) (s:Option Addr × Nat),(p.vs++[(some ⟨W.heap.size,0,none⟩,2)])[z]?=some s->(p.vs[z]?=some s/\∀k,blk s.1=some k->k<W.heap.size)\/(z=p.vs.length/\s=(some ⟨W.heap.size,0,none⟩,2)):=by
   intro z s F
   rcases Nat.lt_or_ge z p.vs.length with hz | hz
   ·rw[List.getElem?_append_left hz]at F;exact .inl ⟨F,fun k e=>(h.lt (.inr (.inr (.inr ⟨z,s,F,e⟩)))).2.1⟩
   ·have M:=(List.getElem?_eq_some_iff.1 F).1;rw[List.length_append]at M;simp only[List.length_singleton]at M
    have X:z=p.vs.length:=by omega
    subst X;rw[List.getElem?_append_right (Nat.le_refl _),Nat.sub_self]at F
    cases F
    exact .inr ⟨rfl,rfl⟩
  rcases v x q i with ⟨h2,h3⟩ | ⟨h2,rfl⟩
  ·rcases v y r K with ⟨h4,h5⟩ | ⟨h4,rfl⟩
   ·exact h.dis x y q r k V h2 h4 C
   ·intro e
    cases e
    exact absurd (h3 _ C) (Nat.lt_irrefl _)
  ·rcases v y r K with ⟨h4,h5⟩ | ⟨h4,rfl⟩
   ·cases C
    intro e;exact absurd (h5 _ e) (Nat.lt_irrefl _)
   ·omega
 ·exact Kept.setCell (P.weaken (fun k e=>.inr (.inr (.inl e)))) _ _ (fun _=>.inl rfl)
 ·rintro k (rfl | rfl | rfl | ⟨y,r,i,C⟩)
  ·exact .inl (.inl rfl)
  ·exact .inl (.inr (.inl rfl))
  ·rcases G with rfl | h2
   ·exact .inl (.inr (.inr (.inl rfl)))
   ·exact .inr (by show W.heap.size<=k;omega)
  ·simp only at i
   rcases Nat.lt_or_ge y p.vs.length with hz | hz
   ·rw[List.getElem?_append_left hz]at i;exact .inl (.inr (.inr (.inr ⟨y,r,i,C⟩)))
   ·rw[List.getElem?_append_right hz]at i;have J:=List.mem_of_getElem? i;rw[List.mem_singleton]at J;subst J
    cases C
    exact .inr (Nat.le_refl _)
end Go.Proofs.YtbdogaaooeoccaaGreatDoor
