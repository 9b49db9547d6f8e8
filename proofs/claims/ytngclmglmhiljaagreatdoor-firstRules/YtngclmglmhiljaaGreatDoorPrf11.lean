/- Texts that the proofs of the First statements stand on, part Prf11. -/
import Derived.Deep.RegionHeld
import Derived.Test.YtngclmglmhiljaaGreatDoorPrf10
set_option maxHeartbeats 16000000
set_option maxRecDepth 100000
namespace Go.Proofs.YtngclmglmhiljaaGreatDoor
open Go.RowKit
theorem qlj(G:Gm)(h:Hd)(w:World)(B:IsG w h G)(q:Bool)(hq:q=true↔kz G):Calls Tryz.prog 29 #[gv h G] w fun e O=>e=.returned (.bool q)/\Below w.heap.size w O:=by
 have Z:G.ts.length<=100:=B.small.nt;have a0:G.rs.length<=200:=B.small.nr;have D:=kj B.rul;have H:Hid (IsG w h G):=B;have HQ:Hid (q=true↔kz G):=hq;clear B hq
 have a:Hid (∀V,Below w.heap.size w V->Calls Tryz.prog 31 #[gv h G] V fun e O=>∃I c,e=.returned (.slice I (lfs G.rs).length c)/\Below w.heap.size w O):=fun V hV=>(qb9 G h V (H.out.below hV)).mono (fun e O ⟨I,c,S,_,hb⟩=>⟨I,c,S,qd hV hb⟩)
 obtain⟨N,p,L,M⟩:=h;unfold gv at a ⊢;simp only at D a ⊢
 have Y:G.ts.length<=p/\p<=9223372036854775807:=by have A:=H.out.tok.le;have K:=H.out.tok.max;simp only at A K;unfold maxLen at K;omega
 have g:Below w.heap.size w (w.alloc (.cells #[.slice N G.ts.length p,.string G.s,.int .i64 G.e,.slice L G.rs.length M] 25)):=qb _ _;have n:(w.alloc (.cells #[.slice N G.ts.length p,.string G.s,.int .i64 G.e,.slice L G.rs.length M] 25)).heap[w.heap.size]?=some (.cells #[.slice N G.ts.length p,.string G.s,.int .i64 G.e,.slice L G.rs.length M] 25 (0,0)):=heap_alloc_new _ _
 obtain⟨l,z⟩:∃l,Hid (G.ts.length=l):=⟨_,rfl⟩
 obtain⟨d,f⟩:∃d,Hid (G.rs.length=d):=⟨_,rfl⟩
 obtain⟨m,HM⟩:∃m,Hid ((lfs G.rs).length=m):=⟨_,rfl⟩
 rw[z.out]at Z Y g n a ⊢;rw[f.out]at a0 D g n a ⊢;rw[HM.out]at a;go_enter Tryz.func29,Tryz.ntmps29
 go_upto_region 1 with fail
 generalize w.alloc (.cells #[.slice N l p,.string G.s,.int .i64 G.e,.slice L d M] 25)=W1 at g n ⊢
 obtain⟨gb,x⟩:∃gb,Hid (gb=w.heap.size):=⟨_,rfl⟩
 rw[<-x.out]at n ⊢;obtain⟨p0,p1,p2,p3⟩:=box4 n;have H1:Hid (Below w.heap.size w W1):=g;clear n g x;go_wp2
 go_loop [3] (fun v=>∃i:Nat,i<=d/\v=.int .i64 i/\Hid (∀(j:Nat) (r:Ru),j<i->G.rs[j]?=some r->r.r.length<=6)) (fun v=>d - (intOf v).toNat)
 case atStart=>exact⟨0,Nat.zero_le _,rfl,(fun j u h=>absurd h (Nat.not_lt_zero _):∀(j:Nat) (r:Ru),j<0->G.rs[j]?=some r->r.r.length<=6)⟩
 case round =>
  obtain⟨i,hi,rfl,J⟩:=hrel
  by_cases X:i<d
  ·have C:(i:Int)<(d:Int):=by omega
   obtain⟨r,E⟩:∃r,G.rs[i]?=some r:=⟨G.rs[i]'(by rw[f.out];exact X),List.getElem?_eq_getElem _⟩
   obtain⟨b,o,xa,xc,F,d0,d1,d2,-⟩:=(H.out.rul.below H1.out).at E;simp only at F;subst F;have HU:Hid (G.rs[i]?=some r):=E;clear E
   obtain⟨y,P⟩:∃y,Hid (r.r.length=y):=⟨_,rfl⟩
   rw[P.out]at d1
   by_cases S:6<y
   ·have T:(6:Int)<(y:Int):=by omega
    have k:Hid (q=true):=HQ.out.2 (.inr (.inr (.inr ⟨r,List.mem_of_getElem? HU.out,by rw[P.out];exact S⟩)))
    go_wp2;go_ret;exact⟨by rw[k.out];rfl,H1.out⟩
   ·have T:¬(6:Int)<(y:Int):=by omega
    have k:Hid (∀(j:Nat) (r:Ru),j<i+1->G.rs[j]?=some r->r.r.length<=6):=fun j v U g=>by
     rcases Nat.lt_or_ge j i with h | h
     ·exact J.out j v h g
     ·have:j=i:=by omega
      subst this;rw[HU.out]at g
      cases g
      rw[P.out];omega
    go_wp2
    go_round
    case rel=>exact⟨i+1,by omega,by simp,k⟩
    case measure=>simp[intOf];omega
  ·have C:¬(i:Int)<(d:Int):=by omega
   have k:Hid (q=true↔12<l\/30<d\/10<m):=by
    refine HQ.out.trans ?_;unfold kz;rw[z.out,f.out,HM.out]
    constructor
    ·rintro(h | h | h | ⟨r,E,h⟩)
     ·exact .inl h
     ·exact .inr (.inl h)
     ·exact .inr (.inr h)
     ·obtain⟨j,U⟩:=List.getElem?_of_mem E;have A:=(List.getElem?_eq_some_iff.1 U).1;rw[f.out]at A;have:=J.out j r (by omega) U;omega
    ·rintro(h | h | h)
     ·exact .inl h
     ·exact .inr (.inl h)
     ·exact .inr (.inr (.inl h))
   clear J
   by_cases A:12<l
   ·have Q:(12:Int)<(l:Int):=by omega
    have t:Hid (q=true):=k.out.2 (.inl A);go_wp2_with fail;go_ret;exact⟨by rw[t.out];rfl,H1.out⟩
   ·have Q:¬(12:Int)<(l:Int):=by omega
    by_cases K:30<d
    ·have R:(30:Int)<(d:Int):=by omega
     have t:Hid (q=true):=k.out.2 (.inr (.inl K));go_wp2_with fail;go_ret;exact⟨by rw[t.out];rfl,H1.out⟩
    ·have R:¬(30:Int)<(d:Int):=by omega
     go_wp2_with fail;refine(a.out _ H1.out).mono ?_;rintro e W2 ⟨I,c,rfl,hB⟩;have HB:Hid (Below w.heap.size w W2):=hB
     have t:Hid (q=decide ((10:Int)<(m:Int))):=by
      by_cases h3:10<m
      ·rw[k.out.2 (.inr (.inr h3))];exact(decide_eq_true (by omega)).symm
      ·rw[decide_eq_false (by omega)];exact zb k.out (fun e=>by omega)
     go_wp2_with fail;go_ret;exact⟨by rw[t.out];rfl,HB.out⟩
theorem qka(G:Gm)(h:Hd)(w:World)(hG:IsG w h G)(q:Bool)(hq:q=true↔NmP G):Calls Tryz.prog 30 #[gv h G] w fun e D=>e=.returned (.bool q)/\Below w.heap.size w D:=by
 have f4:G.ts.length<=100:=hG.small.nt;have f5:G.rs.length<=200:=hG.small.nr;have d5:=kj hG.rul;have HG:Hid (IsG w h G):=hG;have HQ:Hid (q=true↔(G.rs≠[]/\(¬∃x∈tkG G,x∈lfs G.rs)/\(∀r∈G.rs,NmR G r)/\kc G∈lfs G.rs)):=hq.trans ql9;clear hG hq
 obtain⟨m,HM⟩:∃m,Hid ((lfs G.rs).length=m):=⟨_,rfl⟩
 have g5:m<=200:=by have:=j9 G.rs;have:=HM.out;omega
 have P:Hid (∀V,Below w.heap.size w V->Calls Tryz.prog 31 #[gv h G] V fun e D=>∃C c,e=.returned (.slice C m c)/\Row D 1 C m c (strC (lfs G.rs))/\Below V.heap.size V D):=fun V hV=>by
  have:=qb9 G h V (HG.out.below hV);rw[HM.out]at this;exact this.mono (fun e D ⟨C,c,he,ho,hb⟩=>⟨C,c,he,Row.of_own ho,hb⟩)
 have a8:Hid (∀(V:World) (C:Option Addr) (c:Nat) (x:ByteArray),Row V 1 C m c (strC (lfs G.rs))->Calls Tryz.prog 32 #[.slice C m c,.string x] V fun e D=>e=.returned (.int .i64 (idxI (q9 (lfs G.rs) x)))/\D=V):=fun V C c x hr=>by
  have:=qa2 (lfs G.rs) C c x V (by rw[HM.out];exact hr) (by rw[HM.out];omega)
  rw[HM.out]at this;exact this
 have T:Hid (∀(V:World) (x:ByteArray),Below w.heap.size w V->Calls Tryz.prog 54 #[gv h G,.string x] V fun e D=>e=.returned (.int .i64 (idxI (q9 (tkG G) x)))/\Below V.heap.size V D):=fun V x hV=>qgq G h V (HG.out.below hV) x
 have a1:Hid (∀(l:List ByteArray) (x:ByteArray),0<=idxI (q9 l x)↔x∈l):=fun l x=>(qa3 _).trans jz
 obtain⟨ta,tc,ra,rc⟩:=h;unfold gv at P T ⊢;simp only at d5 P T ⊢
 have f2:G.ts.length<=tc/\tc<=9223372036854775807:=by have N:=HG.out.tok.le;have h2:=HG.out.tok.max;simp only at N h2;unfold maxLen at h2;omega
 have hv:Below w.heap.size w (w.alloc (.cells #[.slice ta G.ts.length tc,.string G.s,.int .i64 G.e,.slice ra G.rs.length rc] 25)):=qb _ _;have I:(w.alloc (.cells #[.slice ta G.ts.length tc,.string G.s,.int .i64 G.e,.slice ra G.rs.length rc] 25)).heap[w.heap.size]?=some (.cells #[.slice ta G.ts.length tc,.string G.s,.int .i64 G.e,.slice ra G.rs.length rc] 25 (0,0)):=heap_alloc_new _ _
 obtain⟨X,b0⟩:∃X,Hid (G.ts.length=X):=⟨_,rfl⟩
 obtain⟨H,R⟩:∃H,Hid (G.rs.length=H):=⟨_,rfl⟩
 rw[b0.out]at f4 f2 hv I P T ⊢;rw[R.out]at f5 d5 hv I P T ⊢;go_enter Tryz.func30,Tryz.ntmps30
 go_upto_region 1 with fail
 generalize w.alloc (.cells #[.slice ta X tc,.string G.s,.int .i64 G.e,.slice ra H rc] 25)=W1 at hv I ⊢
 obtain⟨gb,c3⟩:∃gb,Hid (gb=w.heap.size):=⟨_,rfl⟩
 rw[<-c3.out]at I ⊢
 have a:Hid (∀V:World,Below W1.heap.size W1 V->Below w.heap.size w V/\V.cell? ⟨gb,0,none⟩=some (.slice ta X tc)/\V.cell? ⟨gb,1,none⟩=some (.string G.s)/\V.cell? ⟨gb,2,none⟩=some (.int .i64 G.e)/\V.cell? ⟨gb,3,none⟩=some (.slice ra H rc)):=fun V hV=>⟨qd hv hV,box4 (qf hV I)⟩
 obtain⟨p0,p1,p2,p3⟩:=box4 I;have H1:Hid (Below w.heap.size w W1):=hv;clear I hv c3;go_wp2_with fail;refine(P.out _ H1.out).mono ?_;rintro e W2 ⟨C,c,rfl,v,c8⟩
 have H2:Hid (Below W1.heap.size W1 W2/\Row W2 1 C m c (strC (lfs G.rs))):=⟨c8,v⟩
 have g6:=ze v;clear p0 p1 p2 p3 P H1 c8 v;obtain⟨-,p0,p1,p2,p3⟩:=a.out W2 H2.out.1;go_wp2_with fail
 go_loopg [4] X (fun kx s4 wr=>∃k:Nat,s4=.int .i64 k/\k<=X/\X - k<=kx/\Hid (wr=W2/\∀(i:Nat) (t:Tk),i<k->G.ts[i]?=some t->t.n ∉ lfs G.rs))
 case atStart=>exact⟨0,rfl,Nat.zero_le _,by omega,(⟨rfl,fun i r O=>absurd O (Nat.not_lt_zero _)⟩:W2=W2/\∀(i:Nat) (t:Tk),i<0->G.ts[i]?=some t->t.n ∉ lfs G.rs)⟩
 case round =>
  obtain⟨k,rfl,hk,hg,J⟩:=hrel;obtain⟨f6,hJ⟩:=J.out;subst f6;have HJ:Hid (∀(i:Nat) (t:Tk),i<k->G.ts[i]?=some t->t.n ∉ lfs G.rs):=hJ;clear J hJ
  by_cases a5:k<X
  ·have a4:(k:Int)<(X:Int):=by omega
   obtain⟨t,ht⟩:∃t,G.ts[k]?=some t:=⟨G.ts[k]'(by rw[b0.out];exact a5),List.getElem?_eq_getElem _⟩
   obtain⟨b,o,d8,d0,-,-⟩:=ja (HG.out.tok.below (a.out wr H2.out.1).1) ht;simp only at d8;subst d8;have HT:Hid (G.ts[k]?=some t):=ht;clear ht;have A:=a8.out wr C c t.n H2.out.2;have HZ:=a1.out (lfs G.rs) t.n;generalize idxI (q9 (lfs G.rs) t.n)=z at A HZ;have c5:Hid (Calls Tryz.prog 32 #[.slice C m c,.string t.n] wr fun e D=>e=.returned (.int .i64 z)/\D=wr):=A;have c6:Hid (0<=z↔t.n∈lfs G.rs):=HZ;clear A HZ;go_wp2_with fail;refine c5.out.mono ?_;rintro e wq ⟨rfl,rfl⟩
   by_cases Y:0<=z
   ·have g:Hid (q=false):=zb HQ.out (fun e=>e.2.1 ⟨t.n,by unfold tkG;exact List.mem_map.2 ⟨t,List.mem_of_getElem? HT.out,rfl⟩,c6.out.1 Y⟩)
    go_wp2_with fail;go_ret;exact⟨by rw[g.out];rfl,(a.out _ H2.out.1).1⟩
   ·have g:Hid (∀(i:Nat) (t:Tk),i<k+1->G.ts[i]?=some t->t.n ∉ lfs G.rs):=fun i u O hu=>by
     rcases Nat.lt_or_ge i k with N | N
     ·exact HJ.out i u N hu
     ·have:i=k:=by omega
      subst this;rw[HT.out]at hu
      cases hu
      exact fun e=>Y (c6.out.2 e)
    go_wp2_with fail;go_roundg (X - (k+1))
    case measure=>omega
    case rel=>exact⟨k+1,by simp,by omega,Nat.le_refl _,(⟨rfl,g.out⟩:wq=wq/\∀(i:Nat) (t:Tk),i<k+1->G.ts[i]?=some t->t.n ∉ lfs G.rs)⟩
  ·have a4:¬(k:Int)<(X:Int):=by omega
   have HT:Hid (¬∃x∈tkG G,x∈lfs G.rs):=by
    rintro⟨x,I,hl⟩;unfold tkG at I;obtain⟨t,ht,rfl⟩:=List.mem_map.1 I;obtain⟨i,O⟩:=List.getElem?_of_mem ht;exact HJ.out i t (by have:=(List.getElem?_eq_some_iff.1 O).1;rw[b0.out]at this;omega) O hl
   clear HJ hk hg a5 p0 p1 p2 p3
   obtain⟨B,g2⟩:∃B,B=wr:=⟨_,rfl⟩
   subst wr;obtain⟨-,p0,p1,p2,p3⟩:=a.out B H2.out.1;go_wp2_with fail;clear p0 p1 p2 p3
   go_loopg [5] H (fun kx s5 wr=>∃k:Nat,s5=.int .i64 k/\k<=H/\H - k<=kx/\Hid (Below B.heap.size B wr/\∀(i:Nat) (r:Ru),i<k->G.rs[i]?=some r->NmR G r))
   case atStart=>exact⟨0,rfl,Nat.zero_le _,by omega,(⟨Below.refl _ _,fun i r O=>absurd O (Nat.not_lt_zero _)⟩:Below B.heap.size B B/\∀(i:Nat) (r:Ru),i<0->G.rs[i]?=some r->NmR G r)⟩
   case round =>
    obtain⟨k,rfl,hk,hg,J⟩:=hrel;obtain⟨-,p0,p1,p2,p3⟩:=a.out wr (qd H2.out.1 J.out.1)
    by_cases a5:k<H
    ·have a4:(k:Int)<(H:Int):=by omega
     obtain⟨r,hr⟩:∃r,G.rs[k]?=some r:=⟨G.rs[k]'(by rw[R.out];exact a5),List.getElem?_eq_getElem _⟩
     obtain⟨bb,o,ya,yc,d7,d0,d1,d2,v⟩:=(HG.out.rul.below (a.out wr (qd H2.out.1 J.out.1)).1).at hr;simp only at d7;subst d7;have f3:r.r.length<=100:=(HG.out.small.rl r (List.mem_of_getElem? hr)).2.2.1;have f8:=ze v;have hv:Below wr.heap.size wr (wr.alloc (.cells #[.string r.l,.slice ya r.r.length yc,.string r.p] 55)):=qb _ _
     have M:Hid (Below B.heap.size B (wr.alloc (.cells #[.string r.l,.slice ya r.r.length yc,.string r.p] 55))/\(wr.alloc (.cells #[.string r.l,.slice ya r.r.length yc,.string r.p] 55)).heap[wr.heap.size]?=some (.cells #[.string r.l,.slice ya r.r.length yc,.string r.p] 55 (0,0))/\Row (wr.alloc (.cells #[.string r.l,.slice ya r.r.length yc,.string r.p] 55)) 1 ya r.r.length yc (strC r.r)/\G.rs[k]?=some r/\∀(i:Nat) (r:Ru),i<k->G.rs[i]?=some r->NmR G r):=⟨qd J.out.1 hv,heap_alloc_new _ _,v.below hv,hr,J.out.2⟩
     clear J hr hv v
     obtain⟨Z,a9⟩:∃Z,Hid (r.r.length=Z):=⟨_,rfl⟩
     rw[a9.out]at M d1 f3 f8
     go_upto_region 11 with fail
     obtain⟨b6,b7⟩:∃b6,Hid (b6=wr.heap.size):=⟨_,rfl⟩
     rw[<-b7.out]at M ⊢;generalize wr.alloc (.cells #[.string r.l,.slice ya Z yc,.string r.p] 55)=V at M ⊢;clear b7 d0 d1 d2 p0 p1 p2 p3
     have q1:V.cell? ⟨b6,1,none⟩=some (.slice ya Z yc):=by rw[qe M.out.2.1];rfl
     clear q1;go_wp2_with fail
     go_loopg [7] Z (fun kx s7 wr=>∃F:Nat,s7=.int .i64 F/\F<=Z/\Z - F<=kx/\Hid (Below V.heap.size V wr/\∀(i:Nat) (x:ByteArray),i<F->r.r[i]?=some x->x∈tkG G\/x∈lfs G.rs))
     case atStart=>exact⟨0,rfl,Nat.zero_le _,by omega,(⟨Below.refl _ _,fun i x O=>absurd O (Nat.not_lt_zero _)⟩:Below V.heap.size V V/\∀(i:Nat) (x:ByteArray),i<0->r.r[i]?=some x->x∈tkG G\/x∈lfs G.rs)⟩
     case round =>
      obtain⟨F,rfl,g4,g3,K⟩:=hrel
      obtain⟨f,g0⟩:∃f,f=wr:=⟨_,rfl⟩
      subst wr
      have q1:f.cell? ⟨b6,1,none⟩=some (.slice ya Z yc):=by rw[qe (qf K.out.1 M.out.2.1)];rfl
      have q2:f.cell? ⟨b6,2,none⟩=some (.string r.p):=by rw[qe (qf K.out.1 M.out.2.1)];rfl
      have d:Hid (Below W1.heap.size W1 f/\Row f 1 C m c (strC (lfs G.rs))):=⟨qd H2.out.1 (qd M.out.1 K.out.1),H2.out.2.below (qd M.out.1 K.out.1)⟩
      obtain⟨-,p0,p1,p2,p3⟩:=a.out f d.out.1
      by_cases d4:F<Z
      ·have b2:(F:Int)<(Z:Int):=by omega
       obtain⟨x,I⟩:∃x,r.r[F]?=some x:=⟨r.r[F]'(by rw[a9.out];exact d4),List.getElem?_eq_getElem _⟩
       obtain⟨b9,o9,f7,q0⟩:=jm (M.out.2.2.1.below K.out.1) I;subst f7;have HX:Hid (r.r[F]?=some x):=I;clear I;have A:=a8.out;have S:=T.out;have E:=a1.out (lfs G.rs) x;have L:=a1.out (tkG G) x
       obtain⟨z1,b3⟩:∃z1,idxI (q9 (lfs G.rs) x)=z1:=⟨_,rfl⟩
       obtain⟨z2,b4⟩:∃z2,idxI (q9 (tkG G) x)=z2:=⟨_,rfl⟩
       have Q:Hid (∀V:World,Row V 1 C m c (strC (lfs G.rs))->Calls Tryz.prog 32 #[.slice C m c,.string x] V fun e D=>e=.returned (.int .i64 z1)/\D=V):=fun V hV=>by
        have:=A V C c x hV;rw[b3]at this;exact this
       have a2:Hid (∀V:World,Below w.heap.size w V->Calls Tryz.prog 54 #[.agg #[.slice ta X tc,.string G.s,.int .i64 G.e,.slice (some ⟨bb,o,none⟩) H rc],.string x] V fun e D=>e=.returned (.int .i64 z2)/\Below V.heap.size V D):=fun V hV=>by
        have:=S V x hV;rw[b4]at this;exact this
       rw[b3]at E;rw[b4]at L
       have HZ:Hid ((0<=z1↔x∈lfs G.rs)/\(0<=z2↔x∈tkG G)):=⟨E,L⟩
       clear A S E L b3 b4;obtain⟨bx,d3⟩:=zr (¬(x∈tkG G\/x∈lfs G.rs));have a0:Hid (bx=true↔¬(x∈tkG G\/x∈lfs G.rs)):=d3;clear d3
       go_upto_region 14 with fail
       go_cut [7,62] from 38 to 62 (fun s7 s62 wd=>s7=.int .i64 (F:Int)/\s62=.bool bx/\Hid (Below f.heap.size f wd))
       case first =>
        by_cases Y:z1<0
        ·by_cases hy:z2<0
         ·have g:Hid (bx=true):=a0.out.2 (fun e=>by
           rcases e with e | e
           ·have:=HZ.out.2.2 e;omega
           ·have:=HZ.out.1.2 e;omega)
          go_region_with(first | (go_at_call 32;refine(Q.out _ (d.out.2.below (qk _))).mono ?_;rintro e U ⟨rfl,rfl⟩) | (go_at_call 54;refine(a2.out _ (a.out _ (qd d.out.1 (qk _))).1).mono ?_;rintro e V5 ⟨rfl,a3⟩))
          all_goals
           have HE:Hid (Below f.heap.size f _):=qd (qk f) a3;clear a3;go_wp2_with fail;go_meet;exact⟨rfl,by rw[g.out],HE⟩
         ·have g:Hid (bx=false):=zb a0.out (fun e=>e (.inl (HZ.out.2.1 (by omega))))
          go_region_with(first | (go_at_call 32;refine(Q.out _ (d.out.2.below (qk _))).mono ?_;rintro e U ⟨rfl,rfl⟩) | (go_at_call 54;refine(a2.out _ (a.out _ (qd d.out.1 (qk _))).1).mono ?_;rintro e V5 ⟨rfl,a3⟩))
          all_goals
           have HE:Hid (Below f.heap.size f _):=qd (qk f) a3;clear a3;go_wp2_with fail;go_meet;exact⟨rfl,by rw[g.out,decide_eq_false (by omega)],HE⟩
        ·have g:Hid (bx=false):=zb a0.out (fun e=>e (.inr (HZ.out.1.1 (by omega))));have hd:decide (z1<0)=false:=decide_eq_false Y;clear Y
         have HD:Hid (∀q,Below f.heap.size f (f.drewN q)):=fun q=>yh (Below.refl _ _) q
         have mx:=qay;go_quiet (first | (go_at_call 32;exact Calls.quiet_of_same (Q.out _ (d.out.2.below (HD.out _)))))
         go_wp2_with fail;go_meet;exact⟨rfl,by rw[g.out],HD.out _⟩
       case rest =>
        obtain⟨rfl,rfl,HE⟩:=hcut
        obtain⟨V5,g1⟩:∃V5,V5=wc:=⟨_,rfl⟩
        subst wc;clear q0 q1 q2 p0 p1 p2 p3 Q a2
        cases bx
        ·have g:Hid (Below V.heap.size V V5/\∀(i:Nat) (x:ByteArray),i<F+1->r.r[i]?=some x->x∈tkG G\/x∈lfs G.rs):=⟨qd K.out.1 HE.out,fun i y O hy=>by
          rcases Nat.lt_or_ge i F with N | N
          ·exact K.out.2 i y N hy
          ·have:i=F:=by omega
           subst this;rw[HX.out]at hy
           cases hy
           rcases Classical.em (x∈tkG G\/x∈lfs G.rs) with h2 | h2
           ·exact h2
           ·have:=a0.out.2 h2;cases this⟩
         go_wp2_with fail;go_roundg (Z - (F+1))
         case measure=>omega
         case rel=>exact⟨F+1,by simp,by omega,Nat.le_refl _,g⟩
        ·have g:Hid (q=false):=zb HQ.out (fun e=>(a0.out.1 rfl) ((e.2.2.1 r (List.mem_of_getElem? M.out.2.2.2.1)).2 x (List.mem_of_getElem? HX.out)));go_wp2_with fail;go_ret;exact⟨by rw[g.out];rfl,(a.out _ (qd d.out.1 HE.out)).1⟩
      ·have b2:¬(F:Int)<(Z:Int):=by omega
       have f0:Hid (∀x∈r.r,x∈tkG G\/x∈lfs G.rs):=fun x I=>by
        obtain⟨j,hj⟩:=List.getElem?_of_mem I;exact K.out.2 j x (by have:=(List.getElem?_eq_some_iff.1 hj).1;rw[a9.out]at this;omega) hj
       have f1:Hid (Below B.heap.size B f):=qd M.out.1 K.out.1;clear K
       have c7:(r.p=e0\/r.p∈tkG G)->∀U,Below f.heap.size f U->(Below B.heap.size B U/\∀(i:Nat) (r:Ru),i<k+1->G.rs[i]?=some r->NmR G r):=fun hp U hB=>by
        refine⟨qd f1.out hB,fun i u O hu=>?_⟩
        rcases Nat.lt_or_ge i k with N | N
        ·exact M.out.2.2.2.2 i u N hu
        ·have:i=k:=by omega
         subst this;rw[M.out.2.2.2.1]at hu
         cases hu
         exact⟨hp,f0.out⟩
       have b8:Hid ((r.p=e0\/r.p∈tkG G)->∀U,Below f.heap.size f U->(Below B.heap.size B U/\∀(i:Nat) (r:Ru),i<k+1->G.rs[i]?=some r->NmR G r)):=c7;clear c7
       by_cases hp:r.p=e0
       ·have b1:=(zo r.p).2 hp;have g:Hid (Below B.heap.size B f/\∀(i:Nat) (r:Ru),i<k+1->G.rs[i]?=some r->NmR G r):=b8.out (.inl hp) f (Below.refl _ _);clear hp;go_wp2_with fail;go_roundg (H - (k+1))
        case measure=>omega
        case rel=>exact⟨k+1,by simp,by omega,Nat.le_refl _,g⟩
       ·have b1:(r.p.toList == [])=false:=by
         cases hq:(r.p.toList == [])
         ·rfl
         ·exact absurd ((zo r.p).1 hq) hp
        have S:=T.out f r.p (a.out _ d.out.1).1;have L:=a1.out (tkG G) r.p;generalize idxI (q9 (tkG G) r.p)=z2 at S L;have a2:Hid (Calls Tryz.prog 54 #[.agg #[.slice ta X tc,.string G.s,.int .i64 G.e,.slice (some ⟨bb,o,none⟩) H rc],.string r.p] f fun e D=>e=.returned (.int .i64 z2)/\Below f.heap.size f D):=S;have HZ:Hid (0<=z2↔r.p∈tkG G):=L;have d9:Hid (¬r.p=e0):=hp;clear S L hp;go_wp2_with fail;refine a2.out.mono ?_;rintro e U ⟨rfl,c9⟩;have b5:Hid (Below f.heap.size f U):=c9;clear c9 q1 q2 p0 p1 p2 p3
        by_cases Y:0<=z2
        ·have g:Hid (Below B.heap.size B U/\∀(i:Nat) (r:Ru),i<k+1->G.rs[i]?=some r->NmR G r):=b8.out (.inr (HZ.out.1 Y)) U b5.out
         have f9:¬z2<0:=by omega
         go_wp2_with fail;go_roundg (H - (k+1))
         case measure=>omega
         case rel=>exact⟨k+1,by simp,by omega,Nat.le_refl _,g⟩
        ·have g:Hid (q=false):=zb HQ.out (fun e=>by
          rcases (e.2.2.1 r (List.mem_of_getElem? M.out.2.2.2.1)).1 with N | N
          ·exact d9.out N
          ·exact Y (HZ.out.2 N))
         have f9:z2<0:=by omega
         go_wp2_with fail;go_ret;exact⟨by rw[g.out];rfl,(a.out _ (qd d.out.1 b5.out)).1⟩
    ·have a4:¬(k:Int)<(H:Int):=by omega
     have a7:Hid (∀r∈G.rs,NmR G r):=fun r hr=>by
      obtain⟨i,O⟩:=List.getElem?_of_mem hr;exact J.out.2 i r (by have:=(List.getElem?_eq_some_iff.1 O).1;rw[R.out]at this;omega) O
     have d:Hid (Below W1.heap.size W1 wr/\Row wr 1 C m c (strC (lfs G.rs))):=⟨qd H2.out.1 J.out.1,H2.out.2.below J.out.1⟩
     clear J
     by_cases a6:H=0
     ·have d6:¬(0:Int)<(H:Int):=by omega
      have g:Hid (q=false):=zb HQ.out (fun e=>e.1 (List.eq_nil_of_length_eq_zero (by rw[R.out];exact a6)))
      clear a6;go_wp2_with fail;go_ret;exact⟨by rw[g.out];rfl,(a.out _ d.out.1).1⟩
     ·have d6:(0:Int)<(H:Int):=by omega
      have c4:Hid (G.rs≠[]):=fun e=>a6 (by rw[<-R.out,e];rfl)
      clear a6
      by_cases hs:G.s=e0
      ·have b1:=(zo G.s).2 hs
       have g:Hid (q=true):=HQ.out.2 ⟨c4.out,HT.out,a7.out,by
        unfold kc;rw[if_pos hs]
        obtain⟨r,hr⟩:∃r,G.rs[0]?=some r:=⟨G.rs[0]'(by rw[R.out];omega),List.getElem?_eq_getElem _⟩
        rw[hr]
        exact qc1.2 ⟨r,List.mem_of_getElem? hr,rfl⟩⟩
       clear hs;go_wp2_with fail;go_ret;exact⟨by rw[g.out];rfl,(a.out _ d.out.1).1⟩
      ·have b1:(G.s.toList == [])=false:=by
        cases hq:(G.s.toList == [])
        ·rfl
        ·exact absurd ((zo G.s).1 hq) hs
       have A:=a8.out wr C c G.s d.out.2;have E:=a1.out (lfs G.rs) G.s;generalize idxI (q9 (lfs G.rs) G.s)=z1 at A E;have Q:Hid (Calls Tryz.prog 32 #[.slice C m c,.string G.s] wr fun e D=>e=.returned (.int .i64 z1)/\D=wr):=A
       have HE:Hid (q=true↔0<=z1):=by
        refine HQ.out.trans ?_
        have e:kc G=G.s:=by unfold kc;rw[if_neg hs]
        rw[e]
        constructor
        ·intro h;exact E.2 h.2.2.2
        ·intro h;exact⟨c4.out,HT.out,a7.out,E.1 h⟩
       clear A E hs;go_wp2_with fail;refine Q.out.mono ?_;rintro e U ⟨rfl,rfl⟩
       by_cases Y:0<=z1
       ·have g:Hid (q=true):=HE.out.2 Y;go_wp2_with fail;go_ret;exact⟨by rw[g.out];simp,(a.out _ d.out.1).1⟩
       ·have g:Hid (q=false):=zb HE.out Y;go_wp2_with fail;go_ret;exact⟨by rw[g.out];simp[Y],(a.out _ d.out.1).1⟩
structure RP (w W:World) (b1 b2 b3 b4 b5:Nat) (c1 c2 c3:Array Value) (l:Int) (ys:List Nat) (xa:Option Addr) (xc:Nat):Prop where
 x1:W.heap[b1]?=some (.cells c1 25 (0,0))
 o:RO w W b2 b3 b4 b5 c2 c3 l ys xa xc
theorem RP.step{w W a:World}{b c d f g:Nat}{c1 c2 h:Array Value}{l:Int}{m:List Nat}{j:Option Addr}{k:Nat}(s:RP w W b c d f g c1 c2 h l m j k)(i:Below W.heap.size W a):RP w a b c d f g c1 c2 h l m j k :=
 ⟨qf i s.x1,s.o.step i⟩
theorem RP.add{w W:World}{r v x B a:Nat}{c1 c2 C:Array Value}{l:Int}{j:List Nat}{q:Option Addr}{A:Nat}(t:RP w W r v x B a c1 c2 C l j q A)(y:Nat)(O:j.length<1000):
  ∃g c f,(Builtin.append_ #[26,26] 26 #[.slice q j.length A,.slice (some ⟨W.heap.size,0,none⟩) 1 1]).run Tryz.prog (W.alloc (.cells #[.int .i64 (y:Int)] 3))=.ok (.slice (some ⟨g,0,none⟩) (j.length+1) c) f /\
   f.cell? ⟨a,1,none⟩=some (.slice q j.length A)/\f.frozen? ⟨a,1,none⟩=false/\RP w (f.setCell ⟨a,1,none⟩ (.slice (some ⟨g,0,none⟩) (j.length+1) c)) r v x B a c1 c2 C l (j++[y]) (some ⟨g,0,none⟩) c:=by
 have s:=t.o;obtain⟨g,c,f,L,E,D,N⟩:=jc (us:=[.int .i64 (y:Int)]) u29 i3 rfl (by decide) (by decide) rfl (fun u F=>by rw[List.mem_singleton]at F;subst F;rfl) s.own s.bel.size (by omega)
 have n:Kept (fun k=>blk q=some k) W f:=((Kept.refl _ W).alloc _).trans D (fun k _ e=>zi e)
 have m:∀{b T:Nat} {d:Array Value},W.heap[b]?=some (.cells d T (0,0))->T≠3->f.heap[b]?=some (.cells d T (0,0)):=fun z J=>by
  rw[n.block _ (Array.getElem?_eq_some_iff.1 z).1 (fun e=>qr ⟨_,z⟩ (qw s.own e).2.2 J rfl)];exact z
 have G:=m t.x1 (by decide);have H:=m s.x2 (by decide);have I:=m s.x3 (by decide);have M:=m s.x4 (by decide);have h:=m s.x5 (by decide);refine⟨g,c,f,L,by rw[qe h];rfl,qi h 1,?_,?_,?_,?_,?_,?_,?_,s.ne,s.n5⟩
 ·exact(Below.heap_setCell _ _ _ _ (show r≠a from qr ⟨_,G⟩ ⟨_,h⟩ (by decide))).trans G
 ·exact(Below.heap_setCell _ _ _ _ (show v≠a from qr ⟨_,H⟩ ⟨_,h⟩ (by decide))).trans H
 ·exact(Below.heap_setCell _ _ _ _ (show x≠a from qr ⟨_,I⟩ ⟨_,h⟩ (by decide))).trans I
 ·exact(Below.heap_setCell _ _ _ _ s.ne).trans M
 ·rw[setCell_eq_setRow f a 1 _ 47 (0,0) _ h,setRow_heap _ _ _ _ 47 _ h,List.length_append];rfl
 ·rw[jf,List.length_append]
  exact qh E (fun i K=>by
   cases K
   exact Below.heap_setCell _ _ _ _ (qr (qx E rfl) ⟨_,h⟩ (by decide)))
 ·refine(s.bel.trans (n.below s.bel.size (fun k D e=>?_))).setCell (p:=⟨a,1,none⟩) s.n5 _;have:=(qw s.own e).1;omega
theorem qqc(w:World)(a b c d:Obj):Below w.heap.size w ((((w.alloc a).alloc b).alloc c).alloc d)/\((((w.alloc a).alloc b).alloc c).alloc d).heap[w.heap.size]?=some a/\((((w.alloc a).alloc b).alloc c).alloc d).heap[w.heap.size+1]?=some b/\((((w.alloc a).alloc b).alloc c).alloc d).heap[w.heap.size+1+1]?=some c/\((((w.alloc a).alloc b).alloc c).alloc d).heap[w.heap.size+1+1+1]?=some d/\((((w.alloc a).alloc b).alloc c).alloc d).heap.size=w.heap.size+1+1+1+1:=by
 obtain⟨i,j,k,l,g⟩:=qh8 w a b c;have f:=qb ((((w.alloc a).alloc b).alloc c)) d;have h:=heap_alloc_new (((w.alloc a).alloc b).alloc c) d;rw[g]at h;exact⟨qd i f,qf f j,qf f k,qf f l,h,by rw[qt,g]⟩
theorem qlk(G:Gm)(hd:Hd)(S:Sp)(h:SHd)(w:World)(hG:IsG w hd G)(c7:Row w 1 h.na S.nm.length h.nc (strC S.nm))(g4:S.tk=G.ts.length)(c6:S.nm=nmG G)(hm:MayP G)(hn:NmP G)(r:Ru)(hr:r∈G.rs)(N:Option Addr)(E:Nat)(a3:Row w 1 N r.r.length E (strC r.r)):
  Calls Tryz.prog 33 #[gv hd G,.agg (sC h S),.agg #[.string r.l,.slice N r.r.length E,.string r.p]] w fun e w'=>∃m n,e=.returned (.agg #[.int .i64 (ruG G r).l,.slice m (ruG G r).r.length n,.int .i64 (ruG G r).lv,.int .i64 (ruG G r).a])/\w'.ownsRow w.heap.size 3 1 (.slice m (ruG G r).r.length n) (ruG G r).r.length (natC (ruG G r).r)/\Below w.heap.size w w':=by
 have h8:G.ts.length<=100:=hG.small.nt;have i0:G.rs.length<=200:=hG.small.nr;have h7:r.r.length<=20:=(hm.rl r hr).2.1;have i2:=ze a3;have h6:=ze c7
 have b6:(nmG G).length<=400:=by rw[jj];have:=j9 G.rs;omega
 have HG:Hid (IsG w hd G/\MayP G/\NmP G/\r∈G.rs/\Row w 1 N r.r.length E (strC r.r)):=⟨hG,hm,hn,hr,a3⟩
 have a6:Hid (∀(V:World) (s:ByteArray),Below w.heap.size w V->Calls Tryz.prog 32 #[.slice h.na S.nm.length h.nc,.string s] V fun e w'=>e=.returned (.int .i64 (idxI (q9 (nmG G) s)))/\w'=V):=fun V s hV=>by
  have h1:=c7.below hV;rw[c6]at h1 ⊢;exact qa2 (nmG G) h.na h.nc s V h1 (by omega)
 have O:Hid (∀(V:World),Below w.heap.size w V->Calls Tryz.prog 54 #[gv hd G,.string r.p] V fun e w'=>e=.returned (.int .i64 (idxI (q9 (tkG G) r.p)))/\Below V.heap.size V w'):=fun V hV=>qgq G hd V (hG.below hV) r.p
 have g2:S.nm.length<=400:=by rw[c6];exact b6
 clear hG hm hn hr a3 c7 c6 b6;obtain⟨T,L,U,X⟩:=hd;unfold gv at O ⊢;simp only at O ⊢
 have h5:G.ts.length<=L/\L<=9223372036854775807:=by have h1:=HG.out.1.tok.le;have h2:=HG.out.1.tok.max;simp only at h1 h2;unfold maxLen at h2;omega
 have F:=qqc w (.cells #[.slice T G.ts.length L,.string G.s,.int .i64 G.e,.slice U G.rs.length X] 25) (.cells (sC h S) 31) (.cells #[.string r.l,.slice N r.r.length E,.string r.p] 55) (.cells #[.int .i64 0,.slice none 0 0,.int .i64 0,.int .i64 0] 47)
 obtain⟨f,a1⟩:∃f,Hid (G.ts.length=f):=⟨_,rfl⟩
 obtain⟨R,f5⟩:∃R,Hid (G.rs.length=R):=⟨_,rfl⟩
 obtain⟨K,h0⟩:∃K,Hid (S.nm.length=K):=⟨_,rfl⟩
 obtain⟨z,a7⟩:∃z,Hid (r.r.length=z):=⟨_,rfl⟩
 unfold sC at F ⊢;rw[g4]at F ⊢;rw[a1.out]at h8 h5 O F ⊢;rw[f5.out]at i0 O F ⊢;rw[h0.out]at a6 h6 g2 F ⊢;rw[a7.out]at h7 i2 F ⊢
 generalize S.lv.length=t at *
 generalize S.az.length=q at *
 generalize S.rs.length=sn at *
 clear g4;go_enter Tryz.func33,Tryz.ntmps33
 go_upto_region 1 with fail
 obtain⟨W1,f9⟩:∃W1,W1=((((w.alloc (.cells #[.slice T f L,.string G.s,.int .i64 G.e,.slice U R X] 25)).alloc (.cells #[.int .i64 (f:Int),.int .i64 (S.nt:Int),.int .i64 (S.st:Int),.int .i64 S.ex,.slice h.na K h.nc,.slice h.la t h.lc,.slice h.aa q h.ac,.slice h.ra sn h.rc] 31)).alloc (.cells #[.string r.l,.slice N z E,.string r.p] 55)).alloc (.cells #[.int .i64 0,.slice none 0 0,.int .i64 0,.int .i64 0] 47)):=⟨_,rfl⟩
 rw[<-f9]at F ⊢;clear f9
 obtain⟨C,a5⟩:∃C,Hid (C=w.heap.size):=⟨_,rfl⟩
 rw[<-a5.out]at F ⊢;obtain⟨hB,g5,c9,b0,a4,g3⟩:=F
 have Y:Hid (w.heap.size<=C+1+1+1/\W1.heap.size=C+1+1+1+1):=⟨by rw[a5.out];omega,g3⟩
 clear g3;rw[a5.out]at hB
 obtain⟨I,d4⟩:∃I,Hid (I=C+1):=⟨_,rfl⟩
 rw[<-d4.out]at c9 b0 a4 Y ⊢
 obtain⟨D,d3⟩:∃D,Hid (D=I+1):=⟨_,rfl⟩
 rw[<-d3.out]at b0 a4 Y ⊢
 obtain⟨d,d5⟩:∃d,Hid (d=D+1):=⟨_,rfl⟩
 rw[<-d5.out]at a4 Y ⊢
 have B:Hid (Below w.heap.size w W1/\W1.heap[C]?=some (.cells #[.slice T f L,.string G.s,.int .i64 G.e,.slice U R X] 25 (0,0))/\W1.heap[D]?=some (.cells #[.string r.l,.slice N z E,.string r.p] 55 (0,0))/\W1.heap[I]?=some (.cells #[.int .i64 (f:Int),.int .i64 (S.nt:Int),.int .i64 (S.st:Int),.int .i64 S.ex,.slice h.na K h.nc,.slice h.la t h.lc,.slice h.aa q h.ac,.slice h.ra sn h.rc] 31 (0,0))/\W1.heap[d]?=some (.cells #[.int .i64 0,.slice none 0 0,.int .i64 0,.int .i64 0] 47 (0,0))):=⟨hB,g5,b0,c9,a4⟩
 clear hB g5 b0 c9 a4 a5 d3 d4 d5
 have c4:W1.cell? ⟨I,4,none⟩=some (.slice h.na K h.nc):=by rw[qe B.out.2.2.2.1];rfl
 have c0:W1.cell? ⟨D,0,none⟩=some (.string r.l):=by rw[qe B.out.2.2.1];rfl
 have d9:Hid (idxI (q9 (nmG G) r.l)=(ruG G r).l):=by
  have hx:=qbt (G:=G) (.inr (qc1.2 ⟨r,HG.out.2.2.2.1,rfl⟩));show _=_;rw[qc2 hx];rfl
 go_wp2_with fail;refine(a6.out _ _ B.out.1).mono ?_;rintro e V ⟨rfl,rfl⟩
 obtain⟨l,HL⟩:∃l,Hid (idxI (q9 (nmG G) r.l)=l):=⟨_,rfl⟩
 rw[HL.out]at d9 ⊢;have hv:Below V.heap.size V (V.alloc (.cells #[.int .i64 l,.slice none 0 0,.int .i64 0,.int .i64 0] 47)):=qb _ _
 have HO:Hid (RP w (V.alloc (.cells #[.int .i64 l,.slice none 0 0,.int .i64 0,.int .i64 0] 47)) C D I d V.heap.size #[.slice T f L,.string G.s,.int .i64 G.e,.slice U R X] #[.string r.l,.slice N z E,.string r.p] #[.int .i64 (f:Int),.int .i64 (S.nt:Int),.int .i64 (S.st:Int),.int .i64 S.ex,.slice h.na K h.nc,.slice h.la t h.lc,.slice h.aa q h.ac,.slice h.ra sn h.rc] l [] none 0) :=
  ⟨qf hv B.out.2.1,qf hv B.out.2.2.1,qf hv B.out.2.2.2.1,qf hv B.out.2.2.2.2,heap_alloc_new _ _,World.ownsRow_nil _ _ _ _,qd B.out.1 hv,by rw[Y.out.2];omega,B.out.1.size⟩
 clear hv c4 c0
 go_upto_region 2 with fail
 generalize V.alloc (.cells #[.int .i64 l,.slice none 0 0,.int .i64 0,.int .i64 0] 47)=Q at HO ⊢
 obtain⟨i,d7⟩:∃i,Hid (i=V.heap.size):=⟨_,rfl⟩
 rw[<-d7.out]at HO ⊢;have d6:Hid (w.heap.size<=d):=Y.out.1;clear d7 B HL Y
 have c1:Q.cell? ⟨D,1,none⟩=some (.slice N z E):=by rw[qe HO.out.o.x2];rfl
 go_wp2_with fail;clear c1
 go_loopg [8,9] z (fun kx s8 s9 wr=>∃k:Nat,s8=.int .i64 (idxI (byL G (r.r.take k)))/\s9=.int .i64 k/\k<=z/\z - k<=kx/\Hid (∃m n,RP w wr C D I d i #[.slice T f L,.string G.s,.int .i64 G.e,.slice U R X] #[.string r.l,.slice N z E,.string r.p] #[.int .i64 (f:Int),.int .i64 (S.nt:Int),.int .i64 (S.st:Int),.int .i64 S.ex,.slice h.na K h.nc,.slice h.la t h.lc,.slice h.aa q h.ac,.slice h.ra sn h.rc] l ((r.r.take k).map (ix (nmG G))) m n))
 case atStart=>exact⟨0,rfl,rfl,Nat.zero_le _,by omega,(⟨_,_,HO.out⟩:∃m n,RP w Q C D I d i #[.slice T f L,.string G.s,.int .i64 G.e,.slice U R X] #[.string r.l,.slice N z E,.string r.p] #[.int .i64 (f:Int),.int .i64 (S.nt:Int),.int .i64 (S.st:Int),.int .i64 S.ex,.slice h.na K h.nc,.slice h.la t h.lc,.slice h.aa q h.ac,.slice h.ra sn h.rc] l ((r.r.take 0).map (ix (nmG G))) m n)⟩
 case round =>
  clear HO;obtain⟨k,rfl,rfl,hk,hg,J⟩:=hrel
  by_cases h4:k<z
  ·have g1:(k:Int)<(z:Int):=by omega
   obtain⟨m,n,s⟩:=J.out
   obtain⟨x,hx⟩:∃x,r.r[k]?=some x:=⟨r.r[k]'(by rw[a7.out];exact h4),List.getElem?_eq_getElem _⟩
   obtain⟨b,o,i1,q0⟩:=jm (HG.out.2.2.2.2.below s.o.bel) hx;subst i1;have d0:x∈nmG G:=qbt (HG.out.2.2.1.rr r HG.out.2.2.2.1 x (List.mem_of_getElem? hx));have b8:Hid (r.r[k]?=some x):=hx
   have c4:wr.cell? ⟨I,4,none⟩=some (.slice h.na K h.nc):=by rw[qe s.o.x3];rfl
   have c1:wr.cell? ⟨D,1,none⟩=some (.slice (some ⟨b,o,none⟩) z E):=by rw[qe s.o.x2];rfl
   have b7:Hid (Calls Tryz.prog 32 #[.slice h.na K h.nc,.string x] wr.drew fun e w'=>e=.returned (.int .i64 ((ix (nmG G) x:Nat):Int))/\w'=wr.drew):=by
    have:=a6.out wr.drew x (qd s.o.bel (qk _));rw[qc2 d0]at this;exact this
   obtain⟨y,HY⟩:∃y,Hid (ix (nmG G) x=y):=⟨_,rfl⟩
   rw[HY.out]at b7
   have k1:y<=1000:=by
    have:=qeu d0;rw[HY.out,jj]at this;have:=j9 G.rs;have:=a1.out;have:=f5.out;omega
   have H:Hid (RP w wr C D I d i #[.slice T f L,.string G.s,.int .i64 G.e,.slice U R X] #[.string r.l,.slice (some ⟨b,o,none⟩) z E,.string r.p] #[.int .i64 (f:Int),.int .i64 (S.nt:Int),.int .i64 (S.st:Int),.int .i64 S.ex,.slice h.na K h.nc,.slice h.la t h.lc,.slice h.aa q h.ac,.slice h.ra sn h.rc] l ((r.r.take k).map (ix (nmG G))) m n):=s;clear s J hx d0
   obtain⟨M,a0⟩:∃M,Hid (idxI (byL G (r.r.take k))=M):=⟨_,rfl⟩
   rw[a0.out]
   go_upto_region 6 with fail
   go_cut [8,9,10] from 17 to 42 (fun s8 s9 s10 wd=>s8=.int .i64 M/\s9=.int .i64 (k:Int)/\s10=.int .i64 (y:Int)/\Hid (Below wr.heap.size wr wd))
   case first =>
    have HE:Hid (Below wr.heap.size wr wr.drew):=qk wr
    go_region_with(first | (go_at_call 32;refine b7.out.mono ?_;rintro e V2 ⟨rfl,rfl⟩))
    all_goals
     go_wp2_with fail;go_meet;exact⟨rfl,rfl,rfl,HE⟩
   case rest =>
    obtain⟨rfl,rfl,rfl,HE⟩:=hcut
    obtain⟨V3,i6⟩:∃V3,V3=wc:=⟨_,rfl⟩
    subst wc;have s:=H.out.step HE.out;clear c4 c1 q0 b7 H HE
    have c5:((r.r.take k).map (ix (nmG G))).length=k:=by rw[List.length_map,List.length_take,a7.out];omega
    obtain⟨g,c,V1,c8,x1,f1,s1⟩:=s.add y (by omega)
    have c1:V3.cell? ⟨i,1,none⟩=some (.slice m k n):=by rw[qe s.o.x5,c5];rfl
    rw[c5]at c8 x1 s1
    have a8:Hid (RP w (V1.setCell ⟨i,1,none⟩ (.slice (some ⟨g,0,none⟩) (k+1) c)) C D I d i #[.slice T f L,.string G.s,.int .i64 G.e,.slice U R X] #[.string r.l,.slice (some ⟨b,o,none⟩) z E,.string r.p] #[.int .i64 (f:Int),.int .i64 (S.nt:Int),.int .i64 (S.st:Int),.int .i64 S.ex,.slice h.na K h.nc,.slice h.la t h.lc,.slice h.aa q h.ac,.slice h.ra sn h.rc] l ((r.r.take (k+1)).map (ix (nmG G))) (some ⟨g,0,none⟩) c):=by
     have e:(r.r.take (k+1)).map (ix (nmG G))=(r.r.take k).map (ix (nmG G))++[y]:=by rw[zn b8.out,List.map_append,<-HY.out];rfl
     rw[e];exact s1
    clear s s1 c5
    go_upto_region 8 with (at_builtin;refine Lib.wpList_append_run _ rfl _ _ _ _ rfl _ _ rfl rfl _ _ c8 ?_)
    generalize V1.setCell ⟨i,1,none⟩ (.slice (some ⟨g,0,none⟩) (k+1) c)=Q1 at a8 ⊢;clear c8 x1 f1 c1
    have z0:Q1.cell? ⟨I,0,none⟩=some (.int .i64 (f:Int)):=by rw[qe a8.out.o.x3];rfl
    have HF:Hid (∃m n,RP w Q1 C D I d i #[.slice T f L,.string G.s,.int .i64 G.e,.slice U R X] #[.string r.l,.slice (some ⟨b,o,none⟩) z E,.string r.p] #[.int .i64 (f:Int),.int .i64 (S.nt:Int),.int .i64 (S.st:Int),.int .i64 S.ex,.slice h.na K h.nc,.slice h.la t h.lc,.slice h.aa q h.ac,.slice h.ra sn h.rc] l ((r.r.take (k+1)).map (ix (nmG G))) m n):=⟨_,_,a8.out⟩
    clear a8
    by_cases g6:y<f
    ·have g7:(y:Int)<(f:Int):=by omega
     have HE:Hid (byL G (r.r.take (k+1))=some y):=by
      show _=_;rw[zn b8.out,qdj];unfold byS;rw[HY.out,if_pos (by rw[a1.out];exact g6)]
     go_wp2_with fail;go_roundg (z - (k+1))
     case measure=>omega
     case rel=>exact⟨k+1,by rw[HE.out];rfl,by simp,by omega,Nat.le_refl _,HF⟩
    ·have g7:¬(y:Int)<(f:Int):=by omega
     have HE:Hid (idxI (byL G (r.r.take (k+1)))=M):=by
      show _=_;rw[zn b8.out,qdj];unfold byS;rw[HY.out,if_neg (by rw[a1.out];exact g6)]
      exact a0.out
     go_wp2_with fail;go_roundg (z - (k+1))
     case measure=>omega
     case rel=>exact⟨k+1,by rw[HE.out],by simp,by omega,Nat.le_refl _,HF⟩
  ·have g1:¬(k:Int)<(z:Int):=by omega
   obtain⟨w5,i7⟩:∃w5,w5=wr:=⟨_,rfl⟩
   subst wr;have eT:r.r.take k=r.r:=List.take_of_length_le (by rw[a7.out];omega)
   rw[eT]at J ⊢;have R0:Hid (∃m n,RP w w5 C D I d i #[.slice T f L,.string G.s,.int .i64 G.e,.slice U R X] #[.string r.l,.slice N z E,.string r.p] #[.int .i64 (f:Int),.int .i64 (S.nt:Int),.int .i64 (S.st:Int),.int .i64 S.ex,.slice h.na K h.nc,.slice h.la t h.lc,.slice h.aa q h.ac,.slice h.ra sn h.rc] l (ruG G r).r m n):=J.out;clear J eT
   have c1:w5.cell? ⟨D,1,none⟩=some (.slice N z E):=by
    obtain⟨m,n,s⟩:=R0.out;rw[qe s.o.x2];rfl
   have c2:w5.cell? ⟨D,2,none⟩=some (.string r.p):=by
    obtain⟨m,n,s⟩:=R0.out;rw[qe s.o.x2];rfl
   obtain⟨M,a0⟩:∃M,Hid (idxI (byL G r.r)=M):=⟨_,rfl⟩
   rw[a0.out]
   obtain⟨bp,g0⟩:∃bp,(r.p.toList == [])=bp:=⟨_,rfl⟩
   have d8:Hid ((r.p.toList == [])=bp):=g0
   go_upto_if 45 with fail
   clear g0
   go_cut [8] (fun s8 wd=>s8=.int .i64 (idxI (byG G r))/\Hid (∃m n,RP w wd C D I d i #[.slice T f L,.string G.s,.int .i64 G.e,.slice U R X] #[.string r.l,.slice N z E,.string r.p] #[.int .i64 (f:Int),.int .i64 (S.nt:Int),.int .i64 (S.st:Int),.int .i64 S.ex,.slice h.na K h.nc,.slice h.la t h.lc,.slice h.aa q h.ac,.slice h.ra sn h.rc] l (ruG G r).r m n))
   case first =>
    cases bp
    rotate_left
    ·have hp:r.p=e0:=(zo r.p).1 d8.out
     have HE:Hid (idxI (byG G r)=M):=by
      show _=_;unfold byG;rw[if_pos hp];exact a0.out
     clear hp;go_wp2_with fail;go_meet;exact⟨by rw[HE.out],R0⟩
    ·have hp:¬r.p=e0:=fun e=>by have:=(zo r.p).2 e;rw[d8.out]at this;cases this
     have HE:Hid (idxI (q9 (tkG G) r.p)=idxI (byG G r)):=by
      show _=_;unfold byG;rw[if_neg hp]
     clear hp;obtain⟨m,n,s⟩:=R0.out;have H:Hid (RP w w5 C D I d i #[.slice T f L,.string G.s,.int .i64 G.e,.slice U R X] #[.string r.l,.slice N z E,.string r.p] #[.int .i64 (f:Int),.int .i64 (S.nt:Int),.int .i64 (S.st:Int),.int .i64 S.ex,.slice h.na K h.nc,.slice h.la t h.lc,.slice h.aa q h.ac,.slice h.ra sn h.rc] l (ruG G r).r m n):=s;obtain⟨p0,p1,p2,p3⟩:=box4 s.x1;clear s R0;rw[HE.out]at O;go_wp2_with fail;refine(O.out _ H.out.o.bel).mono ?_;rintro e V4 ⟨rfl,hB⟩
     have HF:Hid (∃m n,RP w V4 C D I d i #[.slice T f L,.string G.s,.int .i64 G.e,.slice U R X] #[.string r.l,.slice N z E,.string r.p] #[.int .i64 (f:Int),.int .i64 (S.nt:Int),.int .i64 (S.st:Int),.int .i64 S.ex,.slice h.na K h.nc,.slice h.la t h.lc,.slice h.aa q h.ac,.slice h.ra sn h.rc] l (ruG G r).r m n):=⟨_,_,H.out.step hB⟩
     clear hB H p0 p1 p2 p3;go_wp2_with fail;go_meet;exact⟨rfl,HF⟩
   case rest =>
    obtain⟨rfl,R1⟩:=hcut
    obtain⟨w6,i8⟩:∃w6,w6=wc:=⟨_,rfl⟩
    subst wc;clear R0 a6 O c1 c2;obtain⟨m,n,s⟩:=R1.out;have H:Hid (RP w w6 C D I d i #[.slice T f L,.string G.s,.int .i64 G.e,.slice U R X] #[.string r.l,.slice N z E,.string r.p] #[.int .i64 (f:Int),.int .i64 (S.nt:Int),.int .i64 (S.st:Int),.int .i64 S.ex,.slice h.na K h.nc,.slice h.la t h.lc,.slice h.aa q h.ac,.slice h.ra sn h.rc] l (ruG G r).r m n):=s;clear s R1
    obtain⟨zz,c3⟩:∃zz,Hid (idxI (byG G r)=zz):=⟨_,rfl⟩
    rw[c3.out]
    go_upto_if 51 with fail
    go_cut [8] (fun s8 wd=>Hid (RD7 w wd d i l (ruG G r).r (ruG G r).lv (ruG G r).a m n))
    case first =>
     have f4:Hid ((ruG G r).lv=lvO G.ts (byG G r)/\(ruG G r).a=azO G.ts (byG G r)):=⟨rfl,rfl⟩
     cases P:byG G r with
     | none =>
      have HF:Hid (RD7 w w6 d i l (ruG G r).r (ruG G r).lv (ruG G r).a m n):=by
       have h1:=f4.out;rw[P]at h1;rw[h1.1,h1.2];exact H.out.o.done
      have hz:¬(0:Int)<=zz:=by rw[<-c3.out,P];decide
      clear P;go_wp2_with fail;go_meet;exact HF
     | some j =>
      have hj:j<G.ts.length:=qon P
      obtain⟨u,hu⟩:∃u,G.ts[j]?=some u:=⟨G.ts[j],List.getElem?_eq_getElem hj⟩
      have q5:w6.cell? ⟨C,0,none⟩=some (.slice T f L):=by rw[qe H.out.x1];rfl
      obtain⟨b,o,a9,v4,v5,v6⟩:=ja (HG.out.1.tok.below H.out.o.bel) hu
      have h3:b<w.heap.size:=by
       obtain⟨b9,o9,h9,v9,-,-⟩:=ja HG.out.1.tok hu;rw[a9]at h9
       cases h9
       exact World.block_lt_of_cell? w _ v9
      simp only at a9;rw[a9]at q5;rw[a1.out]at hj
      have i5:(j:Int)<(f:Int):=by omega
      have y2:w6.cell? ⟨i,2,none⟩=some (.int .i64 0):=by rw[qe H.out.o.x5];rfl
      have y3:w6.cell? ⟨i,3,none⟩=some (.int .i64 0):=by rw[qe H.out.o.x5];rfl
      have f2:w6.frozen? ⟨i,2,none⟩=false:=qi H.out.o.x5 2;have f3:w6.frozen? ⟨i,3,none⟩=false:=qi H.out.o.x5 3;have A:=(H.out.step (qk w6)).o
      have a2:(ruG G r).lv=u.l/\(ruG G r).a=u.a:=by
       have h1:=f4.out;rw[P]at h1;rw[h1.1,h1.2];unfold lvO azO;simp only[hu];exact⟨rfl,rfl⟩
      have g8:Hid (RD7 w ((w6.drew.setCell ⟨i,2,none⟩ (.int .i64 u.l)).setCell ⟨i,3,none⟩ (.int .i64 u.a)) d i l (ruG G r).r (ruG G r).lv (ruG G r).a m n):=by
       rw[a2.1,a2.2];exact(A.done.put2 A.ne A.n5 u.l).put3 A.ne A.n5 u.a
      have g9:Hid (RD7 w ((w6.drew.setCell ⟨i,3,none⟩ (.int .i64 u.a)).setCell ⟨i,2,none⟩ (.int .i64 u.l)) d i l (ruG G r).r (ruG G r).lv (ruG G r).a m n):=by
       rw[a2.1,a2.2];exact(A.done.put3 A.ne A.n5 u.a).put2 A.ne A.n5 u.l
      obtain rfl:zz=(j:Int):=by rw[<-c3.out,P];rfl
      have n3:C≠i:=qr ⟨_,H.out.x1⟩ ⟨_,H.out.o.x5⟩ (by decide)
      have Z:b≠i:=by have:=H.out.o.n5;omega
      clear A a2 hu P a9 hj h3 v4
      go_upto_region 13 with fail
      go_region_held (fun w'=>w'.cell? ⟨C,0,none⟩=some (.slice (some ⟨b,o,none⟩) f L)/\w'.cell? ⟨b,o+j * 3+1,none⟩=some (.int .i64 u.l)/\w'.cell? ⟨b,o+j * 3+2,none⟩=some (.int .i64 u.a)) (first | exact⟨q5,v5,v6⟩ | exact⟨qz q5 n3,qz v5 Z,qz v6 Z⟩ | exact⟨qz (qz q5 n3) n3,qz (qz v5 Z) Z,qz (qz v6 Z) Z⟩) (fail)
      all_goals
       go_wp2_with fail;go_meet
       first | exact g8 | exact g9
    case rest =>
     obtain⟨w7,k0⟩:∃w7,w7=wc:=⟨_,rfl⟩
     subst wc
     have HD:Hid (RD7 w w7 d i l (ruG G r).r (ruG G r).lv (ruG G r).a m n/\w.heap.size<=d):=⟨hcut.out,d6.out⟩
     clear hcut H
     have y0:w7.cell? ⟨i,0,none⟩=some (.int .i64 l):=by rw[qe HD.out.1.x5];rfl
     have y1:w7.cell? ⟨i,1,none⟩=some (.slice m (ruG G r).r.length n):=by rw[qe HD.out.1.x5];rfl
     have y2:w7.cell? ⟨i,2,none⟩=some (.int .i64 (ruG G r).lv):=by rw[qe HD.out.1.x5];rfl
     have y3:w7.cell? ⟨i,3,none⟩=some (.int .i64 (ruG G r).a):=by rw[qe HD.out.1.x5];rfl
     obtain⟨z0,z1,z2,z3,f0,f1,f2,f3⟩:=qdk HD.out.1.x4
     have HF:Hid (∀v0 v1 v2 v3,((((w7.setCell ⟨d,0,none⟩ v0).setCell ⟨d,1,none⟩ v1).setCell ⟨d,2,none⟩ v2).setCell ⟨d,3,none⟩ v3).ownsRow w.heap.size 3 1 (.slice m (ruG G r).r.length n) (ruG G r).r.length (natC (ruG G r).r)/\Below w.heap.size w ((((w7.setCell ⟨d,0,none⟩ v0).setCell ⟨d,1,none⟩ v1).setCell ⟨d,2,none⟩ v2).setCell ⟨d,3,none⟩ v3)):=fun v0 v1 v2 v3=>by
      have hl:Loc w7 d 47:=⟨_,HD.out.1.x4⟩
      have l1:=hl.set d 0 v0;have l2:=l1.set d 1 v1;have l3:=l2.set d 2 v2;exact⟨j0 (j0 (j0 (j0 HD.out.1.own hl (by decide)) l1 (by decide)) l2 (by decide)) l3 (by decide),(((HD.out.1.bel.setCell (p:=⟨d,0,none⟩) HD.out.2 _).setCell (p:=⟨d,1,none⟩) HD.out.2 _).setCell (p:=⟨d,2,none⟩) HD.out.2 _).setCell (p:=⟨d,3,none⟩) HD.out.2 _⟩
     obtain⟨yn,f8⟩:∃yn,Hid ((ruG G r).r.length=yn):=⟨_,rfl⟩
     obtain⟨d2,f7⟩:∃d2,Hid ((ruG G r).lv=d2):=⟨_,rfl⟩
     obtain⟨d1,f6⟩:∃d1,Hid ((ruG G r).a=d1):=⟨_,rfl⟩
     rw[f8.out]at y1;rw[f7.out]at y2;rw[f6.out]at y3;go_wp2_with fail;refine bodyPost_ret (v:=.agg #[.int .i64 l,.slice m yn n,.int .i64 d2,.int .i64 d1]) (by simp[results,Tryz.results33,go_sem, *]) rfl ?_;exact⟨m,n,by rw[<-d9.out,f8.out,f7.out,f6.out],HF.out _ _ _ _⟩
theorem qkb(G:Gm)(h:Hd)(w:World)(k:Int)(hG:IsG w h G)(hk:OfR G k):Calls Tryz.prog 73 #[gv h G] w fun e E=>((k≠0/\e=.returned (.tuple #[.agg zC,.int .i64 k]))\/(k=0/\∃h',e=.returned (.tuple #[sv h' (spG G),.int .i64 0])/\IsSp E h' (spG G)))/\Below w.heap.size w E:=by
 have d8:G.ts.length<=100:=hG.small.nt;have d9:G.rs.length<=200:=hG.small.nr;have HG:Hid (IsG w h G):=hG;have HK:Hid (OfR G k):=hk;clear hG hk;obtain⟨bm,d4⟩:=zr (MayP G);have a8:Hid (bm=true↔MayP G):=d4
 have X:Hid (∀V,Below w.heap.size w V->Calls Tryz.prog 80 #[gv h G] V fun e E=>e=.returned (.bool bm)/\Below V.heap.size V E):=fun V hV=>qce G h V bm (HG.out.below hV) a8.out
 have Z:Hid (∀V,Below w.heap.size w V->Calls Tryz.prog 81 #[gv h G] V fun e E=>∃h',e=.returned (.agg (sC h' (sy0 G)))/\OwnSp E V.heap.size h' (sy0 G) []/\Below V.heap.size V E):=fun V hV=>qgp G h V (HG.out.below hV)
 obtain⟨bl,d3⟩:=zr (kz G);have a7:Hid (bl=true↔kz G):=d3
 have O:Hid (∀V,Below w.heap.size w V->Calls Tryz.prog 82 #[gv h G,.int .i64 ((lfs G.rs).length:Int)] V fun e E=>e=.returned (.bool bl)/\Below V.heap.size V E):=fun V hV=>qi2 G h V (HG.out.below hV) bl a7.out _ rfl
 clear d4 d3;obtain⟨u,x,r,t⟩:=h;unfold gv at X Z O ⊢;simp only at X Z O ⊢;have a6:Below w.heap.size w ((w.alloc (.cells #[.slice u G.ts.length x,.string G.s,.int .i64 G.e,.slice r G.rs.length t] 25)).alloc (.cells zC 31)):=qd (qb _ _) (qb _ _);have Q:((w.alloc (.cells #[.slice u G.ts.length x,.string G.s,.int .i64 G.e,.slice r G.rs.length t] 25)).alloc (.cells zC 31)).heap[w.heap.size]?=some (.cells #[.slice u G.ts.length x,.string G.s,.int .i64 G.e,.slice r G.rs.length t] 25 (0,0)):=qf (qb _ _) (heap_alloc_new _ _)
 have R:((w.alloc (.cells #[.slice u G.ts.length x,.string G.s,.int .i64 G.e,.slice r G.rs.length t] 25)).alloc (.cells zC 31)).heap[w.heap.size+1]?=some (.cells zC 31 (0,0)):=by
  have:=heap_alloc_new (w.alloc (.cells #[.slice u G.ts.length x,.string G.s,.int .i64 G.e,.slice r G.rs.length t] 25)) (.cells zC 31)
  rwa [qt]at this
 obtain⟨B,z⟩:∃B,Hid (G.ts.length=B):=⟨_,rfl⟩
 obtain⟨I,F⟩:∃I,Hid (G.rs.length=I):=⟨_,rfl⟩
 rw[z.out]at d8 X Z O a6 Q R ⊢;rw[F.out]at d9 X Z O a6 Q R ⊢
 obtain⟨m,HM⟩:∃m,Hid ((lfs G.rs).length=m):=⟨_,rfl⟩
 rw[HM.out]at O;go_enter Tryz.func73,Tryz.ntmps73
 go_upto_region 1 with fail
 have ez:(w.alloc (.cells #[.slice u B x,.string G.s,.int .i64 G.e,.slice r I t] 25)).alloc (.cells #[.int .i64 0,.int .i64 0,.int .i64 0,.int .i64 0,.slice none 0 0,.slice none 0 0,.slice none 0 0,.slice none 0 0] 31)=(w.alloc (.cells #[.slice u B x,.string G.s,.int .i64 G.e,.slice r I t] 25)).alloc (.cells zC 31):=rfl;rw[ez];generalize (w.alloc (.cells #[.slice u B x,.string G.s,.int .i64 G.e,.slice r I t] 25)).alloc (.cells zC 31)=W1 at a6 Q R ⊢
 obtain⟨C,b7⟩:∃C,Hid (C=w.heap.size):=⟨_,rfl⟩
 rw[<-b7.out]at Q R ⊢
 have a0:Hid (w.heap.size<=C+1):=by rw[b7.out];exact Nat.le_succ _
 generalize C+1=H at R a0 ⊢
 have H1:Hid (W1.heap[C]?=some (.cells #[.slice u B x,.string G.s,.int .i64 G.e,.slice r I t] 25 (0,0))/\W1.heap[H]?=some (.cells zC 31 (0,0))/\Below w.heap.size w W1):=⟨Q,R,a6⟩
 obtain⟨p0,p1,p2,p3⟩:=box4 Q;clear ez a6 Q R b7;go_wp2_with fail;refine(X.out _ H1.out.2.2).mono ?_;rintro e W2 ⟨rfl,b2⟩
 have H2:Hid (W2.heap[C]?=some (.cells #[.slice u B x,.string G.s,.int .i64 G.e,.slice r I t] 25 (0,0))/\W2.heap[H]?=some (.cells zC 31 (0,0))/\Below w.heap.size w W2):=⟨qf b2 H1.out.1,qf b2 H1.out.2.1,qd H1.out.2.2 b2⟩
 clear H1 b2 p0 p1 p2 p3 X
 rcases bm with _ | _
 ·have y:Hid (k=1):=by
   have hn:¬MayP G:=fun e=>by have:=a8.out.2 e;cases this
   rcases HK.out with e | e | e | e | e
   ·exact e.1
   ·exact absurd e.2.1 hn
   ·exact absurd e.2.1 hn
   ·exact absurd e.2.1 hn
   ·exact absurd e.2.1 hn
  obtain⟨z0,z1,z2,z3,z4,z5,z6,z7⟩:=box8 H2.out.2.1;obtain⟨f0,f1,f2,f3,f4,f5,f6,f7⟩:=qa4 H2.out.2.1
  have HF:Hid (∀v0 v1 v2 v3 v4 v5 v6 v7,Below w.heap.size w (set8 W2 H v0 v1 v2 v3 v4 v5 v6 v7)):=fun v0 v1 v2 v3 v4 v5 v6 v7=>jd H2.out.2.2 a0.out
  go_wp2_with fail;refine bodyPost_ret (v:=.tuple #[.agg zC,.int .i64 1]) (by unfold zC sC;simp[results,Tryz.results73,go_sem, *]) rfl ?_
  exact⟨.inl ⟨by rw[y.out];decide,by rw[y.out]⟩,HF.out _ _ _ _ _ _ _ _⟩
 ·have J:Hid (MayP G):=a8.out.1 rfl;clear a8;obtain⟨p0,p1,p2,p3⟩:=box4 H2.out.1
  go_upto_region 3 with fail
  go_wp2_with fail;refine(Z.out _ H2.out.2.2).mono ?_;rintro e W3 ⟨hh,rfl,d7,b3⟩;obtain⟨f,g,o,p,i,j,b,d⟩:=hh
  have a2:Hid (sC ⟨f,g,o,p,i,j,b,d⟩ (sy0 G)=#[.int .i64 (B:Int),.int .i64 (m:Int),.int .i64 0,.int .i64 G.e,.slice f (nmG G).length g,.slice o (G.ts.map (·.l)).length p,.slice i (G.ts.map (·.a)).length j,.slice b 0 d]):=by
   rw[<-z.out,<-HM.out];rfl
  obtain⟨T,Y⟩:∃T,Hid ((nmG G).length=T):=⟨_,rfl⟩
  obtain⟨l1,b5⟩:∃l1,Hid ((G.ts.map (·.l)).length=l1):=⟨_,rfl⟩
  obtain⟨a1,b6⟩:∃a1,Hid ((G.ts.map (·.a)).length=a1):=⟨_,rfl⟩
  rw[Y.out,b5.out,b6.out]at a2;rw[a2.out]
  have HX:Hid (OX w (W3.alloc (.cells #[.int .i64 (B:Int),.int .i64 (m:Int),.int .i64 0,.int .i64 G.e,.slice f T g,.slice o l1 p,.slice i a1 j,.slice b 0 d] 31)) C H W3.heap.size ⟨u,x,r,t⟩ G ⟨f,g,o,p,i,j,b,d⟩ (sy0 G) []):=by
   refine OX.first ?_ (qf b3 H2.out.2.1) a2.out (d7.mono H2.out.2.2.size) (qd H2.out.2.2 b3);rw[z.out,F.out];exact qf b3 H2.out.1
  clear d7 b3 H2 Z p0 p1 p2 p3
  go_upto_region 4 with fail
  generalize W3.alloc (.cells #[.int .i64 (B:Int),.int .i64 (m:Int),.int .i64 0,.int .i64 G.e,.slice f T g,.slice o l1 p,.slice i a1 j,.slice b 0 d] 31)=V at HX ⊢;generalize W3.heap.size=D at HX ⊢
  have M:Hid (∀U:World,OX w U C H D ⟨u,x,r,t⟩ G ⟨f,g,o,p,i,j,b,d⟩ (sy0 G) []->U.heap[C]?=some (.cells #[.slice u B x,.string G.s,.int .i64 G.e,.slice r I t] 25 (0,0))/\U.heap[D]?=some (.cells #[.int .i64 (B:Int),.int .i64 (m:Int),.int .i64 0,.int .i64 G.e,.slice f T g,.slice o l1 p,.slice i a1 j,.slice b 0 d] 31 (0,0))):=fun U s=>by
   have h1:=s.gx;have h2:=s.sx;rw[z.out,F.out]at h1;rw[a2.out]at h2;exact⟨h1,h2⟩
  obtain⟨p0,p1,p2,p3⟩:=box4 (M.out V HX.out).1;obtain⟨q0,q1,q2,q3,q4,q5,q6,q7⟩:=box8 (M.out V HX.out).2;go_wp2_with fail;refine(O.out _ HX.out.bel).mono ?_;rintro e V4 ⟨rfl,c9⟩;have K:Hid (OX w V4 C H D ⟨u,x,r,t⟩ G ⟨f,g,o,p,i,j,b,d⟩ (sy0 G) []):=HX.out.step c9;clear HX c9 O p0 p1 p2 p3 q0 q1 q2 q3 q4 q5 q6 q7
  cases bl
  case true =>
   have y:Hid (k=6):=by
    have hn:kz G:=a7.out.1 rfl;have hm:MayP G:=J.out
    rcases HK.out with e | e | e | e | e
    ·exact absurd hm e.2
    ·exact e.1
    ·exact absurd hn e.2.2.1
    ·exact absurd hn e.2.2.1
    ·exact absurd hn e.2.2.1
   obtain⟨z0,z1,z2,z3,z4,z5,z6,z7⟩:=box8 K.out.rx;obtain⟨f0,f1,f2,f3,f4,f5,f6,f7⟩:=qa4 K.out.rx
   have HF:Hid (∀v0 v1 v2 v3 v4 v5 v6 v7,Below w.heap.size w (set8 V4 H v0 v1 v2 v3 v4 v5 v6 v7)):=fun v0 v1 v2 v3 v4 v5 v6 v7=>jd K.out.bel a0.out
   go_wp2_with fail;refine bodyPost_ret (v:=.tuple #[.agg zC,.int .i64 6]) (by unfold zC sC;simp[results,Tryz.results73,go_sem, *]) rfl ?_
   exact⟨.inl ⟨by rw[y.out];decide,by rw[y.out]⟩,HF.out _ _ _ _ _ _ _ _⟩
  case false =>
   have b0:Hid (¬kz G):=fun e=>by have:=a7.out.2 e;cases this
   clear a7;obtain⟨bn,d5⟩:=zr (NmP G);have a9:Hid (bn=true↔NmP G):=d5;clear d5
   have c3:Hid (∀U:World,OX w U C H D ⟨u,x,r,t⟩ G ⟨f,g,o,p,i,j,b,d⟩ (sy0 G) []->Calls Tryz.prog 83 #[.agg #[.slice u B x,.string G.s,.int .i64 G.e,.slice r I t],.agg #[.int .i64 (B:Int),.int .i64 (m:Int),.int .i64 0,.int .i64 G.e,.slice f T g,.slice o l1 p,.slice i a1 j,.slice b 0 d]] U fun e E=>e=.returned (.bool bn)/\Below U.heap.size U E):=fun U s=>by
    have:=qli G ⟨u,x,r,t⟩ (sy0 G) _ U (HG.out.below s.bel) s.own.isSp ⟨rfl,rfl,rfl,rfl⟩ J.out bn a9.out;unfold gv at this;rw[a2.out]at this;simp only at this;rw[z.out,F.out]at this;exact this
   obtain⟨p0,p1,p2,p3⟩:=box4 (M.out V4 K.out).1;obtain⟨q0,q1,q2,q3,q4,q5,q6,q7⟩:=box8 (M.out V4 K.out).2;go_wp2_with fail;refine(c3.out _ K.out).mono ?_;rintro e V5 ⟨rfl,d0⟩;have L:Hid (OX w V5 C H D ⟨u,x,r,t⟩ G ⟨f,g,o,p,i,j,b,d⟩ (sy0 G) []):=K.out.step d0;clear K d0 c3 p0 p1 p2 p3 q0 q1 q2 q3 q4 q5 q6 q7
   rcases bn with _ | _
   ·have y:Hid (k=7):=by
     have hl:¬kz G:=b0.out
     have hn:¬NmP G:=fun e=>by have:=a9.out.2 e;cases this
     have hm:MayP G:=J.out
     rcases HK.out with e | e | e | e | e
     ·exact absurd hm e.2
     ·exact absurd e.2.2 hl
     ·exact e.1
     ·exact absurd e.2.2.2.1 hn
     ·exact absurd e.2.2.2.1 hn
    obtain⟨z0,z1,z2,z3,z4,z5,z6,z7⟩:=box8 L.out.rx;obtain⟨f0,f1,f2,f3,f4,f5,f6,f7⟩:=qa4 L.out.rx
    have HF:Hid (∀v0 v1 v2 v3 v4 v5 v6 v7,Below w.heap.size w (set8 V5 H v0 v1 v2 v3 v4 v5 v6 v7)):=fun v0 v1 v2 v3 v4 v5 v6 v7=>jd L.out.bel a0.out
    go_wp2_with fail;refine bodyPost_ret (v:=.tuple #[.agg zC,.int .i64 7]) (by unfold zC sC;simp[results,Tryz.results73,go_sem, *]) rfl ?_
    exact⟨.inl ⟨by rw[y.out];decide,by rw[y.out]⟩,HF.out _ _ _ _ _ _ _ _⟩
   ·have P:Hid (NmP G):=a9.out.1 rfl;clear a9
    obtain⟨N,a3⟩:∃N,Hid (stG G=N):=⟨_,rfl⟩
    have c7:Hid (∀U:World,Below w.heap.size w U->Calls Tryz.prog 85 #[.agg #[.slice u B x,.string G.s,.int .i64 G.e,.slice r I t]] U fun e E=>e=.returned (.string (kc G))/\Below U.heap.size U E):=fun U hU=>by
     have:=qdw G ⟨u,x,r,t⟩ U (HG.out.below hU) P.out.ne;unfold gv at this;simp only at this;rw[z.out,F.out]at this;exact this
    have b9:Hid (∀U:World,Row U 1 f T g (strC (nmG G))->Calls Tryz.prog 84 #[.slice f T g,.string (kc G)] U fun e E=>e=.returned (.int .i64 (N:Int))/\E=U):=fun U hU=>by
     have:=qa1 (nmG G) f g (kc G) U (by rw[Y.out];exact hU) (by have h1:=j9 G.rs;have h2:=z.out;have h3:=F.out;unfold nmG tkG;simp;omega)
     rw[qeh J.out P.out P.out.st,Y.out]at this;rw[<-a3.out];exact this
    have c6:Hid (∀U:World,OX w U C H D ⟨u,x,r,t⟩ G ⟨f,g,o,p,i,j,b,d⟩ (sy0 G) []->Row U 1 f T g (strC (nmG G))):=fun U s=>by
     have:=s.own.isSp.nm;simp only[sy0]at this;rw[Y.out]at this;exact this
    have c4:Hid (sC ⟨f,g,o,p,i,j,b,d⟩ ⟨G.ts.length,(lfs G.rs).length,N,G.e,nmG G,G.ts.map (·.l),G.ts.map (·.a),[]⟩=#[.int .i64 (B:Int),.int .i64 (m:Int),.int .i64 (N:Int),.int .i64 G.e,.slice f T g,.slice o l1 p,.slice i a1 j,.slice b 0 d]):=by
     rw[<-z.out,<-HM.out,<-Y.out,<-b5.out,<-b6.out];rfl
    have b8:Hid (∀U:World,OX w U C H D ⟨u,x,r,t⟩ G ⟨f,g,o,p,i,j,b,d⟩ ⟨G.ts.length,(lfs G.rs).length,N,G.e,nmG G,G.ts.map (·.l),G.ts.map (·.a),[]⟩ []->U.heap[C]?=some (.cells #[.slice u B x,.string G.s,.int .i64 G.e,.slice r I t] 25 (0,0))/\U.heap[D]?=some (.cells #[.int .i64 (B:Int),.int .i64 (m:Int),.int .i64 (N:Int),.int .i64 G.e,.slice f T g,.slice o l1 p,.slice i a1 j,.slice b 0 d] 31 (0,0))):=fun U s=>by
     have h1:=s.gx;have h2:=s.sx;rw[z.out,F.out]at h1;rw[c4.out]at h2;exact⟨h1,h2⟩
    have c5:Hid (∀U:World,OX w U C H D ⟨u,x,r,t⟩ G ⟨f,g,o,p,i,j,b,d⟩ ⟨G.ts.length,(lfs G.rs).length,N,G.e,nmG G,G.ts.map (·.l),G.ts.map (·.a),[]⟩ []->Calls Tryz.prog 86 #[.agg #[.slice u B x,.string G.s,.int .i64 G.e,.slice r I t],.agg #[.int .i64 (B:Int),.int .i64 (m:Int),.int .i64 (N:Int),.int .i64 G.e,.slice f T g,.slice o l1 p,.slice i a1 j,.slice b 0 d]] U fun e E=>∃A c,e=.returned (.slice A (I+1) c)/\(∃qs,OX w (E.setCell ⟨D,7,none⟩ (.slice A (I+1) c)) C H D ⟨u,x,r,t⟩ G ⟨f,g,o,p,i,j,A,c⟩ (spG G) qs)/\E.cell? ⟨D,7,none⟩=some (.slice b 0 d)/\E.frozen? ⟨D,7,none⟩=false):=fun U s=>by
     have:=qi3 G ⟨u,x,r,t⟩ ⟨G.ts.length,(lfs G.rs).length,N,G.e,nmG G,G.ts.map (·.l),G.ts.map (·.a),[]⟩ ⟨f,g,o,p,i,j,b,d⟩ U (HG.out.below s.bel) s.own.isSp ⟨rfl,rfl,rfl,rfl⟩ J.out P.out;unfold gv at this;rw[c4.out]at this;simp only at this;rw[z.out,F.out]at this;refine this.mono ?_;rintro e E ⟨A,c,qs,rfl,⟨h1,h2,h3⟩,hB⟩;have s':=s.step hB;have e9:=s'.putRs (rs:=qs) (n:=I+1) A c (by have:=congrArg List.length h2;simp at this;rw[F.out]at this;exact this) (zd h1 s.bel.size) (fun q hq=>zd (h3 q hq) s.bel.size)
     refine⟨A,c,rfl,⟨qs,?_⟩,(box8 (b8.out _ s').2).2.2.2.2.2.2.2,qi s'.sx 7⟩;rw[h2,<-a3.out]at e9;exact e9
    obtain⟨bu,d6⟩:=zr (yd (spG G));have b4:Hid (bu=true↔yd (spG G)):=d6;clear d6
    have b1:Hid (∀A c,sC ⟨f,g,o,p,i,j,A,c⟩ (spG G)=#[.int .i64 (B:Int),.int .i64 (m:Int),.int .i64 (N:Int),.int .i64 G.e,.slice f T g,.slice o l1 p,.slice i a1 j,.slice A (I+1) c]):=fun A c=>by
     rw[<-z.out,<-HM.out,<-Y.out,<-b5.out,<-b6.out,<-a3.out,<-F.out];unfold sC spG;simp
    have c8:Hid (∀(U:World) A c,IsSp U ⟨f,g,o,p,i,j,A,c⟩ (spG G)->Calls Tryz.prog 87 #[.agg #[.int .i64 (B:Int),.int .i64 (m:Int),.int .i64 (N:Int),.int .i64 G.e,.slice f T g,.slice o l1 p,.slice i a1 j,.slice A (I+1) c]] U fun e E=>e=.returned (.bool bu)/\Below U.heap.size U E):=fun U A c s=>by
     have:=qi4 U _ (spG G) (qei J.out b0.out P.out) s bu b4.out;unfold sv at this;rw[b1.out]at this;exact this
    obtain⟨p0,p1,p2,p3⟩:=box4 (M.out V5 L.out).1;obtain⟨q0,q1,q2,q3,q4,q5,q6,q7⟩:=box8 (M.out V5 L.out).2
    go_upto_region 8 with fail
    go_region_with(first
     | (go_at_call 85;refine(c7.out _ (qd L.out.bel (qk _))).mono ?_;rintro e V6 ⟨rfl,d1⟩;have a4:Hid (OX w V6 C H D ⟨u,x,r,t⟩ G ⟨f,g,o,p,i,j,b,d⟩ (sy0 G) []):=(L.out.step (qk _)).step d1;obtain⟨y0,y1,y2,y3,y4,y5,y6,y7⟩:=box8 (M.out V6 a4.out).2;obtain⟨g0,g1,g2,g3,g4,g5,g6,g7⟩:=qa4 a4.out.sx)
     | (go_at_call 84;refine(b9.out _ (c6.out _ a4.out)).mono ?_;rintro e V7 ⟨rfl,rfl⟩))
    all_goals
     have a5:Hid (OX w (V7.setCell ⟨D,2,none⟩ (.int .i64 (N:Int))) C H D ⟨u,x,r,t⟩ G ⟨f,g,o,p,i,j,b,d⟩ ⟨G.ts.length,(lfs G.rs).length,N,G.e,nmG G,G.ts.map (·.l),G.ts.map (·.a),[]⟩ []):=a4.out.putSt N;generalize V7.setCell ⟨D,2,none⟩ (.int .i64 (N:Int))=V8 at a5 ⊢;clear a4 d1 L y0 y1 y2 y3 y4 y5 y6 y7 g0 g1 g2 g3 g4 g5 g6 g7 p0 p1 p2 p3 q0 q1 q2 q3 q4 q5 q6 q7 c7 b9 c6 M;obtain⟨p0,p1,p2,p3⟩:=box4 (b8.out V8 a5.out).1;obtain⟨q0,q1,q2,q3,q4,q5,q6,q7⟩:=box8 (b8.out V8 a5.out).2;go_wp2_with fail;refine(c5.out _ a5.out).mono ?_;rintro e V9 ⟨A,c,rfl,hq,y7,g7⟩;have HQ:Hid (∃qs,OX w (V9.setCell ⟨D,7,none⟩ (.slice A (I+1) c)) C H D ⟨u,x,r,t⟩ G ⟨f,g,o,p,i,j,A,c⟩ (spG G) qs):=hq;clear hq a5 c5 p0 p1 p2 p3 q0 q1 q2 q3 q4 q5 q6 q7
     go_upto_region 10 with fail
     generalize V9.setCell ⟨D,7,none⟩ (.slice A (I+1) c)=VA at HQ ⊢;clear y7 g7;obtain⟨qs,hq⟩:=HQ.out;have HA:Hid (OX w VA C H D ⟨u,x,r,t⟩ G ⟨f,g,o,p,i,j,A,c⟩ (spG G) qs):=hq;have S:=hq.sx;rw[b1.out]at S;obtain⟨q0,q1,q2,q3,q4,q5,q6,q7⟩:=box8 S;clear hq HQ S;go_wp2_with fail;refine(c8.out _ _ _ HA.out.own.isSp).mono ?_;rintro e VB ⟨rfl,d2⟩;have HB:Hid (OX w VB C H D ⟨u,x,r,t⟩ G ⟨f,g,o,p,i,j,A,c⟩ (spG G) qs):=HA.out.step d2;clear HA d2 c8 q0 q1 q2 q3 q4 q5 q6 q7;obtain⟨z0,z1,z2,z3,z4,z5,z6,z7⟩:=box8 HB.out.rx;obtain⟨f0,f1,f2,f3,f4,f5,f6,f7⟩:=qa4 HB.out.rx
     have HF:Hid (∀v0 v1 v2 v3 v4 v5 v6 v7,IsSp (set8 VB H v0 v1 v2 v3 v4 v5 v6 v7) ⟨f,g,o,p,i,j,A,c⟩ (spG G)/\Below w.heap.size w (set8 VB H v0 v1 v2 v3 v4 v5 v6 v7)):=fun v0 v1 v2 v3 v4 v5 v6 v7=>⟨(HB.out.own.set8 ⟨_,HB.out.rx⟩).isSp,jd HB.out.bel a0.out⟩
     have S:=HB.out.sx;rw[b1.out]at S;obtain⟨q0,q1,q2,q3,q4,q5,q6,q7⟩:=box8 S;clear S
     cases bu
     case true =>
      have y:Hid (k=8):=by
       have hu:yd (spG G):=b4.out.1 rfl
       rcases HK.out with e | e | e | e | e
       ·exact absurd J.out e.2
       ·exact absurd e.2.2 b0.out
       ·exact absurd P.out e.2.2.2
       ·exact e.1
       ·exact absurd hu e.2.2.2.2
      go_wp2_with fail;refine bodyPost_ret (v:=.tuple #[.agg zC,.int .i64 8]) (by unfold zC sC;simp[results,Tryz.results73,go_sem, *]) rfl ?_
      exact⟨.inl ⟨by rw[y.out];decide,by rw[y.out]⟩,(HF.out _ _ _ _ _ _ _ _).2⟩
     case false =>
      have y:Hid (k=0):=by
       have hu:¬yd (spG G):=fun e=>by have:=b4.out.2 e;cases this
       rcases HK.out with e | e | e | e | e
       ·exact absurd J.out e.2
       ·exact absurd e.2.2 b0.out
       ·exact absurd P.out e.2.2.2
       ·exact absurd e.2.2.2.2 hu
       ·exact e.1
      go_wp2_with fail;refine bodyPost_ret (v:=.tuple #[.agg #[.int .i64 (B:Int),.int .i64 (m:Int),.int .i64 (N:Int),.int .i64 G.e,.slice f T g,.slice o l1 p,.slice i a1 j,.slice A (I+1) c],.int .i64 0]) (by simp[results,Tryz.results73,go_sem, *]) rfl ?_;exact⟨.inr ⟨y.out,⟨f,g,o,p,i,j,A,c⟩,by unfold sv;rw[b1.out],(HF.out _ _ _ _ _ _ _ _).1⟩,(HF.out _ _ _ _ _ _ _ _).2⟩
structure RY (w W:World) (h:SHd) (S:Sp) (b1 yb n:Nat) (fd:List Bool):Prop where
 bel:Below w.heap.size w W
 bs:W.heap[b1]?=some (.cells (sC h S) 31 (0,0))
 own:W.ownsRow w.heap.size 4 1 (.slice (some ⟨yb,0,none⟩) n n) n (booC fd)
 len:fd.length=n
theorem RY.cell{w W:World}{h:SHd}{S:Sp}{b a n:Nat}{fd:List Bool}(y:RY w W h S b a n fd){x:Nat}(c:x<n):W.cell? ⟨a,x,none⟩=some (.bool (isF fd x))/\W.frozen? ⟨a,x,none⟩=false:=by
 refine⟨?_,y.own.frozenAt x⟩;rw[y.own.cellAt x (by omega)];unfold booC;rw[List.getElem?_map,vm (by rw[y.len];exact c)]
 rfl
theorem RY.set{w W:World}{h:SHd}{S:Sp}{c a n:Nat}{fd:List Bool}(y:RY w W h S c a n fd)(x:Nat):RY w (W.setCell ⟨a,x,none⟩ (.bool true)) h S c a n (fd.set x true):=by
 have d:=qw y.own (b:=a) rfl;refine⟨y.bel.setCell (p:=⟨a,x,none⟩) d.1 _,?_,?_,by rw[List.length_set];exact y.len⟩
 ·exact(Below.heap_setCell _ _ _ _ (show c≠a from qr ⟨_,y.bs⟩ d.2.2 (by decide))).trans y.bs
 ·rw[qdd];exact(y.own.stored x (.bool true)).1
def nF (fd:List Bool):Nat:=fd.countP (fun b=>!b)
theorem qkc:∀{fd:List Bool} {x:Nat},x<fd.length->isF fd x=false->nF (fd.set x true)+1=nF fd
 | [],_,h,_=>absurd h (Nat.not_lt_zero _)
 | b :: r,0,_,hf=>by
  have a:b=false:=hf;subst a;simp[nF]
 | b :: r,x+1,h,hf=>by
  have c:=qkc (fd:=r) (x:=x) (by simpa using h) hf;unfold nF at c ⊢;rw[List.set_cons_succ,List.countP_cons,List.countP_cons];omega
theorem qqx(fd:List Bool):nF fd<=fd.length:=List.countP_le_length
def CloY (S:Sp) (i:Nat) (fd:List Bool):Prop:=∀(j:Nat) (r:SR) (x:Nat),0<j->j<i->S.rs[j]?=some r->r.l=(x:Int)->(∀y∈r.r,isF fd y=true)->isF fd x=true
def CloR (S:Sp) (i:Nat) (fd:List Bool):Prop:=∀(j:Nat) (r:SR) (x y:Nat),0<j->j<i->S.rs[j]?=some r->r.l=(x:Int)->isF fd x=true->y∈r.r->isF fd y=true
theorem qoo{S:Sp}{i:Nat}{fd:List Bool}{r:SR}{x:Nat}(h:CloY S i fd)(g:S.rs[i]?=some r)(f:r.l=(x:Int))(k:(∀y∈r.r,isF fd y=true)->isF fd x=true):CloY S (i+1) fd:=by
 intro j q z d m a c b
 rcases Nat.lt_or_ge j i with h2 | h2
 ·exact h j q z d h2 a c b
 ·have:j=i:=by omega
  subst this;rw[g]at a
  cases a
  rw[f]at c
  have:x=z:=by omega
  subst this;exact k b
theorem qia{S:Sp}{i:Nat}{fd:List Bool}{r:SR}{x:Nat}(h:CloR S i fd)(k:S.rs[i]?=some r)(g:r.l=(x:Int))(m:isF fd x=true->∀y∈r.r,isF fd y=true):CloR S (i+1) fd:=by
 intro j q z y f n a d b c
 rcases Nat.lt_or_ge j i with h2 | h2
 ·exact h j q z y f h2 a d b c
 ·have:j=i:=by omega
  subst this;rw[k]at a
  cases a
  rw[g]at d
  have:x=z:=by omega
  subst this;exact m b y c
def Upto (l:List Nat) (fd:List Bool) (k:Nat):Prop:=∀(j y:Nat),j<k->l[j]?=some y->isF fd y=true
theorem qkd{l:List Nat}{fd:List Bool}:Upto l fd l.length↔∀y∈l,isF fd y=true:=by
 constructor
 ·intro h y a;obtain⟨j,b⟩:=List.getElem?_of_mem a;exact h j y (List.getElem?_eq_some_iff.1 b).1 b
 ·intro h j y _ a;exact h y (List.mem_of_getElem? a)
theorem qel{l:List Nat}{fd:List Bool}{k z:Nat}(b:l[k]?=some z):Upto l fd (k+1)↔(Upto l fd k/\isF fd z=true):=by
 constructor
 ·intro h;exact⟨fun j y f a=>h j y (by omega) a,h k z (by omega) b⟩
 ·rintro⟨c,d⟩ j y f a
  rcases Nat.lt_or_ge j k with h | h
  ·exact c j y h a
  ·have:j=k:=by omega
   subst this;rw[b]at a
   cases a
   exact d
theorem qib(l:List Nat)(fd:List Bool):Upto l fd 0:=fun _ _ h=>absurd h (Nat.not_lt_zero _)
theorem qhp(n x:Nat):isF (List.replicate n false) x=false:=by
 unfold isF
 cases a:(List.replicate n false)[x]? with
 | none=>rfl
 | some b =>
  have:=List.mem_of_getElem? a;rw[List.mem_replicate]at this;rw[this.2];rfl
theorem qgr(V:World)(a n:Nat)(p:n<=1000)(h:a<=V.heap.size):∃b,(Instr.makeSlice 41 (.int .i64 (n:Int)) (.int .i64 (n:Int))).run Tryz.prog V=.ok (.slice (some ⟨V.heap.size,0,none⟩) n n) b/\b.ownsRow a 4 1 (.slice (some ⟨V.heap.size,0,none⟩) n n) n (booC (List.replicate n false))/\Below V.heap.size V b:=by
 obtain⟨o,j,c,d,f⟩:=info_parts i4;obtain⟨w1,m,g,i⟩:=run_make_full (P:=Tryz.prog) V a 41 4 o _ 1 u51 j c d .i64 .i64 n (by rw[f];omega) (by unfold maxLen;omega) h
 rw[qfn]at g;exact⟨w1,m,g,(Below.refl V.heap.size V).grown i (Nat.le_refl _) (fun k l=>by cases l)⟩
def RRs (w W:World) (h:SHd) (S:Sp) (b1 yb n:Nat) (fd:List Bool):Prop:=RY w W h S b1 yb n fd/\qd7 S fd/\isF fd S.st=true
theorem qhq(w:World)(h:SHd)(S:Sp)(n:Nat)(a4:n=S.tk+1+S.nt)(m:WF S)(M:IsSp w h S):
  Calls Tryz.prog 16 #[sv h S] w fun e w'=>BRes w w' n (Rch S) e:=by
 have hn:n<=1000:=by have:=m.tk;have:=m.nt;omega
 have b7:S.rs.length<=300:=m.nr
 have a5:1<=S.rs.length:=by have:=(List.getElem?_eq_some_iff.1 m.hd).1;omega
 have f:Hid (WF S/\IsSp w h S/\n=S.tk+1+S.nt):=⟨m,M,a4⟩
 have L:Below w.heap.size w (w.alloc (.cells (sC h S) 31)):=qb _ _;have D:(w.alloc (.cells (sC h S) 31)).heap[w.heap.size]?=some (.cells (sC h S) 31 (0,0)):=heap_alloc_new _ _;have d4:S.tk<=100:=m.tk;have d3:S.nt<=200:=m.nt;obtain⟨rb,ro,-,-,u,-⟩:=M.rl.at m.hd;have H:Hid (h.ra=some ⟨rb,ro,none⟩):=u;have b5:=j6 M.rl;clear m M a4;unfold sv sC;rw[u];clear u
 obtain⟨s,t⟩:∃s,Hid (S.rs.length=s):=⟨_,rfl⟩
 rw[t.out]at b7 a5 b5 ⊢;go_enter Tryz.func16,Tryz.ntmps16
 go_upto_region 1 with fail
 have e0:w.alloc (.cells #[.int .i64 (S.tk:Int),.int .i64 (S.nt:Int),.int .i64 (S.st:Int),.int .i64 S.ex,.slice h.na S.nm.length h.nc,.slice h.la S.lv.length h.lc,.slice h.aa S.az.length h.ac,.slice (some ⟨rb,ro,none⟩) s h.rc] 31)=w.alloc (.cells (sC h S) 31):=by unfold sC;rw[H.out,t.out]
 rw[e0];generalize w.alloc (.cells (sC h S) 31)=W0 at L D ⊢
 obtain⟨o,a0⟩:∃o,Hid (o=w.heap.size):=⟨_,rfl⟩
 rw[<-a0.out]at D ⊢;obtain⟨c0,c1,-,-,-,-,-,-⟩:=sbox D
 have a6:S.st<n:=by have:=f.out.1.st;have:=f.out.2.2;omega
 obtain⟨W1,C,ho,T⟩:=qgr W0 w.heap.size n hn L.size
 have g:Hid (RY w W1 h S o W0.heap.size n (List.replicate n false)):=⟨qd L T,qf T D,ho,by simp⟩
 have en:(n:Int)=(S.tk:Int)+1+(S.nt:Int):=by have:=f.out.2.2;omega
 rw[en]at C;clear e0 L D ho T a0 en
 go_upto_region 2 with fail
 clear C c0 c1;generalize W0.heap.size=d at g ⊢;obtain⟨-,-,c2,-,-,-,-,-⟩:=sbox g.out.bs;obtain⟨R,f0⟩:=g.out.cell a6;rw[qhp]at R
 have c3:(S.st:Int)<(n:Int):=by omega
 have H8:Hid (∃fd,RRs w (W1.setCell ⟨d,S.st,none⟩ (.bool true)) h S o d n fd):=by
  have G:S.st<(List.replicate n false).length:=by rw[g.out.len];exact a6
  refine⟨_,g.out.set S.st,fun x v=>?_,by rw[k8 G,if_pos rfl]⟩;rw[k8 G]at v
  split at v
  ·rename_i e;subst e;exact Rch.start
  ·rw[qhp]at v
   cases v
 clear g
 go_upto_region 3 with fail
 generalize W1.setCell ⟨d,S.st,none⟩ (.bool true)=w8 at H8 ⊢;clear c2 R f0;go_wp2_with fail
 go_loopg [4] (n+1) (fun kx s4 wr=>∃b:Bool,s4=.bool b/\Hid (∃fd,RRs w wr h S o d n fd/\(b=false->CloR S s fd)/\(b=true->nF fd+1<=kx)))
 case atStart =>
  obtain⟨fd,y⟩:=H8.out;exact⟨true,rfl,(⟨fd,y,(fun e=>by cases e),fun _=>by have:=qqx fd;rw[y.1.len]at this;omega⟩:∃fd,RRs w w8 h S o d n fd/\(true=false->CloR S s fd)/\(true=true->nF fd+1<=n+1))⟩
 case round =>
  clear H8;obtain⟨b,rfl,J⟩:=hrel;obtain⟨I,N,U,V⟩:=J.out
  cases b
  ·have B:Hid (BRes w wr n (Rch S) (.returned (.slice (some ⟨d,0,none⟩) n n))):=by
    refine⟨d,I,rfl,N.1.len,N.1.own,?_,N.1.bel⟩;have hc:=U rfl;rw[<-t.out]at hc;exact qey (fun i r x y h0 C G v hy=>hc i r x y h0 (List.getElem?_eq_some_iff.1 C).1 C G v hy) N.2.1 N.2.2
   clear N U V J;go_wp2_with fail;go_ret;exact B.out
  ·obtain⟨c,a1⟩:∃c,Hid (nF I=c):=⟨_,rfl⟩
   have c6:c+1<=gk:=by rw[<-a1.out];exact V rfl
   have g:Hid (RRs w wr h S o d n I):=N;clear N U V J
   obtain⟨wo,d6⟩:∃wo,wo=wr:=⟨_,rfl⟩
   subst wr;go_wp2_with fail
   go_loopg [4,5] s (fun kx s4 s5 wr=>∃(b:Bool) (i:Nat),s4=.bool b/\s5=.int .i64 i/\1<=i/\i<=s/\s - i<=kx/\Hid (∃fd,RRs w wr h S o d n fd/\(b=false->CloR S i fd/\nF fd<=c)/\(b=true->nF fd+1<=c)))
   case atStart=>exact⟨false,1,rfl,rfl,Nat.le_refl _,a5,by omega,(⟨I,g.out,fun _=>⟨fun j r x y h0 h1=>by omega,by rw[a1.out];exact Nat.le_refl _⟩,(fun e=>by cases e)⟩:∃fd,RRs w wo h S o d n fd/\(false=false->CloR S 1 fd/\nF fd<=c)/\(false=true->nF fd+1<=c))⟩
   case round =>
    clear g;obtain⟨b,i,rfl,rfl,d2,hi,c8,J⟩:=hrel;obtain⟨fd,y,p,q⟩:=J.out;obtain⟨-,-,-,-,-,-,-,c7⟩:=sbox y.1.bs;rw[H.out,t.out]at c7
    by_cases b4:i<s
    ·have a3:(i:Int)<(s:Int):=by omega
     obtain⟨r,C⟩:∃r,S.rs[i]?=some r:=⟨S.rs[i]'(by rw[t.out];exact b4),List.getElem?_eq_getElem _⟩
     obtain⟨d8,d9,xa,xc,u,R,d1,-,-,Z⟩:=f.out.2.1.rl.at C;rw[H.out]at u
     cases u
     have b9:=ze Z;have b6:r.r.length<=100:=(f.out.1.rr r (List.mem_of_getElem? C)).1;obtain⟨xl,Y,d7,a8⟩:=f.out.1.rl i r (by omega) C;rw[<-f.out.2.2]at a8;rw[Y]at R
     obtain⟨E,Q⟩:∃E,Hid (r.r.length=E):=⟨_,rfl⟩
     rw[Q.out]at d1 b6 b9
     have F:Hid (S.rs[i]?=some r/\Row w 1 xa r.r.length xc (natC r.r)/\r.l=(xl:Int)/\w.cell? ⟨rb,ro+i * 4,none⟩=some (.int .i64 (xl:Int))/\w.cell? ⟨rb,ro+i * 4+1,none⟩=some (.slice xa E xc)):=⟨C,Z,Y,R,d1⟩
     have a:Hid (∃fd,RRs w wr h S o d n fd/\(b=false->CloR S i fd/\nF fd<=c)/\(b=true->nF fd+1<=c)/\Upto r.r fd 0):=⟨fd,y,p,q,qib _ _⟩
     clear y p q J C Z Y R d1
     obtain⟨wi,d5⟩:∃wi,wi=wr:=⟨_,rfl⟩
     subst wr
     have c4:(xl:Int)<(n:Int):=by omega
     go_wp2_with fail;clear c7
     go_loopg [4,6] E (fun kx s4 s6 wr=>∃(b:Bool) (k:Nat),s4=.bool b/\s6=.int .i64 k/\k<=E/\E - k<=kx/\Hid (∃fd,RRs w wr h S o d n fd/\(b=false->CloR S i fd/\nF fd<=c)/\(b=true->nF fd+1<=c)/\Upto r.r fd k))
     case atStart=>exact⟨b,0,rfl,rfl,Nat.zero_le _,by omega,a⟩
     case round =>
      clear a;obtain⟨A,k,rfl,rfl,hk,c9,K⟩:=hrel;obtain⟨fd,y,p,q,a7⟩:=K.out;obtain⟨-,-,-,-,-,-,-,c7⟩:=sbox y.1.bs;rw[H.out,t.out]at c7;have R:=qj y.1.bel F.out.2.2.2.1;have d1:=qj y.1.bel F.out.2.2.2.2;obtain⟨q2,-⟩:=y.1.cell a8
      have a:Hid (RRs w wr h S o d n fd/\(A=false->CloR S i fd/\nF fd<=c)/\(A=true->nF fd+1<=c)/\Upto r.r fd k):=⟨y,p,q,a7⟩
      clear y p q a7 K
      obtain⟨bx,O⟩:∃bx,Hid (isF fd xl=bx):=⟨_,rfl⟩
      rw[O.out]at q2
      cases bx
      ·have B:Hid (∃fd,RRs w wr h S o d n fd/\(A=false->CloR S (i+1) fd/\nF fd<=c)/\(A=true->nF fd+1<=c)):=⟨fd,a.out.1,fun e=>⟨qia (a.out.2.1 e).1 F.out.1 F.out.2.2.1 (fun v=>by rw[O.out]at v;cases v),(a.out.2.1 e).2⟩,a.out.2.2.1⟩
       go_wp2_with fail;go_roundg (s - (i+1))
       case measure=>omega
       case rel=>exact⟨A,i+1,rfl,by simp,by omega,by omega,Nat.le_refl _,B⟩
      ·by_cases a2:k<E
       ·have X:(k:Int)<(E:Int):=by omega
        obtain⟨z,hz⟩:∃z,r.r[k]?=some z:=⟨r.r[k]'(by rw[Q.out];exact a2),List.getElem?_eq_getElem _⟩
        obtain⟨b2,o2,b8,q1⟩:=vj (F.out.2.1.below a.out.1.1.bel) hz;subst b8
        have a9:z<n:=by rw[f.out.2.2];exact(f.out.1.rr r (List.mem_of_getElem? F.out.1)).2 z (List.mem_of_getElem? hz)
        obtain⟨q3,f3⟩:=a.out.1.1.cell a9;have HZ:Hid (r.r[k]?=some z):=hz
        obtain⟨bz,P⟩:∃bz,Hid (isF fd z=bz):=⟨_,rfl⟩
        rw[P.out]at q3
        have c5:(z:Int)<(n:Int):=by omega
        clear hz
        cases bz
        ·have B:Hid (∃fd,RRs w (wr.setCell ⟨d,z,none⟩ (.bool true)) h S o d n fd/\nF fd+1<=c/\Upto r.r fd (k+1)):=by
          have G:z<fd.length:=by rw[a.out.1.1.len];exact a9
          refine⟨fd.set z true,⟨a.out.1.1.set z,fun x v=>?_,qbz G a.out.1.2.2⟩,?_,(qel HZ.out).2 ⟨fun j y hj hy=>qbz G (a.out.2.2.2 j y hj hy),by rw[k8 G,if_pos rfl]⟩⟩
          ·rw[k8 G]at v
           split at v
           ·rename_i e;subst e;exact Rch.rule i r xl x (by omega) F.out.1 F.out.2.2.1 (a.out.1.2.1 xl O.out) (List.mem_of_getElem? HZ.out)
           ·exact a.out.1.2.1 x v
          ·have:=qkc G P.out
           cases A
           ·have:=(a.out.2.1 rfl).2;omega
           ·have:=a.out.2.2.1 rfl;omega
         go_wp2_with fail;go_roundg (E - (k+1))
         case measure=>omega
         case rel =>
          obtain⟨b0,s1,s2,s3⟩:=B.out;exact⟨true,k+1,rfl,by simp,by omega,Nat.le_refl _,(⟨b0,s1,(fun e=>by cases e),fun _=>s2,s3⟩:∃fd,RRs w (wr.setCell ⟨d,z,none⟩ (.bool true)) h S o d n fd/\(true=false->CloR S i fd/\nF fd<=c)/\(true=true->nF fd+1<=c)/\Upto r.r fd (k+1))⟩
        ·have B:Hid (∃fd,RRs w wr h S o d n fd/\(A=false->CloR S i fd/\nF fd<=c)/\(A=true->nF fd+1<=c)/\Upto r.r fd (k+1)):=⟨fd,a.out.1,a.out.2.1,a.out.2.2.1,(qel HZ.out).2 ⟨a.out.2.2.2,P.out⟩⟩
         go_wp2_with fail;go_roundg (E - (k+1))
         case measure=>omega
         case rel=>exact⟨A,k+1,rfl,by simp,by omega,Nat.le_refl _,B⟩
       ·have X:¬(k:Int)<(E:Int):=by omega
        have B:Hid (∃fd,RRs w wr h S o d n fd/\(A=false->CloR S (i+1) fd/\nF fd<=c)/\(A=true->nF fd+1<=c)):=by
         have h1:=a.out.2.2.2
         have:k=r.r.length:=by rw[Q.out];omega
         rw[this]at h1;exact⟨fd,a.out.1,fun e=>⟨qia (a.out.2.1 e).1 F.out.1 F.out.2.2.1 (fun _=>qkd.1 h1),(a.out.2.1 e).2⟩,a.out.2.2.1⟩
        go_wp2_with fail;go_roundg (s - (i+1))
        case measure=>omega
        case rel=>exact⟨A,i+1,rfl,by simp,by omega,by omega,Nat.le_refl _,B⟩
    ·have a3:¬(i:Int)<(s:Int):=by omega
     have B:Hid (∃fd,RRs w wr h S o d n fd/\(b=false->CloR S s fd)/\(b=true->nF fd+1<=c)):=by
      have:i=s:=by omega
      subst this;exact⟨fd,y,fun e=>(p e).1,q⟩
     clear y p q J;go_wp2_with fail;go_roundg c
     case measure=>omega
     case rel=>exact⟨b,rfl,B⟩
def RYs (w W:World) (h:SHd) (S:Sp) (b1 yb n:Nat) (fd:List Bool):Prop:=RY w W h S b1 yb n fd/\Toks S fd/\yo S fd
theorem qi5(w:World)(h:SHd)(S:Sp)(n:Nat)(a8:n=S.tk+1+S.nt)(f:WF S)(L:IsSp w h S):
  Calls Tryz.prog 15 #[sv h S] w fun e w'=>BRes w w' n (Der S) e:=by
 have hn:n<=1000:=by have:=f.tk;have:=f.nt;omega
 have b7:S.rs.length<=300:=f.nr
 have a9:1<=S.rs.length:=by have:=(List.getElem?_eq_some_iff.1 f.hd).1;omega
 have o:Hid (WF S/\IsSp w h S/\n=S.tk+1+S.nt):=⟨f,L,a8⟩
 have F:Below w.heap.size w (w.alloc (.cells (sC h S) 31)):=qb _ _;have C:(w.alloc (.cells (sC h S) 31)).heap[w.heap.size]?=some (.cells (sC h S) 31 (0,0)):=heap_alloc_new _ _;have d6:S.tk<=100:=f.tk;have d5:S.nt<=200:=f.nt;obtain⟨rb,ro,-,-,u,-⟩:=L.rl.at f.hd;have R:Hid (h.ra=some ⟨rb,ro,none⟩):=u;have b5:=j6 L.rl;clear f L a8;unfold sv sC;rw[u];clear u
 obtain⟨s,v⟩:∃s,Hid (S.rs.length=s):=⟨_,rfl⟩
 rw[v.out]at b7 a9 b5 ⊢;go_enter Tryz.func15,Tryz.ntmps15
 go_upto_region 1 with fail
 have e0:w.alloc (.cells #[.int .i64 (S.tk:Int),.int .i64 (S.nt:Int),.int .i64 (S.st:Int),.int .i64 S.ex,.slice h.na S.nm.length h.nc,.slice h.la S.lv.length h.lc,.slice h.aa S.az.length h.ac,.slice (some ⟨rb,ro,none⟩) s h.rc] 31)=w.alloc (.cells (sC h S) 31):=by unfold sC;rw[R.out,v.out]
 rw[e0];generalize w.alloc (.cells (sC h S) 31)=W0 at F C ⊢
 obtain⟨d,a2⟩:∃d,Hid (d=w.heap.size):=⟨_,rfl⟩
 rw[<-a2.out]at C ⊢;obtain⟨c0,c1,-,-,-,-,-,-⟩:=sbox C;obtain⟨W1,B,ho,U⟩:=qgr W0 w.heap.size n hn F.size
 have p:Hid (RY w W1 h S d W0.heap.size n (List.replicate n false)):=⟨qd F U,qf U C,ho,by simp⟩
 have en:(n:Int)=(S.tk:Int)+1+(S.nt:Int):=by have:=o.out.2.2;omega
 rw[en]at B;clear e0 F C ho U a2 en
 go_upto_region 2 with fail
 clear B c0 c1;generalize W0.heap.size=c at p ⊢;obtain⟨c0,-,-,-,-,-,-,-⟩:=sbox p.out.bs
 go_upto_block 0 with fail
 clear c0
 go_cut [4] (fun s4 wd=>Hid (∃fd,RYs w wd h S d c n fd))
 case first =>
  go_wp2_with fail
  go_loopg [4] S.tk (fun kx s4 wr=>∃k:Nat,s4=.int .i64 k/\k<=S.tk/\S.tk - k<=kx/\Hid (∃fd,RY w wr h S d c n fd/\(∀x,x<k->isF fd x=true)/\∀x,isF fd x=true->x<S.tk))
  case atStart=>exact⟨0,rfl,Nat.zero_le _,by omega,(⟨_,p.out,fun x g=>absurd g (Nat.not_lt_zero _),fun x g=>by rw[qhp]at g;cases g⟩:∃fd,RY w W1 h S d c n fd/\(∀x,x<0->isF fd x=true)/\∀x,isF fd x=true->x<S.tk)⟩
  case round =>
   clear p;obtain⟨k,rfl,hk,hg,J⟩:=hrel;obtain⟨fd,y,M,h2⟩:=J.out;obtain⟨c0,-,-,-,-,-,-,-⟩:=sbox y.bs
   by_cases a7:k<S.tk
   ·have A:(k:Int)<(S.tk:Int):=by omega
    have a6:k<n:=by have:=o.out.2.2;omega
    obtain⟨d0,f0⟩:=y.cell a6
    have I:k<fd.length:=by rw[y.len];exact a6
    have m:Hid (∃fd,RY w (wr.setCell ⟨c,k,none⟩ (.bool true)) h S d c n fd/\(∀x,x<k+1->isF fd x=true)/\∀x,isF fd x=true->x<S.tk):=by
     refine⟨_,y.set k,fun x g=>?_,fun x g=>?_⟩
     ·rw[k8 I]
      split
      ·rfl
      ·exact M x (by omega)
     ·rw[k8 I]at g
      split at g
      ·omega
      ·exact h2 x g
    generalize isF fd k=bz at d0;clear y M h2 J I
    have c5:(k:Int)<(n:Int):=by omega
    go_wp2_with fail;go_roundg (S.tk - (k+1))
    case measure=>omega
    case rel=>exact⟨k+1,by simp,by omega,Nat.le_refl _,m⟩
   ·have A:¬(k:Int)<(S.tk:Int):=by omega
    have m:Hid (∃fd,RYs w wr h S d c n fd):=⟨fd,y,fun x g=>M x (by omega),fun x g=>Der.tok x (h2 x g)⟩
    clear y M h2 J;go_wp2_with fail;go_meet;exact m
 case rest =>
  obtain⟨w8,d7⟩:∃w8,w8=wc:=⟨_,rfl⟩
  subst wc;clear p;have H8:Hid (∃fd,RYs w w8 h S d c n fd):=hcut;clear hcut;go_wp2_with fail
  go_loopg [5] (n+1) (fun kx s5 wr=>∃b:Bool,s5=.bool b/\Hid (∃fd,RYs w wr h S d c n fd/\(b=false->CloY S s fd)/\(b=true->nF fd+1<=kx)))
  case atStart =>
   obtain⟨fd,y⟩:=H8.out;exact⟨true,rfl,(⟨fd,y,(fun e=>by cases e),fun _=>by have:=qqx fd;rw[y.1.len]at this;omega⟩:∃fd,RYs w w8 h S d c n fd/\(true=false->CloY S s fd)/\(true=true->nF fd+1<=n+1))⟩
  case round =>
   clear H8;obtain⟨b,rfl,J⟩:=hrel;obtain⟨E,O,V,X⟩:=J.out
   cases b
   ·have m:Hid (BRes w wr n (Der S) (.returned (.slice (some ⟨c,0,none⟩) n n))):=by
     refine⟨c,E,rfl,O.1.len,O.1.own,?_,O.1.bel⟩;have hc:=V rfl;rw[<-v.out]at hc;exact qex (fun i r x h0 B I ha=>hc i r x h0 (List.getElem?_eq_some_iff.1 B).1 B I ha) O.2.2 O.2.1
    clear O V X J;go_wp2_with fail;go_ret;exact m.out
   ·obtain⟨q,a3⟩:∃q,Hid (nF E=q):=⟨_,rfl⟩
    have c9:q+1<=gk:=by rw[<-a3.out];exact X rfl
    have p:Hid (RYs w wr h S d c n E):=O;clear O V X J
    obtain⟨wo,d9⟩:∃wo,wo=wr:=⟨_,rfl⟩
    subst wr;go_wp2_with fail
    go_loopg [5,6] s (fun kx s5 s6 wr=>∃(b:Bool) (i:Nat),s5=.bool b/\s6=.int .i64 i/\1<=i/\i<=s/\s - i<=kx/\Hid (∃fd,RYs w wr h S d c n fd/\(b=false->CloY S i fd/\nF fd<=q)/\(b=true->nF fd+1<=q)))
    case atStart=>exact⟨false,1,rfl,rfl,Nat.le_refl _,a9,by omega,(⟨E,p.out,fun _=>⟨fun j r x h0 M=>by omega,by rw[a3.out];exact Nat.le_refl _⟩,(fun e=>by cases e)⟩:∃fd,RYs w wo h S d c n fd/\(false=false->CloY S 1 fd/\nF fd<=q)/\(false=true->nF fd+1<=q))⟩
    case round =>
     clear p;obtain⟨b,i,rfl,rfl,d4,hi,d2,J⟩:=hrel;obtain⟨fd,y,G,H⟩:=J.out;obtain⟨-,-,-,-,-,-,-,c7⟩:=sbox y.1.bs;rw[R.out,v.out]at c7
     by_cases a7:i<s
     ·have A:(i:Int)<(s:Int):=by omega
      obtain⟨r,B⟩:∃r,S.rs[i]?=some r:=⟨S.rs[i]'(by rw[v.out];exact a7),List.getElem?_eq_getElem _⟩
      obtain⟨f3,f4,xa,xc,u,d0,d1,-,-,a1⟩:=o.out.2.1.rl.at B;rw[R.out]at u
      cases u
      have d0:=qj y.1.bel d0;have d1:=qj y.1.bel d1;have c3:=ze a1;have b6:r.r.length<=100:=(o.out.1.rr r (List.mem_of_getElem? B)).1;obtain⟨N,Z,f1,a0⟩:=o.out.1.rl i r (by omega) B;rw[<-o.out.2.2]at a0;rw[Z]at d0
      have HR:Hid (S.rs[i]?=some r/\Row w 1 xa r.r.length xc (natC r.r)/\r.l=(N:Int)):=⟨B,a1,Z⟩
      have t:Hid (RYs w wr h S d c n fd/\(b=false->CloY S i fd/\nF fd<=q)/\(b=true->nF fd+1<=q)):=⟨y,G,H⟩
      clear y G H J B a1 Z
      obtain⟨D,T⟩:∃D,Hid (r.r.length=D):=⟨_,rfl⟩
      rw[T.out]at d1 b6 c3
      obtain⟨wi,d8⟩:∃wi,wi=wr:=⟨_,rfl⟩
      subst wr;go_wp2_with fail
      go_loopg [7,8] D (fun kx s7 s8 wr=>∃(a:Bool) (k:Nat),s7=.bool a/\s8=.int .i64 k/\k<=D/\D - k<=kx/\Hid (wr=wi/\(a=true↔Upto r.r fd k)))
      case atStart=>exact⟨true,0,rfl,rfl,Nat.zero_le _,by omega,(⟨rfl,fun _=>qib _ _,fun _=>rfl⟩:wi=wi/\(true=true↔Upto r.r fd 0))⟩
      case round =>
       obtain⟨a,k,rfl,rfl,hk,d3,K⟩:=hrel;obtain⟨b8,b0⟩:=K.out;subst b8;have HU:Hid (a=true↔Upto r.r fd k):=b0;clear K b0
       by_cases a5:k<D
       ·have Y:(k:Int)<(D:Int):=by omega
        obtain⟨z,hz⟩:∃z,r.r[k]?=some z:=⟨r.r[k]'(by rw[T.out];exact a5),List.getElem?_eq_getElem _⟩
        obtain⟨b2,o2,b9,q1⟩:=vj (HR.out.2.1.below t.out.1.1.bel) hz;subst b9
        have c4:z<n:=by rw[o.out.2.2];exact(o.out.1.rr r (List.mem_of_getElem? HR.out.1)).2 z (List.mem_of_getElem? hz)
        obtain⟨q2,-⟩:=t.out.1.1.cell c4;have HZ:Hid (Upto r.r fd (k+1)↔(Upto r.r fd k/\isF fd z=true)):=qel hz
        obtain⟨bz,Q⟩:∃bz,Hid (isF fd z=bz):=⟨_,rfl⟩
        rw[Q.out]at q2
        have c8:(z:Int)<(n:Int):=by omega
        clear hz
        cases a
        ·have m:Hid (¬Upto r.r fd (k+1)):=fun e=>by have:=HU.out.2 (HZ.out.1 e).1;cases this
         go_wp2_with fail;go_roundg (D - (k+1))
         case measure=>omega
         case rel=>exact⟨false,k+1,rfl,by simp,by omega,Nat.le_refl _,(⟨rfl,(fun e=>by cases e),fun e=>absurd e m.out⟩:wr=wr/\(false=true↔Upto r.r fd (k+1)))⟩
        ·have m:Hid (bz=true↔Upto r.r fd (k+1)):=⟨fun e=>HZ.out.2 ⟨HU.out.1 rfl,by rw[Q.out];exact e⟩,fun e=>by rw[<-Q.out];exact(HZ.out.1 e).2⟩
         go_wp2_with fail;go_roundg (D - (k+1))
         case measure=>omega
         case rel=>exact⟨bz,k+1,rfl,by simp,by omega,Nat.le_refl _,(⟨rfl,m.out⟩:wr=wr/\(bz=true↔Upto r.r fd (k+1)))⟩
       ·have Y:¬(k:Int)<(D:Int):=by omega
        have HA:Hid (a=true↔∀y∈r.r,isF fd y=true):=by
         have:k=r.r.length:=by rw[T.out];omega
         have M:=HU.out;rw[this]at M;exact M.trans qkd
        obtain⟨q2,f2⟩:=t.out.1.1.cell a0
        have c6:(N:Int)<(n:Int):=by omega
        clear HU
        obtain⟨bx,P⟩:∃bx,Hid (isF fd N=bx):=⟨_,rfl⟩
        rw[P.out]at q2
        have stay:(a=true->bx=true)->Hid (∃fd,RYs w wr h S d c n fd/\(b=false->CloY S (i+1) fd/\nF fd<=q)/\(b=true->nF fd+1<=q)):=fun b4=>⟨fd,t.out.1,fun e=>⟨qoo (t.out.2.1 e).1 HR.out.1 HR.out.2.2 (fun a4=>by rw[P.out];exact b4 (HA.out.2 a4)),(t.out.2.1 e).2⟩,t.out.2.2⟩
        cases a
        ·have m:=stay (fun e=>by cases e);clear stay;go_wp2_with fail;go_roundg (s - (i+1))
         case measure=>omega
         case rel=>exact⟨b,i+1,rfl,by simp,by omega,by omega,Nat.le_refl _,m⟩
        ·cases bx
         ·have m:Hid (∃fd,RYs w (wr.setCell ⟨c,N,none⟩ (.bool true)) h S d c n fd/\nF fd+1<=q):=by
           have I:N<fd.length:=by rw[t.out.1.1.len];exact a0
           refine⟨fd.set N true,⟨t.out.1.1.set N,fun x g=>qbz I (t.out.1.2.1 x g),fun x g=>?_⟩,?_⟩
           ·rw[k8 I]at g
            split at g
            ·rename_i e;subst e;exact Der.rule i r x (by omega) HR.out.1 HR.out.2.2 (fun y hy=>t.out.1.2.2 y (HA.out.1 rfl y hy))
            ·exact t.out.1.2.2 x g
           ·have:=qkc I P.out
            cases b
            ·have:=(t.out.2.1 rfl).2;omega
            ·have:=t.out.2.2 rfl;omega
          clear stay;go_wp2_with fail;go_roundg (s - (i+1))
          case measure=>omega
          case rel =>
           obtain⟨b3,s1,s2⟩:=m.out;exact⟨true,i+1,rfl,by simp,by omega,by omega,Nat.le_refl _,(⟨b3,s1,(fun e=>by cases e),fun _=>s2⟩:∃fd,RYs w (wr.setCell ⟨c,N,none⟩ (.bool true)) h S d c n fd/\(true=false->CloY S (i+1) fd/\nF fd<=q)/\(true=true->nF fd+1<=q))⟩
         ·have m:=stay (fun _=>rfl);clear stay;go_wp2_with fail;go_roundg (s - (i+1))
          case measure=>omega
          case rel=>exact⟨b,i+1,rfl,by simp,by omega,by omega,Nat.le_refl _,m⟩
     ·have A:¬(i:Int)<(s:Int):=by omega
      have m:Hid (∃fd,RYs w wr h S d c n fd/\(b=false->CloY S s fd)/\(b=true->nF fd+1<=q)):=by
       have:i=s:=by omega
       subst this;exact⟨fd,y,fun e=>(G e).1,H⟩
      clear y G H J;go_wp2_with fail;go_roundg q
      case measure=>omega
      case rel=>exact⟨b,rfl,m⟩
theorem qem{W g:World}{i b T E a k n c:Nat}{h:Option Addr}{cs:List Value}{d:Array Value}(l:Kept (fun k=>k=i\/blk h=some k) W g)(o:W.ownsRow a E k (.slice h n c) n cs)(f:W.heap[b]?=some (.cells d T (0,0)))(j:T≠E)(m:b≠i):g.heap[b]?=some (.cells d T (0,0)):=by
 rw[l.block b (Array.getElem?_eq_some_iff.1 f).1 (fun e=>?_)]
 ·exact f
 ·rcases e with e | e
  ·exact m e
  ·exact qr ⟨_,f⟩ (qw o e).2.2 j rfl
theorem SB.addTwo{w W:World}{r:Nat}{h:SHd}{S:Sp}{qs:List (SR × Option Addr × Nat)}(s:SB w W r h S qs)(x:ByteArray)(l:List ByteArray)(b o m c n:Nat)(en:S.nm.length=n)(hl:l.length=m)(O:Row w 1 (some ⟨b,o,none⟩) m c (strC l))(hm:0<m)(hn:n+m<9000):
  ∃g c1 t D c2 z,(Builtin.append_ #[28,28] 28 #[.slice h.na n h.nc,.slice (some ⟨W.heap.size,0,none⟩) 1 1]).run Tryz.prog (W.alloc (.cells #[.string x] 9))=.ok (.slice (some ⟨g,0,none⟩) (n+1) c1) t /\
   (Builtin.append_ #[28,28] 28 #[.slice (some ⟨g,0,none⟩) (n+1) c1,.slice (some ⟨b,o,none⟩) m c]).run Tryz.prog t=.ok (.slice D (n+1+m) c2) z /\
   z.heap[r]?=some (.cells (sC h S) 31 (0,0))/\SB w (z.setCell ⟨r,4,none⟩ (.slice D (n+1+m) c2)) r ⟨D,c2,h.la,h.lc,h.aa,h.ac,h.ra,h.rc⟩ ⟨S.tk,S.nt,S.st,S.ex,S.nm++x :: l,S.lv,S.az,S.rs⟩ qs /\
   ∀(b' T:Nat) (d:Array Value),W.heap[b']?=some (.cells d T (0,0))->T≠9->b'≠r->(z.setCell ⟨r,4,none⟩ (.slice D (n+1+m) c2)).heap[b']?=some (.cells d T (0,0)):=by
 subst en;obtain⟨g,c1,t,hr,L,X,hg⟩:=jc (us:=[.string x]) u28 i9 rfl (by decide) (by decide) rfl (fun u H=>by rw[List.mem_singleton]at H;subst H;rfl) s.nm s.bel.size (by omega)
 have K:Kept (fun k=>blk h.na=some k) W t:=((Kept.refl _ W).alloc _).trans X (fun k _ e=>zi e);have I:Below w.heap.size w t:=s.bel.trans (K.below s.bel.size (fun k X e=>by have:=(qw s.nm e).1;omega))
 have G:=O.below I;obtain⟨i0,J,Q,R,U⟩:=info_parts i9
 have f:∀j u,(strC l)[j]?=some u->t.cell? ((⟨b,o,none⟩:Addr).add j)=some u:=by
  intro j u H;obtain⟨b',o',he,hc⟩:=G.at (by omega)
  cases he
  rw[Addr.add_lit];exact hc j u H
 have C:∀u∈strC l,u.oneCell'=true:=by
  intro u H;unfold strC at H;obtain⟨y,-,rfl⟩:=List.mem_map.1 H;rfl
 have B:(strC l).length=m * 1:=by unfold strC;rw[List.length_map,hl,Nat.mul_one]
 have F:w.heap.size<=t.heap.size:=I.size;obtain⟨v',z,N,h2,h3,-⟩:=run_append_own (P:=Tryz.prog) t w.heap.size 28 28 9 i0 _ 1 16 u28 J Q R U rfl (by decide) _ _ _ L ⟨b,o,none⟩ m c (strC l) B f C (by unfold maxLen;omega) (by omega) F
 obtain⟨v1,w1,M,-,Y,a1⟩:=qai (P:=Tryz.prog) t 28 28 9 i0 _ 1 16 u28 J Q R U rfl (by decide) _ _ _ (zd L (Nat.zero_le _)) ⟨b,o,none⟩ m c (strC l) B f C (by unfold maxLen;omega) (by omega)
 rw[N]at M
 injection M with e1 V
 subst e1 V;obtain⟨D,c2,rfl,h4,h5,h6⟩:=zh h2
 have A:Kept (fun k=>blk h.na=some k) W z:=K.trans Y (fun i J e=>by
  have e:g=i:=Option.some.inj e;subst e
  rcases hg with h7 | h7
  ·exact zi h7
  ·omega)
 have stay:∀{E k n:Nat} {v:Value} {cs:List Value},W.ownsRow w.heap.size E k v n cs->E≠9->z.ownsRow w.heap.size E k v n cs:=fun L hE=>j8 L A (fun i J e=>qr (qx L J) (qw s.nm e).2.2 hE rfl)
 have a:z.heap[r]?=some (.cells (sC h S) 31 (0,0)):=by
  rw[A.block r (Array.getElem?_eq_some_iff.1 s.box).1 (fun e=>qr ⟨_,s.box⟩ (qw s.nm e).2.2 (by decide) rfl)];exact s.box
 have Z:Kept (fun k=>k=r\/blk h.na=some k) W (z.setCell ⟨r,4,none⟩ (.slice D (S.nm.length+1+m) c2)):=Kept.setCell (A.weaken (fun k e=>.inr e)) _ _ (fun _=>.inl rfl);refine⟨g,c1,t,D,c2,z,hr,N,a,⟨?_,?_,zl (stay s.lv (by decide)) a (by decide),zl (stay s.az (by decide)) a (by decide),zl (stay s.rl (by decide)) a (by decide),s.map,fun q hq=>zl (stay (s.row q hq) (by decide)) a (by decide),s.dis,?_,s.new⟩,fun b' T d hb hT a0=>qem Z s.nm hb hT a0⟩
 ·rw[ye a];unfold sC;simp;omega
 ·have e:strC (S.nm++x :: l)=strC S.nm++[.string x]++strC l:=by unfold strC;rw[List.map_append];simp
  have V:(S.nm++x :: l).length=S.nm.length+1+m:=by rw[List.length_append,List.length_cons,hl];omega
  simp only[e,V];exact zl h2 a (by decide)
 ·refine(s.bel.trans (A.below s.bel.size (fun k X e=>?_))).setCell (p:=⟨r,4,none⟩) s.new _;have:=(qw s.nm e).1;omega
structure SY (w W:World) (gb rb sb:Nat) (h:Hd) (G:Gm) (h':SHd) (S:Sp) (qs:List (SR × Option Addr × Nat)):Prop where
 sp:SB w W sb h' S qs
 gx:W.heap[gb]?=some (.cells #[.slice h.ta G.ts.length h.tc,.string G.s,.int .i64 G.e,.slice h.ra G.rs.length h.rc] 25 (0,0))
 rx:W.heap[rb]?=some (.cells zC 31 (0,0))
 ne:rb≠sb
theorem SY.step{w W b:World}{c f g:Nat}{h:Hd}{G:Gm}{d:SHd}{S:Sp}{qs:List (SR × Option Addr × Nat)}(s:SY w W c f g h G d S qs)(a:Below W.heap.size W b):SY w b c f g h G d S qs :=
 ⟨s.sp.step a,qf a s.gx,qf a s.rx,s.ne⟩
theorem SX.two{w W:World}{p q j:Nat}{h:Hd}{G:Gm}{a:SHd}{S:Sp}(s:SX w W p q j h G a S)(x:ByteArray)(l:List ByteArray)(b o m c n:Nat)(r:S.nm.length=n)(z:l.length=m)(i:Row w 1 (some ⟨b,o,none⟩) m c (strC l))(A:0<m)(B:n+m<9000):
  ∃g c1 k f c2 d,(Builtin.append_ #[28,28] 28 #[.slice a.na n a.nc,.slice (some ⟨W.heap.size,0,none⟩) 1 1]).run Tryz.prog (W.alloc (.cells #[.string x] 9))=.ok (.slice (some ⟨g,0,none⟩) (n+1) c1) k /\
   (Builtin.append_ #[28,28] 28 #[.slice (some ⟨g,0,none⟩) (n+1) c1,.slice (some ⟨b,o,none⟩) m c]).run Tryz.prog k=.ok (.slice f (n+1+m) c2) d /\
   d.cell? ⟨j,4,none⟩=some (.slice a.na n a.nc)/\d.frozen? ⟨j,4,none⟩=false/\SY w (d.setCell ⟨j,4,none⟩ (.slice f (n+1+m) c2)) p q j h G ⟨f,c2,a.la,a.lc,a.aa,a.ac,a.ra,a.rc⟩ ⟨S.tk,S.nt,S.st,S.ex,S.nm++x :: l,S.lv,S.az,S.rs⟩ []:=by
 obtain⟨g,c1,k,f,c2,d,u,v,t,y,far⟩:=s.sp.addTwo x l b o m c n r z i A B;exact⟨g,c1,k,f,c2,d,u,v,by rw[qe t];unfold sC;rw[r];rfl,qi t 4,y,far p 25 _ s.gx (by decide) (qr ⟨_,s.gx⟩ ⟨_,s.sp.box⟩ (by decide)),far q 31 _ s.rx (by decide) s.ne,s.ne⟩
theorem SY.putSt{w W:World}{b d a:Nat}{h:Hd}{G:Gm}{c:SHd}{S:Sp}{qs:List (SR × Option Addr × Nat)}(s:SY w W b d a h G c S qs)(x:Nat):SY w (W.setCell ⟨a,2,none⟩ (.int .i64 (x:Int))) b d a h G c ⟨S.tk,S.nt,x,S.ex,S.nm,S.lv,S.az,S.rs⟩ qs :=
 ⟨s.sp.putSt x,qbu s.gx (qr ⟨_,s.gx⟩ ⟨_,s.sp.box⟩ (by decide)),qbu s.rx s.ne,s.ne⟩
theorem SY.addRu{w W:World}{j m i:Nat}{h:Hd}{G:Gm}{b:SHd}{S:Sp}{qs:List (SR × Option Addr × Nat)}(s:SY w W j m i h G b S qs)(q:SR × Option Addr × Nat)(n:Nat)(o:S.rs.length=n)(u:W.ownsRow w.heap.size 3 1 (.slice q.2.1 q.1.r.length q.2.2) q.1.r.length (natC q.1.r))(t:n<10000):
  ∃g c f,(Builtin.append_ #[29,29] 29 #[.slice b.ra n b.rc,.slice (some ⟨W.heap.size,0,none⟩) 1 1]).run Tryz.prog (W.alloc (.cells #[.int .i64 q.1.l,.slice q.2.1 q.1.r.length q.2.2,.int .i64 q.1.lv,.int .i64 q.1.a] 47))=.ok (.slice (some ⟨g,0,none⟩) (n+1) c) f /\
   f.cell? ⟨i,7,none⟩=some (.slice b.ra n b.rc)/\f.frozen? ⟨i,7,none⟩=false/\SY w (f.setCell ⟨i,7,none⟩ (.slice (some ⟨g,0,none⟩) (n+1) c)) j m i h G ⟨b.na,b.nc,b.la,b.lc,b.aa,b.ac,some ⟨g,0,none⟩,c⟩ ⟨S.tk,S.nt,S.st,S.ex,S.nm,S.lv,S.az,S.rs++[q.1]⟩ (qs++[q]):=by
 subst o;obtain⟨g,c,f,v,d,p,k⟩:=s.sp.addRu q u t;exact⟨g,c,f,v,by rw[qe d];rfl,qi d 7,p,qem k s.sp.rl s.gx (by decide) (qr ⟨_,s.gx⟩ ⟨_,s.sp.box⟩ (by decide)),qem k s.sp.rl s.rx (by decide) s.ne,s.ne⟩
def ry0 (G:Gm) (k:Nat):Sp:=⟨G.ts.length,(lfs G.rs).length,0,G.e,(G.ts.take k).map (·.n),(G.ts.take k).map (·.l),(G.ts.take k).map (·.a),[]⟩
def ry1 (G:Gm):Sp:=⟨G.ts.length,(lfs G.rs).length,stG G,G.e,nmG G,G.ts.map (·.l),G.ts.map (·.a),[]⟩
def ry2 (G:Gm) (k:Nat):Sp:=⟨G.ts.length,(lfs G.rs).length,stG G,G.e,nmG G,G.ts.map (·.l),G.ts.map (·.a),⟨-1,[stG G],0,0⟩ :: (G.rs.take k).map (ruG G)⟩
theorem qrp(G:Gm):ry2 G G.rs.length=spG G:=by
 unfold ry2 spG;rw[List.take_of_length_le (Nat.le_refl _)]
theorem jy{g:Array Oper}{o:Oper}{a:Act}{w:World}{K:Act->World->Prop}{Q:Exit->Act->World->Prop}{E:Prop}(l:o.guard=none)(f:FuncId)(args:Array Value)(v:Option Addr->Nat->Value)(P:Option Addr->Nat->World->Prop)(d:(execOp a.eval o).run Tryz.prog w=.ok (.enter f args) w)(k:Calls Tryz.prog f args w fun e h=>∃b c,e=.returned (v b c)/\P b c h)(j:∀b c h,P b c h->K (a.put o.dst (v b c)) h):
  if Region.wanted o (yielded g a.tmps)=true then Oper.wp Tryz.prog o a w K Q else E:=by
 have p:Region.wanted o (yielded g a.tmps)=true:=by simp[Region.wanted,l]
 rw[if_pos p];unfold Oper.wp;rw[d,Oper.upon_enter]
 refine k.mono fun e i m=>?_
 obtain⟨b,c,rfl,n⟩:=m;exact j b c i n
structure NSp (S:Sp) (n:Nat):Prop where
 wf:WF S
 nn:n=S.tk+1+S.nt
 sy:∀r∈S.rs,∀y∈r.r,y<n/\y≠S.tk
 rc:∀x,S.tk<x->x<n->Rch S x
 nr:S.rs.length<=40
 ln:∀r∈S.rs,r.r.length<=20
structure N1 (w W:World) (h:SHd) (S:Sp) (n b1 vb fb eb:Nat) (Ed:List Bool):Prop where
 bel:Below w.heap.size w W
 x1:W.heap[b1]?=some (.cells (sC h S) 31 (0,0))
 x2:W.heap[vb]?=some (.cells #[.pointer (some ⟨fb,0,none⟩)] 44 (0,0))
 x3:W.heap[fb]?=some (.cells #[.int .i64 (S.tk:Int),.slice (some ⟨eb,0,none⟩) n n,.slice none 0 0] 78 (0,0))
 el:Ed.length=n
 em:W.ownsRow w.heap.size 4 1 (.slice (some ⟨eb,0,none⟩) n n) n (booC Ed)
 nu:∀x,isF Ed x=true↔Nul S x
 ge:w.heap.size<=b1/\w.heap.size<=vb/\w.heap.size<=fb
theorem qst{w U:World}{h:SHd}{S:Sp}{n g a f j:Nat}{d:List Bool}(r:Below w.heap.size w U)(m:U.heap[g]?=some (.cells (sC h S) 31 (0,0)))(b:U.heap[a]?=some (.cells #[.pointer none] 44 (0,0)))(o:U.heap[f]?=some (.cells #[.int .i64 (S.tk:Int),.slice (some ⟨j,0,none⟩) n n,.slice none 0 0] 78 (0,0)))(k:d.length=n)(c:U.ownsRow w.heap.size 4 1 (.slice (some ⟨j,0,none⟩) n n) n (booC d))(l:∀x,isF d x=true↔Nul S x)(q:w.heap.size<=g/\w.heap.size<=a/\w.heap.size<=f):N1 w (U.setCell ⟨a,0,none⟩ (.pointer (some ⟨f,0,none⟩))) h S n g a f j d:=by
 refine⟨r.setCell (p:=⟨a,0,none⟩) q.2.1 _,?_,?_,?_,k,?_,l,q⟩
 ·rw[Below.heap_setCell _ _ _ _ (qr ⟨_,m⟩ ⟨_,b⟩ (by decide))];exact m
 ·rw[setCell_eq_setRow U a 0 _ 44 (0,0) _ b];exact setRow_heap _ _ _ _ 44 _ b
 ·rw[Below.heap_setCell _ _ _ _ (qr ⟨_,o⟩ ⟨_,b⟩ (by decide))];exact o
 ·exact qh c (fun i s=>Below.heap_setCell _ _ _ _ (qr (qx c s) ⟨_,b⟩ (by decide)))
theorem n1_a{w V:World}{h:SHd}{S:Sp}{n d b:Nat}{c:List Bool}(j:Below w.heap.size w V)(k:V.heap[d]?=some (.cells (sC h S) 31 (0,0)))(l:w.heap.size<=d)(f:c.length=n)(g:V.ownsRow w.heap.size 4 1 (.slice (some ⟨b,0,none⟩) n n) n (booC c))(i:∀x,isF c x=true↔Nul S x):N1 w ((V.alloc (.cells #[.int .i64 (S.tk:Int),.slice (some ⟨b,0,none⟩) n n,.slice none 0 0] 78)).alloc (.cells #[.pointer (some ⟨V.heap.size,0,none⟩)] 44)) h S n d (V.heap.size+1) V.heap.size b c:=by
 have a:Below V.heap.size V ((V.alloc (.cells #[.int .i64 (S.tk:Int),.slice (some ⟨b,0,none⟩) n n,.slice none 0 0] 78)).alloc (.cells #[.pointer (some ⟨V.heap.size,0,none⟩)] 44)):=qd (qb _ _) (qb _ _);have m:=j.size;refine⟨qd j a,qf a k,?_,qf (qb _ _) (heap_alloc_new _ _),f,zw g a,i,⟨l,by omega,by omega⟩⟩;have:=heap_alloc_new (V.alloc (.cells #[.int .i64 (S.tk:Int),.slice (some ⟨b,0,none⟩) n n,.slice none 0 0] 78)) (.cells #[.pointer (some ⟨V.heap.size,0,none⟩)] 44);rw[qt]at this;exact this
theorem n1_b{w V:World}{h:SHd}{S:Sp}{n d b:Nat}{c:List Bool}(j:Below w.heap.size w V)(k:V.heap[d]?=some (.cells (sC h S) 31 (0,0)))(l:w.heap.size<=d)(f:c.length=n)(g:V.ownsRow w.heap.size 4 1 (.slice (some ⟨b,0,none⟩) n n) n (booC c))(i:∀x,isF c x=true↔Nul S x):N1 w ((V.alloc (.cells #[.pointer (some ⟨V.heap.size+1,0,none⟩)] 44)).alloc (.cells #[.int .i64 (S.tk:Int),.slice (some ⟨b,0,none⟩) n n,.slice none 0 0] 78)) h S n d V.heap.size (V.heap.size+1) b c:=by
 have a:Below V.heap.size V ((V.alloc (.cells #[.pointer (some ⟨V.heap.size+1,0,none⟩)] 44)).alloc (.cells #[.int .i64 (S.tk:Int),.slice (some ⟨b,0,none⟩) n n,.slice none 0 0] 78)):=qd (qb _ _) (qb _ _);have m:=j.size;refine⟨qd j a,qf a k,qf (qb _ _) (heap_alloc_new _ _),?_,f,zw g a,i,⟨l,by omega,by omega⟩⟩;have:=heap_alloc_new (V.alloc (.cells #[.pointer (some ⟨V.heap.size+1,0,none⟩)] 44)) (.cells #[.int .i64 (S.tk:Int),.slice (some ⟨b,0,none⟩) n n,.slice none 0 0] 78);rw[qt]at this;exact this
theorem n1_c{w V:World}{h:SHd}{S:Sp}{n f d c:Nat}{b:List Bool}(l:Below w.heap.size w V)(m:V.heap[f]?=some (.cells (sC h S) 31 (0,0)))(o:w.heap.size<=f)(g:b.length=n)(i:V.ownsRow w.heap.size 4 1 (.slice (some ⟨c,0,none⟩) n n) n (booC b))(j:∀x,isF b x=true↔Nul S x)(p:V.heap[d]?=some (.cells #[.pointer none] 44 (0,0)))(k:w.heap.size<=d):N1 w ((V.alloc (.cells #[.int .i64 (S.tk:Int),.slice (some ⟨c,0,none⟩) n n,.slice none 0 0] 78)).setCell ⟨d,0,none⟩ (.pointer (some ⟨V.heap.size,0,none⟩))) h S n f d V.heap.size c b:=by
 have a:Below V.heap.size V (V.alloc (.cells #[.int .i64 (S.tk:Int),.slice (some ⟨c,0,none⟩) n n,.slice none 0 0] 78)):=qb _ _;exact qst (qd l a) (qf a m) (qf a p) (heap_alloc_new _ _) g (zw i a) j ⟨o,k,l.size⟩
structure N3 (w W:World) (h:SHd) (S:Sp) (n b1 vb fb g c:Nat) (p:FP) (E:List Bool) (WL:List (List Nat)):Prop where
 bel:Below w.heap.size w W
 x1:W.heap[b1]?=some (.cells (sC (shR h g c) (noH S)) 31 (0,0))
 x2:W.heap[vb]?=some (.cells #[.pointer (some ⟨fb,0,none⟩)] 44 (0,0))
 fm:FM W w.heap.size fb p n S.tk E WL
 isp:IsSp W (shR h g c) (noH S)
 gb:∃qs:List QR,qs.map (·.1)=(noH S).rs/\W.ownsRow w.heap.size 47 4 (.slice (some ⟨g,0,none⟩) (noH S).rs.length c) (noH S).rs.length (srC qs)/\∀q∈qs,Row w 1 q.2.1 q.1.r.length q.2.2 (natC q.1.r)
theorem qqd{W:World}{B b h s n u:Nat}{g:List Bool}(o:W.heap[b]?=some (.cells #[.int .i64 (u:Int),.slice (some ⟨h,0,none⟩) n n,.slice none 0 0] 78 (0,0)))(p:B<=b)(m:g.length=n)(c:W.ownsRow B 4 1 (.slice (some ⟨h,0,none⟩) n n) n (booC g))(f:Grd W B s (List.replicate (2 * n) (none,0)) (List.replicate (2 * n) [])):
  FM (W.setCell ⟨b,2,none⟩ (.slice (some ⟨s,0,none⟩) (2 * n) (2 * n))) B b ⟨h,s,2 * n,List.replicate (2 * n) (none,0)⟩ n u g (List.replicate (2 * n) []):=by
 have a:∀{T k:Nat},Loc W k T->T≠78->k≠b:=fun r y=>qr r ⟨_,o⟩ y
 refine⟨?_,p,m,?_,f.len,?_,fun x q l v r=>?_,f.dis⟩
 ·rw[setCell_eq_setRow W b 2 _ 78 (0,0) _ o,List.length_replicate];exact setRow_heap _ _ _ _ 78 _ o
 ·exact qh c (fun i d=>Below.heap_setCell _ _ _ _ (a (qx c d) (by decide)))
 ·have j:=f.bod;rw[List.length_replicate]at j ⊢;exact qh j (fun i d=>Below.heap_setCell _ _ _ _ (a (qx j d) (by decide)))
 ·have t:=f.row x q l v r;exact qh t (fun i d=>Below.heap_setCell _ _ _ _ (a (qx t d) (by decide)))
theorem qgs(w:World)(h:SHd)(S:Sp)(n:Nat)(hs:NSp S n)(k6:IsSp w h S):
  Calls Tryz.prog 17 #[sv h S] w fun e w'=>∃f p E WL,e=.returned (.pointer (some ⟨f,0,none⟩))/\FS w' w.heap.size f p n S E WL/\Below w.heap.size w w':=by
 have HX:Hid (NSp S n/\IsSp w h S):=⟨hs,k6⟩
 have p8:0<S.rs.length:=(List.getElem?_eq_some_iff.1 hs.wf.hd).1;have p9:S.rs.length<=40:=hs.nr;have k0:Below w.heap.size w (w.alloc (.cells (sC h S) 31)):=qb _ _;have f3:(w.alloc (.cells (sC h S) 31)).heap[w.heap.size]?=some (.cells (sC h S) 31 (0,0)):=heap_alloc_new _ _
 have r2:(S.tk:Int)<(n:Int):=by have:=hs.nn;omega
 have q7:n<=301:=by have:=hs.nn;have:=hs.wf.tk;have:=hs.wf.nt;omega
 have l3:Hid (∀V:World,Below w.heap.size w V->Calls Tryz.prog 38 #[.agg #[.int .i64 (S.tk:Int),.int .i64 (S.nt:Int),.int .i64 (S.st:Int),.int .i64 S.ex,.slice h.na S.nm.length h.nc,.slice h.la S.lv.length h.lc,.slice h.aa S.az.length h.ac,.slice h.ra S.rs.length h.rc]] V fun e w'=>∃(xa:Option Addr) (xc:Nat),e=.returned (.slice xa n n)/\∃C o,xa=some ⟨C,0,none⟩/\(o:List Bool).length=n/\w'.ownsRow w.heap.size 4 1 (.slice (some ⟨C,0,none⟩) n n) n (booC o)/\(∀x,isF o x=true↔Nul S x)/\Below V.heap.size V w'):=fun V hV=>(qi0 V h S n hs.nn hs.wf (k6.below hV)).mono (fun e w' ⟨C,o,h1,h2,h3,h4,h5⟩=>⟨_,0,h1,C,o,rfl,h2,zd h3 hV.size,h4,h5⟩)
 clear hs k6;unfold sv;have e1:sC h S=#[.int .i64 (S.tk:Int),.int .i64 (S.nt:Int),.int .i64 (S.st:Int),.int .i64 S.ex,.slice h.na S.nm.length h.nc,.slice h.la S.lv.length h.lc,.slice h.aa S.az.length h.ac,.slice h.ra S.rs.length h.rc]:=rfl;rw[e1];go_enter Tryz.func17,Tryz.ntmps17
 go_upto_region 1 with fail
 rw[<-e1];clear e1;generalize w.alloc (.cells (sC h S) 31)=W0 at k0 f3 ⊢
 obtain⟨z,l2⟩:∃z,Hid (z=w.heap.size):=⟨_,rfl⟩
 rw[<-l2.out]at f3 ⊢;obtain⟨c0,c1,c2,c3,c4,c5,c6,c7⟩:=sbox f3
 have N:Hid (Below w.heap.size w W0/\W0.heap[z]?=some (.cells (sC h S) 31 (0,0))/\w.heap.size<=z):=⟨k0,f3,by rw[l2.out];exact Nat.le_refl _⟩
 clear k0 f3
 go_cut [3] (fun s3 wd=>∃Y f C:Nat,s3=.pointer (some ⟨Y,0,none⟩)/\Hid (∃o,N1 w wd h S n z Y f C o))
 case first =>
  refine wp_region_held_drew (S:=fun w'=>w'.heap[z]?=some (.cells (sC h S) 31 (0,0))/\True) (by kernel_rfl) ⟨N.out.2.1,trivial⟩ (fun d=>?_);refine wpAnyH_take (i:=0) (v:=.pointer (some ⟨z,0,none⟩)) rfl (by kernel_rfl) (by kernel_rfl) (by kernel_rfl) (fun _ _ _ h=>h) (Or.inl ⟨by rfl,fun w9 s=>?_⟩) d ?_
  ·(obtain⟨F,-⟩:=s;obtain⟨z0,z1,z2,z3,z4,z5,z6,z7⟩:=sbox F;go_simp)
  simp only[Act.put];refine wpAnyH_take (i:=1) (v:=.int .i64 (S.tk:Int)) rfl (by kernel_rfl) (by kernel_rfl) (by kernel_rfl) (fun _ _ _ h=>h) (Or.inl ⟨by rfl,fun w9 s=>?_⟩) d ?_
  ·(obtain⟨F,-⟩:=s;obtain⟨z0,z1,z2,z3,z4,z5,z6,z7⟩:=sbox F;go_simp)
  simp only[Act.put];refine wpAnyH_take (i:=2) (v:=.agg #[.int .i64 (S.tk:Int),.int .i64 (S.nt:Int),.int .i64 (S.st:Int),.int .i64 S.ex,.slice h.na S.nm.length h.nc,.slice h.la S.lv.length h.lc,.slice h.aa S.az.length h.ac,.slice h.ra S.rs.length h.rc]) rfl (by kernel_rfl) (by kernel_rfl) (by kernel_rfl) (fun _ _ _ h=>h) (Or.inl ⟨by rfl,fun w9 s=>?_⟩) d ?_
  ·(obtain⟨F,-⟩:=s;obtain⟨z0,z1,z2,z3,z4,z5,z6,z7⟩:=sbox F;go_simp)
  simp only[Act.put];refine wpAnyH_ready (rs:=[3,6]) (by kernel_rfl) (by simp) ?_;refine AllReadyH.cons rfl (fun K A=>?_) (AllReadyH.cons rfl (fun K A=>?_) AllReadyH.nil)
  ·refine jy rfl 38 #[.agg #[.int .i64 (S.tk:Int),.int .i64 (S.nt:Int),.int .i64 (S.st:Int),.int .i64 S.ex,.slice h.na S.nm.length h.nc,.slice h.la S.lv.length h.lc,.slice h.aa S.az.length h.ac,.slice h.ra S.rs.length h.rc]] (fun xa _=>.slice xa n n) (fun xa _ V=>∃C o,xa=some ⟨C,0,none⟩/\(o:List Bool).length=n/\V.ownsRow w.heap.size 4 1 (.slice (some ⟨C,0,none⟩) n n) n (booC o)/\(∀x,isF o x=true↔Nul S x)/\Below (W0.drew).heap.size (W0.drew) V) (by simp[Act.eval,go_sem]) (l3.out _ (qd N.out.1 (qk _))) (fun xa _ V hV=>?_);obtain⟨C,o,rfl,c8,c9,d7,hb⟩:=hV
   have H:Hid (Below w.heap.size w V/\V.heap[z]?=some (.cells (sC h S) 31 (0,0))/\o.length=n/\V.ownsRow w.heap.size 4 1 (.slice (some ⟨C,0,none⟩) n n) n (booC o)/\∀x,isF o x=true↔Nul S x):=⟨qd (qd N.out.1 (qk _)) hb,qf hb N.out.2.1,c8,c9,d7⟩
   refine A.out _ _ ⟨H.out.2.1,trivial⟩ (fun d=>?_);clear A K c8 c9 d7 hb;simp only[Act.put];refine wpAnyH_take (i:=4) (v:=.agg #[.int .i64 (S.tk:Int),.slice (some ⟨C,0,none⟩) n n,.slice none 0 0]) rfl (by kernel_rfl) (by kernel_rfl) (by kernel_rfl) (fun _ _ _ h=>h) (Or.inl ⟨by rfl,fun w9 s=>?_⟩) d ?_
   ·(obtain⟨F,-⟩:=s;obtain⟨z0,z1,z2,z3,z4,z5,z6,z7⟩:=sbox F;go_simp)
   simp only[Act.put];refine wpAnyH_ready (rs:=[5,6]) (by kernel_rfl) (by simp) ?_;refine AllReadyH.cons rfl (fun K A=>?_) (AllReadyH.cons rfl (fun K A=>?_) AllReadyH.nil)
   ·go_simp
    refine A.out _ _ ⟨qf (qb _ _) H.out.2.1,trivial⟩ (fun d=>?_);clear A K;refine wpAnyH_ready (rs:=[6]) (by kernel_rfl) (by simp) ?_;refine AllReadyH.cons rfl (fun K A=>?_) AllReadyH.nil
    go_simp
    refine A.out _ _ ⟨qf (qd (qb _ _) (qb _ _)) H.out.2.1,trivial⟩ (fun d=>?_);clear A K;have HN:Hid (N1 w ((V.alloc (.cells #[.int .i64 (S.tk:Int),.slice (some ⟨C,0,none⟩) n n,.slice none 0 0] 78)).alloc (.cells #[.pointer (some ⟨V.heap.size,0,none⟩)] 44)) h S n z (V.heap.size+1) (V.heap.size) C o):=n1_a H.out.1 H.out.2.1 N.out.2.2 H.out.2.2.1 H.out.2.2.2.1 H.out.2.2.2.2;refine wpAnyH_ready (rs:=[7]) (by kernel_rfl) (by simp) ?_;refine AllReadyH.cons rfl (fun K A=>?_) AllReadyH.nil
    go_simp
    refine A.out _ _ ⟨HN.out.x1,trivial⟩ (fun d=>?_);clear A K;refine wpAnyH_done (by kernel_rfl) ?_ _;go_wp2_with fail;go_meet;exact⟨_,_,C,rfl,(⟨o,HN.out⟩:∃o,N1 w _ h S n z _ _ C o)⟩
   ·go_simp
    refine A.out _ _ ⟨qf (qb _ _) H.out.2.1,trivial⟩ (fun d=>?_);clear A K;refine wpAnyH_ready (rs:=[5]) (by kernel_rfl) (by simp) ?_;refine AllReadyH.cons rfl (fun K A=>?_) AllReadyH.nil
    go_simp
    refine A.out _ _ ⟨qf (qd (qb _ _) (qb _ _)) H.out.2.1,trivial⟩ (fun d=>?_);clear A K;have HN:Hid (N1 w ((V.alloc (.cells #[.pointer (some ⟨V.heap.size+1,0,none⟩)] 44)).alloc (.cells #[.int .i64 (S.tk:Int),.slice (some ⟨C,0,none⟩) n n,.slice none 0 0] 78)) h S n z (V.heap.size) (V.heap.size+1) C o):=n1_b H.out.1 H.out.2.1 N.out.2.2 H.out.2.2.1 H.out.2.2.2.1 H.out.2.2.2.2;refine wpAnyH_ready (rs:=[7]) (by kernel_rfl) (by simp) ?_;refine AllReadyH.cons rfl (fun K A=>?_) AllReadyH.nil
    go_simp
    refine A.out _ _ ⟨HN.out.x1,trivial⟩ (fun d=>?_);clear A K;refine wpAnyH_done (by kernel_rfl) ?_ _;go_wp2_with fail;go_meet;exact⟨_,_,C,rfl,(⟨o,HN.out⟩:∃o,N1 w _ h S n z _ _ C o)⟩
  ·go_simp
   refine A.out _ _ ⟨qf (qd (qb _ _) (qk _)) N.out.2.1,trivial⟩ (fun d=>?_);clear A K;refine wpAnyH_ready (rs:=[3]) (by kernel_rfl) (by simp) ?_;refine AllReadyH.cons rfl (fun K A=>?_) AllReadyH.nil;refine jy rfl 38 #[.agg #[.int .i64 (S.tk:Int),.int .i64 (S.nt:Int),.int .i64 (S.st:Int),.int .i64 S.ex,.slice h.na S.nm.length h.nc,.slice h.la S.lv.length h.lc,.slice h.aa S.az.length h.ac,.slice h.ra S.rs.length h.rc]] (fun xa _=>.slice xa n n) (fun xa _ V=>∃C o,xa=some ⟨C,0,none⟩/\(o:List Bool).length=n/\V.ownsRow w.heap.size 4 1 (.slice (some ⟨C,0,none⟩) n n) n (booC o)/\(∀x,isF o x=true↔Nul S x)/\Below ((W0.alloc (.cells #[.pointer none] 44)).drew).heap.size ((W0.alloc (.cells #[.pointer none] 44)).drew) V) (by simp[Act.eval,go_sem]) (l3.out _ (qd (qd N.out.1 (qb _ _)) (qk _))) (fun xa _ V hV=>?_);obtain⟨C,o,rfl,c8,c9,d7,hb⟩:=hV
   have H:Hid (Below w.heap.size w V/\V.heap[z]?=some (.cells (sC h S) 31 (0,0))/\o.length=n/\V.ownsRow w.heap.size 4 1 (.slice (some ⟨C,0,none⟩) n n) n (booC o)/\(∀x,isF o x=true↔Nul S x)/\V.heap[W0.heap.size]?=some (.cells #[.pointer none] 44 (0,0))):=⟨qd (qd (qd N.out.1 (qb _ _)) (qk _)) hb,qf hb (qf (qd (qb _ _) (qk _)) N.out.2.1),c8,c9,d7,qf hb (qf (qk _) (heap_alloc_new _ _))⟩
   refine A.out _ _ ⟨H.out.2.1,trivial⟩ (fun d=>?_);clear A K c8 c9 d7 hb;simp only[Act.put];refine wpAnyH_take (i:=4) (v:=.agg #[.int .i64 (S.tk:Int),.slice (some ⟨C,0,none⟩) n n,.slice none 0 0]) rfl (by kernel_rfl) (by kernel_rfl) (by kernel_rfl) (fun _ _ _ h=>h) (Or.inl ⟨by rfl,fun w9 s=>?_⟩) d ?_
   ·(obtain⟨F,-⟩:=s;obtain⟨z0,z1,z2,z3,z4,z5,z6,z7⟩:=sbox F;go_simp)
   simp only[Act.put];refine wpAnyH_ready (rs:=[5]) (by kernel_rfl) (by simp) ?_;refine AllReadyH.cons rfl (fun K A=>?_) AllReadyH.nil
   go_simp
   refine A.out _ _ ⟨qf (qb _ _) H.out.2.1,trivial⟩ (fun d=>?_);clear A K;have HN:Hid (N1 w ((V.alloc (.cells #[.int .i64 (S.tk:Int),.slice (some ⟨C,0,none⟩) n n,.slice none 0 0] 78)).setCell ⟨W0.heap.size,0,none⟩ (.pointer (some ⟨V.heap.size,0,none⟩))) h S n z W0.heap.size V.heap.size C o):=n1_c H.out.1 H.out.2.1 N.out.2.2 H.out.2.2.1 H.out.2.2.2.1 H.out.2.2.2.2.1 H.out.2.2.2.2.2 (by have:=N.out.1.size;omega)
   have r3:(V.alloc (.cells #[.int .i64 (S.tk:Int),.slice (some ⟨C,0,none⟩) n n,.slice none 0 0] 78)).cell? ⟨W0.heap.size,0,none⟩=some (.pointer none):=by rw[qe (qf (qb _ _) H.out.2.2.2.2.2)];rfl
   have r4:(V.alloc (.cells #[.int .i64 (S.tk:Int),.slice (some ⟨C,0,none⟩) n n,.slice none 0 0] 78)).frozen? ⟨W0.heap.size,0,none⟩=false:=qi (qf (qb _ _) H.out.2.2.2.2.2) 0;refine wpAnyH_ready (rs:=[7]) (by kernel_rfl) (by simp) ?_;refine AllReadyH.cons rfl (fun K A=>?_) AllReadyH.nil
   go_simp
   refine A.out _ _ ⟨HN.out.x1,trivial⟩ (fun d=>?_);clear A K;refine wpAnyH_done (by kernel_rfl) ?_ _;go_wp2_with fail;go_meet;exact⟨_,_,C,rfl,(⟨o,HN.out⟩:∃o,N1 w _ h S n z _ _ C o)⟩
 case rest =>
  obtain⟨w8,r5⟩:∃w8,w8=wc:=⟨_,rfl⟩
  subst wc;obtain⟨Y,f,C,rfl,J⟩:=hcut;obtain⟨o,y⟩:=J.out
  have v0:w8.cell? ⟨Y,0,none⟩=some (.pointer (some ⟨f,0,none⟩)):=by rw[qe y.x2];rfl
  have v1:w8.cell? ⟨f,1,none⟩=some (.slice (some ⟨C,0,none⟩) n n):=by rw[qe y.x3];rfl
  obtain⟨W6,k5,m6,m3⟩:=qcj w8.drew w.heap.size (2 * n) (by omega) (qd y.bel (qk _)).size;have Z:Below w8.heap.size w8 W6:=qd (qk w8) m3;have b0:=qf Z y.x3
  have HF:Hid (FM (W6.setCell ⟨f,2,none⟩ (.slice (some ⟨w8.heap.size,0,none⟩) (2 * n) (2 * n))) w.heap.size f ⟨C,w8.heap.size,2 * n,List.replicate (2 * n) (none,0)⟩ n S.tk o (List.replicate (2 * n) [])/\Below w.heap.size w (W6.setCell ⟨f,2,none⟩ (.slice (some ⟨w8.heap.size,0,none⟩) (2 * n) (2 * n)))/\(W6.setCell ⟨f,2,none⟩ (.slice (some ⟨w8.heap.size,0,none⟩) (2 * n) (2 * n))).heap[z]?=some (.cells (sC h S) 31 (0,0))/\(W6.setCell ⟨f,2,none⟩ (.slice (some ⟨w8.heap.size,0,none⟩) (2 * n) (2 * n))).heap[Y]?=some (.cells #[.pointer (some ⟨f,0,none⟩)] 44 (0,0))/\∀x,isF o x=true↔Nul S x):=by
   refine⟨qqd b0 y.ge.2.2 y.el (zw y.em Z) m6,(qd y.bel Z).setCell (p:=⟨f,2,none⟩) y.ge.2.2 _,?_,?_,y.nu⟩
   ·rw[Below.heap_setCell _ _ _ _ (qr ⟨_,qf Z y.x1⟩ ⟨_,b0⟩ (by decide))];exact qf Z y.x1
   ·rw[Below.heap_setCell _ _ _ _ (qr ⟨_,qf Z y.x2⟩ ⟨_,b0⟩ (by decide))];exact qf Z y.x2
  have u0:W6.cell? ⟨Y,0,none⟩=some (.pointer (some ⟨f,0,none⟩)):=qj Z v0;have u1:W6.cell? ⟨f,1,none⟩=some (.slice (some ⟨C,0,none⟩) n n):=qj Z v1
  have u2:W6.cell? ⟨f,2,none⟩=some (.slice none 0 0):=by rw[qe b0];rfl
  have g2:=qi b0 2
  have p7:(Instr.makeSlice 38 (.int .i64 (2 * (n:Int))) (.int .i64 (2 * (n:Int)))).run Tryz.prog w8.drew=.ok (.slice (some ⟨w8.heap.size,0,none⟩) (2 * n) (2 * n)) W6:=by
   have e:((2 * n:Nat):Int)=2 * (n:Int):=by omega
   rw[e]at k5;exact k5
  have H:Hid (w.heap.size<=z/\w.heap.size<=Y/\w.heap.size<=f):=y.ge;clear y J m6 m3 Z b0 k5
  go_upto_region 2 with fail
  go_region
  go_upto_region 3 with fail
  clear p7 u0 u1 u2 g2 v0 v1;generalize W6.setCell ⟨f,2,none⟩ (.slice (some ⟨w8.heap.size,0,none⟩) (2 * n) (2 * n))=W7 at HF ⊢
  obtain⟨p0,l8⟩:∃p0:FP,Hid (p0=⟨C,w8.heap.size,2 * n,List.replicate (2 * n) (none,0)⟩):=⟨_,rfl⟩
  rw[<-l8.out]at HF;have I:Hid (FM W7 w.heap.size f p0 n S.tk o (List.replicate (2 * n) [])/\Below w.heap.size w W7/\W7.heap[z]?=some (.cells (sC h S) 31 (0,0))/\W7.heap[Y]?=some (.cells #[.pointer (some ⟨f,0,none⟩)] 44 (0,0))/\∀x,isF o x=true↔Nul S x):=HF.out;clear HF l8;obtain⟨qs,a4,f0,n8⟩:=qoh HX.out.2.rl
  have HQ:Hid (qs.map (·.1)=S.rs/\∀q∈qs,Row w 1 q.2.1 q.1.r.length q.2.2 (natC q.1.r)/\q.1.r.length<=1000/\∀y∈q.1.r,y≠S.tk/\y<n):=⟨a4,fun q hq=>by
   have h1:q.1∈S.rs:=by rw[<-a4];exact List.mem_map_of_mem hq
   have h2:=HX.out.1.ln q.1 h1
   exact⟨n8 q hq,by omega,fun y hy=>⟨(HX.out.1.sy q.1 h1 y hy).2,(HX.out.1.sy q.1 h1 y hy).1⟩⟩⟩
  have o8:Hid (Row w 4 h.ra S.rs.length h.rc (srC qs)):=f0;have r0:=ze f0;clear a4 f0 n8;obtain⟨-,-,-,-,-,-,-,c7⟩:=sbox I.out.2.2.1;go_wp2_with fail;refine(qe4 W7 qs h.ra S.rs.length h.rc (o8.out.below I.out.2.1) p8 (by omega)).mono ?_;rintro e W8 ⟨g,c,rfl,a9,b8⟩;clear c7;have q5:W7.heap.size<=g:=(qw a9 (b:=g) rfl).1;have q6:=z8 a9
  have b5:Hid (FM W8 w.heap.size f p0 n S.tk o (List.replicate (2 * n) [])/\Below w.heap.size w W8/\W8.heap[z]?=some (.cells (sC h S) 31 (0,0))/\W8.heap[Y]?=some (.cells #[.pointer (some ⟨f,0,none⟩)] 44 (0,0))/\W8.ownsRow W7.heap.size 47 4 (.slice (some ⟨g,0,none⟩) S.rs.length c) S.rs.length (srC qs)/\z<g/\Y<g/\w.heap.size<=g/\∀k,FK f p0 k->k<g):=⟨I.out.1.below b8,qd I.out.2.1 b8,qf b8 I.out.2.2.1,qf b8 I.out.2.2.2.1,a9,by have:=(Array.getElem?_eq_some_iff.1 I.out.2.2.1).1;omega,by have:=(Array.getElem?_eq_some_iff.1 I.out.2.2.2.1).1;omega,by have:=I.out.2.1.size;omega,fun k hk=>by have:=(I.out.1.lt hk).2.1;omega⟩
  clear a9 b8
  have v0:W8.cell? ⟨Y,0,none⟩=some (.pointer (some ⟨f,0,none⟩)):=by rw[qe b5.out.2.2.2.1];rfl
  go_wp2_with fail;refine(qh4 41 #[.pointer (some ⟨Y,0,none⟩)] qp4 (fun q=>!okL S.tk n q.1) W8 qs W7.heap.size g S.rs.length c b5.out.2.2.2.2.1 (by omega) (fun V hV q hq=>?_)).mono ?_
  ·obtain⟨g1,g2,g3,g4,g5,g6,g7,g8,g9⟩:=b5.out;have hF:=g1.kept hV (fun j hj e=>by have:=g9 j hj;omega)
   have h2:V.heap[Y]?=some (.cells #[.pointer (some ⟨f,0,none⟩)] 44 (0,0)):=by
    rw[hV.block Y (Array.getElem?_eq_some_iff.1 g4).1 (fun e=>by omega)];exact g4
   have h6:Below w.heap.size w V:=g2.trans (hV.below g2.size (fun k hk e=>by omega));exact qol V Y f S.tk n n _ (by rw[qe h2];rfl) hF.c0 hF.c1 q ((HQ.out.2 q hq).1.below h6) (HQ.out.2 q hq).2.1 (HQ.out.2 q hq).2.2
  rintro e W9 ⟨m,rfl,q2,a2,d6⟩;clear v0;obtain⟨g1,g2,g3,g4,g5,g6,g7,g8,g9⟩:=b5.out;have m9:Below w.heap.size w W9:=g2.trans (d6.below g2.size (fun k hk e=>by omega))
  have M:W9.heap[z]?=some (.cells (sC h S) 31 (0,0)):=by
   rw[d6.block z (Array.getElem?_eq_some_iff.1 g3).1 (fun e=>by omega)];exact g3
  have k7:W9.heap[Y]?=some (.cells #[.pointer (some ⟨f,0,none⟩)] 44 (0,0)):=by
   rw[d6.block Y (Array.getElem?_eq_some_iff.1 g4).1 (fun e=>by omega)];exact g4
  have k1:=g1.kept d6 (fun j hj e=>by have:=g9 j hj;omega)
  have c7:W9.cell? ⟨z,7,none⟩=some (.slice h.ra S.rs.length h.rc):=by obtain⟨-,-,-,-,-,-,-,c7⟩:=sbox M;exact c7
  have f7:=qi M 7
  have n4:(qs.filter (fun q=>!(fun q:QR=>!okL S.tk n q.1) q))=qs.filter (fun q=>okL S.tk n q.1):=by
   congr 1
   funext q;simp
  rw[n4]at a2;have d4:=qbi HQ.out.1 (okL S.tk n);have k3:=HX.out.1.nn
  have d9:S.rs.filter (okL S.tk n)=S.rs.drop 1:=by rw[k3];exact qpv HX.out.1.wf
  rw[d9]at d4
  have h7:m=(noH S).rs.length:=by
   have h1:=a2.1;rw[jq]at h1;have h2:=congrArg List.length d4;rw[List.length_map]at h2;have h3:m=(qs.filter (fun q=>okL S.tk n q.1)).length:=Nat.eq_of_mul_eq_mul_right (by decide:0<4) h1.symm;rw[h3];exact h2
  have L:Hid (N3 w (W9.setCell ⟨z,7,none⟩ (.slice (some ⟨g,0,none⟩) m c)) h S n z Y f g c p0 o (List.replicate (2 * n) [])/\(∀k,FK f p0 k->k<g)/\∀x,isF o x=true↔Nul S x):=by
   have p6:g≠z:=by omega
   have f1:(W9.setCell ⟨z,7,none⟩ (.slice (some ⟨g,0,none⟩) m c)).ownsRow w.heap.size 47 4 (.slice (some ⟨g,0,none⟩) m c) m (srC (qs.filter (fun q=>okL S.tk n q.1))):=zd (qh a2 (fun j hj=>by
    cases hj
    exact Below.heap_setCell _ _ _ _ p6)) (I.out.2.1.size)
   have b9:Below w.heap.size w (W9.setCell ⟨z,7,none⟩ (.slice (some ⟨g,0,none⟩) m c)):=m9.setCell (p:=⟨z,7,none⟩) H.out.1 _
   have f2:∀q∈qs.filter (fun q=>okL S.tk n q.1),Row w 1 q.2.1 q.1.r.length q.2.2 (natC q.1.r):=fun q hq=>(HQ.out.2 q (List.mem_filter.1 hq).1).1
   refine⟨⟨b9,?_,?_,k1.keep (fun k hk=>Below.heap_setCell _ _ _ _ (fun e=>?_)),⟨HX.out.2.nm.below b9,HX.out.2.lv.below b9,HX.out.2.az.below b9,qs.filter (fun q=>okL S.tk n q.1),d4,?_,fun q hq=>(f2 q hq).below b9⟩,qs.filter (fun q=>okL S.tk n q.1),d4,?_,f2⟩,g9,I.out.2.2.2.2⟩
   ·rw[setCell_eq_setRow W9 z 7 _ 31 (0,0) _ M,h7];exact setRow_heap _ _ _ _ 31 _ M
   ·rw[Below.heap_setCell _ _ _ _ (qr ⟨_,k7⟩ ⟨_,M⟩ (by decide))];exact k7
   ·have e:k=z:=e;exact k1.not ⟨_,M⟩ (by decide) (by decide) (by decide) (by decide) (by rw[<-e];exact hk)
   ·rw[<-h7];exact Row.of_own f1
   ·rw[<-h7];exact f1
  have i7:Hid (n=S.tk+1+S.nt):=k3;clear g1 g2 g3 g4 g5 g6 g7 g8 g9 m9 M k7 k1 d6 a2 n4 d4 d9 b5 I k3 h7
  go_upto_region 4 with fail
  clear c7 f7;generalize W9.setCell ⟨z,7,none⟩ (.slice (some ⟨g,0,none⟩) m c)=b7 at L ⊢
  have l7:Hid (n=(noH S).tk+1+(noH S).nt/\WH (noH S)):=⟨i7.out,qr9 HX.out.1.wf⟩
  obtain⟨c0,c1,c2,c3,c4,c5,c6,c7⟩:=sbox L.out.1.x1;have l9:Hid (Calls Tryz.prog 43 #[.agg #[.int .i64 ((noH S).tk:Int),.int .i64 ((noH S).nt:Int),.int .i64 ((noH S).st:Int),.int .i64 (noH S).ex,.slice (shR h g c).na (noH S).nm.length (shR h g c).nc,.slice (shR h g c).la (noH S).lv.length (shR h g c).lc,.slice (shR h g c).aa (noH S).az.length (shR h g c).ac,.slice (shR h g c).ra (noH S).rs.length (shR h g c).rc]] b7 fun e w'=>BRes b7 w' n (RcH (noH S)) e):=qhk b7 (shR h g c) (noH S) n l7.out.1 l7.out.2 L.out.1.isp g 0 rfl;go_wp2_with fail;refine l9.out.mono ?_;rintro e D ⟨rb,rd,rfl,i5,h8,n9,X⟩;clear c0 c1 c2 c3 c4 c5 c6 c7 l9
  obtain⟨rn,g0⟩:∃rn,Hid ((noH S).rs.length=rn):=⟨_,rfl⟩
  have m0:Hid (S.rs.length=rn+1):=by
   have h1:(S.rs.drop 1).length=rn:=g0.out;rw[List.length_drop]at h1;show S.rs.length=rn+1;omega
  have r1:rn<=40:=by have:=m0.out;omega
  obtain⟨b2,k4,n2,n5⟩:=L.out.1.gb
  have o6:Hid (∀i,i<rn->∃q,b2[i]?=some q/\S.rs[i+1]?=some q.1/\Row w 1 q.2.1 q.1.r.length q.2.2 (natC q.1.r)):=fun i hi=>by
   have hl:b2.length=rn:=by rw[<-g0.out,<-k4,List.length_map]
   have hq:b2[i]?=some (b2[i]'(by omega)):=List.getElem?_eq_getElem _;refine⟨_,hq,?_,n5 _ (List.mem_of_getElem? hq)⟩
   have h1:((b2.map (·.1))[i]?)=(S.rs.drop 1)[i]?:=by rw[k4];rfl
   rw[List.getElem?_map,hq,List.getElem?_drop]at h1;rw[Nat.add_comm i 1,<-h1];rfl
  have R:Hid (FM D w.heap.size f p0 n S.tk o (List.replicate (2 * n) [])/\Below w.heap.size w D):=⟨L.out.1.fm.below X,qd L.out.1.bel X⟩
  have o7:Hid (∀x,S.tk<x->x<n->isF rd x=true):=fun x h1 h2=>by
   have hx:rd[x]?=some (isF rd x):=vm (by rw[i5];exact h2)
   exact(n9 x _ hx).2 (qre.2 (HX.out.1.rc x h1 h2))
  have b3:Hid (∀(V:World) (P:FP),FV D f p0 V P->V.cell? ⟨Y,0,none⟩=some (.pointer (some ⟨f,0,none⟩))/\V.cell? ⟨z,0,none⟩=some (.int .i64 (S.tk:Int))/\V.cell? ⟨z,2,none⟩=some (.int .i64 (S.st:Int))/\V.ownsRow w.heap.size 47 4 (.slice (some ⟨g,0,none⟩) rn c) rn (srC b2)/\(∀x,x<n->V.cell? ⟨rb,x,none⟩=some (.bool (isF rd x)))/\Below w.heap.size w V):=fun V P hV=>by
   have l0:=qf X L.out.1.x1;have l1:=qf X L.out.1.x2;have i1:=zw n2 X
   have h1:V.heap[z]?=some (.cells (sC (shR h g c) (noH S)) 31 (0,0)):=by
    rw[hV.1.block z (Array.getElem?_eq_some_iff.1 l0).1 (R.out.1.not ⟨_,l0⟩ (by decide) (by decide) (by decide) (by decide))];exact l0
   have h2:V.heap[Y]?=some (.cells #[.pointer (some ⟨f,0,none⟩)] 44 (0,0)):=by
    rw[hV.1.block Y (Array.getElem?_eq_some_iff.1 l1).1 (R.out.1.not ⟨_,l1⟩ (by decide) (by decide) (by decide) (by decide))];exact l1
   have q8:b7.heap.size<=rb:=(qw h8 (b:=rb) rfl).1;refine⟨by rw[qe h2];rfl,by rw[qe h1];rfl,by rw[qe h1];rfl,?_,fun x hx=>?_,R.out.2.trans (FV.below R.out.1 R.out.2.size hV)⟩
   ·rw[<-g0.out]
    exact qh i1 (fun j hj=>by
     cases hj
     exact hV.1.block g (qw i1 (b:=g) rfl).2.1 (fun e=>by have:=L.out.2.1 g e;omega))
   ·refine qrm (B:=b7.heap.size) (qh h8 (fun j hj=>by
     cases hj
     exact hV.1.block rb (qw h8 (b:=rb) rfl).2.1 (fun e=>by have:=(L.out.1.fm.lt e).2.1;omega))) hx
  have f9:Hid ((∀x,isF o x=true↔Nul S x)/\Below w.heap.size w D/\D.cell? ⟨z,7,none⟩=some (.slice (some ⟨g,0,none⟩) rn c)):=⟨L.out.2.2,R.out.2,by
   obtain⟨-,-,-,-,-,-,-,c7⟩:=sbox (qf X L.out.1.x1);rw[g0.out]at c7
   exact c7⟩
  have l4:Hid (∃P u,FM D w.heap.size f P n S.tk o u/\FV D f p0 D P/\WI S n u (0+1)):=⟨p0,_,R.out.1,FV.refl _ _ _,WI.begin S n⟩
  clear i5 h8 n9 X k4 n2 n5 L;have c7:=f9.out.2.2
  go_upto_block 0 with fail
  clear c7
  go_cut [34] (fun s34 wd=>Hid (∃P u,FM wd w.heap.size f P n S.tk o u/\FV D f p0 wd P/\WI S n u (rn+1)))
  case first =>
   go_wp2_with fail
   go_loopg [34] rn (fun kx s34 wr=>∃i:Nat,s34=.int .i64 i/\i<=rn/\rn - i<=kx/\Hid (∃P u,FM wr w.heap.size f P n S.tk o u/\FV D f p0 wr P/\WI S n u (i+1)))
   case atStart=>exact⟨0,rfl,Nat.zero_le _,by omega,l4⟩
   case round =>
    clear l4;obtain⟨i,rfl,hi,hg,J⟩:=hrel
    by_cases p5:i<rn
    ·have n3:(i:Int)<(rn:Int):=by omega
     obtain⟨p1,T,a5,a7,a1⟩:=J.out;obtain⟨q,hq,a4,d8⟩:=o6.out i p5;obtain⟨v0,-,-,d5,-,a3⟩:=b3.out wr p1 a7;obtain⟨d0,d1,d2,d3⟩:=qfq d5 hq;obtain⟨xl,o1,o2,i0⟩:=HX.out.1.wf.rl (i+1) q.1 (by omega) a4;rw[<-HX.out.1.nn]at i0;have a8:=List.mem_of_getElem? a4
     have O:Hid (Rlk S n q.1 xl/\S.rs[i+1]?=some q.1/\S.tk<xl/\Row w 1 q.2.1 q.1.r.length q.2.2 (natC q.1.r)):=⟨⟨o1,i0,fun y hy=>⟨(HX.out.1.sy q.1 a8 y hy).1,(HX.out.1.sy q.1 a8 y hy).2⟩,by have:=HX.out.1.ln q.1 a8;omega⟩,a4,o2,d8⟩
     have Q:Hid (FM (wr.alloc (.cells #[.int .i64 q.1.l,.slice q.2.1 q.1.r.length q.2.2,.int .i64 q.1.lv,.int .i64 q.1.a] 47)) w.heap.size f p1 n S.tk o T/\FV D f p0 (wr.alloc (.cells #[.int .i64 q.1.l,.slice q.2.1 q.1.r.length q.2.2,.int .i64 q.1.lv,.int .i64 q.1.a] 47)) p1/\Below w.heap.size w (wr.alloc (.cells #[.int .i64 q.1.l,.slice q.2.1 q.1.r.length q.2.2,.int .i64 q.1.lv,.int .i64 q.1.a] 47))/\(wr.alloc (.cells #[.int .i64 q.1.l,.slice q.2.1 q.1.r.length q.2.2,.int .i64 q.1.lv,.int .i64 q.1.a] 47)).heap[wr.heap.size]?=some (.cells #[.int .i64 q.1.l,.slice q.2.1 q.1.r.length q.2.2,.int .i64 q.1.lv,.int .i64 q.1.a] 47 (0,0))/\WI S n T (i+1)):=⟨a5.below (qb _ _),a7.trans ⟨zk (qb _ _),fun _ e=>.inl e⟩,qd a3 (qb _ _),heap_alloc_new _ _,a1⟩
     obtain⟨⟨rl,rr,a0,ra⟩,qa,qc⟩:=q;simp only at d0 d1 d2 d3 O Q;clear a5 a7 a1 hq a4 d8 d5 a3 J o1 a8
     go_upto_region 8 with fail
     clear v0 d0 d1 d2 d3;generalize wr.alloc (.cells #[.int .i64 rl,.slice qa rr.length qc,.int .i64 a0,.int .i64 ra] 47)=U at Q ⊢
     obtain⟨b6,o3⟩:∃b6,Hid (b6=wr.heap.size):=⟨_,rfl⟩
     rw[<-o3.out]at Q ⊢;obtain⟨v0,-,-,-,-,-⟩:=b3.out U p1 Q.out.2.1
     obtain⟨e0,e1,e2,e3⟩:U.cell? ⟨b6,0,none⟩=some (.int .i64 rl)/\U.cell? ⟨b6,1,none⟩=some (.slice qa rr.length qc)/\U.cell? ⟨b6,2,none⟩=some (.int .i64 a0)/\U.cell? ⟨b6,3,none⟩=some (.int .i64 ra):=⟨by rw[qe Q.out.2.2.2.1];rfl,by rw[qe Q.out.2.2.2.1];rfl,by rw[qe Q.out.2.2.2.1];rfl,by rw[qe Q.out.2.2.2.1];rfl⟩
     have l6:Hid (Calls Tryz.prog 44 #[.pointer (some ⟨f,0,none⟩),.agg #[.int .i64 rl,.slice qa rr.length qc,.int .i64 a0,.int .i64 ra]] U fun e W'=>e=.returned (.tuple #[])/\∃P,P.eb=p1.eb/\∃u,FM W' w.heap.size f P n S.tk o u/\FV U f p1 W' P/\FA S n xl rr T u rr.length):=qgn w U f n p1 o S T Q.out.1 Q.out.2.2.1 f9.out.1 ⟨rl,rr,a0,ra⟩ xl (i+1) qa qc (by omega) O.out.2.1 O.out.1 O.out.2.2.2 Q.out.2.2.2.2.ins Q.out.2.2.2.2.mng Q.out.2.2.2.2.len (by have:=Q.out.2.2.2.2.lle;omega) (by have:=Q.out.2.2.2.2.tot;omega)
     go_wp2_with fail;refine l6.out.mono ?_;rintro e V1 ⟨rfl,p2,-,h0,a6,k2,hA⟩;clear v0 e0 e1 e2 e3 l6;have i2:¬FK f p1 b6:=Q.out.1.not ⟨_,Q.out.2.2.2.1⟩ (by decide) (by decide) (by decide) (by decide)
     have f5:V1.heap[b6]?=some (.cells #[.int .i64 rl,.slice qa rr.length qc,.int .i64 a0,.int .i64 ra] 47 (0,0)):=by
      rw[k2.1.block b6 (Array.getElem?_eq_some_iff.1 Q.out.2.2.2.1).1 i2];exact Q.out.2.2.2.1
     have i8:Hid (FM V1 w.heap.size f p2 n S.tk o h0/\FV D f p0 V1 p2/\FA S n xl rr T h0 rr.length):=⟨a6,Q.out.2.1.trans k2,hA⟩
     obtain⟨v0,-,-,-,n6,a3⟩:=b3.out V1 p2 i8.out.2.1;have n1:=n6 xl i0;rw[o7.out xl o2 i0]at n1;have n7:rl=(xl:Int):=O.out.1.l
     obtain⟨e0,e1,e2,e3⟩:V1.cell? ⟨b6,0,none⟩=some (.int .i64 rl)/\V1.cell? ⟨b6,1,none⟩=some (.slice qa rr.length qc)/\V1.cell? ⟨b6,2,none⟩=some (.int .i64 a0)/\V1.cell? ⟨b6,3,none⟩=some (.int .i64 ra):=⟨by rw[qe f5];rfl,by rw[qe f5];rfl,by rw[qe f5];rfl,by rw[qe f5];rfl⟩
     have h9:=WI.first (r:=⟨rl,rr,a0,ra⟩) Q.out.2.2.2.2 hA;have l5:Hid (Calls Tryz.prog 45 #[.pointer (some ⟨f,0,none⟩),.agg #[.int .i64 rl,.slice qa rr.length qc,.int .i64 a0,.int .i64 ra]] V1 fun e W'=>e=.returned (.tuple #[])/\∃P,P.eb=p2.eb/\∃u,FM W' w.heap.size f P n S.tk o u/\FV V1 f p2 W' P/\∃q,FB S n xl rr h0 u 0 q):=qfs w V1 f n (by omega) (by omega) p2 o S h0 a6 a3 f9.out.1 ⟨rl,rr,a0,ra⟩ xl (i+1) qa qc (by omega) O.out.2.1 O.out.1 O.out.2.2.2 h9.2.1 h9.1 h9.2.2 (by rw[hA.len];have:=Q.out.2.2.2.2.lle;omega) (by have:=hA.tot;have:=Q.out.2.2.2.2.tot;have:=O.out.1.ln;simp only at this;omega)
     subst n7
     have q4:(xl:Int)<(n:Int):=by omega
     clear a6 k2 hA f5 n6 a3 h9 i2;go_wp2_with fail;refine l5.out.mono ?_;rintro e V2 ⟨rfl,p3,-,p4,m4,m7,qq,hB⟩
     have HF:Hid (∃P u,FM V2 w.heap.size f P n S.tk o u/\FV D f p0 V2 P/\WI S n u (i+1+1)):=⟨p3,p4,m4,i8.out.2.1.trans m7,WI.next (r:=⟨(xl:Int),rr,a0,ra⟩) Q.out.2.2.2.2 i8.out.2.2 hB O.out.2.1 O.out.1.l O.out.1.ln⟩
     clear v0 e0 e1 e2 e3 l5 m4 m7 hB n1;go_wp2_with fail;go_roundg (rn - (i+1))
     case measure=>omega
     case rel=>exact⟨i+1,by simp,by omega,Nat.le_refl _,HF⟩
    ·have n3:¬(i:Int)<(rn:Int):=by omega
     have HF:Hid (∃P u,FM wr w.heap.size f P n S.tk o u/\FV D f p0 wr P/\WI S n u (rn+1)):=by
      have:i=rn:=by omega
      subst this;exact J.out
     clear J;go_wp2_with fail;go_meet;exact HF
  case rest =>
   obtain⟨G,q3⟩:∃G,G=wc:=⟨_,rfl⟩
   subst wc;obtain⟨p1,T,a5,a7,a1⟩:=hcut.out;obtain⟨v0,m1,m2,-,-,a3⟩:=b3.out G p1 a7;have o0:=HX.out.1.wf.st
   have f6:S.st<n:=by rw[i7.out];exact o0.2
   have hd:decide ((S.tk:Int)<(S.st:Int)/\(S.st:Int)<(n:Int))=true:=by rw[decide_eq_true_eq];omega
   obtain⟨l,hl⟩:∃l,T[n+S.st]?=some l:=⟨T[n+S.st]'(by have:=a1.len;omega),List.getElem?_eq_getElem _⟩
   have a6:=a5.below (qk G);have f8:=a1;rw[<-m0.out]at f8;have i6:=f8.done f6 (by omega:S.tk<n) (fun t hf=>by have:=(qg9 HX.out.1.wf (Nat.le_refl _) hf).1;omega) hl
   have n0:Below w.heap.size w G.drew:=qd a3 (qk _);have o5:Hid (Calls Tryz.prog 47 #[.pointer (some ⟨f,0,none⟩),.int .i64 ((n+S.st:Nat):Int),.int .i64 (S.tk:Int)] G.drew fun e W'=>∃(xa:Option Addr) (xc:Nat),e=.returned (.tuple #[])/\∃p2,FS W' w.heap.size f p2 n S o (T.set (n+S.st) (l++[S.tk]))/\FV D f p0 W' p2):=(qdf G.drew w.heap.size f n S.tk p1 o T a6 n0.size (n+S.st) S.tk l hl (by have:=qf4 hl;have:=a1.tot;omega)).mono (fun e W' ⟨h1,p2,_,h3,h4⟩=>⟨none,0,h1,p2,⟨h3,i6,f9.out.1,i7.out,by rw[List.length_set];have:=a1.lle;omega,by rw[qcu hl];have:=a1.tot;omega,HX.out.1.wf,HX.out.1.sy⟩,(a7.trans (show FV G f p1 G.drew p1 from⟨zk (qk _),fun _ e=>.inl e⟩)).trans h4⟩)
   have o4:Hid (Calls Tryz.prog 48 #[.pointer (some ⟨f,0,none⟩),.int .i64 (S.st:Int)] G.drew fun e w'=>e=.returned (.int .i64 ((n+S.st:Nat):Int))/\w'=G.drew):=yw G.drew f n n S.st _ a6.c1 (by omega) f6
   have b4:Hid (Calls Tryz.prog 46 #[.pointer (some ⟨f,0,none⟩),.int .i64 (S.st:Int)] G fun e w'=>e=.returned (.bool true)/\w'=G):=by
    rw[<-hd];exact jt G f S.tk n n _ a5.c0 a5.c1 (S.st:Int)
   clear hcut a5 a7 a1 a6 f8 i6 n0 hd hl a3 o0 f6;go_wp2_with fail;refine b4.out.mono ?_;rintro e r6 ⟨rfl,rfl⟩;clear b4
   go_upto_region 13 with fail
   refine wp_region_held_drew (S:=fun w'=>w'.cell? ⟨Y,0,none⟩=some (.pointer (some ⟨f,0,none⟩))/\w'.cell? ⟨z,0,none⟩=some (.int .i64 (S.tk:Int))/\w'.cell? ⟨z,2,none⟩=some (.int .i64 (S.st:Int))) (by kernel_rfl) ⟨v0,m1,m2⟩ (fun d=>?_);refine wpAnyH_take (i:=0) (v:=.pointer (some ⟨f,0,none⟩)) rfl (by kernel_rfl) (by kernel_rfl) (by kernel_rfl) (fun _ _ _ h=>h) (Or.inl ⟨by rfl,fun w9 s=>?_⟩) d ?_
   ·(obtain⟨F,M,f4⟩:=s;go_simp)
   simp only[Act.put];refine wpAnyH_take (i:=1) (v:=.pointer (some ⟨f,0,none⟩)) rfl (by kernel_rfl) (by kernel_rfl) (by kernel_rfl) (fun _ _ _ h=>h) (Or.inl ⟨by rfl,fun w9 s=>?_⟩) d ?_
   ·(obtain⟨F,M,f4⟩:=s;go_simp)
   simp only[Act.put];refine wpAnyH_take (i:=2) (v:=.pointer (some ⟨z,2,none⟩)) rfl (by kernel_rfl) (by kernel_rfl) (by kernel_rfl) (fun _ _ _ h=>h) (Or.inl ⟨by rfl,fun w9 s=>?_⟩) d ?_
   ·(obtain⟨F,M,f4⟩:=s;go_simp)
   simp only[Act.put];refine wpAnyH_take (i:=3) (v:=.int .i64 (S.st:Int)) rfl (by kernel_rfl) (by kernel_rfl) (by kernel_rfl) (fun _ _ _ h=>h) (Or.inl ⟨by rfl,fun w9 s=>?_⟩) d ?_
   ·(obtain⟨F,M,f4⟩:=s;go_simp)
   simp only[Act.put];refine wpAnyH_take (i:=5) (v:=.pointer (some ⟨z,0,none⟩)) rfl (by kernel_rfl) (by kernel_rfl) (by kernel_rfl) (fun _ _ _ h=>h) (Or.inl ⟨by rfl,fun w9 s=>?_⟩) d ?_
   ·(obtain⟨F,M,f4⟩:=s;go_simp)
   simp only[Act.put];refine wpAnyH_take (i:=6) (v:=.int .i64 (S.tk:Int)) rfl (by kernel_rfl) (by kernel_rfl) (by kernel_rfl) (fun _ _ _ h=>h) (Or.inl ⟨by rfl,fun w9 s=>?_⟩) d ?_
   ·(obtain⟨F,M,f4⟩:=s;go_simp)
   simp only[Act.put];refine wpAnyH_ready (rs:=[4]) (by kernel_rfl) (by simp) ?_;refine AllReadyH.cons rfl (fun K A=>?_) AllReadyH.nil;refine qcz rfl 48 #[.pointer (some ⟨f,0,none⟩),.int .i64 (S.st:Int)] (.int .i64 ((n+S.st:Nat):Int)) (by simp[Act.eval,go_sem]) o4.out (A.out _ _ ⟨v0,m1,m2⟩ (fun d=>?_));clear A K;simp only[Act.put];refine wpAnyH_ready (rs:=[7]) (by kernel_rfl) (by simp) ?_;refine AllReadyH.cons rfl (fun K A=>?_) AllReadyH.nil;refine jy rfl 47 #[.pointer (some ⟨f,0,none⟩),.int .i64 ((n+S.st:Nat):Int),.int .i64 (S.tk:Int)] (fun _ _=>.tuple #[]) _ (by simp[Act.eval,go_sem]) o5.out (fun xa xc V hV=>?_);obtain⟨p2,m5,m8⟩:=hV;obtain⟨x0,q0,q1,-,-,h6⟩:=b3.out V p2 m8
   have o9:Hid (FS V w.heap.size f p2 n S o (T.set (n+S.st) (l++[S.tk]))/\Below w.heap.size w V):=⟨m5,h6⟩
   refine A.out _ _ ⟨x0,q0,q1⟩ (fun d=>?_);clear A K m5 m8 h6;simp only[Act.put];refine wpAnyH_done (by kernel_rfl) ?_ _;go_wp2_with fail;go_ret;exact⟨f,p2,o,_,rfl,o9.out⟩
end Go.Proofs.YtngclmglmhiljaaGreatDoor
