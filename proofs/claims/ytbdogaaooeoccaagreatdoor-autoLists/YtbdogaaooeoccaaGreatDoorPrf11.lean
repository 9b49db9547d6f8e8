/- Texts that the proofs of the Auto statements stand on, part Prf11. -/
import Derived.Deep.RegionHeld
import Derived.Test.YtbdogaaooeoccaaGreatDoorPrf10
set_option maxHeartbeats 16000000
set_option maxRecDepth 100000
namespace Go.Proofs.YtbdogaaooeoccaaGreatDoor
open Go.RowKit
theorem qko(G:Gm)(h:Hd)(w:World)(k:Int)(hG:IsG w h G)(hk:OfR G k):Calls Tryz.prog 112 #[gv h G] w fun e A=>((k≠0/\e=.returned (.tuple #[.agg zC,.int .i64 k]))\/(k=0/\∃h',e=.returned (.tuple #[sv h' (spG G),.int .i64 0])/\IsSp A h' (spG G)))/\Below w.heap.size w A:=by
 have d8:=hG.small.nt;have d9:=hG.small.nr;have HG:=hid hG;have HK:=hid hk;clear hG hk;obtain⟨bm,d4⟩:=zv (MayP G);have a8:=hid d4
 have X:Hid (∀V,Below w.heap.size w V->Calls Tryz.prog 131 #[gv h G] V fun e A=>e=.returned (.bool bm)/\Below V.heap.size V A):=fun V hV=>qci G h V bm (HG.out.below hV) a8.out
 have Z:Hid (∀V,Below w.heap.size w V->Calls Tryz.prog 132 #[gv h G] V fun e A=>∃h',e=.returned (.agg (sC h' (sy0 G)))/\OwnSp A V.heap.size h' (sy0 G) []/\Below V.heap.size V A):=fun V hV=>qgw G h V (HG.out.below hV)
 obtain⟨bl,d3⟩:=zv (vo G);have a7:=hid d3
 have M:Hid (∀V,Below w.heap.size w V->Calls Tryz.prog 133 #[gv h G,.int .i64 ((lfs G.rs).length:Int)] V fun e A=>e=.returned (.bool bl)/\Below V.heap.size V A):=fun V hV=>qjb G h V (HG.out.below hV) bl a7.out _ rfl
 clear d4 d3;obtain⟨x,y,t,u⟩:=h;unfold gv at X Z M ⊢;simp only at X Z M ⊢;have a6:Below w.heap.size w ((w.alloc (.cells #[.slice x G.ts.length y,.string G.s,.int .i64 G.e,.slice t G.rs.length u] 25)).alloc (.cells zC 31)):=qd (qb _ _) (qb _ _);have P:((w.alloc (.cells #[.slice x G.ts.length y,.string G.s,.int .i64 G.e,.slice t G.rs.length u] 25)).alloc (.cells zC 31)).heap[w.heap.size]?=some (.cells #[.slice x G.ts.length y,.string G.s,.int .i64 G.e,.slice t G.rs.length u] 25 (0,0)):=qf (qb _ _) (heap_alloc_new _ _)
 have Q:((w.alloc (.cells #[.slice x G.ts.length y,.string G.s,.int .i64 G.e,.slice t G.rs.length u] 25)).alloc (.cells zC 31)).heap[w.heap.size+1]?=some (.cells zC 31 (0,0)):=by
  have:=heap_alloc_new (w.alloc (.cells #[.slice x G.ts.length y,.string G.s,.int .i64 G.e,.slice t G.rs.length u] 25)) (.cells zC 31)
  rwa [qz]at this
 obtain⟨C,z⟩:∃C,Hid (G.ts.length=C):=⟨_,rfl⟩
 obtain⟨J,B⟩:∃J,Hid (G.rs.length=J):=⟨_,rfl⟩
 rw[z.out]at d8 X Z M a6 P Q ⊢;rw[B.out]at d9 X Z M a6 P Q ⊢
 obtain⟨m,HM⟩:∃m,Hid ((lfs G.rs).length=m):=⟨_,rfl⟩
 rw[HM.out]at M;go_enter Tryz.func112,Tryz.ntmps112
 go_upto_region 1 with fail
 have ez:(w.alloc (.cells #[.slice x C y,.string G.s,.int .i64 G.e,.slice t J u] 25)).alloc (.cells #[.int .i64 0,.int .i64 0,.int .i64 0,.int .i64 0,.slice none 0 0,.slice none 0 0,.slice none 0 0,.slice none 0 0] 31)=(w.alloc (.cells #[.slice x C y,.string G.s,.int .i64 G.e,.slice t J u] 25)).alloc (.cells zC 31):=rfl;rw[ez];generalize (w.alloc (.cells #[.slice x C y,.string G.s,.int .i64 G.e,.slice t J u] 25)).alloc (.cells zC 31)=W1 at a6 P Q ⊢
 obtain⟨O,b7⟩:∃O,Hid (O=w.heap.size):=⟨_,rfl⟩
 rw[<-b7.out]at P Q ⊢
 have a0:Hid (w.heap.size<=O+1):=by rw[b7.out];exact Nat.le_succ _
 generalize O+1=T at Q a0 ⊢;have H1:=hid3 P Q a6;obtain⟨p0,p1,p2,p3⟩:=box4 P;clear ez a6 P Q b7;go_wp2_with fail;refine(X.out _ H1.out.2.2).mono ?_;rintro e W2 ⟨rfl,b2⟩;have H2:=hid3 (qf b2 H1.out.1) (qf b2 H1.out.2.1) (qd H1.out.2.2 b2);clear H1 b2 p0 p1 p2 p3 X
 rcases bm with _ | _
 ·have i:Hid (k=1):=by
   have hn:¬MayP G:=fun e=>by have:=a8.out.2 e;cases this
   rcases HK.out with e | e | e | e | e
   ·exact e.1
   ·exact absurd e.2.1 hn
   ·exact absurd e.2.1 hn
   ·exact absurd e.2.1 hn
   ·exact absurd e.2.1 hn
  obtain⟨z0,z1,z2,z3,z4,z5,z6,z7⟩:=box8 H2.out.2.1;obtain⟨f0,f1,f2,f3,f4,f5,f6,f7⟩:=qa6 H2.out.2.1
  have HF:Hid (∀v0 v1 v2 v3 v4 v5 v6 v7,Below w.heap.size w (set8 W2 T v0 v1 v2 v3 v4 v5 v6 v7)):=fun v0 v1 v2 v3 v4 v5 v6 v7=>jh H2.out.2.2 a0.out
  go_wp2_with fail;refine bodyPost_ret (v:=.tuple #[.agg zC,.int .i64 1]) (by unfold zC sC;simp[results,Tryz.results112,go_sem, *]) rfl ?_
  exact⟨.inl ⟨by rw[i.out];decide,by rw[i.out]⟩,HF.out _ _ _ _ _ _ _ _⟩
 ·have E:=hid (a8.out.1 rfl);clear a8;obtain⟨p0,p1,p2,p3⟩:=box4 H2.out.1
  go_upto_region 3 with fail
  go_wp2_with fail;refine(Z.out _ H2.out.2.2).mono ?_;rintro e W3 ⟨hh,rfl,d7,b3⟩;obtain⟨f,g,p,r,j,o,b,d⟩:=hh
  have a2:Hid (sC ⟨f,g,p,r,j,o,b,d⟩ (sy0 G)=#[.int .i64 (C:Int),.int .i64 (m:Int),.int .i64 0,.int .i64 G.e,.slice f (nmG G).length g,.slice p (G.ts.map (·.l)).length r,.slice j (G.ts.map (·.a)).length o,.slice b 0 d]):=by
   rw[<-z.out,<-HM.out];rfl
  obtain⟨S,Y⟩:∃S,Hid ((nmG G).length=S):=⟨_,rfl⟩
  obtain⟨l1,b5⟩:∃l1,Hid ((G.ts.map (·.l)).length=l1):=⟨_,rfl⟩
  obtain⟨a1,b6⟩:∃a1,Hid ((G.ts.map (·.a)).length=a1):=⟨_,rfl⟩
  rw[Y.out,b5.out,b6.out]at a2;rw[a2.out]
  have HX:Hid (OX w (W3.alloc (.cells #[.int .i64 (C:Int),.int .i64 (m:Int),.int .i64 0,.int .i64 G.e,.slice f S g,.slice p l1 r,.slice j a1 o,.slice b 0 d] 31)) O T W3.heap.size ⟨x,y,t,u⟩ G ⟨f,g,p,r,j,o,b,d⟩ (sy0 G) []):=by
   refine OX.first ?_ (qf b3 H2.out.2.1) a2.out (d7.mono H2.out.2.2.size) (qd H2.out.2.2 b3);rw[z.out,B.out];exact qf b3 H2.out.1
  clear d7 b3 H2 Z p0 p1 p2 p3
  go_upto_region 4 with fail
  generalize W3.alloc (.cells #[.int .i64 (C:Int),.int .i64 (m:Int),.int .i64 0,.int .i64 G.e,.slice f S g,.slice p l1 r,.slice j a1 o,.slice b 0 d] 31)=V at HX ⊢;generalize W3.heap.size=L at HX ⊢
  have I:Hid (∀U:World,OX w U O T L ⟨x,y,t,u⟩ G ⟨f,g,p,r,j,o,b,d⟩ (sy0 G) []->U.heap[O]?=some (.cells #[.slice x C y,.string G.s,.int .i64 G.e,.slice t J u] 25 (0,0))/\U.heap[L]?=some (.cells #[.int .i64 (C:Int),.int .i64 (m:Int),.int .i64 0,.int .i64 G.e,.slice f S g,.slice p l1 r,.slice j a1 o,.slice b 0 d] 31 (0,0))):=fun U s=>by
   have h1:=s.gx;have h2:=s.sx;rw[z.out,B.out]at h1;rw[a2.out]at h2;exact⟨h1,h2⟩
  obtain⟨p0,p1,p2,p3⟩:=box4 (I.out V HX.out).1;obtain⟨q0,q1,q2,q3,q4,q5,q6,q7⟩:=box8 (I.out V HX.out).2;go_wp2_with fail;refine(M.out _ HX.out.bel).mono ?_;rintro e V4 ⟨rfl,c9⟩;have F:=hid (HX.out.step c9);clear HX c9 M p0 p1 p2 p3 q0 q1 q2 q3 q4 q5 q6 q7
  cases bl
  case true =>
   have i:Hid (k=6):=by
    have hn:=a7.out.1 rfl;have hm:=E.out
    rcases HK.out with e | e | e | e | e
    ·exact absurd hm e.2
    ·exact e.1
    ·exact absurd hn e.2.2.1
    ·exact absurd hn e.2.2.1
    ·exact absurd hn e.2.2.1
   obtain⟨z0,z1,z2,z3,z4,z5,z6,z7⟩:=box8 F.out.rx;obtain⟨f0,f1,f2,f3,f4,f5,f6,f7⟩:=qa6 F.out.rx
   have HF:Hid (∀v0 v1 v2 v3 v4 v5 v6 v7,Below w.heap.size w (set8 V4 T v0 v1 v2 v3 v4 v5 v6 v7)):=fun v0 v1 v2 v3 v4 v5 v6 v7=>jh F.out.bel a0.out
   go_wp2_with fail;refine bodyPost_ret (v:=.tuple #[.agg zC,.int .i64 6]) (by unfold zC sC;simp[results,Tryz.results112,go_sem, *]) rfl ?_
   exact⟨.inl ⟨by rw[i.out];decide,by rw[i.out]⟩,HF.out _ _ _ _ _ _ _ _⟩
  case false =>
   have b0:Hid (¬vo G):=fun e=>by have:=a7.out.2 e;cases this
   clear a7;obtain⟨bn,d5⟩:=zv (NmP G);have a9:=hid d5;clear d5
   have c3:Hid (∀U:World,OX w U O T L ⟨x,y,t,u⟩ G ⟨f,g,p,r,j,o,b,d⟩ (sy0 G) []->Calls Tryz.prog 134 #[.agg #[.slice x C y,.string G.s,.int .i64 G.e,.slice t J u],.agg #[.int .i64 (C:Int),.int .i64 (m:Int),.int .i64 0,.int .i64 G.e,.slice f S g,.slice p l1 r,.slice j a1 o,.slice b 0 d]] U fun e A=>e=.returned (.bool bn)/\Below U.heap.size U A):=fun U s=>by
    have:=ql6 G ⟨x,y,t,u⟩ (sy0 G) _ U (HG.out.below s.bel) s.own.isSp ⟨rfl,rfl,rfl,rfl⟩ E.out bn a9.out;unfold gv at this;rw[a2.out]at this;simp only at this;rw[z.out,B.out]at this;exact this
   obtain⟨p0,p1,p2,p3⟩:=box4 (I.out V4 F.out).1;obtain⟨q0,q1,q2,q3,q4,q5,q6,q7⟩:=box8 (I.out V4 F.out).2;go_wp2_with fail;refine(c3.out _ F.out).mono ?_;rintro e V5 ⟨rfl,d0⟩;have H:=hid (F.out.step d0);clear F d0 c3 p0 p1 p2 p3 q0 q1 q2 q3 q4 q5 q6 q7
   rcases bn with _ | _
   ·have i:Hid (k=7):=by
     have hl:=b0.out
     have hn:¬NmP G:=fun e=>by have:=a9.out.2 e;cases this
     have hm:=E.out
     rcases HK.out with e | e | e | e | e
     ·exact absurd hm e.2
     ·exact absurd e.2.2 hl
     ·exact e.1
     ·exact absurd e.2.2.2.1 hn
     ·exact absurd e.2.2.2.1 hn
    obtain⟨z0,z1,z2,z3,z4,z5,z6,z7⟩:=box8 H.out.rx;obtain⟨f0,f1,f2,f3,f4,f5,f6,f7⟩:=qa6 H.out.rx
    have HF:Hid (∀v0 v1 v2 v3 v4 v5 v6 v7,Below w.heap.size w (set8 V5 T v0 v1 v2 v3 v4 v5 v6 v7)):=fun v0 v1 v2 v3 v4 v5 v6 v7=>jh H.out.bel a0.out
    go_wp2_with fail;refine bodyPost_ret (v:=.tuple #[.agg zC,.int .i64 7]) (by unfold zC sC;simp[results,Tryz.results112,go_sem, *]) rfl ?_
    exact⟨.inl ⟨by rw[i.out];decide,by rw[i.out]⟩,HF.out _ _ _ _ _ _ _ _⟩
   ·have N:=hid (a9.out.1 rfl);clear a9
    obtain⟨K,a3⟩:∃K,Hid (stG G=K):=⟨_,rfl⟩
    have c7:Hid (∀U:World,Below w.heap.size w U->Calls Tryz.prog 136 #[.agg #[.slice x C y,.string G.s,.int .i64 G.e,.slice t J u]] U fun e A=>e=.returned (.string (kq G))/\Below U.heap.size U A):=fun U hU=>by
     have:=qd6 G ⟨x,y,t,u⟩ U (HG.out.below hU) N.out.ne;unfold gv at this;simp only at this;rw[z.out,B.out]at this;exact this
    have b9:Hid (∀U:World,Row U 1 f S g (strC (nmG G))->Calls Tryz.prog 135 #[.slice f S g,.string (kq G)] U fun e A=>e=.returned (.int .i64 (K:Int))/\A=U):=fun U hU=>by
     have:=qa3 (nmG G) f g (kq G) U (by rw[Y.out];exact hU) (by have h1:=vu G.rs;have h2:=z.out;have h3:=B.out;unfold nmG tkG;simp;omega)
     rw[qeq E.out N.out N.out.st,Y.out]at this;rw[<-a3.out];exact this
    have c6:Hid (∀U:World,OX w U O T L ⟨x,y,t,u⟩ G ⟨f,g,p,r,j,o,b,d⟩ (sy0 G) []->Row U 1 f S g (strC (nmG G))):=fun U s=>by
     have:=s.own.isSp.nm;simp only[sy0]at this;rw[Y.out]at this;exact this
    have c4:Hid (sC ⟨f,g,p,r,j,o,b,d⟩ ⟨G.ts.length,(lfs G.rs).length,K,G.e,nmG G,G.ts.map (·.l),G.ts.map (·.a),[]⟩=#[.int .i64 (C:Int),.int .i64 (m:Int),.int .i64 (K:Int),.int .i64 G.e,.slice f S g,.slice p l1 r,.slice j a1 o,.slice b 0 d]):=by
     rw[<-z.out,<-HM.out,<-Y.out,<-b5.out,<-b6.out];rfl
    have b8:Hid (∀U:World,OX w U O T L ⟨x,y,t,u⟩ G ⟨f,g,p,r,j,o,b,d⟩ ⟨G.ts.length,(lfs G.rs).length,K,G.e,nmG G,G.ts.map (·.l),G.ts.map (·.a),[]⟩ []->U.heap[O]?=some (.cells #[.slice x C y,.string G.s,.int .i64 G.e,.slice t J u] 25 (0,0))/\U.heap[L]?=some (.cells #[.int .i64 (C:Int),.int .i64 (m:Int),.int .i64 (K:Int),.int .i64 G.e,.slice f S g,.slice p l1 r,.slice j a1 o,.slice b 0 d] 31 (0,0))):=fun U s=>by
     have h1:=s.gx;have h2:=s.sx;rw[z.out,B.out]at h1;rw[c4.out]at h2;exact⟨h1,h2⟩
    have c5:Hid (∀U:World,OX w U O T L ⟨x,y,t,u⟩ G ⟨f,g,p,r,j,o,b,d⟩ ⟨G.ts.length,(lfs G.rs).length,K,G.e,nmG G,G.ts.map (·.l),G.ts.map (·.a),[]⟩ []->Calls Tryz.prog 137 #[.agg #[.slice x C y,.string G.s,.int .i64 G.e,.slice t J u],.agg #[.int .i64 (C:Int),.int .i64 (m:Int),.int .i64 (K:Int),.int .i64 G.e,.slice f S g,.slice p l1 r,.slice j a1 o,.slice b 0 d]] U fun e A=>∃D c,e=.returned (.slice D (J+1) c)/\(∃qs,OX w (A.setCell ⟨L,7,none⟩ (.slice D (J+1) c)) O T L ⟨x,y,t,u⟩ G ⟨f,g,p,r,j,o,D,c⟩ (spG G) qs)/\A.cell? ⟨L,7,none⟩=some (.slice b 0 d)/\A.frozen? ⟨L,7,none⟩=false):=fun U s=>by
     have:=qjc G ⟨x,y,t,u⟩ ⟨G.ts.length,(lfs G.rs).length,K,G.e,nmG G,G.ts.map (·.l),G.ts.map (·.a),[]⟩ ⟨f,g,p,r,j,o,b,d⟩ U (HG.out.below s.bel) s.own.isSp ⟨rfl,rfl,rfl,rfl⟩ E.out N.out;unfold gv at this;rw[c4.out]at this;simp only at this;rw[z.out,B.out]at this;refine this.mono ?_;rintro e A ⟨D,c,qs,rfl,⟨h1,h2,h3⟩,hB⟩;have s':=s.step hB;have e9:=s'.putRs (rs:=qs) (n:=J+1) D c (by have:=congrArg List.length h2;simp at this;rw[B.out]at this;exact this) (zc h1 s.bel.size) (fun q hq=>zc (h3 q hq) s.bel.size)
     refine⟨D,c,rfl,⟨qs,?_⟩,(box8 (b8.out _ s').2).2.2.2.2.2.2.2,qj s'.sx 7⟩;rw[h2,<-a3.out]at e9;exact e9
    obtain⟨bu,d6⟩:=zv (qbv (spG G));have b4:=hid d6;clear d6
    have b1:Hid (∀D c,sC ⟨f,g,p,r,j,o,D,c⟩ (spG G)=#[.int .i64 (C:Int),.int .i64 (m:Int),.int .i64 (K:Int),.int .i64 G.e,.slice f S g,.slice p l1 r,.slice j a1 o,.slice D (J+1) c]):=fun D c=>by
     rw[<-z.out,<-HM.out,<-Y.out,<-b5.out,<-b6.out,<-a3.out,<-B.out];unfold sC spG;simp
    have c8:Hid (∀(U:World) D c,IsSp U ⟨f,g,p,r,j,o,D,c⟩ (spG G)->Calls Tryz.prog 138 #[.agg #[.int .i64 (C:Int),.int .i64 (m:Int),.int .i64 (K:Int),.int .i64 G.e,.slice f S g,.slice p l1 r,.slice j a1 o,.slice D (J+1) c]] U fun e A=>e=.returned (.bool bu)/\Below U.heap.size U A):=fun U D c s=>by
     have:=qjd U _ (spG G) (qer E.out b0.out N.out) s bu b4.out;unfold sv at this;rw[b1.out]at this;exact this
    obtain⟨p0,p1,p2,p3⟩:=box4 (I.out V5 H.out).1;obtain⟨q0,q1,q2,q3,q4,q5,q6,q7⟩:=box8 (I.out V5 H.out).2
    go_upto_region 8 with fail
    go_region_with(first
     | (go_at_call 136;refine(c7.out _ (qd H.out.bel (qo _))).mono ?_;rintro e V6 ⟨rfl,d1⟩;have a4:Hid (OX w V6 O T L ⟨x,y,t,u⟩ G ⟨f,g,p,r,j,o,b,d⟩ (sy0 G) []):=(H.out.step (qo _)).step d1;obtain⟨y0,y1,y2,y3,y4,y5,y6,y7⟩:=box8 (I.out V6 a4.out).2;obtain⟨g0,g1,g2,g3,g4,g5,g6,g7⟩:=qa6 a4.out.sx)
     | (go_at_call 135;refine(b9.out _ (c6.out _ a4.out)).mono ?_;rintro e V7 ⟨rfl,rfl⟩))
    all_goals
     have a5:Hid (OX w (V7.setCell ⟨L,2,none⟩ (.int .i64 (K:Int))) O T L ⟨x,y,t,u⟩ G ⟨f,g,p,r,j,o,b,d⟩ ⟨G.ts.length,(lfs G.rs).length,K,G.e,nmG G,G.ts.map (·.l),G.ts.map (·.a),[]⟩ []):=a4.out.putSt K;generalize V7.setCell ⟨L,2,none⟩ (.int .i64 (K:Int))=V8 at a5 ⊢;clear a4 d1 H y0 y1 y2 y3 y4 y5 y6 y7 g0 g1 g2 g3 g4 g5 g6 g7 p0 p1 p2 p3 q0 q1 q2 q3 q4 q5 q6 q7 c7 b9 c6 I;obtain⟨p0,p1,p2,p3⟩:=box4 (b8.out V8 a5.out).1;obtain⟨q0,q1,q2,q3,q4,q5,q6,q7⟩:=box8 (b8.out V8 a5.out).2;go_wp2_with fail;refine(c5.out _ a5.out).mono ?_;rintro e V9 ⟨D,c,rfl,hq,y7,g7⟩;have HQ:=hid hq;clear hq a5 c5 p0 p1 p2 p3 q0 q1 q2 q3 q4 q5 q6 q7
     go_upto_region 10 with fail
     generalize V9.setCell ⟨L,7,none⟩ (.slice D (J+1) c)=VA at HQ ⊢;clear y7 g7;obtain⟨qs,hq⟩:=HQ.out;have HA:=hid hq;have R:=hq.sx;rw[b1.out]at R;obtain⟨q0,q1,q2,q3,q4,q5,q6,q7⟩:=box8 R;clear hq HQ R;go_wp2_with fail;refine(c8.out _ _ _ HA.out.own.isSp).mono ?_;rintro e VB ⟨rfl,d2⟩;have HB:=hid (HA.out.step d2);clear HA d2 c8 q0 q1 q2 q3 q4 q5 q6 q7;obtain⟨z0,z1,z2,z3,z4,z5,z6,z7⟩:=box8 HB.out.rx;obtain⟨f0,f1,f2,f3,f4,f5,f6,f7⟩:=qa6 HB.out.rx
     have HF:Hid (∀v0 v1 v2 v3 v4 v5 v6 v7,IsSp (set8 VB T v0 v1 v2 v3 v4 v5 v6 v7) ⟨f,g,p,r,j,o,D,c⟩ (spG G)/\Below w.heap.size w (set8 VB T v0 v1 v2 v3 v4 v5 v6 v7)):=fun v0 v1 v2 v3 v4 v5 v6 v7=>⟨(HB.out.own.set8 ⟨_,HB.out.rx⟩).isSp,jh HB.out.bel a0.out⟩
     have R:=HB.out.sx;rw[b1.out]at R;obtain⟨q0,q1,q2,q3,q4,q5,q6,q7⟩:=box8 R;clear R
     cases bu
     case true =>
      have i:Hid (k=8):=by
       have hu:=b4.out.1 rfl
       rcases HK.out with e | e | e | e | e
       ·exact absurd E.out e.2
       ·exact absurd e.2.2 b0.out
       ·exact absurd N.out e.2.2.2
       ·exact e.1
       ·exact absurd hu e.2.2.2.2
      go_wp2_with fail;refine bodyPost_ret (v:=.tuple #[.agg zC,.int .i64 8]) (by unfold zC sC;simp[results,Tryz.results112,go_sem, *]) rfl ?_
      exact⟨.inl ⟨by rw[i.out];decide,by rw[i.out]⟩,(HF.out _ _ _ _ _ _ _ _).2⟩
     case false =>
      have i:Hid (k=0):=by
       have hu:¬qbv (spG G):=fun e=>by have:=b4.out.2 e;cases this
       rcases HK.out with e | e | e | e | e
       ·exact absurd E.out e.2
       ·exact absurd e.2.2 b0.out
       ·exact absurd N.out e.2.2.2
       ·exact absurd e.2.2.2.2 hu
       ·exact e.1
      go_wp2_with fail;refine bodyPost_ret (v:=.tuple #[.agg #[.int .i64 (C:Int),.int .i64 (m:Int),.int .i64 (K:Int),.int .i64 G.e,.slice f S g,.slice p l1 r,.slice j a1 o,.slice D (J+1) c],.int .i64 0]) (by simp[results,Tryz.results112,go_sem, *]) rfl ?_;exact⟨.inr ⟨i.out,⟨f,g,p,r,j,o,D,c⟩,by unfold sv;rw[b1.out],(HF.out _ _ _ _ _ _ _ _).1⟩,(HF.out _ _ _ _ _ _ _ _).2⟩
structure RY (w W:World) (h:SHd) (S:Sp) (b1 yb n:Nat) (fd:List Bool):Prop where
 bel:Below w.heap.size w W
 bs:W.heap[b1]?=some (.cells (sC h S) 31 (0,0))
 own:W.ownsRow w.heap.size 4 1 (.slice (some ⟨yb,0,none⟩) n n) n (booC fd)
 len:fd.length=n
theorem RY.cell{w W:World}{h:SHd}{S:Sp}{b a n:Nat}{fd:List Bool}(y:RY w W h S b a n fd){x:Nat}(c:x<n):W.cell? ⟨a,x,none⟩=some (.bool (isF fd x))/\W.frozen? ⟨a,x,none⟩=false:=by
 refine⟨?_,y.own.frozenAt x⟩;rw[y.own.cellAt x (by omega)];unfold booC;rw[List.getElem?_map,vy (by rw[y.len];exact c)]
 rfl
theorem RY.set{w W:World}{h:SHd}{S:Sp}{c a n:Nat}{fd:List Bool}(y:RY w W h S c a n fd)(x:Nat):RY w (W.setCell ⟨a,x,none⟩ (.bool true)) h S c a n (fd.set x true):=by
 have d:=qw y.own (b:=a) rfl;refine⟨y.bel.setCell (p:=⟨a,x,none⟩) d.1 _,?_,?_,by rw[List.length_set];exact y.len⟩
 ·exact(Below.heap_setCell _ _ _ _ (show c≠a from qu ⟨_,y.bs⟩ d.2.2 (by decide))).trans y.bs
 ·rw[qb8];exact(y.own.stored x (.bool true)).1
def nF (fd:List Bool):Nat:=fd.countP (fun b=>!b)
theorem qkp:∀{fd:List Bool} {x:Nat},x<fd.length->isF fd x=false->nF (fd.set x true)+1=nF fd
 | [],_,h,_=>absurd h (Nat.not_lt_zero _)
 | b :: r,0,_,hf=>by
  have a:b=false:=hf;subst a;simp[nF]
 | b :: r,x+1,h,hf=>by
  have c:=qkp (fd:=r) (x:=x) (by simpa using h) hf;unfold nF at c ⊢;rw[List.set_cons_succ,List.countP_cons,List.countP_cons];omega
theorem qr9(fd:List Bool):nF fd<=fd.length:=List.countP_le_length
def CloY (S:Sp) (i:Nat) (fd:List Bool):Prop:=∀(j:Nat) (r:SR) (x:Nat),0<j->j<i->S.rs[j]?=some r->r.l=(x:Int)->(∀y∈r.r,isF fd y=true)->isF fd x=true
def CloR (S:Sp) (i:Nat) (fd:List Bool):Prop:=∀(j:Nat) (r:SR) (x y:Nat),0<j->j<i->S.rs[j]?=some r->r.l=(x:Int)->isF fd x=true->y∈r.r->isF fd y=true
theorem qpj{S:Sp}{i:Nat}{fd:List Bool}{r:SR}{x:Nat}(h:CloY S i fd)(g:S.rs[i]?=some r)(f:r.l=(x:Int))(k:(∀y∈r.r,isF fd y=true)->isF fd x=true):CloY S (i+1) fd:=by
 intro j q z d m a c b
 rcases Nat.lt_or_ge j i with h2 | h2
 ·exact h j q z d h2 a c b
 ·have:j=i:=by omega
  subst this;rw[g]at a
  cases a
  rw[f]at c
  have:x=z:=by omega
  subst this;exact k b
theorem qih{S:Sp}{i:Nat}{fd:List Bool}{r:SR}{x:Nat}(h:CloR S i fd)(k:S.rs[i]?=some r)(g:r.l=(x:Int))(m:isF fd x=true->∀y∈r.r,isF fd y=true):CloR S (i+1) fd:=by
 intro j q z y f n a d b c
 rcases Nat.lt_or_ge j i with h2 | h2
 ·exact h j q z y f h2 a d b c
 ·have:j=i:=by omega
  subst this;rw[k]at a
  cases a
  rw[g]at d
  have:x=z:=by omega
  subst this;exact m b y c
def Upto (l:List Nat) (fd:List Bool) (k:Nat):Prop:=∀(j y:Nat),j<k->l[j]?=some y->isF fd y=true
theorem qkq{l:List Nat}{fd:List Bool}:Upto l fd l.length↔∀y∈l,isF fd y=true:=by
 constructor
 ·intro h y a;obtain⟨j,b⟩:=List.getElem?_of_mem a;exact h j y (List.getElem?_eq_some_iff.1 b).1 b
 ·intro h j y _ a;exact h y (List.mem_of_getElem? a)
theorem qeu{l:List Nat}{fd:List Bool}{k z:Nat}(b:l[k]?=some z):Upto l fd (k+1)↔(Upto l fd k/\isF fd z=true):=by
 constructor
 ·intro h;exact⟨fun j y f a=>h j y (by omega) a,h k z (by omega) b⟩
 ·rintro⟨c,d⟩ j y f a
  rcases Nat.lt_or_ge j k with h | h
  ·exact c j y h a
  ·have:j=k:=by omega
   subst this;rw[b]at a
   cases a
   exact d
theorem qii(l:List Nat)(fd:List Bool):Upto l fd 0:=fun _ _ h=>absurd h (Nat.not_lt_zero _)
theorem qhu(n x:Nat):isF (List.replicate n false) x=false:=by
 unfold isF
 cases a:(List.replicate n false)[x]? with
 | none=>rfl
 | some b =>
  have:=List.mem_of_getElem? a;rw[List.mem_replicate]at this;rw[this.2];rfl
theorem qdr(V:World)(a n:Nat)(p:n<=1000)(h:a<=V.heap.size):∃b,(Instr.makeSlice 51 (.int .i64 (n:Int)) (.int .i64 (n:Int))).run Tryz.prog V=.ok (.slice (some ⟨V.heap.size,0,none⟩) n n) b/\b.ownsRow a 4 1 (.slice (some ⟨V.heap.size,0,none⟩) n n) n (booC (List.replicate n false))/\Below V.heap.size V b:=by
 obtain⟨o,j,c,d,f⟩:=info_parts i4;obtain⟨w1,m,g,i⟩:=run_make_full (P:=Tryz.prog) V a 51 4 o _ 1 u51 j c d .i64 .i64 n (by rw[f];omega) (by unfold maxLen;omega) h
 rw[qfu]at g;exact⟨w1,m,g,(Below.refl V.heap.size V).grown i (Nat.le_refl _) (fun k l=>by cases l)⟩
def RRs (w W:World) (h:SHd) (S:Sp) (b1 yb n:Nat) (fd:List Bool):Prop:=RY w W h S b1 yb n fd/\qol S fd/\isF fd S.st=true
theorem qhv(w:World)(h:SHd)(S:Sp)(n:Nat)(a3:n=S.tk+1+S.nt)(g:WF S)(I:IsSp w h S):
  Calls Tryz.prog 27 #[sv h S] w fun e w'=>BRes w w' n (Rch S) e:=by
 have hn:n<=1000:=by have:=g.tk;have:=g.nt;omega
 have b6:=g.nr
 have a4:1<=S.rs.length:=by have:=(List.getElem?_eq_some_iff.1 g.hd).1;omega
 have d:=hid3 g I a3;have H:Below w.heap.size w (w.alloc (.cells (sC h S) 31)):=qb _ _;have B:(w.alloc (.cells (sC h S) 31)).heap[w.heap.size]?=some (.cells (sC h S) 31 (0,0)):=heap_alloc_new _ _;have d3:=g.tk;have d2:=g.nt;obtain⟨rb,ro,-,-,t,-⟩:=I.rl.at g.hd;have G:=hid t;have b4:=vn I.rl;clear g I a3;unfold sv sC;rw[t];clear t
 obtain⟨q,s⟩:∃q,Hid (S.rs.length=q):=⟨_,rfl⟩
 rw[s.out]at b6 a4 b4 ⊢;go_enter Tryz.func27,Tryz.ntmps27
 go_upto_region 1 with fail
 have e0:w.alloc (.cells #[.int .i64 (S.tk:Int),.int .i64 (S.nt:Int),.int .i64 (S.st:Int),.int .i64 S.ex,.slice h.na S.nm.length h.nc,.slice h.la S.lv.length h.lc,.slice h.aa S.az.length h.ac,.slice (some ⟨rb,ro,none⟩) q h.rc] 31)=w.alloc (.cells (sC h S) 31):=by unfold sC;rw[G.out,s.out]
 rw[e0];generalize w.alloc (.cells (sC h S) 31)=W0 at H B ⊢
 obtain⟨m,Z⟩:∃m,Hid (m=w.heap.size):=⟨_,rfl⟩
 rw[<-Z.out]at B ⊢;obtain⟨c0,c1,-,-,-,-,-,-⟩:=sbox B
 have a5:S.st<n:=by have:=d.out.1.st;have:=d.out.2.2;omega
 obtain⟨W1,A,ho,R⟩:=qdr W0 w.heap.size n hn H.size
 have f:Hid (RY w W1 h S m W0.heap.size n (List.replicate n false)):=⟨qd H R,qf R B,ho,by simp⟩
 have en:(n:Int)=(S.tk:Int)+1+(S.nt:Int):=by have:=d.out.2.2;omega
 rw[en]at A;clear e0 H B ho R Z en
 go_upto_region 2 with fail
 clear A c0 c1;generalize W0.heap.size=l at f ⊢;obtain⟨-,-,c2,-,-,-,-,-⟩:=sbox f.out.bs;obtain⟨P,f0⟩:=f.out.cell a5;rw[qhu]at P
 have b9:(S.st:Int)<(n:Int):=by omega
 have H8:Hid (∃fd,RRs w (W1.setCell ⟨l,S.st,none⟩ (.bool true)) h S m l n fd):=by
  have E:S.st<(List.replicate n false).length:=by rw[f.out.len];exact a5
  refine⟨_,f.out.set S.st,fun x u=>?_,by rw[ky E,if_pos rfl]⟩;rw[ky E]at u
  split at u
  ·rename_i e;subst e;exact Rch.start
  ·rw[qhu]at u
   cases u
 clear f
 go_upto_region 3 with fail
 generalize W1.setCell ⟨l,S.st,none⟩ (.bool true)=w8 at H8 ⊢;clear c2 P f0;go_wp2_with fail
 go_loopg [4] (n+1) (fun kx s4 wr=>∃b:Bool,s4=.bool b/\Hid (∃fd,RRs w wr h S m l n fd/\(b=false->CloR S q fd)/\(b=true->nF fd+1<=kx)))
 case atStart =>
  obtain⟨fd,y⟩:=H8.out;exact⟨true,rfl,(⟨fd,y,(fun e=>by cases e),fun _=>by have:=qr9 fd;rw[y.1.len]at this;omega⟩:∃fd,RRs w w8 h S m l n fd/\(true=false->CloR S q fd)/\(true=true->nF fd+1<=n+1))⟩
 case round =>
  clear H8;obtain⟨b,rfl,J⟩:=hrel;obtain⟨Q,L,T,U⟩:=J.out
  cases b
  ·have v:Hid (BRes w wr n (Rch S) (.returned (.slice (some ⟨l,0,none⟩) n n))):=by
    refine⟨l,Q,rfl,L.1.len,L.1.own,?_,L.1.bel⟩;have hc:=T rfl;rw[<-s.out]at hc;exact qls (fun i r x y h0 A E u hy=>hc i r x y h0 (List.getElem?_eq_some_iff.1 A).1 A E u hy) L.2.1 L.2.2
   clear L T U J;go_wp2_with fail;go_ret;exact v.out
  ·obtain⟨c,a0⟩:∃c,Hid (nF Q=c):=⟨_,rfl⟩
   have c5:c+1<=gk:=by rw[<-a0.out];exact U rfl
   have f:=hid L;clear L T U J
   obtain⟨wo,d5⟩:∃wo,wo=wr:=⟨_,rfl⟩
   subst wr;go_wp2_with fail
   go_loopg [4,5] q (fun kx s4 s5 wr=>∃(b:Bool) (i:Nat),s4=.bool b/\s5=.int .i64 i/\1<=i/\i<=q/\q - i<=kx/\Hid (∃fd,RRs w wr h S m l n fd/\(b=false->CloR S i fd/\nF fd<=c)/\(b=true->nF fd+1<=c)))
   case atStart=>exact⟨false,1,rfl,rfl,Nat.le_refl _,a4,by omega,(⟨Q,f.out,fun _=>⟨fun j r x y h0 h1=>by omega,by rw[a0.out];exact Nat.le_refl _⟩,(fun e=>by cases e)⟩:∃fd,RRs w wo h S m l n fd/\(false=false->CloR S 1 fd/\nF fd<=c)/\(false=true->nF fd+1<=c))⟩
   case round =>
    clear f;obtain⟨b,i,rfl,rfl,c9,hi,c6,J⟩:=hrel;obtain⟨fd,y,o,p⟩:=J.out;obtain⟨-,-,-,-,-,-,-,c7⟩:=sbox y.1.bs;rw[G.out,s.out]at c7
    by_cases b0:i<q
    ·have a2:(i:Int)<(q:Int):=by omega
     obtain⟨r,A⟩:∃r,S.rs[i]?=some r:=⟨S.rs[i]'(by rw[s.out];exact b0),List.getElem?_eq_getElem _⟩
     obtain⟨d7,d8,xa,xc,t,P,d1,-,-,Y⟩:=d.out.2.1.rl.at A;rw[G.out]at t
     cases t
     have b8:=zk Y;have b5:=(d.out.1.rr r (List.mem_of_getElem? A)).1;obtain⟨xl,X,d6,a7⟩:=d.out.1.rl i r (by omega) A;rw[<-d.out.2.2]at a7;rw[X]at P
     obtain⟨F,O⟩:∃F,Hid (r.r.length=F):=⟨_,rfl⟩
     rw[O.out]at d1 b5 b8;have C:=hid5 A Y X P d1
     have a:Hid (∃fd,RRs w wr h S m l n fd/\(b=false->CloR S i fd/\nF fd<=c)/\(b=true->nF fd+1<=c)/\Upto r.r fd 0):=⟨fd,y,o,p,qii _ _⟩
     clear y o p J A Y X P d1
     obtain⟨wi,d4⟩:∃wi,wi=wr:=⟨_,rfl⟩
     subst wr
     have c3:(xl:Int)<(n:Int):=by omega
     go_wp2_with fail;clear c7
     go_loopg [4,6] F (fun kx s4 s6 wr=>∃(b:Bool) (k:Nat),s4=.bool b/\s6=.int .i64 k/\k<=F/\F - k<=kx/\Hid (∃fd,RRs w wr h S m l n fd/\(b=false->CloR S i fd/\nF fd<=c)/\(b=true->nF fd+1<=c)/\Upto r.r fd k))
     case atStart=>exact⟨b,0,rfl,rfl,Nat.zero_le _,by omega,a⟩
     case round =>
      clear a;obtain⟨D,k,rfl,rfl,hk,c8,K⟩:=hrel;obtain⟨fd,y,o,p,a6⟩:=K.out;obtain⟨-,-,-,-,-,-,-,c7⟩:=sbox y.1.bs;rw[G.out,s.out]at c7;have P:=qt y.1.bel C.out.2.2.2.1;have d1:=qt y.1.bel C.out.2.2.2.2;obtain⟨q2,-⟩:=y.1.cell a7;have a:=hid4 y o p a6;clear y o p a6 K
      obtain⟨bx,M⟩:∃bx,Hid (isF fd xl=bx):=⟨_,rfl⟩
      rw[M.out]at q2
      cases bx
      ·have v:Hid (∃fd,RRs w wr h S m l n fd/\(D=false->CloR S (i+1) fd/\nF fd<=c)/\(D=true->nF fd+1<=c)):=⟨fd,a.out.1,fun e=>⟨qih (a.out.2.1 e).1 C.out.1 C.out.2.2.1 (fun u=>by rw[M.out]at u;cases u),(a.out.2.1 e).2⟩,a.out.2.2.1⟩
       go_wp2_with fail;go_roundg (q - (i+1))
       case measure=>omega
       case rel=>exact⟨D,i+1,rfl,by simp,by omega,by omega,Nat.le_refl _,v⟩
      ·by_cases a1:k<F
       ·have V:(k:Int)<(F:Int):=by omega
        obtain⟨z,hz⟩:∃z,r.r[k]?=some z:=⟨r.r[k]'(by rw[O.out];exact a1),List.getElem?_eq_getElem _⟩
        obtain⟨b2,o2,b7,q1⟩:=yd (C.out.2.1.below a.out.1.1.bel) hz;subst b7
        have a8:z<n:=by rw[d.out.2.2];exact(d.out.1.rr r (List.mem_of_getElem? C.out.1)).2 z (List.mem_of_getElem? hz)
        obtain⟨q3,f3⟩:=a.out.1.1.cell a8;have HZ:=hid hz
        obtain⟨bz,N⟩:∃bz,Hid (isF fd z=bz):=⟨_,rfl⟩
        rw[N.out]at q3
        have c4:(z:Int)<(n:Int):=by omega
        clear hz
        cases bz
        ·have v:Hid (∃fd,RRs w (wr.setCell ⟨l,z,none⟩ (.bool true)) h S m l n fd/\nF fd+1<=c/\Upto r.r fd (k+1)):=by
          have E:z<fd.length:=by rw[a.out.1.1.len];exact a8
          refine⟨fd.set z true,⟨a.out.1.1.set z,fun x u=>?_,qat E a.out.1.2.2⟩,?_,(qeu HZ.out).2 ⟨fun j y hj hy=>qat E (a.out.2.2.2 j y hj hy),by rw[ky E,if_pos rfl]⟩⟩
          ·rw[ky E]at u
           split at u
           ·rename_i e;subst e;exact Rch.rule i r xl x (by omega) C.out.1 C.out.2.2.1 (a.out.1.2.1 xl M.out) (List.mem_of_getElem? HZ.out)
           ·exact a.out.1.2.1 x u
          ·have:=qkp E N.out
           cases D
           ·have:=(a.out.2.1 rfl).2;omega
           ·have:=a.out.2.2.1 rfl;omega
         go_wp2_with fail;go_roundg (F - (k+1))
         case measure=>omega
         case rel =>
          obtain⟨a9,s1,s2,s3⟩:=v.out;exact⟨true,k+1,rfl,by simp,by omega,Nat.le_refl _,(⟨a9,s1,(fun e=>by cases e),fun _=>s2,s3⟩:∃fd,RRs w (wr.setCell ⟨l,z,none⟩ (.bool true)) h S m l n fd/\(true=false->CloR S i fd/\nF fd<=c)/\(true=true->nF fd+1<=c)/\Upto r.r fd (k+1))⟩
        ·have v:Hid (∃fd,RRs w wr h S m l n fd/\(D=false->CloR S i fd/\nF fd<=c)/\(D=true->nF fd+1<=c)/\Upto r.r fd (k+1)):=⟨fd,a.out.1,a.out.2.1,a.out.2.2.1,(qeu HZ.out).2 ⟨a.out.2.2.2,N.out⟩⟩
         go_wp2_with fail;go_roundg (F - (k+1))
         case measure=>omega
         case rel=>exact⟨D,k+1,rfl,by simp,by omega,Nat.le_refl _,v⟩
       ·have V:¬(k:Int)<(F:Int):=by omega
        have v:Hid (∃fd,RRs w wr h S m l n fd/\(D=false->CloR S (i+1) fd/\nF fd<=c)/\(D=true->nF fd+1<=c)):=by
         have h1:=a.out.2.2.2
         have:k=r.r.length:=by rw[O.out];omega
         rw[this]at h1;exact⟨fd,a.out.1,fun e=>⟨qih (a.out.2.1 e).1 C.out.1 C.out.2.2.1 (fun _=>qkq.1 h1),(a.out.2.1 e).2⟩,a.out.2.2.1⟩
        go_wp2_with fail;go_roundg (q - (i+1))
        case measure=>omega
        case rel=>exact⟨D,i+1,rfl,by simp,by omega,by omega,Nat.le_refl _,v⟩
    ·have a2:¬(i:Int)<(q:Int):=by omega
     have v:Hid (∃fd,RRs w wr h S m l n fd/\(b=false->CloR S q fd)/\(b=true->nF fd+1<=c)):=by
      have:i=q:=by omega
      subst this;exact⟨fd,y,fun e=>(o e).1,p⟩
     clear y o p J;go_wp2_with fail;go_roundg c
     case measure=>omega
     case rel=>exact⟨b,rfl,v⟩
def RYs (w W:World) (h:SHd) (S:Sp) (b1 yb n:Nat) (fd:List Bool):Prop:=RY w W h S b1 yb n fd/\Toks S fd/\qbb S fd
theorem qje(w:World)(h:SHd)(S:Sp)(n:Nat)(a6:n=S.tk+1+S.nt)(c:WF S)(H:IsSp w h S):
  Calls Tryz.prog 26 #[sv h S] w fun e w'=>BRes w w' n (Der S) e:=by
 have hn:n<=1000:=by have:=c.tk;have:=c.nt;omega
 have b5:=c.nr
 have a7:1<=S.rs.length:=by have:=(List.getElem?_eq_some_iff.1 c.hd).1;omega
 have l:=hid3 c H a6;have D:Below w.heap.size w (w.alloc (.cells (sC h S) 31)):=qb _ _;have B:(w.alloc (.cells (sC h S) 31)).heap[w.heap.size]?=some (.cells (sC h S) 31 (0,0)):=heap_alloc_new _ _;have d4:=c.tk;have d3:=c.nt;obtain⟨rb,ro,-,-,t,-⟩:=H.rl.at c.hd;have O:=hid t;have b3:=vn H.rl;clear c H a6;unfold sv sC;rw[t];clear t
 obtain⟨p,u⟩:∃p,Hid (S.rs.length=p):=⟨_,rfl⟩
 rw[u.out]at b5 a7 b3 ⊢;go_enter Tryz.func26,Tryz.ntmps26
 go_upto_region 1 with fail
 have e0:w.alloc (.cells #[.int .i64 (S.tk:Int),.int .i64 (S.nt:Int),.int .i64 (S.st:Int),.int .i64 S.ex,.slice h.na S.nm.length h.nc,.slice h.la S.lv.length h.lc,.slice h.aa S.az.length h.ac,.slice (some ⟨rb,ro,none⟩) p h.rc] 31)=w.alloc (.cells (sC h S) 31):=by unfold sC;rw[O.out,u.out]
 rw[e0];generalize w.alloc (.cells (sC h S) 31)=W0 at D B ⊢
 obtain⟨o,a0⟩:∃o,Hid (o=w.heap.size):=⟨_,rfl⟩
 rw[<-a0.out]at B ⊢;obtain⟨c0,c1,-,-,-,-,-,-⟩:=sbox B;obtain⟨W1,A,ho,R⟩:=qdr W0 w.heap.size n hn D.size
 have m:Hid (RY w W1 h S o W0.heap.size n (List.replicate n false)):=⟨qd D R,qf R B,ho,by simp⟩
 have en:(n:Int)=(S.tk:Int)+1+(S.nt:Int):=by have:=l.out.2.2;omega
 rw[en]at A;clear e0 D B ho R a0 en
 go_upto_region 2 with fail
 clear A c0 c1;generalize W0.heap.size=d at m ⊢;obtain⟨c0,-,-,-,-,-,-,-⟩:=sbox m.out.bs
 go_upto_block 0 with fail
 clear c0
 go_cut [4] (fun s4 wd=>Hid (∃fd,RYs w wd h S o d n fd))
 case first =>
  go_wp2_with fail
  go_loopg [4] S.tk (fun kx s4 wr=>∃k:Nat,s4=.int .i64 k/\k<=S.tk/\S.tk - k<=kx/\Hid (∃fd,RY w wr h S o d n fd/\(∀x,x<k->isF fd x=true)/\∀x,isF fd x=true->x<S.tk))
  case atStart=>exact⟨0,rfl,Nat.zero_le _,by omega,(⟨_,m.out,fun x f=>absurd f (Nat.not_lt_zero _),fun x f=>by rw[qhu]at f;cases f⟩:∃fd,RY w W1 h S o d n fd/\(∀x,x<0->isF fd x=true)/\∀x,isF fd x=true->x<S.tk)⟩
  case round =>
   clear m;obtain⟨k,rfl,hk,hg,J⟩:=hrel;obtain⟨fd,y,I,h2⟩:=J.out;obtain⟨c0,-,-,-,-,-,-,-⟩:=sbox y.bs
   by_cases a5:k<S.tk
   ·have v:(k:Int)<(S.tk:Int):=by omega
    have a4:k<n:=by have:=l.out.2.2;omega
    obtain⟨d0,f0⟩:=y.cell a4
    have G:k<fd.length:=by rw[y.len];exact a4
    have g:Hid (∃fd,RY w (wr.setCell ⟨d,k,none⟩ (.bool true)) h S o d n fd/\(∀x,x<k+1->isF fd x=true)/\∀x,isF fd x=true->x<S.tk):=by
     refine⟨_,y.set k,fun x f=>?_,fun x f=>?_⟩
     ·rw[ky G]
      split
      ·rfl
      ·exact I x (by omega)
     ·rw[ky G]at f
      split at f
      ·omega
      ·exact h2 x f
    generalize isF fd k=bz at d0;clear y I h2 J G
    have c3:(k:Int)<(n:Int):=by omega
    go_wp2_with fail;go_roundg (S.tk - (k+1))
    case measure=>omega
    case rel=>exact⟨k+1,by simp,by omega,Nat.le_refl _,g⟩
   ·have v:¬(k:Int)<(S.tk:Int):=by omega
    have g:Hid (∃fd,RYs w wr h S o d n fd):=⟨fd,y,fun x f=>I x (by omega),fun x f=>Der.tok x (h2 x f)⟩
    clear y I h2 J;go_wp2_with fail;go_meet;exact g
 case rest =>
  obtain⟨w8,d5⟩:∃w8,w8=wc:=⟨_,rfl⟩
  subst wc;clear m;have H8:Hid (∃fd,RYs w w8 h S o d n fd):=hcut;clear hcut;go_wp2_with fail
  go_loopg [5] (n+1) (fun kx s5 wr=>∃b:Bool,s5=.bool b/\Hid (∃fd,RYs w wr h S o d n fd/\(b=false->CloY S p fd)/\(b=true->nF fd+1<=kx)))
  case atStart =>
   obtain⟨fd,y⟩:=H8.out;exact⟨true,rfl,(⟨fd,y,(fun e=>by cases e),fun _=>by have:=qr9 fd;rw[y.1.len]at this;omega⟩:∃fd,RYs w w8 h S o d n fd/\(true=false->CloY S p fd)/\(true=true->nF fd+1<=n+1))⟩
  case round =>
   clear H8;obtain⟨b,rfl,J⟩:=hrel;obtain⟨Q,L,T,U⟩:=J.out
   cases b
   ·have g:Hid (BRes w wr n (Der S) (.returned (.slice (some ⟨d,0,none⟩) n n))):=by
     refine⟨d,Q,rfl,L.1.len,L.1.own,?_,L.1.bel⟩;have hc:=T rfl;rw[<-u.out]at hc;exact qe9 (fun i r x h0 A G ha=>hc i r x h0 (List.getElem?_eq_some_iff.1 A).1 A G ha) L.2.2 L.2.1
    clear L T U J;go_wp2_with fail;go_ret;exact g.out
   ·obtain⟨s,a1⟩:∃s,Hid (nF Q=s):=⟨_,rfl⟩
    have c6:s+1<=gk:=by rw[<-a1.out];exact U rfl
    have m:=hid L;clear L T U J
    obtain⟨wo,d7⟩:∃wo,wo=wr:=⟨_,rfl⟩
    subst wr;go_wp2_with fail
    go_loopg [5,6] p (fun kx s5 s6 wr=>∃(b:Bool) (i:Nat),s5=.bool b/\s6=.int .i64 i/\1<=i/\i<=p/\p - i<=kx/\Hid (∃fd,RYs w wr h S o d n fd/\(b=false->CloY S i fd/\nF fd<=s)/\(b=true->nF fd+1<=s)))
    case atStart=>exact⟨false,1,rfl,rfl,Nat.le_refl _,a7,by omega,(⟨Q,m.out,fun _=>⟨fun j r x h0 I=>by omega,by rw[a1.out];exact Nat.le_refl _⟩,(fun e=>by cases e)⟩:∃fd,RYs w wo h S o d n fd/\(false=false->CloY S 1 fd/\nF fd<=s)/\(false=true->nF fd+1<=s))⟩
    case round =>
     clear m;obtain⟨b,i,rfl,rfl,d2,hi,c8,J⟩:=hrel;obtain⟨fd,y,E,F⟩:=J.out;obtain⟨-,-,-,-,-,-,-,c7⟩:=sbox y.1.bs;rw[O.out,u.out]at c7
     by_cases a5:i<p
     ·have v:(i:Int)<(p:Int):=by omega
      obtain⟨r,A⟩:∃r,S.rs[i]?=some r:=⟨S.rs[i]'(by rw[u.out];exact a5),List.getElem?_eq_getElem _⟩
      obtain⟨d9,f1,xa,xc,t,d0,d1,-,-,Z⟩:=l.out.2.1.rl.at A;rw[O.out]at t
      cases t
      have d0:=qt y.1.bel d0;have d1:=qt y.1.bel d1;have b8:=zk Z;have b4:=(l.out.1.rr r (List.mem_of_getElem? A)).1;obtain⟨xl,X,d8,Y⟩:=l.out.1.rl i r (by omega) A;rw[<-l.out.2.2]at Y;rw[X]at d0;have HR:=hid3 A Z X;have q:=hid3 y E F;clear y E F J A Z X
      obtain⟨C,P⟩:∃C,Hid (r.r.length=C):=⟨_,rfl⟩
      rw[P.out]at d1 b4 b8
      obtain⟨wi,d6⟩:∃wi,wi=wr:=⟨_,rfl⟩
      subst wr;go_wp2_with fail
      go_loopg [7,8] C (fun kx s7 s8 wr=>∃(a:Bool) (k:Nat),s7=.bool a/\s8=.int .i64 k/\k<=C/\C - k<=kx/\Hid (wr=wi/\(a=true↔Upto r.r fd k)))
      case atStart=>exact⟨true,0,rfl,rfl,Nat.zero_le _,by omega,(⟨rfl,fun _=>qii _ _,fun _=>rfl⟩:wi=wi/\(true=true↔Upto r.r fd 0))⟩
      case round =>
       obtain⟨a,k,rfl,rfl,hk,c9,K⟩:=hrel;obtain⟨b6,a8⟩:=K.out;subst b6;have HU:=hid a8;clear K a8
       by_cases a3:k<C
       ·have V:(k:Int)<(C:Int):=by omega
        obtain⟨z,hz⟩:∃z,r.r[k]?=some z:=⟨r.r[k]'(by rw[P.out];exact a3),List.getElem?_eq_getElem _⟩
        obtain⟨b2,o2,b7,q1⟩:=yd (HR.out.2.1.below q.out.1.1.bel) hz;subst b7
        have b9:z<n:=by rw[l.out.2.2];exact(l.out.1.rr r (List.mem_of_getElem? HR.out.1)).2 z (List.mem_of_getElem? hz)
        obtain⟨q2,-⟩:=q.out.1.1.cell b9;have HZ:Hid (Upto r.r fd (k+1)↔(Upto r.r fd k/\isF fd z=true)):=qeu hz
        obtain⟨bz,N⟩:∃bz,Hid (isF fd z=bz):=⟨_,rfl⟩
        rw[N.out]at q2
        have c5:(z:Int)<(n:Int):=by omega
        clear hz
        cases a
        ·have g:Hid (¬Upto r.r fd (k+1)):=fun e=>by have:=HU.out.2 (HZ.out.1 e).1;cases this
         go_wp2_with fail;go_roundg (C - (k+1))
         case measure=>omega
         case rel=>exact⟨false,k+1,rfl,by simp,by omega,Nat.le_refl _,(⟨rfl,(fun e=>by cases e),fun e=>absurd e g.out⟩:wr=wr/\(false=true↔Upto r.r fd (k+1)))⟩
        ·have g:Hid (bz=true↔Upto r.r fd (k+1)):=⟨fun e=>HZ.out.2 ⟨HU.out.1 rfl,by rw[N.out];exact e⟩,fun e=>by rw[<-N.out];exact(HZ.out.1 e).2⟩
         go_wp2_with fail;go_roundg (C - (k+1))
         case measure=>omega
         case rel=>exact⟨bz,k+1,rfl,by simp,by omega,Nat.le_refl _,(⟨rfl,g.out⟩:wr=wr/\(bz=true↔Upto r.r fd (k+1)))⟩
       ·have V:¬(k:Int)<(C:Int):=by omega
        have HA:Hid (a=true↔∀y∈r.r,isF fd y=true):=by
         have:k=r.r.length:=by rw[P.out];omega
         have I:=HU.out;rw[this]at I;exact I.trans qkq
        obtain⟨q2,f2⟩:=q.out.1.1.cell Y
        have c4:(xl:Int)<(n:Int):=by omega
        clear HU
        obtain⟨bx,M⟩:∃bx,Hid (isF fd xl=bx):=⟨_,rfl⟩
        rw[M.out]at q2
        have stay:(a=true->bx=true)->Hid (∃fd,RYs w wr h S o d n fd/\(b=false->CloY S (i+1) fd/\nF fd<=s)/\(b=true->nF fd+1<=s)):=fun b0=>⟨fd,q.out.1,fun e=>⟨qpj (q.out.2.1 e).1 HR.out.1 HR.out.2.2 (fun a2=>by rw[M.out];exact b0 (HA.out.2 a2)),(q.out.2.1 e).2⟩,q.out.2.2⟩
        cases a
        ·have g:=stay (fun e=>by cases e);clear stay;go_wp2_with fail;go_roundg (p - (i+1))
         case measure=>omega
         case rel=>exact⟨b,i+1,rfl,by simp,by omega,by omega,Nat.le_refl _,g⟩
        ·cases bx
         ·have g:Hid (∃fd,RYs w (wr.setCell ⟨d,xl,none⟩ (.bool true)) h S o d n fd/\nF fd+1<=s):=by
           have G:xl<fd.length:=by rw[q.out.1.1.len];exact Y
           refine⟨fd.set xl true,⟨q.out.1.1.set xl,fun x f=>qat G (q.out.1.2.1 x f),fun x f=>?_⟩,?_⟩
           ·rw[ky G]at f
            split at f
            ·rename_i e;subst e;exact Der.rule i r x (by omega) HR.out.1 HR.out.2.2 (fun y hy=>q.out.1.2.2 y (HA.out.1 rfl y hy))
            ·exact q.out.1.2.2 x f
           ·have:=qkp G M.out
            cases b
            ·have:=(q.out.2.1 rfl).2;omega
            ·have:=q.out.2.2 rfl;omega
          clear stay;go_wp2_with fail;go_roundg (p - (i+1))
          case measure=>omega
          case rel =>
           obtain⟨a9,s1,s2⟩:=g.out;exact⟨true,i+1,rfl,by simp,by omega,by omega,Nat.le_refl _,(⟨a9,s1,(fun e=>by cases e),fun _=>s2⟩:∃fd,RYs w (wr.setCell ⟨d,xl,none⟩ (.bool true)) h S o d n fd/\(true=false->CloY S (i+1) fd/\nF fd<=s)/\(true=true->nF fd+1<=s))⟩
         ·have g:=stay (fun _=>rfl);clear stay;go_wp2_with fail;go_roundg (p - (i+1))
          case measure=>omega
          case rel=>exact⟨b,i+1,rfl,by simp,by omega,by omega,Nat.le_refl _,g⟩
     ·have v:¬(i:Int)<(p:Int):=by omega
      have g:Hid (∃fd,RYs w wr h S o d n fd/\(b=false->CloY S p fd)/\(b=true->nF fd+1<=s)):=by
       have:i=p:=by omega
       subst this;exact⟨fd,y,fun e=>(E e).1,F⟩
      clear y E F J;go_wp2_with fail;go_roundg s
      case measure=>omega
      case rel=>exact⟨b,rfl,g⟩
theorem qev{W g:World}{i b T E a k n c:Nat}{h:Option Addr}{cs:List Value}{d:Array Value}(l:Kept (fun k=>k=i\/blk h=some k) W g)(o:W.ownsRow a E k (.slice h n c) n cs)(f:W.heap[b]?=some (.cells d T (0,0)))(j:T≠E)(m:b≠i):g.heap[b]?=some (.cells d T (0,0)):=by
 rw[l.block b (Array.getElem?_eq_some_iff.1 f).1 (fun e=>?_)]
 ·exact f
 ·rcases e with e | e
  ·exact m e
  ·exact qu ⟨_,f⟩ (qw o e).2.2 j rfl
theorem SB.addTwo{w W:World}{r:Nat}{h:SHd}{S:Sp}{qs:List (SR × Option Addr × Nat)}(s:SB w W r h S qs)(x:ByteArray)(l:List ByteArray)(b o m c n:Nat)(en:S.nm.length=n)(hl:l.length=m)(O:Row w 1 (some ⟨b,o,none⟩) m c (strC l))(hm:0<m)(hn:n+m<9000):
  ∃g c1 A D c2 t,(Builtin.append_ #[27,27] 27 #[.slice h.na n h.nc,.slice (some ⟨W.heap.size,0,none⟩) 1 1]).run Tryz.prog (W.alloc (.cells #[.string x] 9))=.ok (.slice (some ⟨g,0,none⟩) (n+1) c1) A /\
   (Builtin.append_ #[27,27] 27 #[.slice (some ⟨g,0,none⟩) (n+1) c1,.slice (some ⟨b,o,none⟩) m c]).run Tryz.prog A=.ok (.slice D (n+1+m) c2) t /\
   t.heap[r]?=some (.cells (sC h S) 31 (0,0))/\SB w (t.setCell ⟨r,4,none⟩ (.slice D (n+1+m) c2)) r ⟨D,c2,h.la,h.lc,h.aa,h.ac,h.ra,h.rc⟩ ⟨S.tk,S.nt,S.st,S.ex,S.nm++x :: l,S.lv,S.az,S.rs⟩ qs /\
   ∀(b' T:Nat) (d:Array Value),W.heap[b']?=some (.cells d T (0,0))->T≠9->b'≠r->(t.setCell ⟨r,4,none⟩ (.slice D (n+1+m) c2)).heap[b']?=some (.cells d T (0,0)):=by
 subst en;obtain⟨g,c1,A,hr,L,X,hg⟩:=xy (us:=[.string x]) u28 i9 rfl (by decide) (by decide) rfl (fun u H=>by rw[List.mem_singleton]at H;subst H;rfl) s.nm s.bel.size (by omega)
 have K:=((Kept.refl _ W).alloc _).trans X (fun k _ e=>ze e);have I:Below w.heap.size w A:=s.bel.trans (K.below s.bel.size (fun k X e=>by have:=(qw s.nm e).1;omega))
 have G:=O.below I;obtain⟨i0,J,Q,R,U⟩:=info_parts i9
 have f:∀j u,(strC l)[j]?=some u->A.cell? ((⟨b,o,none⟩:Addr).add j)=some u:=by
  intro j u H;obtain⟨b',o',he,hc⟩:=G.at (by omega)
  cases he
  rw[Addr.add_lit];exact hc j u H
 have C:∀u∈strC l,u.oneCell'=true:=by
  intro u H;unfold strC at H;obtain⟨y,-,rfl⟩:=List.mem_map.1 H;rfl
 have B:(strC l).length=m * 1:=by unfold strC;rw[List.length_map,hl,Nat.mul_one]
 have F:=I.size;obtain⟨v',t,N,h2,h3,-⟩:=run_append_own (P:=Tryz.prog) A w.heap.size 27 27 9 i0 _ 1 16 u28 J Q R U rfl (by decide) _ _ _ L ⟨b,o,none⟩ m c (strC l) B f C (by unfold maxLen;omega) (by omega) F
 obtain⟨v1,w1,M,-,Y,a1⟩:=qai (P:=Tryz.prog) A 27 27 9 i0 _ 1 16 u28 J Q R U rfl (by decide) _ _ _ (zc L (Nat.zero_le _)) ⟨b,o,none⟩ m c (strC l) B f C (by unfold maxLen;omega) (by omega)
 rw[N]at M
 injection M with e1 V
 subst e1 V;obtain⟨D,c2,rfl,h4,h5,h6⟩:=zo h2
 have z:Kept (fun k=>blk h.na=some k) W t:=K.trans Y (fun i J e=>by
  have e:g=i:=Option.some.inj e;subst e
  rcases hg with h7 | h7
  ·exact ze h7
  ·omega)
 have stay:∀{E k n:Nat} {v:Value} {cs:List Value},W.ownsRow w.heap.size E k v n cs->E≠9->t.ownsRow w.heap.size E k v n cs:=fun L hE=>vp L z (fun i J e=>qu (za L J) (qw s.nm e).2.2 hE rfl)
 have a:t.heap[r]?=some (.cells (sC h S) 31 (0,0)):=by
  rw[z.block r (Array.getElem?_eq_some_iff.1 s.box).1 (fun e=>qu ⟨_,s.box⟩ (qw s.nm e).2.2 (by decide) rfl)];exact s.box
 have Z:Kept (fun k=>k=r\/blk h.na=some k) W (t.setCell ⟨r,4,none⟩ (.slice D (S.nm.length+1+m) c2)):=Kept.setCell (z.weaken (fun k e=>.inr e)) _ _ (fun _=>.inl rfl);refine⟨g,c1,A,D,c2,t,hr,N,a,⟨?_,?_,zu (stay s.lv (by decide)) a (by decide),zu (stay s.az (by decide)) a (by decide),zu (stay s.rl (by decide)) a (by decide),s.map,fun q hq=>zu (stay (s.row q hq) (by decide)) a (by decide),s.dis,?_,s.new⟩,fun b' T d hb hT a0=>qev Z s.nm hb hT a0⟩
 ·rw[yj a];unfold sC;simp;omega
 ·have e:strC (S.nm++x :: l)=strC S.nm++[.string x]++strC l:=by unfold strC;rw[List.map_append];simp
  have V:(S.nm++x :: l).length=S.nm.length+1+m:=by rw[List.length_append,List.length_cons,hl];omega
  simp only[e,V];exact zu h2 a (by decide)
 ·refine(s.bel.trans (z.below s.bel.size (fun k X e=>?_))).setCell (p:=⟨r,4,none⟩) s.new _;have:=(qw s.nm e).1;omega
structure SY (w W:World) (gb rb sb:Nat) (h:Hd) (G:Gm) (h':SHd) (S:Sp) (qs:List (SR × Option Addr × Nat)):Prop where
 sp:SB w W sb h' S qs
 gx:W.heap[gb]?=some (.cells #[.slice h.ta G.ts.length h.tc,.string G.s,.int .i64 G.e,.slice h.ra G.rs.length h.rc] 25 (0,0))
 rx:W.heap[rb]?=some (.cells zC 31 (0,0))
 ne:rb≠sb
theorem SY.step{w W b:World}{c f g:Nat}{h:Hd}{G:Gm}{d:SHd}{S:Sp}{qs:List (SR × Option Addr × Nat)}(s:SY w W c f g h G d S qs)(a:Below W.heap.size W b):SY w b c f g h G d S qs :=
 ⟨s.sp.step a,qf a s.gx,qf a s.rx,s.ne⟩
theorem SX.two{w W:World}{p q j:Nat}{h:Hd}{G:Gm}{a:SHd}{S:Sp}(s:SX w W p q j h G a S)(x:ByteArray)(l:List ByteArray)(b o m c n:Nat)(r:S.nm.length=n)(z:l.length=m)(i:Row w 1 (some ⟨b,o,none⟩) m c (strC l))(A:0<m)(B:n+m<9000):
  ∃g c1 k f c2 d,(Builtin.append_ #[27,27] 27 #[.slice a.na n a.nc,.slice (some ⟨W.heap.size,0,none⟩) 1 1]).run Tryz.prog (W.alloc (.cells #[.string x] 9))=.ok (.slice (some ⟨g,0,none⟩) (n+1) c1) k /\
   (Builtin.append_ #[27,27] 27 #[.slice (some ⟨g,0,none⟩) (n+1) c1,.slice (some ⟨b,o,none⟩) m c]).run Tryz.prog k=.ok (.slice f (n+1+m) c2) d /\
   d.cell? ⟨j,4,none⟩=some (.slice a.na n a.nc)/\d.frozen? ⟨j,4,none⟩=false/\SY w (d.setCell ⟨j,4,none⟩ (.slice f (n+1+m) c2)) p q j h G ⟨f,c2,a.la,a.lc,a.aa,a.ac,a.ra,a.rc⟩ ⟨S.tk,S.nt,S.st,S.ex,S.nm++x :: l,S.lv,S.az,S.rs⟩ []:=by
 obtain⟨g,c1,k,f,c2,d,u,v,t,y,far⟩:=s.sp.addTwo x l b o m c n r z i A B;exact⟨g,c1,k,f,c2,d,u,v,by rw[qe t];unfold sC;rw[r];rfl,qj t 4,y,far p 25 _ s.gx (by decide) (qu ⟨_,s.gx⟩ ⟨_,s.sp.box⟩ (by decide)),far q 31 _ s.rx (by decide) s.ne,s.ne⟩
theorem SY.putSt{w W:World}{b d a:Nat}{h:Hd}{G:Gm}{c:SHd}{S:Sp}{qs:List (SR × Option Addr × Nat)}(s:SY w W b d a h G c S qs)(x:Nat):SY w (W.setCell ⟨a,2,none⟩ (.int .i64 (x:Int))) b d a h G c ⟨S.tk,S.nt,x,S.ex,S.nm,S.lv,S.az,S.rs⟩ qs :=
 ⟨s.sp.putSt x,qbz s.gx (qu ⟨_,s.gx⟩ ⟨_,s.sp.box⟩ (by decide)),qbz s.rx s.ne,s.ne⟩
theorem SY.addRu{w W:World}{j m i:Nat}{h:Hd}{G:Gm}{b:SHd}{S:Sp}{qs:List (SR × Option Addr × Nat)}(s:SY w W j m i h G b S qs)(q:SR × Option Addr × Nat)(n:Nat)(o:S.rs.length=n)(u:W.ownsRow w.heap.size 3 1 (.slice q.2.1 q.1.r.length q.2.2) q.1.r.length (natC q.1.r))(t:n<10000):
  ∃g c f,(Builtin.append_ #[29,29] 29 #[.slice b.ra n b.rc,.slice (some ⟨W.heap.size,0,none⟩) 1 1]).run Tryz.prog (W.alloc (.cells #[.int .i64 q.1.l,.slice q.2.1 q.1.r.length q.2.2,.int .i64 q.1.lv,.int .i64 q.1.a] 56))=.ok (.slice (some ⟨g,0,none⟩) (n+1) c) f /\
   f.cell? ⟨i,7,none⟩=some (.slice b.ra n b.rc)/\f.frozen? ⟨i,7,none⟩=false/\SY w (f.setCell ⟨i,7,none⟩ (.slice (some ⟨g,0,none⟩) (n+1) c)) j m i h G ⟨b.na,b.nc,b.la,b.lc,b.aa,b.ac,some ⟨g,0,none⟩,c⟩ ⟨S.tk,S.nt,S.st,S.ex,S.nm,S.lv,S.az,S.rs++[q.1]⟩ (qs++[q]):=by
 subst o;obtain⟨g,c,f,v,d,p,k⟩:=s.sp.addRu q u t;exact⟨g,c,f,v,by rw[qe d];rfl,qj d 7,p,qev k s.sp.rl s.gx (by decide) (qu ⟨_,s.gx⟩ ⟨_,s.sp.box⟩ (by decide)),qev k s.sp.rl s.rx (by decide) s.ne,s.ne⟩
def ry0 (G:Gm) (k:Nat):Sp:=⟨G.ts.length,(lfs G.rs).length,0,G.e,(G.ts.take k).map (·.n),(G.ts.take k).map (·.l),(G.ts.take k).map (·.a),[]⟩
def ry1 (G:Gm):Sp:=⟨G.ts.length,(lfs G.rs).length,stG G,G.e,nmG G,G.ts.map (·.l),G.ts.map (·.a),[]⟩
def ry2 (G:Gm) (k:Nat):Sp:=⟨G.ts.length,(lfs G.rs).length,stG G,G.e,nmG G,G.ts.map (·.l),G.ts.map (·.a),⟨-1,[stG G],0,0⟩ :: (G.rs.take k).map (ruG G)⟩
theorem qs5(G:Gm):ry2 G G.rs.length=spG G:=by
 unfold ry2 spG;rw[List.take_of_length_le (Nat.le_refl _)]
theorem j9{g:Array Oper}{o:Oper}{a:Act}{w:World}{K:Act->World->Prop}{Q:Exit->Act->World->Prop}{E:Prop}(l:o.guard=none)(f:FuncId)(args:Array Value)(v:Option Addr->Nat->Value)(P:Option Addr->Nat->World->Prop)(d:(execOp a.eval o).run Tryz.prog w=.ok (.enter f args) w)(k:Calls Tryz.prog f args w fun e h=>∃b c,e=.returned (v b c)/\P b c h)(j:∀b c h,P b c h->K (a.put o.dst (v b c)) h):
  if Region.wanted o (yielded g a.tmps)=true then Oper.wp Tryz.prog o a w K Q else E:=by
 have p:Region.wanted o (yielded g a.tmps)=true:=by simp[Region.wanted,l]
 rw[if_pos p];unfold Oper.wp;rw[d,Oper.upon_enter]
 refine k.mono fun e i m=>?_
 obtain⟨b,c,rfl,n⟩:=m;exact j b c i n
structure N1 (w W:World) (h:SHd) (S:Sp) (n b1 vb fb eb:Nat) (Ed:List Bool):Prop where
 bel:Below w.heap.size w W
 x1:W.heap[b1]?=some (.cells (sC h S) 31 (0,0))
 x2:W.heap[vb]?=some (.cells #[.pointer (some ⟨fb,0,none⟩)] 98 (0,0))
 x3:W.heap[fb]?=some (.cells #[.int .i64 (S.tk:Int),.slice (some ⟨eb,0,none⟩) n n,.slice none 0 0] 120 (0,0))
 el:Ed.length=n
 em:W.ownsRow w.heap.size 4 1 (.slice (some ⟨eb,0,none⟩) n n) n (booC Ed)
 nu:∀x,isF Ed x=true↔Nul S x
 ge:w.heap.size<=b1/\w.heap.size<=vb/\w.heap.size<=fb
theorem qux{w U:World}{h:SHd}{S:Sp}{n g a f j:Nat}{d:List Bool}(r:Below w.heap.size w U)(m:U.heap[g]?=some (.cells (sC h S) 31 (0,0)))(b:U.heap[a]?=some (.cells #[.pointer none] 98 (0,0)))(o:U.heap[f]?=some (.cells #[.int .i64 (S.tk:Int),.slice (some ⟨j,0,none⟩) n n,.slice none 0 0] 120 (0,0)))(k:d.length=n)(c:U.ownsRow w.heap.size 4 1 (.slice (some ⟨j,0,none⟩) n n) n (booC d))(l:∀x,isF d x=true↔Nul S x)(q:w.heap.size<=g/\w.heap.size<=a/\w.heap.size<=f):N1 w (U.setCell ⟨a,0,none⟩ (.pointer (some ⟨f,0,none⟩))) h S n g a f j d:=by
 refine⟨r.setCell (p:=⟨a,0,none⟩) q.2.1 _,?_,?_,?_,k,?_,l,q⟩
 ·rw[Below.heap_setCell _ _ _ _ (qu ⟨_,m⟩ ⟨_,b⟩ (by decide))];exact m
 ·rw[setCell_eq_setRow U a 0 _ 98 (0,0) _ b];exact setRow_heap _ _ _ _ 98 _ b
 ·rw[Below.heap_setCell _ _ _ _ (qu ⟨_,o⟩ ⟨_,b⟩ (by decide))];exact o
 ·exact qh c (fun i s=>Below.heap_setCell _ _ _ _ (qu (za c s) ⟨_,b⟩ (by decide)))
theorem n1_a{w V:World}{h:SHd}{S:Sp}{n d b:Nat}{c:List Bool}(j:Below w.heap.size w V)(k:V.heap[d]?=some (.cells (sC h S) 31 (0,0)))(l:w.heap.size<=d)(f:c.length=n)(g:V.ownsRow w.heap.size 4 1 (.slice (some ⟨b,0,none⟩) n n) n (booC c))(i:∀x,isF c x=true↔Nul S x):N1 w ((V.alloc (.cells #[.int .i64 (S.tk:Int),.slice (some ⟨b,0,none⟩) n n,.slice none 0 0] 120)).alloc (.cells #[.pointer (some ⟨V.heap.size,0,none⟩)] 98)) h S n d (V.heap.size+1) V.heap.size b c:=by
 have a:Below V.heap.size V ((V.alloc (.cells #[.int .i64 (S.tk:Int),.slice (some ⟨b,0,none⟩) n n,.slice none 0 0] 120)).alloc (.cells #[.pointer (some ⟨V.heap.size,0,none⟩)] 98)):=qd (qb _ _) (qb _ _);have m:=j.size;refine⟨qd j a,qf a k,?_,qf (qb _ _) (heap_alloc_new _ _),f,zl g a,i,⟨l,by omega,by omega⟩⟩;have:=heap_alloc_new (V.alloc (.cells #[.int .i64 (S.tk:Int),.slice (some ⟨b,0,none⟩) n n,.slice none 0 0] 120)) (.cells #[.pointer (some ⟨V.heap.size,0,none⟩)] 98);rw[qz]at this;exact this
theorem n1_b{w V:World}{h:SHd}{S:Sp}{n d b:Nat}{c:List Bool}(j:Below w.heap.size w V)(k:V.heap[d]?=some (.cells (sC h S) 31 (0,0)))(l:w.heap.size<=d)(f:c.length=n)(g:V.ownsRow w.heap.size 4 1 (.slice (some ⟨b,0,none⟩) n n) n (booC c))(i:∀x,isF c x=true↔Nul S x):N1 w ((V.alloc (.cells #[.pointer (some ⟨V.heap.size+1,0,none⟩)] 98)).alloc (.cells #[.int .i64 (S.tk:Int),.slice (some ⟨b,0,none⟩) n n,.slice none 0 0] 120)) h S n d V.heap.size (V.heap.size+1) b c:=by
 have a:Below V.heap.size V ((V.alloc (.cells #[.pointer (some ⟨V.heap.size+1,0,none⟩)] 98)).alloc (.cells #[.int .i64 (S.tk:Int),.slice (some ⟨b,0,none⟩) n n,.slice none 0 0] 120)):=qd (qb _ _) (qb _ _);have m:=j.size;refine⟨qd j a,qf a k,qf (qb _ _) (heap_alloc_new _ _),?_,f,zl g a,i,⟨l,by omega,by omega⟩⟩;have:=heap_alloc_new (V.alloc (.cells #[.pointer (some ⟨V.heap.size+1,0,none⟩)] 98)) (.cells #[.int .i64 (S.tk:Int),.slice (some ⟨b,0,none⟩) n n,.slice none 0 0] 120);rw[qz]at this;exact this
theorem n1_c{w V:World}{h:SHd}{S:Sp}{n f d c:Nat}{b:List Bool}(l:Below w.heap.size w V)(m:V.heap[f]?=some (.cells (sC h S) 31 (0,0)))(o:w.heap.size<=f)(g:b.length=n)(i:V.ownsRow w.heap.size 4 1 (.slice (some ⟨c,0,none⟩) n n) n (booC b))(j:∀x,isF b x=true↔Nul S x)(p:V.heap[d]?=some (.cells #[.pointer none] 98 (0,0)))(k:w.heap.size<=d):N1 w ((V.alloc (.cells #[.int .i64 (S.tk:Int),.slice (some ⟨c,0,none⟩) n n,.slice none 0 0] 120)).setCell ⟨d,0,none⟩ (.pointer (some ⟨V.heap.size,0,none⟩))) h S n f d V.heap.size c b:=by
 have a:Below V.heap.size V (V.alloc (.cells #[.int .i64 (S.tk:Int),.slice (some ⟨c,0,none⟩) n n,.slice none 0 0] 120)):=qb _ _;exact qux (qd l a) (qf a m) (qf a p) (heap_alloc_new _ _) g (zl i a) j ⟨o,k,l.size⟩
structure N3 (w W:World) (h:SHd) (S:Sp) (n b1 vb fb g c:Nat) (p:FP) (E:List Bool) (WL:List (List Nat)):Prop where
 bel:Below w.heap.size w W
 x1:W.heap[b1]?=some (.cells (sC (shR h g c) (noH S)) 31 (0,0))
 x2:W.heap[vb]?=some (.cells #[.pointer (some ⟨fb,0,none⟩)] 98 (0,0))
 fm:FM W w.heap.size fb p n S.tk E WL
 isp:IsSp W (shR h g c) (noH S)
 gb:∃qs:List QR,qs.map (·.1)=(noH S).rs/\W.ownsRow w.heap.size 56 4 (.slice (some ⟨g,0,none⟩) (noH S).rs.length c) (noH S).rs.length (srC qs)/\∀q∈qs,Row w 1 q.2.1 q.1.r.length q.2.2 (natC q.1.r)
theorem qrd{W:World}{B b h s n u:Nat}{g:List Bool}(o:W.heap[b]?=some (.cells #[.int .i64 (u:Int),.slice (some ⟨h,0,none⟩) n n,.slice none 0 0] 120 (0,0)))(p:B<=b)(m:g.length=n)(c:W.ownsRow B 4 1 (.slice (some ⟨h,0,none⟩) n n) n (booC g))(f:Grd W B s (List.replicate (2 * n) (none,0)) (List.replicate (2 * n) [])):
  FM (W.setCell ⟨b,2,none⟩ (.slice (some ⟨s,0,none⟩) (2 * n) (2 * n))) B b ⟨h,s,2 * n,List.replicate (2 * n) (none,0)⟩ n u g (List.replicate (2 * n) []):=by
 have a:∀{T k:Nat},Loc W k T->T≠120->k≠b:=fun r y=>qu r ⟨_,o⟩ y
 refine⟨?_,p,m,?_,f.len,?_,fun x q l v r=>?_,f.dis⟩
 ·rw[setCell_eq_setRow W b 2 _ 120 (0,0) _ o,List.length_replicate];exact setRow_heap _ _ _ _ 120 _ o
 ·exact qh c (fun i d=>Below.heap_setCell _ _ _ _ (a (za c d) (by decide)))
 ·have j:=f.bod;rw[List.length_replicate]at j ⊢;exact qh j (fun i d=>Below.heap_setCell _ _ _ _ (a (za j d) (by decide)))
 ·have t:=f.row x q l v r;exact qh t (fun i d=>Below.heap_setCell _ _ _ _ (a (za t d) (by decide)))
theorem qny(w:World)(h:SHd)(S:Sp)(n:Nat)(hs:NSp S n)(k4:IsSp w h S):
  Calls Tryz.prog 52 #[sv h S] w fun e w'=>∃f p E WL,e=.returned (.pointer (some ⟨f,0,none⟩))/\FS w' w.heap.size f p n S E WL/\Below w.heap.size w w':=by
 have HX:=hid2 hs k4;have p7:=(List.getElem?_eq_some_iff.1 hs.wf.hd).1;have p8:=hs.nr;have i8:Below w.heap.size w (w.alloc (.cells (sC h S) 31)):=qb _ _;have f2:(w.alloc (.cells (sC h S) 31)).heap[w.heap.size]?=some (.cells (sC h S) 31 (0,0)):=heap_alloc_new _ _
 have r1:(S.tk:Int)<(n:Int):=by have:=hs.nn;omega
 have q6:n<=301:=by have:=hs.nn;have:=hs.wf.tk;have:=hs.wf.nt;omega
 have l1:Hid (∀V:World,Below w.heap.size w V->Calls Tryz.prog 76 #[.agg #[.int .i64 (S.tk:Int),.int .i64 (S.nt:Int),.int .i64 (S.st:Int),.int .i64 S.ex,.slice h.na S.nm.length h.nc,.slice h.la S.lv.length h.lc,.slice h.aa S.az.length h.ac,.slice h.ra S.rs.length h.rc]] V fun e w'=>∃(xa:Option Addr) (xc:Nat),e=.returned (.slice xa n n)/\∃F o,xa=some ⟨F,0,none⟩/\(o:List Bool).length=n/\w'.ownsRow w.heap.size 4 1 (.slice (some ⟨F,0,none⟩) n n) n (booC o)/\(∀x,isF o x=true↔Nul S x)/\Below V.heap.size V w'):=fun V hV=>(qi9 V h S n hs.nn hs.wf (k4.below hV)).mono (fun e w' ⟨F,o,h1,h2,h3,h4,h5⟩=>⟨_,0,h1,F,o,rfl,h2,zc h3 hV.size,h4,h5⟩)
 clear hs k4;unfold sv;have e1:sC h S=#[.int .i64 (S.tk:Int),.int .i64 (S.nt:Int),.int .i64 (S.st:Int),.int .i64 S.ex,.slice h.na S.nm.length h.nc,.slice h.la S.lv.length h.lc,.slice h.aa S.az.length h.ac,.slice h.ra S.rs.length h.rc]:=rfl;rw[e1];go_enter Tryz.func52,Tryz.ntmps52
 go_upto_region 1 with fail
 rw[<-e1];clear e1;generalize w.alloc (.cells (sC h S) 31)=W0 at i8 f2 ⊢
 obtain⟨A,l0⟩:∃A,Hid (A=w.heap.size):=⟨_,rfl⟩
 rw[<-l0.out]at f2 ⊢;obtain⟨c0,c1,c2,c3,c4,c5,c6,c7⟩:=sbox f2
 have L:Hid (Below w.heap.size w W0/\W0.heap[A]?=some (.cells (sC h S) 31 (0,0))/\w.heap.size<=A):=⟨i8,f2,by rw[l0.out];exact Nat.le_refl _⟩
 clear i8 f2
 go_cut [3] (fun s3 wd=>∃vb f F:Nat,s3=.pointer (some ⟨vb,0,none⟩)/\Hid (∃o,N1 w wd h S n A vb f F o))
 case first =>
  refine wp_region_held_drew (S:=fun w'=>w'.heap[A]?=some (.cells (sC h S) 31 (0,0))/\True) (by kernel_rfl) ⟨L.out.2.1,trivial⟩ (fun d=>?_);refine wpAnyH_take (i:=0) (v:=.pointer (some ⟨A,0,none⟩)) rfl (by kernel_rfl) (by kernel_rfl) (by kernel_rfl) (fun _ _ _ h=>h) (Or.inl ⟨by rfl,fun w9 s=>?_⟩) d ?_
  ·(obtain⟨C,-⟩:=s;obtain⟨z0,z1,z2,z3,z4,z5,z6,z7⟩:=sbox C;go_simp)
  simp only[Act.put];refine wpAnyH_take (i:=1) (v:=.int .i64 (S.tk:Int)) rfl (by kernel_rfl) (by kernel_rfl) (by kernel_rfl) (fun _ _ _ h=>h) (Or.inl ⟨by rfl,fun w9 s=>?_⟩) d ?_
  ·(obtain⟨C,-⟩:=s;obtain⟨z0,z1,z2,z3,z4,z5,z6,z7⟩:=sbox C;go_simp)
  simp only[Act.put];refine wpAnyH_take (i:=2) (v:=.agg #[.int .i64 (S.tk:Int),.int .i64 (S.nt:Int),.int .i64 (S.st:Int),.int .i64 S.ex,.slice h.na S.nm.length h.nc,.slice h.la S.lv.length h.lc,.slice h.aa S.az.length h.ac,.slice h.ra S.rs.length h.rc]) rfl (by kernel_rfl) (by kernel_rfl) (by kernel_rfl) (fun _ _ _ h=>h) (Or.inl ⟨by rfl,fun w9 s=>?_⟩) d ?_
  ·(obtain⟨C,-⟩:=s;obtain⟨z0,z1,z2,z3,z4,z5,z6,z7⟩:=sbox C;go_simp)
  simp only[Act.put];refine wpAnyH_ready (rs:=[3,6]) (by kernel_rfl) (by simp) ?_;refine AllReadyH.cons rfl (fun K z=>?_) (AllReadyH.cons rfl (fun K z=>?_) AllReadyH.nil)
  ·refine j9 rfl 76 #[.agg #[.int .i64 (S.tk:Int),.int .i64 (S.nt:Int),.int .i64 (S.st:Int),.int .i64 S.ex,.slice h.na S.nm.length h.nc,.slice h.la S.lv.length h.lc,.slice h.aa S.az.length h.ac,.slice h.ra S.rs.length h.rc]] (fun xa _=>.slice xa n n) (fun xa _ V=>∃F o,xa=some ⟨F,0,none⟩/\(o:List Bool).length=n/\V.ownsRow w.heap.size 4 1 (.slice (some ⟨F,0,none⟩) n n) n (booC o)/\(∀x,isF o x=true↔Nul S x)/\Below (W0.drew).heap.size (W0.drew) V) (by simp[Act.eval,go_sem]) (l1.out _ (qd L.out.1 (qo _))) (fun xa _ V hV=>?_);obtain⟨F,o,rfl,b9,c8,d6,hb⟩:=hV;have D:=hid5 (qd (qd L.out.1 (qo _)) hb) (qf hb L.out.2.1) b9 c8 d6;refine z.out _ _ ⟨D.out.2.1,trivial⟩ (fun d=>?_);clear z K b9 c8 d6 hb;simp only[Act.put];refine wpAnyH_take (i:=4) (v:=.agg #[.int .i64 (S.tk:Int),.slice (some ⟨F,0,none⟩) n n,.slice none 0 0]) rfl (by kernel_rfl) (by kernel_rfl) (by kernel_rfl) (fun _ _ _ h=>h) (Or.inl ⟨by rfl,fun w9 s=>?_⟩) d ?_
   ·(obtain⟨C,-⟩:=s;obtain⟨z0,z1,z2,z3,z4,z5,z6,z7⟩:=sbox C;go_simp)
   simp only[Act.put];refine wpAnyH_ready (rs:=[5,6]) (by kernel_rfl) (by simp) ?_;refine AllReadyH.cons rfl (fun K z=>?_) (AllReadyH.cons rfl (fun K z=>?_) AllReadyH.nil)
   ·go_simp
    refine z.out _ _ ⟨qf (qb _ _) D.out.2.1,trivial⟩ (fun d=>?_);clear z K;refine wpAnyH_ready (rs:=[6]) (by kernel_rfl) (by simp) ?_;refine AllReadyH.cons rfl (fun K z=>?_) AllReadyH.nil
    go_simp
    refine z.out _ _ ⟨qf (qd (qb _ _) (qb _ _)) D.out.2.1,trivial⟩ (fun d=>?_);clear z K;have HN:=hid (n1_a D.out.1 D.out.2.1 L.out.2.2 D.out.2.2.1 D.out.2.2.2.1 D.out.2.2.2.2);refine wpAnyH_ready (rs:=[7]) (by kernel_rfl) (by simp) ?_;refine AllReadyH.cons rfl (fun K z=>?_) AllReadyH.nil
    go_simp
    refine z.out _ _ ⟨HN.out.x1,trivial⟩ (fun d=>?_);clear z K;refine wpAnyH_done (by kernel_rfl) ?_ _;go_wp2_with fail;go_meet;exact⟨_,_,F,rfl,(⟨o,HN.out⟩:∃o,N1 w _ h S n A _ _ F o)⟩
   ·go_simp
    refine z.out _ _ ⟨qf (qb _ _) D.out.2.1,trivial⟩ (fun d=>?_);clear z K;refine wpAnyH_ready (rs:=[5]) (by kernel_rfl) (by simp) ?_;refine AllReadyH.cons rfl (fun K z=>?_) AllReadyH.nil
    go_simp
    refine z.out _ _ ⟨qf (qd (qb _ _) (qb _ _)) D.out.2.1,trivial⟩ (fun d=>?_);clear z K;have HN:=hid (n1_b D.out.1 D.out.2.1 L.out.2.2 D.out.2.2.1 D.out.2.2.2.1 D.out.2.2.2.2);refine wpAnyH_ready (rs:=[7]) (by kernel_rfl) (by simp) ?_;refine AllReadyH.cons rfl (fun K z=>?_) AllReadyH.nil
    go_simp
    refine z.out _ _ ⟨HN.out.x1,trivial⟩ (fun d=>?_);clear z K;refine wpAnyH_done (by kernel_rfl) ?_ _;go_wp2_with fail;go_meet;exact⟨_,_,F,rfl,(⟨o,HN.out⟩:∃o,N1 w _ h S n A _ _ F o)⟩
  ·go_simp
   refine z.out _ _ ⟨qf (qd (qb _ _) (qo _)) L.out.2.1,trivial⟩ (fun d=>?_);clear z K;refine wpAnyH_ready (rs:=[3]) (by kernel_rfl) (by simp) ?_;refine AllReadyH.cons rfl (fun K z=>?_) AllReadyH.nil;refine j9 rfl 76 #[.agg #[.int .i64 (S.tk:Int),.int .i64 (S.nt:Int),.int .i64 (S.st:Int),.int .i64 S.ex,.slice h.na S.nm.length h.nc,.slice h.la S.lv.length h.lc,.slice h.aa S.az.length h.ac,.slice h.ra S.rs.length h.rc]] (fun xa _=>.slice xa n n) (fun xa _ V=>∃F o,xa=some ⟨F,0,none⟩/\(o:List Bool).length=n/\V.ownsRow w.heap.size 4 1 (.slice (some ⟨F,0,none⟩) n n) n (booC o)/\(∀x,isF o x=true↔Nul S x)/\Below ((W0.alloc (.cells #[.pointer none] 98)).drew).heap.size ((W0.alloc (.cells #[.pointer none] 98)).drew) V) (by simp[Act.eval,go_sem]) (l1.out _ (qd (qd L.out.1 (qb _ _)) (qo _))) (fun xa _ V hV=>?_);obtain⟨F,o,rfl,b9,c8,d6,hb⟩:=hV;have D:=hid6 (qd (qd (qd L.out.1 (qb _ _)) (qo _)) hb) (qf hb (qf (qd (qb _ _) (qo _)) L.out.2.1)) b9 c8 d6 (qf hb (qf (qo _) (heap_alloc_new _ _)));refine z.out _ _ ⟨D.out.2.1,trivial⟩ (fun d=>?_);clear z K b9 c8 d6 hb;simp only[Act.put];refine wpAnyH_take (i:=4) (v:=.agg #[.int .i64 (S.tk:Int),.slice (some ⟨F,0,none⟩) n n,.slice none 0 0]) rfl (by kernel_rfl) (by kernel_rfl) (by kernel_rfl) (fun _ _ _ h=>h) (Or.inl ⟨by rfl,fun w9 s=>?_⟩) d ?_
   ·(obtain⟨C,-⟩:=s;obtain⟨z0,z1,z2,z3,z4,z5,z6,z7⟩:=sbox C;go_simp)
   simp only[Act.put];refine wpAnyH_ready (rs:=[5]) (by kernel_rfl) (by simp) ?_;refine AllReadyH.cons rfl (fun K z=>?_) AllReadyH.nil
   go_simp
   refine z.out _ _ ⟨qf (qb _ _) D.out.2.1,trivial⟩ (fun d=>?_);clear z K;have HN:=hid (n1_c D.out.1 D.out.2.1 L.out.2.2 D.out.2.2.1 D.out.2.2.2.1 D.out.2.2.2.2.1 D.out.2.2.2.2.2 (by have:=L.out.1.size;omega))
   have r2:(V.alloc (.cells #[.int .i64 (S.tk:Int),.slice (some ⟨F,0,none⟩) n n,.slice none 0 0] 120)).cell? ⟨W0.heap.size,0,none⟩=some (.pointer none):=by rw[qe (qf (qb _ _) D.out.2.2.2.2.2)];rfl
   have r3:(V.alloc (.cells #[.int .i64 (S.tk:Int),.slice (some ⟨F,0,none⟩) n n,.slice none 0 0] 120)).frozen? ⟨W0.heap.size,0,none⟩=false:=qj (qf (qb _ _) D.out.2.2.2.2.2) 0;refine wpAnyH_ready (rs:=[7]) (by kernel_rfl) (by simp) ?_;refine AllReadyH.cons rfl (fun K z=>?_) AllReadyH.nil
   go_simp
   refine z.out _ _ ⟨HN.out.x1,trivial⟩ (fun d=>?_);clear z K;refine wpAnyH_done (by kernel_rfl) ?_ _;go_wp2_with fail;go_meet;exact⟨_,_,F,rfl,(⟨o,HN.out⟩:∃o,N1 w _ h S n A _ _ F o)⟩
 case rest =>
  obtain⟨w8,r4⟩:∃w8,w8=wc:=⟨_,rfl⟩
  subst wc;obtain⟨vb,f,F,rfl,J⟩:=hcut;obtain⟨o,y⟩:=J.out
  have v0:w8.cell? ⟨vb,0,none⟩=some (.pointer (some ⟨f,0,none⟩)):=by rw[qe y.x2];rfl
  have v1:w8.cell? ⟨f,1,none⟩=some (.slice (some ⟨F,0,none⟩) n n):=by rw[qe y.x3];rfl
  obtain⟨W6,k3,m5,m2⟩:=qco w8.drew w.heap.size (2 * n) (by omega) (qd y.bel (qo _)).size;have X:=qd (qo w8) m2;have b0:=qf X y.x3
  have HF:Hid (FM (W6.setCell ⟨f,2,none⟩ (.slice (some ⟨w8.heap.size,0,none⟩) (2 * n) (2 * n))) w.heap.size f ⟨F,w8.heap.size,2 * n,List.replicate (2 * n) (none,0)⟩ n S.tk o (List.replicate (2 * n) [])/\Below w.heap.size w (W6.setCell ⟨f,2,none⟩ (.slice (some ⟨w8.heap.size,0,none⟩) (2 * n) (2 * n)))/\(W6.setCell ⟨f,2,none⟩ (.slice (some ⟨w8.heap.size,0,none⟩) (2 * n) (2 * n))).heap[A]?=some (.cells (sC h S) 31 (0,0))/\(W6.setCell ⟨f,2,none⟩ (.slice (some ⟨w8.heap.size,0,none⟩) (2 * n) (2 * n))).heap[vb]?=some (.cells #[.pointer (some ⟨f,0,none⟩)] 98 (0,0))/\∀x,isF o x=true↔Nul S x):=by
   refine⟨qrd b0 y.ge.2.2 y.el (zl y.em X) m5,(qd y.bel X).setCell (p:=⟨f,2,none⟩) y.ge.2.2 _,?_,?_,y.nu⟩
   ·rw[Below.heap_setCell _ _ _ _ (qu ⟨_,qf X y.x1⟩ ⟨_,b0⟩ (by decide))];exact qf X y.x1
   ·rw[Below.heap_setCell _ _ _ _ (qu ⟨_,qf X y.x2⟩ ⟨_,b0⟩ (by decide))];exact qf X y.x2
  have u0:=qt X v0;have u1:=qt X v1
  have u2:W6.cell? ⟨f,2,none⟩=some (.slice none 0 0):=by rw[qe b0];rfl
  have g2:=qj b0 2
  have p6:(Instr.makeSlice 92 (.int .i64 (2 * (n:Int))) (.int .i64 (2 * (n:Int)))).run Tryz.prog w8.drew=.ok (.slice (some ⟨w8.heap.size,0,none⟩) (2 * n) (2 * n)) W6:=by
   have e:((2 * n:Nat):Int)=2 * (n:Int):=by omega
   rw[e]at k3;exact k3
  have D:=hid y.ge;clear y J m5 m2 X b0 k3
  go_upto_region 2 with fail
  go_region
  go_upto_region 3 with fail
  clear p6 u0 u1 u2 g2 v0 v1;generalize W6.setCell ⟨f,2,none⟩ (.slice (some ⟨w8.heap.size,0,none⟩) (2 * n) (2 * n))=W7 at HF ⊢
  obtain⟨p0,l6⟩:∃p0:FP,Hid (p0=⟨F,w8.heap.size,2 * n,List.replicate (2 * n) (none,0)⟩):=⟨_,rfl⟩
  rw[<-l6.out]at HF;have G:=hid HF.out;clear HF l6;obtain⟨qs,a4,d9,n7⟩:=qpc HX.out.2.rl
  have HQ:Hid (qs.map (·.1)=S.rs/\∀q∈qs,Row w 1 q.2.1 q.1.r.length q.2.2 (natC q.1.r)/\q.1.r.length<=1000/\∀y∈q.1.r,y≠S.tk/\y<n):=⟨a4,fun q hq=>by
   have h1:q.1∈S.rs:=by rw[<-a4];exact List.mem_map_of_mem hq
   have h2:=HX.out.1.ln q.1 h1
   exact⟨n7 q hq,by omega,fun y hy=>⟨(HX.out.1.sy q.1 h1 y hy).2,(HX.out.1.sy q.1 h1 y hy).1⟩⟩⟩
  have o7:=hid d9;have q8:=zk d9;clear a4 d9 n7;obtain⟨-,-,-,-,-,-,-,c7⟩:=sbox G.out.2.2.1;go_wp2_with fail;refine(qff W7 qs h.ra S.rs.length h.rc (o7.out.below G.out.2.1) p7 (by omega)).mono ?_;rintro e W8 ⟨g,c,rfl,a9,b7⟩;clear c7;have q4:=(qw a9 (b:=g) rfl).1;have q5:=zq a9
  have b5:Hid (FM W8 w.heap.size f p0 n S.tk o (List.replicate (2 * n) [])/\Below w.heap.size w W8/\W8.heap[A]?=some (.cells (sC h S) 31 (0,0))/\W8.heap[vb]?=some (.cells #[.pointer (some ⟨f,0,none⟩)] 98 (0,0))/\W8.ownsRow W7.heap.size 56 4 (.slice (some ⟨g,0,none⟩) S.rs.length c) S.rs.length (srC qs)/\A<g/\vb<g/\w.heap.size<=g/\∀k,FK f p0 k->k<g):=⟨G.out.1.below b7,qd G.out.2.1 b7,qf b7 G.out.2.2.1,qf b7 G.out.2.2.2.1,a9,by have:=(Array.getElem?_eq_some_iff.1 G.out.2.2.1).1;omega,by have:=(Array.getElem?_eq_some_iff.1 G.out.2.2.2.1).1;omega,by have:=G.out.2.1.size;omega,fun k hk=>by have:=(G.out.1.lt hk).2.1;omega⟩
  clear a9 b7
  have v0:W8.cell? ⟨vb,0,none⟩=some (.pointer (some ⟨f,0,none⟩)):=by rw[qe b5.out.2.2.2.1];rfl
  go_wp2_with fail;refine(qib 79 #[.pointer (some ⟨vb,0,none⟩)] qq2 (fun q=>!okL S.tk n q.1) W8 qs W7.heap.size g S.rs.length c b5.out.2.2.2.2.1 (by omega) (fun V hV q hq=>?_)).mono ?_
  ·obtain⟨g1,g2,g3,g4,g5,g6,g7,g8,g9⟩:=b5.out;have hF:=g1.kept hV (fun j hj e=>by have:=g9 j hj;omega)
   have h2:V.heap[vb]?=some (.cells #[.pointer (some ⟨f,0,none⟩)] 98 (0,0)):=by
    rw[hV.block vb (Array.getElem?_eq_some_iff.1 g4).1 (fun e=>by omega)];exact g4
   have h0:=g2.trans (hV.below g2.size (fun k hk e=>by omega));exact qpg V vb f S.tk n n _ (by rw[qe h2];rfl) hF.c0 hF.c1 q ((HQ.out.2 q hq).1.below h0) (HQ.out.2 q hq).2.1 (HQ.out.2 q hq).2.2
  rintro e W9 ⟨m,rfl,q1,a2,d5⟩;clear v0;obtain⟨g1,g2,g3,g4,g5,g6,g7,g8,g9⟩:=b5.out;have m8:=g2.trans (d5.below g2.size (fun k hk e=>by omega))
  have I:W9.heap[A]?=some (.cells (sC h S) 31 (0,0)):=by
   rw[d5.block A (Array.getElem?_eq_some_iff.1 g3).1 (fun e=>by omega)];exact g3
  have k5:W9.heap[vb]?=some (.cells #[.pointer (some ⟨f,0,none⟩)] 98 (0,0)):=by
   rw[d5.block vb (Array.getElem?_eq_some_iff.1 g4).1 (fun e=>by omega)];exact g4
  have j0:=g1.kept d5 (fun j hj e=>by have:=g9 j hj;omega)
  have c7:W9.cell? ⟨A,7,none⟩=some (.slice h.ra S.rs.length h.rc):=by obtain⟨-,-,-,-,-,-,-,c7⟩:=sbox I;exact c7
  have f7:=qj I 7
  have n3:(qs.filter (fun q=>!(fun q:QR=>!okL S.tk n q.1) q))=qs.filter (fun q=>okL S.tk n q.1):=by
   congr 1
   funext q;simp
  rw[n3]at a2;have c9:=qbk HQ.out.1 (okL S.tk n);have k1:=HX.out.1.nn
  have d8:S.rs.filter (okL S.tk n)=S.rs.drop 1:=by rw[k1];exact qqt HX.out.1.wf
  rw[d8]at c9
  have h6:m=(noH S).rs.length:=by
   have h1:=a2.1;rw[j1]at h1;have h2:=congrArg List.length c9;rw[List.length_map]at h2;have h3:=Nat.eq_of_mul_eq_mul_right (by decide:0<4) h1.symm;rw[h3];exact h2
  have H:Hid (N3 w (W9.setCell ⟨A,7,none⟩ (.slice (some ⟨g,0,none⟩) m c)) h S n A vb f g c p0 o (List.replicate (2 * n) [])/\(∀k,FK f p0 k->k<g)/\∀x,isF o x=true↔Nul S x):=by
   have p5:g≠A:=by omega
   have f0:(W9.setCell ⟨A,7,none⟩ (.slice (some ⟨g,0,none⟩) m c)).ownsRow w.heap.size 56 4 (.slice (some ⟨g,0,none⟩) m c) m (srC (qs.filter (fun q=>okL S.tk n q.1))):=zc (qh a2 (fun j hj=>by
    cases hj
    exact Below.heap_setCell _ _ _ _ p5)) (G.out.2.1.size)
   have b8:Below w.heap.size w (W9.setCell ⟨A,7,none⟩ (.slice (some ⟨g,0,none⟩) m c)):=m8.setCell (p:=⟨A,7,none⟩) D.out.1 _
   have f1:∀q∈qs.filter (fun q=>okL S.tk n q.1),Row w 1 q.2.1 q.1.r.length q.2.2 (natC q.1.r):=fun q hq=>(HQ.out.2 q (List.mem_filter.1 hq).1).1
   refine⟨⟨b8,?_,?_,j0.keep (fun k hk=>Below.heap_setCell _ _ _ _ (fun e=>?_)),⟨HX.out.2.nm.below b8,HX.out.2.lv.below b8,HX.out.2.az.below b8,qs.filter (fun q=>okL S.tk n q.1),c9,?_,fun q hq=>(f1 q hq).below b8⟩,qs.filter (fun q=>okL S.tk n q.1),c9,?_,f1⟩,g9,G.out.2.2.2.2⟩
   ·rw[setCell_eq_setRow W9 A 7 _ 31 (0,0) _ I,h6];exact setRow_heap _ _ _ _ 31 _ I
   ·rw[Below.heap_setCell _ _ _ _ (qu ⟨_,k5⟩ ⟨_,I⟩ (by decide))];exact k5
   ·have e:k=A:=e;exact j0.not ⟨_,I⟩ (by decide) (by decide) (by decide) (by decide) (by rw[<-e];exact hk)
   ·rw[<-h6];exact Row.of_own f0
   ·rw[<-h6];exact f0
  have i6:=hid k1;clear g1 g2 g3 g4 g5 g6 g7 g8 g9 m8 I k5 j0 d5 a2 n3 c9 d8 b5 G k1 h6
  go_upto_region 4 with fail
  clear c7 f7;generalize W9.setCell ⟨A,7,none⟩ (.slice (some ⟨g,0,none⟩) m c)=g0 at H ⊢
  have l5:Hid (n=(noH S).tk+1+(noH S).nt/\WH (noH S)):=⟨i6.out,qty HX.out.1.wf⟩
  obtain⟨c0,c1,c2,c3,c4,c5,c6,c7⟩:=sbox H.out.1.x1;have l7:Hid (Calls Tryz.prog 44 #[.agg #[.int .i64 ((noH S).tk:Int),.int .i64 ((noH S).nt:Int),.int .i64 ((noH S).st:Int),.int .i64 (noH S).ex,.slice (shR h g c).na (noH S).nm.length (shR h g c).nc,.slice (shR h g c).la (noH S).lv.length (shR h g c).lc,.slice (shR h g c).aa (noH S).az.length (shR h g c).ac,.slice (shR h g c).ra (noH S).rs.length (shR h g c).rc]] g0 fun e w'=>BRes g0 w' n (RcH (noH S)) e):=qhp g0 (shR h g c) (noH S) n l5.out.1 l5.out.2 H.out.1.isp g 0 rfl;go_wp2_with fail;refine l7.out.mono ?_;rintro e N ⟨rb,rd,rfl,i2,h7,n8,T⟩;clear c0 c1 c2 c3 c4 c5 c6 c7 l7
  obtain⟨Z,f9⟩:∃Z,Hid ((noH S).rs.length=Z):=⟨_,rfl⟩
  have l8:Hid (S.rs.length=Z+1):=by
   have h1:(S.rs.drop 1).length=Z:=f9.out;rw[List.length_drop]at h1;show S.rs.length=Z+1;omega
  have r0:Z<=40:=by have:=l8.out;omega
  obtain⟨b2,k2,n1,n4⟩:=H.out.1.gb
  have o5:Hid (∀i,i<Z->∃q,b2[i]?=some q/\S.rs[i+1]?=some q.1/\Row w 1 q.2.1 q.1.r.length q.2.2 (natC q.1.r)):=fun i hi=>by
   have hl:b2.length=Z:=by rw[<-f9.out,<-k2,List.length_map]
   have hq:b2[i]?=some (b2[i]'(by omega)):=List.getElem?_eq_getElem _;refine⟨_,hq,?_,n4 _ (List.mem_of_getElem? hq)⟩
   have h1:((b2.map (·.1))[i]?)=(S.rs.drop 1)[i]?:=by rw[k2];rfl
   rw[List.getElem?_map,hq,List.getElem?_drop]at h1;rw[Nat.add_comm i 1,<-h1];rfl
  have R:=hid2 (H.out.1.fm.below T) (qd H.out.1.bel T)
  have o6:Hid (∀x,S.tk<x->x<n->isF rd x=true):=fun x h1 h2=>by
   have hx:=vy (by rw[i2];exact h2)
   exact(n8 x _ hx).2 (qsr.2 (HX.out.1.rc x h1 h2))
  have b3:Hid (∀(V:World) (O:FP),FV N f p0 V O->V.cell? ⟨vb,0,none⟩=some (.pointer (some ⟨f,0,none⟩))/\V.cell? ⟨A,0,none⟩=some (.int .i64 (S.tk:Int))/\V.cell? ⟨A,2,none⟩=some (.int .i64 (S.st:Int))/\V.ownsRow w.heap.size 56 4 (.slice (some ⟨g,0,none⟩) Z c) Z (srC b2)/\(∀x,x<n->V.cell? ⟨rb,x,none⟩=some (.bool (isF rd x)))/\Below w.heap.size w V):=fun V O hV=>by
   have k6:=qf T H.out.1.x1;have k7:=qf T H.out.1.x2;have i0:=zl n1 T
   have h1:V.heap[A]?=some (.cells (sC (shR h g c) (noH S)) 31 (0,0)):=by
    rw[hV.1.block A (Array.getElem?_eq_some_iff.1 k6).1 (R.out.1.not ⟨_,k6⟩ (by decide) (by decide) (by decide) (by decide))];exact k6
   have h2:V.heap[vb]?=some (.cells #[.pointer (some ⟨f,0,none⟩)] 98 (0,0)):=by
    rw[hV.1.block vb (Array.getElem?_eq_some_iff.1 k7).1 (R.out.1.not ⟨_,k7⟩ (by decide) (by decide) (by decide) (by decide))];exact k7
   have q7:=(qw h7 (b:=rb) rfl).1;refine⟨by rw[qe h2];rfl,by rw[qe h1];rfl,by rw[qe h1];rfl,?_,fun x hx=>?_,R.out.2.trans (FV.below R.out.1 R.out.2.size hV)⟩
   ·rw[<-f9.out]
    exact qh i0 (fun j hj=>by
     cases hj
     exact hV.1.block g (qw i0 (b:=g) rfl).2.1 (fun e=>by have:=H.out.2.1 g e;omega))
   ·refine qmu (B:=g0.heap.size) (qh h7 (fun j hj=>by
     cases hj
     exact hV.1.block rb (qw h7 (b:=rb) rfl).2.1 (fun e=>by have:=(H.out.1.fm.lt e).2.1;omega))) hx
  have f8:Hid ((∀x,isF o x=true↔Nul S x)/\Below w.heap.size w N/\N.cell? ⟨A,7,none⟩=some (.slice (some ⟨g,0,none⟩) Z c)):=⟨H.out.2.2,R.out.2,by
   obtain⟨-,-,-,-,-,-,-,c7⟩:=sbox (qf T H.out.1.x1);rw[f9.out]at c7
   exact c7⟩
  have l2:Hid (∃O u,FM N w.heap.size f O n S.tk o u/\FV N f p0 N O/\WI S n u (0+1)):=⟨p0,_,R.out.1,FV.refl _ _ _,WI.begin S n⟩
  clear i2 h7 n8 T k2 n1 n4 H;have c7:=f8.out.2.2
  go_upto_block 0 with fail
  clear c7
  go_cut [34] (fun s34 wd=>Hid (∃O u,FM wd w.heap.size f O n S.tk o u/\FV N f p0 wd O/\WI S n u (Z+1)))
  case first =>
   go_wp2_with fail
   go_loopg [34] Z (fun kx s34 wr=>∃i:Nat,s34=.int .i64 i/\i<=Z/\Z - i<=kx/\Hid (∃O u,FM wr w.heap.size f O n S.tk o u/\FV N f p0 wr O/\WI S n u (i+1)))
   case atStart=>exact⟨0,rfl,Nat.zero_le _,by omega,l2⟩
   case round =>
    clear l2;obtain⟨i,rfl,hi,hg,J⟩:=hrel
    by_cases p4:i<Z
    ·have n2:(i:Int)<(Z:Int):=by omega
     obtain⟨p1,a0,a5,a7,a1⟩:=J.out;obtain⟨q,hq,a4,d7⟩:=o5.out i p4;obtain⟨v0,-,-,d4,-,a3⟩:=b3.out wr p1 a7;obtain⟨d0,d1,d2,d3⟩:=qfx d4 hq;obtain⟨xl,o0,o1,h9⟩:=HX.out.1.wf.rl (i+1) q.1 (by omega) a4;rw[<-HX.out.1.nn]at h9;have a8:=List.mem_of_getElem? a4
     have M:Hid (Rlk S n q.1 xl/\S.rs[i+1]?=some q.1/\S.tk<xl/\Row w 1 q.2.1 q.1.r.length q.2.2 (natC q.1.r)):=⟨⟨o0,h9,fun y hy=>⟨(HX.out.1.sy q.1 a8 y hy).1,(HX.out.1.sy q.1 a8 y hy).2⟩,by have:=HX.out.1.ln q.1 a8;omega⟩,a4,o1,d7⟩
     have Q:Hid (FM (wr.alloc (.cells #[.int .i64 q.1.l,.slice q.2.1 q.1.r.length q.2.2,.int .i64 q.1.lv,.int .i64 q.1.a] 56)) w.heap.size f p1 n S.tk o a0/\FV N f p0 (wr.alloc (.cells #[.int .i64 q.1.l,.slice q.2.1 q.1.r.length q.2.2,.int .i64 q.1.lv,.int .i64 q.1.a] 56)) p1/\Below w.heap.size w (wr.alloc (.cells #[.int .i64 q.1.l,.slice q.2.1 q.1.r.length q.2.2,.int .i64 q.1.lv,.int .i64 q.1.a] 56))/\(wr.alloc (.cells #[.int .i64 q.1.l,.slice q.2.1 q.1.r.length q.2.2,.int .i64 q.1.lv,.int .i64 q.1.a] 56)).heap[wr.heap.size]?=some (.cells #[.int .i64 q.1.l,.slice q.2.1 q.1.r.length q.2.2,.int .i64 q.1.lv,.int .i64 q.1.a] 56 (0,0))/\WI S n a0 (i+1)):=⟨a5.below (qb _ _),a7.trans ⟨zm (qb _ _),fun _ e=>.inl e⟩,qd a3 (qb _ _),heap_alloc_new _ _,a1⟩
     obtain⟨⟨rl,rr,Y,ra⟩,qa,qc⟩:=q;simp only at d0 d1 d2 d3 M Q;clear a5 a7 a1 hq a4 d7 d4 a3 J o0 a8
     go_upto_region 8 with fail
     clear v0 d0 d1 d2 d3;generalize wr.alloc (.cells #[.int .i64 rl,.slice qa rr.length qc,.int .i64 Y,.int .i64 ra] 56)=U at Q ⊢
     obtain⟨b6,o2⟩:∃b6,Hid (b6=wr.heap.size):=⟨_,rfl⟩
     rw[<-o2.out]at Q ⊢;obtain⟨v0,-,-,-,-,-⟩:=b3.out U p1 Q.out.2.1
     obtain⟨e0,e1,e2,e3⟩:U.cell? ⟨b6,0,none⟩=some (.int .i64 rl)/\U.cell? ⟨b6,1,none⟩=some (.slice qa rr.length qc)/\U.cell? ⟨b6,2,none⟩=some (.int .i64 Y)/\U.cell? ⟨b6,3,none⟩=some (.int .i64 ra):=⟨by rw[qe Q.out.2.2.2.1];rfl,by rw[qe Q.out.2.2.2.1];rfl,by rw[qe Q.out.2.2.2.1];rfl,by rw[qe Q.out.2.2.2.1];rfl⟩
     have l4:Hid (Calls Tryz.prog 81 #[.pointer (some ⟨f,0,none⟩),.agg #[.int .i64 rl,.slice qa rr.length qc,.int .i64 Y,.int .i64 ra]] U fun e W'=>e=.returned (.tuple #[])/\∃O,O.eb=p1.eb/\∃u,FM W' w.heap.size f O n S.tk o u/\FV U f p1 W' O/\FA S n xl rr a0 u rr.length):=qgu w U f n p1 o S a0 Q.out.1 Q.out.2.2.1 f8.out.1 ⟨rl,rr,Y,ra⟩ xl (i+1) qa qc (by omega) M.out.2.1 M.out.1 M.out.2.2.2 Q.out.2.2.2.2.ins Q.out.2.2.2.2.mng Q.out.2.2.2.2.len (by have:=Q.out.2.2.2.2.lle;omega) (by have:=Q.out.2.2.2.2.tot;omega)
     go_wp2_with fail;refine l4.out.mono ?_;rintro e V1 ⟨rfl,p2,-,l9,a6,k0,hA⟩;clear v0 e0 e1 e2 e3 l4;have i1:=Q.out.1.not ⟨_,Q.out.2.2.2.1⟩ (by decide) (by decide) (by decide) (by decide)
     have f4:V1.heap[b6]?=some (.cells #[.int .i64 rl,.slice qa rr.length qc,.int .i64 Y,.int .i64 ra] 56 (0,0)):=by
      rw[k0.1.block b6 (Array.getElem?_eq_some_iff.1 Q.out.2.2.2.1).1 i1];exact Q.out.2.2.2.1
     have i7:=hid3 a6 (Q.out.2.1.trans k0) hA;obtain⟨v0,-,-,-,n5,a3⟩:=b3.out V1 p2 i7.out.2.1;have n0:=n5 xl h9;rw[o6.out xl o1 h9]at n0;have n6:rl=(xl:Int):=M.out.1.l
     obtain⟨e0,e1,e2,e3⟩:V1.cell? ⟨b6,0,none⟩=some (.int .i64 rl)/\V1.cell? ⟨b6,1,none⟩=some (.slice qa rr.length qc)/\V1.cell? ⟨b6,2,none⟩=some (.int .i64 Y)/\V1.cell? ⟨b6,3,none⟩=some (.int .i64 ra):=⟨by rw[qe f4];rfl,by rw[qe f4];rfl,by rw[qe f4];rfl,by rw[qe f4];rfl⟩
     have h8:=WI.first (r:=⟨rl,rr,Y,ra⟩) Q.out.2.2.2.2 hA;have l3:Hid (Calls Tryz.prog 82 #[.pointer (some ⟨f,0,none⟩),.agg #[.int .i64 rl,.slice qa rr.length qc,.int .i64 Y,.int .i64 ra]] V1 fun e W'=>e=.returned (.tuple #[])/\∃O,O.eb=p2.eb/\∃u,FM W' w.heap.size f O n S.tk o u/\FV V1 f p2 W' O/\∃q,FB S n xl rr l9 u 0 q):=qfz w V1 f n (by omega) (by omega) p2 o S l9 a6 a3 f8.out.1 ⟨rl,rr,Y,ra⟩ xl (i+1) qa qc (by omega) M.out.2.1 M.out.1 M.out.2.2.2 h8.2.1 h8.1 h8.2.2 (by rw[hA.len];have:=Q.out.2.2.2.2.lle;omega) (by have:=hA.tot;have:=Q.out.2.2.2.2.tot;have:=M.out.1.ln;simp only at this;omega)
     subst n6
     have q3:(xl:Int)<(n:Int):=by omega
     clear a6 k0 hA f4 n5 a3 h8 i1;go_wp2_with fail;refine l3.out.mono ?_;rintro e V2 ⟨rfl,p3,-,o9,m3,m6,qq,hB⟩
     have HF:Hid (∃O u,FM V2 w.heap.size f O n S.tk o u/\FV N f p0 V2 O/\WI S n u (i+1+1)):=⟨p3,o9,m3,i7.out.2.1.trans m6,WI.next (r:=⟨(xl:Int),rr,Y,ra⟩) Q.out.2.2.2.2 i7.out.2.2 hB M.out.2.1 M.out.1.l M.out.1.ln⟩
     clear v0 e0 e1 e2 e3 l3 m3 m6 hB n0;go_wp2_with fail;go_roundg (Z - (i+1))
     case measure=>omega
     case rel=>exact⟨i+1,by simp,by omega,Nat.le_refl _,HF⟩
    ·have n2:¬(i:Int)<(Z:Int):=by omega
     have HF:Hid (∃O u,FM wr w.heap.size f O n S.tk o u/\FV N f p0 wr O/\WI S n u (Z+1)):=by
      have:i=Z:=by omega
      subst this;exact J.out
     clear J;go_wp2_with fail;go_meet;exact HF
  case rest =>
   obtain⟨P,q2⟩:∃P,P=wc:=⟨_,rfl⟩
   subst wc;obtain⟨p1,a0,a5,a7,a1⟩:=hcut.out;obtain⟨v0,m0,m1,-,-,a3⟩:=b3.out P p1 a7;have n9:=HX.out.1.wf.st
   have f5:S.st<n:=by rw[i6.out];exact n9.2
   have hd:decide ((S.tk:Int)<(S.st:Int)/\(S.st:Int)<(n:Int))=true:=by rw[decide_eq_true_eq];omega
   obtain⟨l,hl⟩:∃l,a0[n+S.st]?=some l:=⟨a0[n+S.st]'(by have:=a1.len;omega),List.getElem?_eq_getElem _⟩
   have a6:=a5.below (qo P);have f6:=a1;rw[<-l8.out]at f6;have i5:=f6.done f5 (by omega:S.tk<n) (fun t hf=>by have:=(qhe HX.out.1.wf (Nat.le_refl _) hf).1;omega) hl
   have m9:=qd a3 (qo _);have o4:Hid (Calls Tryz.prog 84 #[.pointer (some ⟨f,0,none⟩),.int .i64 ((n+S.st:Nat):Int),.int .i64 (S.tk:Int)] P.drew fun e W'=>∃(xa:Option Addr) (xc:Nat),e=.returned (.tuple #[])/\∃p2,FS W' w.heap.size f p2 n S o (a0.set (n+S.st) (l++[S.tk]))/\FV N f p0 W' p2):=(qdl P.drew w.heap.size f n S.tk p1 o a0 a6 m9.size (n+S.st) S.tk l hl (by have:=qge hl;have:=a1.tot;omega)).mono (fun e W' ⟨h1,p2,_,h3,h4⟩=>⟨none,0,h1,p2,⟨h3,i5,f8.out.1,i6.out,by rw[List.length_set];have:=a1.lle;omega,by rw[qcy hl];have:=a1.tot;omega,HX.out.1.wf,HX.out.1.sy⟩,(a7.trans (show FV P f p1 P.drew p1 from⟨zm (qo _),fun _ e=>.inl e⟩)).trans h4⟩)
   have o3:=hid (y9 P.drew f n n S.st _ a6.c1 (by omega) f5)
   have b4:Hid (Calls Tryz.prog 83 #[.pointer (some ⟨f,0,none⟩),.int .i64 (S.st:Int)] P fun e w'=>e=.returned (.bool true)/\w'=P):=by
    rw[<-hd];exact j4 P f S.tk n n _ a5.c0 a5.c1 (S.st:Int)
   clear hcut a5 a7 a1 a6 f6 i5 m9 hd hl a3 n9 f5;go_wp2_with fail;refine b4.out.mono ?_;rintro e r5 ⟨rfl,rfl⟩;clear b4
   go_upto_region 13 with fail
   refine wp_region_held_drew (S:=fun w'=>w'.cell? ⟨vb,0,none⟩=some (.pointer (some ⟨f,0,none⟩))/\w'.cell? ⟨A,0,none⟩=some (.int .i64 (S.tk:Int))/\w'.cell? ⟨A,2,none⟩=some (.int .i64 (S.st:Int))) (by kernel_rfl) ⟨v0,m0,m1⟩ (fun d=>?_);refine wpAnyH_take (i:=0) (v:=.pointer (some ⟨f,0,none⟩)) rfl (by kernel_rfl) (by kernel_rfl) (by kernel_rfl) (fun _ _ _ h=>h) (Or.inl ⟨by rfl,fun w9 s=>?_⟩) d ?_
   ·(obtain⟨C,I,f3⟩:=s;go_simp)
   simp only[Act.put];refine wpAnyH_take (i:=1) (v:=.pointer (some ⟨f,0,none⟩)) rfl (by kernel_rfl) (by kernel_rfl) (by kernel_rfl) (fun _ _ _ h=>h) (Or.inl ⟨by rfl,fun w9 s=>?_⟩) d ?_
   ·(obtain⟨C,I,f3⟩:=s;go_simp)
   simp only[Act.put];refine wpAnyH_take (i:=2) (v:=.pointer (some ⟨A,2,none⟩)) rfl (by kernel_rfl) (by kernel_rfl) (by kernel_rfl) (fun _ _ _ h=>h) (Or.inl ⟨by rfl,fun w9 s=>?_⟩) d ?_
   ·(obtain⟨C,I,f3⟩:=s;go_simp)
   simp only[Act.put];refine wpAnyH_take (i:=3) (v:=.int .i64 (S.st:Int)) rfl (by kernel_rfl) (by kernel_rfl) (by kernel_rfl) (fun _ _ _ h=>h) (Or.inl ⟨by rfl,fun w9 s=>?_⟩) d ?_
   ·(obtain⟨C,I,f3⟩:=s;go_simp)
   simp only[Act.put];refine wpAnyH_take (i:=5) (v:=.pointer (some ⟨A,0,none⟩)) rfl (by kernel_rfl) (by kernel_rfl) (by kernel_rfl) (fun _ _ _ h=>h) (Or.inl ⟨by rfl,fun w9 s=>?_⟩) d ?_
   ·(obtain⟨C,I,f3⟩:=s;go_simp)
   simp only[Act.put];refine wpAnyH_take (i:=6) (v:=.int .i64 (S.tk:Int)) rfl (by kernel_rfl) (by kernel_rfl) (by kernel_rfl) (fun _ _ _ h=>h) (Or.inl ⟨by rfl,fun w9 s=>?_⟩) d ?_
   ·(obtain⟨C,I,f3⟩:=s;go_simp)
   simp only[Act.put];refine wpAnyH_ready (rs:=[4]) (by kernel_rfl) (by simp) ?_;refine AllReadyH.cons rfl (fun K z=>?_) AllReadyH.nil;refine qc4 rfl 85 #[.pointer (some ⟨f,0,none⟩),.int .i64 (S.st:Int)] (.int .i64 ((n+S.st:Nat):Int)) (by simp[Act.eval,go_sem]) o3.out (z.out _ _ ⟨v0,m0,m1⟩ (fun d=>?_));clear z K;simp only[Act.put];refine wpAnyH_ready (rs:=[7]) (by kernel_rfl) (by simp) ?_;refine AllReadyH.cons rfl (fun K z=>?_) AllReadyH.nil;refine j9 rfl 84 #[.pointer (some ⟨f,0,none⟩),.int .i64 ((n+S.st:Nat):Int),.int .i64 (S.tk:Int)] (fun _ _=>.tuple #[]) _ (by simp[Act.eval,go_sem]) o4.out (fun xa xc V hV=>?_);obtain⟨p2,m4,m7⟩:=hV;obtain⟨x0,p9,q0,-,-,h0⟩:=b3.out V p2 m7;have o8:=hid2 m4 h0;refine z.out _ _ ⟨x0,p9,q0⟩ (fun d=>?_);clear z K m4 m7 h0;simp only[Act.put];refine wpAnyH_done (by kernel_rfl) ?_ _;go_wp2_with fail;go_ret;exact⟨f,p2,o,_,rfl,o8.out⟩
def bX:ByteArray:=⟨#[120]⟩
def qa7:Gm:=⟨q9.ts,q9.s,q9.e,q9.rs++[⟨bX,[bX],e0⟩]⟩
def qjp:Gm:=⟨[],e0,0,[]⟩
theorem ye:lfs q9.rs=[bE]:=by kernel_rfl
theorem qbf:lfs qa7.rs=[bE,bX]:=by kernel_rfl
theorem x8:spG q9=⟨3,1,4,0,nmG q9,[0,1,2],[0,1,1],[⟨-1,[4],0,0⟩,⟨4,[4,1,4],1,1⟩,⟨4,[4,2,4],2,1⟩,⟨4,[0],0,0⟩]⟩:=by kernel_rfl
theorem qf3:spG qa7=⟨3,2,4,0,nmG qa7,[0,1,2],[0,1,1],[⟨-1,[4],0,0⟩,⟨4,[4,1,4],1,1⟩,⟨4,[4,2,4],2,1⟩,⟨4,[0],0,0⟩,⟨5,[5],0,0⟩]⟩:=by kernel_rfl
theorem qaz{a b:ByteArray}(h:(a.data.toList == b.data.toList)=false):a≠b:=by
 rintro rfl;simp at h
theorem qc9:NmP q9:=by
 have f:bN≠bE:=qaz (by kernel_rfl);have g:bP≠bE:=qaz (by kernel_rfl);have h:bM≠bE:=qaz (by kernel_rfl);refine⟨by simp[q9],?_,?_,?_,?_⟩
 ·intro t d a;rw[ye]at a;simp only[q9,List.mem_cons,List.not_mem_nil,or_false]at d a
  rcases d with rfl | rfl | rfl
  ·exact f a
  ·exact g a
  ·exact h a
 ·intro r b;simp only[q9,List.mem_cons,List.not_mem_nil,or_false]at b
  rcases b with rfl | rfl | rfl <;> exact .inl rfl
 ·intro r b x c;rw[ye];simp only[q9,List.mem_cons,List.not_mem_nil,or_false]at b
  rcases b with rfl | rfl | rfl
  all_goals
   simp only[List.mem_cons,List.not_mem_nil,or_false]at c;simp only[q9,tkG,List.map_cons,List.map_nil,List.mem_cons,List.not_mem_nil,or_false]
  ·rcases c with rfl | rfl | rfl
   ·exact .inr rfl
   ·exact .inl (.inr (.inl rfl))
   ·exact .inr rfl
  ·rcases c with rfl | rfl | rfl
   ·exact .inr rfl
   ·exact .inl (.inr (.inr rfl))
   ·exact .inr rfl
  ·exact .inl (.inl c)
 ·rw[ye];show bE∈[bE];simp
theorem qds:¬vo q9:=by
 rintro(h | h | h | ⟨r,a,h⟩)
 ·exact absurd h (by decide)
 ·exact absurd h (by decide)
 ·rw[ye]at h;exact absurd h (by decide)
 ·simp only[q9,List.mem_cons,List.not_mem_nil,or_false]at a
  rcases a with rfl | rfl | rfl <;> exact absurd h (by decide)
theorem qij:Der (spG q9) 4:=by
 rw[x8];refine Der.rule 3 ⟨4,[0],0,0⟩ 4 (by omega) rfl rfl (fun y a=>?_);simp only[List.mem_cons,List.not_mem_nil,or_false]at a;subst a;exact Der.tok 0 (by show 0<3;omega)
theorem qpk:¬Der (spG q9) 3:=by
 rw[x8];intro h;refine h (fun x=>x≠3) (fun x d=>?_) (fun i r x c a b f=>?_) rfl
 ·have:x<3:=d;omega
 ·match i,c,a with
  | 1,_,a=>cases a;simp at b;omega
  | 2,_,a=>cases a;simp at b;omega
  | 3,_,a=>cases a;simp at b;omega
  | n+4,_,a=>simp at a
theorem qre:¬qbv (spG q9):=by
 rintro⟨x,f,g,a⟩
 have c:(spG q9).tk=3:=by rw[x8]
 have d:(spG q9).nt=1:=by rw[x8]
 have:x=4:=by omega
 subst this
 rcases a with a | a
 ·exact a qij
 ·refine a ?_
  have b:(spG q9).st=4:=by rw[x8]
  have:=Rch.start (S:=spG q9)
  rwa [b]at this
theorem qhw:OfR q9 0:=.inr (.inr (.inr (.inr ⟨rfl,qb7,qds,qc9,qre⟩)))
theorem qpl:MayP qa7:=by
 have h:=qb7
 have b:kd bX:=by unfold kd;kernel_rfl
 refine⟨by decide,by decide,h.e0,h.e1,h.st,h.tk,fun r a=>?_⟩
 rcases List.mem_append.1 a with a | a
 ·exact h.rl r a
 ·rw[List.mem_singleton]at a;subst a;refine⟨b,by decide,.inl rfl,fun x c=>?_⟩;rw[List.mem_singleton]at c;subst c;exact b
theorem qrf:OfR qa7 8:=by
 refine .inr (.inr (.inr (.inl ⟨rfl,qpl,?_,?_,?_⟩)))
 ·rintro(h | h | h | ⟨r,a,h⟩)
  ·exact absurd h (by decide)
  ·exact absurd h (by decide)
  ·rw[qbf]at h;exact absurd h (by decide)
  ·rcases List.mem_append.1 a with a | a
   ·exact qds (.inr (.inr (.inr ⟨r,a,h⟩)))
   ·rw[List.mem_singleton]at a;subst a;exact absurd h (by decide)
 ·have f:∀x,x∈lfs q9.rs->x∈lfs qa7.rs:=fun x b=>by
   rw[ye]at b;rw[qbf];exact List.mem_append_left [bX] b
  have j:bN≠bX:=qaz (by kernel_rfl);have k:bP≠bX:=qaz (by kernel_rfl);have l:bM≠bX:=qaz (by kernel_rfl);refine⟨by simp[qa7,q9],?_,?_,?_,?_⟩
  ·intro t m b;have c:t∈q9.ts:=m;rw[qbf]at b
   rcases List.mem_cons.1 b with b | b
   ·exact qc9.tk t c (by rw[ye,b];simp)
   ·rw[List.mem_singleton]at b;simp only[q9,List.mem_cons,List.not_mem_nil,or_false]at c
    rcases c with rfl | rfl | rfl
    ·exact j b
    ·exact k b
    ·exact l b
  ·intro r a
   rcases List.mem_append.1 a with a | a
   ·exact qc9.pr r a
   ·rw[List.mem_singleton]at a;subst a;exact .inl rfl
  ·intro r a x b
   rcases List.mem_append.1 a with a | a
   ·rcases qc9.rr r a x b with h | h
    ·exact .inl h
    ·exact .inr (f x h)
   ·rw[List.mem_singleton]at a;subst a;rw[List.mem_singleton]at b;subst b;right;rw[qbf];simp
  ·rw[qbf];show bE∈[bE,bX];simp
 ·refine⟨5,by rw[qf3];show 3<5;omega,by rw[qf3];show 5<3+1+2;omega,.inr ?_⟩
  rw[qf3];intro h;refine h (fun x=>x≠5) (by show(4:Nat)≠5;omega) (fun i r x y g a f b d=>?_) rfl
  match i,g,a with
  | 1,_,a=>cases a;simp only[List.mem_cons,List.not_mem_nil,or_false]at d;rcases d with rfl | rfl | rfl <;> omega
  | 2,_,a=>cases a;simp only[List.mem_cons,List.not_mem_nil,or_false]at d;rcases d with rfl | rfl | rfl <;> omega
  | 3,_,a=>cases a;simp only[List.mem_cons,List.not_mem_nil,or_false]at d;subst d;omega
  | 4,_,a=>cases a;simp at f;omega
  | n+5,_,a=>simp at a
theorem qrg:MayP qjp:=by
 refine⟨by decide,by decide,by decide,by decide,.inl rfl,⟨fun i t h=>(by cases h),jw,rfl,?_⟩,fun r h=>(by cases h)⟩;intro k c b a
 match k,b,a with
 | 0,_,_=>omega
 | 1,_,a=>exact absurd rfl a
 | 2,_,a=>exact absurd rfl a
 | 3,_,a=>exact absurd rfl a
 | 4,_,a=>exact absurd rfl a
 | 5,_,a=>exact absurd rfl a
 | 6,_,a=>exact absurd rfl a
 | 7,_,a=>exact absurd rfl a
 | 8,_,a=>exact absurd rfl a
theorem qs6:OfR qjp 7:=by
 refine .inr (.inr (.inl ⟨rfl,qrg,?_,fun h=>h.ne rfl⟩));rintro(h | h | h | ⟨r,a,h⟩)
 ·exact absurd h (by decide)
 ·exact absurd h (by decide)
 ·exact absurd h (by decide)
 ·cases a
theorem qrh{G:Gm}(h:OfR G 0):MayP G/\¬vo G/\NmP G/\¬qbv (spG G):=by
 rcases h with e | e | e | e | e
 ·omega
 ·omega
 ·omega
 ·omega
 ·exact e.2
theorem qri{G:Gm}(h:¬vo G):G.ts.length<=12/\G.rs.length<=30/\(lfs G.rs).length<=10/\∀r∈G.rs,r.r.length<=6:=by
 refine⟨?_,?_,?_,fun r a=>?_⟩
 ·exact Classical.byContradiction fun e=>h (.inl (by omega))
 ·exact Classical.byContradiction fun e=>h (.inr (.inl (by omega)))
 ·exact Classical.byContradiction fun e=>h (.inr (.inr (.inl (by omega))))
 ·exact Classical.byContradiction fun e=>h (.inr (.inr (.inr ⟨r,a,by omega⟩)))
theorem quy{G:Gm}(h:OfR G 0):NSp (spG G) (G.ts.length+1+(lfs G.rs).length):=by
 obtain⟨j,i,g,n⟩:=qrh h;obtain⟨s,t,u,k⟩:=qri i;have c:=qer j i g
 have a:∀r∈(spG G).rs,r=⟨-1,[stG G],0,0⟩\/∃q∈G.rs,r=ruG G q:=fun r b=>by
  have b:r∈(⟨-1,[stG G],0,0⟩ :: G.rs.map (ruG G)):=b
  rcases List.mem_cons.1 b with e | e
  ·exact .inl e
  ·obtain⟨q,f,e⟩:=List.mem_map.1 e;exact .inr ⟨q,f,e.symm⟩
 refine⟨c,rfl,fun r b y d=>⟨(c.rr r b).2 y d,?_⟩,fun x l m=>Classical.byContradiction fun e=>n ⟨x,l,m,.inr e⟩,?_,fun r b=>?_⟩
 ·have e0:(spG G).tk=G.ts.length:=rfl;rw[e0]
  rcases a r b with rfl | ⟨q,f,rfl⟩
  ·simp only[List.mem_singleton]at d;subst d;have:=c.st.1;have p:(spG G).st=stG G:=rfl;omega
  ·have d:y∈q.r.map (ix (nmG G)):=d;obtain⟨x,o,rfl⟩:=List.mem_map.1 d
   rcases g.rr q f x o with e | e
   ·have:=qq7 (G:=G) e;unfold ix;rw[this.1];simp only[Option.getD_some];omega
   ·have:=qeq j g e;unfold ix;rw[this];simp only[Option.getD_some];unfold ix;omega
 ·show(_ :: G.rs.map (ruG G)).length<=40;rw[List.length_cons,List.length_map];omega
 ·rcases a r b with rfl | ⟨q,f,rfl⟩
  ·show 1<=20;omega
  ·have:=k q f;show(q.r.map (ix (nmG G))).length<=20;rw[List.length_map];omega
theorem qcr{i:Nat}{r:SR}(b:0<i)(a:(spG q9).rs[i]?=some r):r.l=4/\(r.r=[4,1,4]\/r.r=[4,2,4]\/r.r=[0]):=by
 rw[x8]at a
 match i,b,a with
 | 1,_,a=>cases a;exact⟨rfl,.inl rfl⟩
 | 2,_,a=>cases a;exact⟨rfl,.inr (.inl rfl)⟩
 | 3,_,a=>cases a;exact⟨rfl,.inr (.inr rfl)⟩
 | n+4,_,a=>simp at a
theorem vw:(spG q9).tk=3/\(spG q9).nt=1/\(spG q9).st=4:=by rw[x8];exact⟨rfl,rfl,rfl⟩
theorem qdt(x:Nat):¬Nul (spG q9) x:=fun h=>h (fun _=>False) (fun i r x b c _ a=>by
 obtain⟨-,e | e | e⟩:=qcr b c <;> rw[e]at a
 ·exact a 4 (by simp)
 ·exact a 4 (by simp)
 ·exact a 0 (by simp))
theorem qa0{x t:Nat}:FstP (spG q9) x t↔(x<3/\t=x)\/(x=4/\t=0):=by
 constructor
 ·intro h;refine h (fun x t=>(x<3/\t=x)\/(x=4/\t=0)) (fun x d=>.inl ⟨by rw[vw.1]at d;exact d,rfl⟩) (fun i r x y a u v g m l b n c=>?_)
  obtain⟨k,f⟩:=qcr g m
  have d:x=4:=by rw[k]at l;omega
  refine .inr ⟨d,?_⟩
  cases u with
  | cons z u=>exact absurd (n z (by simp)) (qdt z)
  | nil =>
   rcases f with e | e | e
   ·rw[e]at b;cases b;simp at c;exact c
   ·rw[e]at b;cases b;simp at c;exact c
   ·rw[e]at b;cases b;simp at c;exact c
 ·rintro(⟨j,rfl⟩ | ⟨rfl,rfl⟩)
  ·exact FstP.tok _ (by rw[vw.1];exact j)
  ·exact FstP.rule 3 ⟨4,[0],0,0⟩ 4 0 0 [] [] (by omega) (by rw[x8];rfl) rfl rfl (fun z o=>by cases o) (FstP.tok 0 (by rw[vw.1];omega))
theorem qbg{x t:Nat}{l:List Nat}:FstL (spG q9) (x :: l) t↔FstP (spG q9) x t:=by
 rw[qbc];exact⟨fun h=>h.elim id (fun h=>absurd h.1 (qdt x)),.inl⟩
theorem qrj{t:Nat}:FolP (spG q9) 4 t↔t=1\/t=2\/t=3:=by
 constructor
 ·intro h;have j:=h (fun x t=>x=4->(t=1\/t=2\/t=3)) (fun _=>by rw[vw.1];omega) (fun i r x y a u v d f k b l c _=>?_) (fun i r x y a u v d f k b l p c _=>?_)
  ·exact j rfl
  ·obtain⟨-,g⟩:=qcr d f;rw[vw.1]at l
   rcases g with e | e | e
   ·rw[e]at b
    match u,b with
    | [],b=>cases b;rw[qbg,qa0]at c;omega
    | [_],b=>cases b;omega
    | [_,_],b=>cases b;exact absurd c qdh
    | _ :: _ :: _ :: u,b=>cases u <;> cases b
   ·rw[e]at b
    match u,b with
    | [],b=>cases b;rw[qbg,qa0]at c;omega
    | [_],b=>cases b;omega
    | [_,_],b=>cases b;exact absurd c qdh
    | _ :: _ :: _ :: u,b=>cases u <;> cases b
   ·rw[e]at b
    match u,b with
    | [],b=>cases b;omega
    | _ :: u,b=>cases u <;> cases b
  ·refine c ?_;obtain⟨o,-⟩:=qcr d f;rw[o]at k;omega
 ·have m:(spG q9).rs[1]?=some ⟨4,[4,1,4],1,1⟩:=by rw[x8];rfl
  have n:(spG q9).rs[2]?=some ⟨4,[4,2,4],2,1⟩:=by rw[x8];rfl
  rintro(rfl | rfl | rfl)
  ·exact FolP.first 1 _ 4 4 1 [] [1,4] (by omega) m rfl rfl (by rw[vw.1];omega) (by rw[qbg,qa0];omega)
  ·exact FolP.first 2 _ 4 4 2 [] [2,4] (by omega) n rfl rfl (by rw[vw.1];omega) (by rw[qbg,qa0];omega)
  ·have:=FolP.start (S:=spG q9);rw[vw.1,vw.2.2]at this;exact this
theorem qdu{m:Nat}{Q:Nat->Prop}(b:Nat->Bool)(h:∀t,t<m->(b t=true↔Q t)):IsL m Q ((List.range m).filter b):=⟨b,h,rfl⟩
theorem Told.up{w v b:World}{m:Nat}{Q:Nat->Prop}{e:Ending}(a:Below w.heap.size w v)(h:Told v b m Q e):Told w b m Q e:=by
 obtain⟨l,i,j,c,d,f,g⟩:=h;exact⟨l,i,j,c,d,zc f a.size,qd a g⟩
theorem qs7(W:World)(x:Int):Row (W.alloc (.cells #[.int .i64 x] 3)) 1 (some ⟨W.heap.size,0,none⟩) 1 1 [.int .i64 x]:=by
 refine⟨rfl,Nat.le_refl _,by unfold maxLen;omega,.inr ⟨_,_,rfl,fun j u a=>?_⟩⟩
 have h:(W.alloc (.cells #[.int .i64 x] 3)).heap[W.heap.size]?=some (.cells #[.int .i64 x] 3 (0,0)):=heap_alloc_new _ _;rw[Nat.zero_add,qe h]
 match j,a with
 | 0,a=>cases a;rfl
theorem qkr(W:World)(B c n:Nat)(p:FP)(E:List Bool)(S:Sp)(i:List (List Nat))(h:FS W B c p n S E i)(x:Nat)(q:x<n)(g:x≠S.tk):
  Calls Tryz.prog 55 #[.pointer (some ⟨c,0,none⟩),.int .i64 (x:Int)] W fun e a=>Told W a (S.tk+1) (FstP S x) e:=by
 have f:Below W.heap.size W (W.alloc (.cells #[.int .i64 (x:Int)] 3)):=qb _ _
 have k:Hid (Calls Tryz.prog 58 #[.pointer (some ⟨c,0,none⟩),.slice (some ⟨W.heap.size,0,none⟩) 1 1,.int .i64 (-1)] (W.alloc (.cells #[.int .i64 (x:Int)] 3)) fun e a=>Told (W.alloc (.cells #[.int .i64 (x:Int)] 3)) a (S.tk+1) (fun t=>FstL S [x] t\/((∀z∈[x],Nul S z)/\(t:Int)=-1)) e) :=
  qeo _ B c n p E S i (h.below f) [x] _ 1 1 rfl (by omega) (qs7 W (x:Int)) (fun z j=>by rw[List.mem_singleton]at j;subst j;exact⟨q,g⟩) (-1) (.inl rfl)
 have o:Hid (∀e a,Told (W.alloc (.cells #[.int .i64 (x:Int)] 3)) a (S.tk+1) (fun t=>FstL S [x] t\/((∀z∈[x],Nul S z)/\(t:Int)=-1)) e->Told W a (S.tk+1) (FstP S x) e):=fun e a d=>(d.up f).congr (fun t _=>by
  rw[qbc]
  constructor
  ·rintro((b | ⟨-,b⟩) | ⟨-,b⟩)
   ·exact b
   ·exact absurd b qdh
   ·omega
  ·exact fun b=>.inl (.inl b))
 clear h f;go_enter Tryz.func55,Tryz.ntmps55;go_wp2_with fail;refine k.out.mono ?_;rintro e a d;have m:=hid (o.out e a d);obtain⟨l,r,s,rfl,-⟩:=d;go_wp2_with fail;go_ret;exact m.out
theorem qjf(W:World)(B b n:Nat)(p:FP)(E:List Bool)(S:Sp)(i:List (List Nat))(h:FS W B b p n S E i)(x:Nat)(r:x<n)(K:S.tk<x):
  Calls Tryz.prog 56 #[.pointer (some ⟨b,0,none⟩),.int .i64 (x:Int)] W fun e c=>Told W c (S.tk+1) (FolP S x) e:=by
 have C:=h.fm.c0;have j:=h.fm.c1
 have f:n<=1000:=by have:=h.nn;have:=h.wf.tk;have:=h.wf.nt;omega
 have d:Below W.heap.size W (W.alloc (.cells #[.int .i64 ((n+x:Nat):Int)] 3)):=qb _ _;have q:(W.alloc (.cells #[.int .i64 ((n+x:Nat):Int)] 3)).heap[W.heap.size]?=some (.cells #[.int .i64 ((n+x:Nat):Int)] 3 (0,0)):=heap_alloc_new _ _
 have hd:decide ((S.tk:Int)<(x:Int)/\(x:Int)<(n:Int))=true:=by rw[decide_eq_true_eq];omega
 have z:Hid (Calls Tryz.prog 87 #[.pointer (some ⟨b,0,none⟩),.slice (some ⟨W.heap.size,0,none⟩) 1 1] (W.alloc (.cells #[.int .i64 ((n+x:Nat):Int)] 3)) fun e c=>Told W c (S.tk+1) (FolP S x) e):=by
  have J:(W.alloc (.cells #[.int .i64 ((n+x:Nat):Int)] 3)).ownsRow W.heap.size 3 1 (.slice (some ⟨W.heap.size,0,none⟩) 1 1) 1 (natC [n+x]):=⟨rfl,.inr ⟨W.heap.size,1,#[.int .i64 ((n+x:Nat):Int)],rfl,Nat.le_refl _,q,Nat.le_refl _,by unfold maxLen;omega,rfl,rfl⟩⟩
  refine(qen _ B b n S.tk W.heap.size p E i (h.fm.below d) h.ways.ins (fun k I=>(h.fm.lt I).2.1) d.size [n+x] _ 1 1 rfl J (fun y s=>by rw[List.mem_singleton]at s;subst s;have:=h.ways.len;omega) h.wl (by have:=h.tt;omega) (by have:=h.ways.len;have:=h.nn;omega)).mono ?_
  rintro e c ⟨l,u,v,D,F,G,H⟩;refine⟨l,u,v,D,F.congr (fun t L=>?_),G,d.trans H⟩;rw[<-h.ways.got_fol r (by omega:t<=S.tk) (by omega) h.sy]
  constructor
  ·rintro⟨a,o,g⟩;rw[List.mem_singleton]at o;subst o;exact g
  ·exact fun g=>⟨n+x,by simp,g⟩
 clear h d q;go_enter Tryz.func56,Tryz.ntmps56;go_wp2_with fail;refine(j4 W b S.tk n n (some ⟨p.eb,0,none⟩) C j (x:Int)).mono ?_;rintro e w1 ⟨rfl,rfl⟩;rw[hd];go_wp2_with fail;refine(y9 w1 b n n x _ j f r).mono ?_;rintro e w2 ⟨rfl,rfl⟩;go_wp2_with fail;refine z.out.mono ?_;rintro e M m;have A:=hid m;obtain⟨l,u,v,rfl,-⟩:=m;go_wp2_with fail;go_ret;exact A.out
end Go.Proofs.YtbdogaaooeoccaaGreatDoor
