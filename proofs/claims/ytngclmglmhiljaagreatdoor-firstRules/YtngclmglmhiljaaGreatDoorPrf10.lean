/- Texts that the proofs of the First statements stand on, part Prf10. -/
import Derived.Test.YtngclmglmhiljaaGreatDoorPrf09
set_option maxHeartbeats 16000000
set_option maxRecDepth 100000
namespace Go.Proofs.YtngclmglmhiljaaGreatDoor
open Go.RowKit
def zC:Array Value:=sC ⟨none,0,none,0,none,0,none,0⟩ ⟨0,0,0,0,[],[],[],[]⟩
structure SX (w W:World) (gb rb sb:Nat) (h:Hd) (G:Gm) (h':SHd) (S:Sp):Prop where
 sp:SB w W sb h' S []
 gx:W.heap[gb]?=some (.cells #[.slice h.ta G.ts.length h.tc,.string G.s,.int .i64 G.e,.slice h.ra G.rs.length h.rc] 25 (0,0))
 rx:W.heap[rb]?=some (.cells zC 31 (0,0))
 ne:rb≠sb
theorem SX.step{w W b:World}{c f g:Nat}{h:Hd}{G:Gm}{d:SHd}{S:Sp}(s:SX w W c f g h G d S)(a:Below W.heap.size W b):SX w b c f g h G d S :=
 ⟨s.sp.step a,qf a s.gx,qf a s.rx,s.ne⟩
theorem qfu{W g:World}{i b T E a n c:Nat}{h:Option Addr}{cs:List Value}{d:Array Value}(l:Kept (fun k=>k=i\/blk h=some k) W g)(o:W.ownsRow a E 1 (.slice h n c) n cs)(f:W.heap[b]?=some (.cells d T (0,0)))(j:T≠E)(m:b≠i):g.heap[b]?=some (.cells d T (0,0)):=by
 rw[l.block b (Array.getElem?_eq_some_iff.1 f).1 (fun e=>?_)]
 ·exact f
 ·rcases e with e | e
  ·exact m e
  ·exact qr ⟨_,f⟩ (qw o e).2.2 j rfl
theorem SX.addNm{w W:World}{k m j:Nat}{h:Hd}{G:Gm}{a:SHd}{S:Sp}(s:SX w W k m j h G a S)(x:ByteArray)(l:S.nm.length<10000):
  ∃g c i,(Builtin.append_ #[28,28] 28 #[.slice a.na S.nm.length a.nc,.slice (some ⟨W.heap.size,0,none⟩) 1 1]).run Tryz.prog (W.alloc (.cells #[.string x] 9))=.ok (.slice (some ⟨g,0,none⟩) (S.nm.length+1) c) i /\
   i.cell? ⟨j,4,none⟩=some (.slice a.na S.nm.length a.nc)/\i.frozen? ⟨j,4,none⟩=false/\SX w (i.setCell ⟨j,4,none⟩ (.slice (some ⟨g,0,none⟩) (S.nm.length+1) c)) k m j h G ⟨some ⟨g,0,none⟩,c,a.la,a.lc,a.aa,a.ac,a.ra,a.rc⟩ ⟨S.tk,S.nt,S.st,S.ex,S.nm++[x],S.lv,S.az,S.rs⟩ /\
   ∀(b T:Nat) (d:Array Value),W.heap[b]?=some (.cells d T (0,0))->T≠9->b≠j->(i.setCell ⟨j,4,none⟩ (.slice (some ⟨g,0,none⟩) (S.nm.length+1) c)).heap[b]?=some (.cells d T (0,0)):=by
 obtain⟨g,c,i,r,f,n,q⟩:=s.sp.addNm x l
 have far:=fun b T d p o l=>qfu (b:=b) (T:=T) (d:=d) q s.sp.nm p o l
 exact⟨g,c,i,r,by rw[qe f];rfl,qi f 4,⟨n,far k 25 _ s.gx (by decide) (qr ⟨_,s.gx⟩ ⟨_,s.sp.box⟩ (by decide)),far m 31 _ s.rx (by decide) s.ne,s.ne⟩,far⟩
theorem SX.addLv{w W:World}{k m j:Nat}{h:Hd}{G:Gm}{a:SHd}{S:Sp}(s:SX w W k m j h G a S)(x:Int)(l:S.lv.length<10000):
  ∃g c i,(Builtin.append_ #[26,26] 26 #[.slice a.la S.lv.length a.lc,.slice (some ⟨W.heap.size,0,none⟩) 1 1]).run Tryz.prog (W.alloc (.cells #[.int .i64 x] 3))=.ok (.slice (some ⟨g,0,none⟩) (S.lv.length+1) c) i /\
   i.cell? ⟨j,5,none⟩=some (.slice a.la S.lv.length a.lc)/\i.frozen? ⟨j,5,none⟩=false/\SX w (i.setCell ⟨j,5,none⟩ (.slice (some ⟨g,0,none⟩) (S.lv.length+1) c)) k m j h G ⟨a.na,a.nc,some ⟨g,0,none⟩,c,a.aa,a.ac,a.ra,a.rc⟩ ⟨S.tk,S.nt,S.st,S.ex,S.nm,S.lv++[x],S.az,S.rs⟩ /\
   ∀(b T:Nat) (d:Array Value),W.heap[b]?=some (.cells d T (0,0))->T≠3->b≠j->(i.setCell ⟨j,5,none⟩ (.slice (some ⟨g,0,none⟩) (S.lv.length+1) c)).heap[b]?=some (.cells d T (0,0)):=by
 obtain⟨g,c,i,r,f,n,q⟩:=s.sp.addLv x l
 have far:=fun b T d p o l=>qfu (b:=b) (T:=T) (d:=d) q s.sp.lv p o l
 exact⟨g,c,i,r,by rw[qe f];rfl,qi f 5,⟨n,far k 25 _ s.gx (by decide) (qr ⟨_,s.gx⟩ ⟨_,s.sp.box⟩ (by decide)),far m 31 _ s.rx (by decide) s.ne,s.ne⟩,far⟩
theorem SX.addAz{w W:World}{k m j:Nat}{h:Hd}{G:Gm}{a:SHd}{S:Sp}(s:SX w W k m j h G a S)(x:Int)(l:S.az.length<10000):
  ∃g c i,(Builtin.append_ #[26,26] 26 #[.slice a.aa S.az.length a.ac,.slice (some ⟨W.heap.size,0,none⟩) 1 1]).run Tryz.prog (W.alloc (.cells #[.int .i64 x] 3))=.ok (.slice (some ⟨g,0,none⟩) (S.az.length+1) c) i /\
   i.cell? ⟨j,6,none⟩=some (.slice a.aa S.az.length a.ac)/\i.frozen? ⟨j,6,none⟩=false/\SX w (i.setCell ⟨j,6,none⟩ (.slice (some ⟨g,0,none⟩) (S.az.length+1) c)) k m j h G ⟨a.na,a.nc,a.la,a.lc,some ⟨g,0,none⟩,c,a.ra,a.rc⟩ ⟨S.tk,S.nt,S.st,S.ex,S.nm,S.lv,S.az++[x],S.rs⟩:=by
 obtain⟨g,c,i,r,f,n,q⟩:=s.sp.addAz x l
 have far:=fun b T d p o l=>qfu (b:=b) (T:=T) (d:=d) q s.sp.az p o l
 exact⟨g,c,i,r,by rw[qe f];rfl,qi f 6,⟨n,far k 25 _ s.gx (by decide) (qr ⟨_,s.gx⟩ ⟨_,s.sp.box⟩ (by decide)),far m 31 _ s.rx (by decide) s.ne,s.ne⟩⟩
def syT (G:Gm) (k:Nat):Sp:=⟨G.ts.length,0,0,G.e,(G.ts.take k).map (·.n),(G.ts.take k).map (·.l),(G.ts.take k).map (·.a),[]⟩
def syR (G:Gm) (k:Nat):Sp:=⟨G.ts.length,0,0,G.e,tkG G++e0 :: lfs (G.rs.take k),G.ts.map (·.l),G.ts.map (·.a),[]⟩
def set8 (W:World) (b:Nat) (v0 v1 v2 v3 v4 v5 v6 v7:Value):World:=(((((((W.setCell ⟨b,0,none⟩ v0).setCell ⟨b,1,none⟩ v1).setCell ⟨b,2,none⟩ v2).setCell ⟨b,3,none⟩ v3).setCell ⟨b,4,none⟩ v4).setCell ⟨b,5,none⟩ v5).setCell ⟨b,6,none⟩ v6).setCell ⟨b,7,none⟩ v7
theorem xw{W:World}{b j a E k n:Nat}{v u:Value}{cs:List Value}(h:W.ownsRow a E k v n cs)(f:Loc W b 31)(c:E≠31):(W.setCell ⟨b,j,none⟩ u).ownsRow a E k v n cs :=
 qh h (fun _ d=>Below.heap_setCell _ _ _ _ (qr (qx h d) f c))
theorem qb8{W:World}{b a E k n:Nat}{v v0 v1 v2 v3 v4 v5 v6 v7:Value}{cs:List Value}(h:W.ownsRow a E k v n cs)(d:Loc W b 31)(c:E≠31):(set8 W b v0 v1 v2 v3 v4 v5 v6 v7).ownsRow a E k v n cs:=by
 have s1:=d.set b 0 v0;have s2:=s1.set b 1 v1;have s3:=s2.set b 2 v2;have s4:=s3.set b 3 v3;have s5:=s4.set b 4 v4;have s6:=s5.set b 5 v5;have s7:=s6.set b 6 v6;exact xw (xw (xw (xw (xw (xw (xw (xw h d c) s1 c) s2 c) s3 c) s4 c) s5 c) s6 c) s7 c
theorem jd{w W:World}{b:Nat}{v0 v1 v2 v3 v4 v5 v6 v7:Value}(h:Below w.heap.size w W)(a:w.heap.size<=b):Below w.heap.size w (set8 W b v0 v1 v2 v3 v4 v5 v6 v7) :=
 (((((((h.setCell (p:=⟨b,0,none⟩) a _).setCell (p:=⟨b,1,none⟩) a _).setCell (p:=⟨b,2,none⟩) a _).setCell (p:=⟨b,3,none⟩) a _).setCell (p:=⟨b,4,none⟩) a _).setCell (p:=⟨b,5,none⟩) a _).setCell (p:=⟨b,6,none⟩) a _).setCell (p:=⟨b,7,none⟩) a _
structure OwnSp (W:World) (base:Nat) (h:SHd) (S:Sp) (qs:List (SR × Option Addr × Nat)):Prop where
 nm:W.ownsRow base 9 1 (.slice h.na S.nm.length h.nc) S.nm.length (strC S.nm)
 lv:W.ownsRow base 3 1 (.slice h.la S.lv.length h.lc) S.lv.length (intC S.lv)
 az:W.ownsRow base 3 1 (.slice h.aa S.az.length h.ac) S.az.length (intC S.az)
 rl:W.ownsRow base 47 4 (.slice h.ra S.rs.length h.rc) S.rs.length (srC qs)
 map:qs.map (·.1)=S.rs
 row:∀q∈qs,W.ownsRow base 3 1 (.slice q.2.1 q.1.r.length q.2.2) q.1.r.length (natC q.1.r)
theorem OwnSp.isSp{W:World}{a:Nat}{h:SHd}{S:Sp}{qs:List (SR × Option Addr × Nat)}(s:OwnSp W a h S qs):IsSp W h S :=
 ⟨Row.of_own s.nm,Row.of_own s.lv,Row.of_own s.az,⟨qs,s.map,Row.of_own s.rl,fun q b=>Row.of_own (s.row q b)⟩⟩
theorem OwnSp.step{W c:World}{a:Nat}{h:SHd}{S:Sp}{qs:List (SR × Option Addr × Nat)}(s:OwnSp W a h S qs)(b:Below W.heap.size W c):OwnSp c a h S qs :=
 ⟨zw s.nm b,zw s.lv b,zw s.az b,zw s.rl b,s.map,fun q d=>zw (s.row q d) b⟩
theorem OwnSp.far{W:World}{a b j:Nat}{u:Value}{h:SHd}{S:Sp}{qs:List (SR × Option Addr × Nat)}(s:OwnSp W a h S qs)(c:Loc W b 31):OwnSp (W.setCell ⟨b,j,none⟩ u) a h S qs :=
 ⟨xw s.nm c (by decide),xw s.lv c (by decide),xw s.az c (by decide),xw s.rl c (by decide),s.map,fun q d=>xw (s.row q d) c (by decide)⟩
theorem OwnSp.set8{W:World}{a b:Nat}{h:SHd}{S:Sp}{qs:List (SR × Option Addr × Nat)}{v0 v1 v2 v3 v4 v5 v6 v7:Value}(s:OwnSp W a h S qs)(c:Loc W b 31):OwnSp (set8 W b v0 v1 v2 v3 v4 v5 v6 v7) a h S qs :=
 ⟨qb8 s.nm c (by decide),qb8 s.lv c (by decide),qb8 s.az c (by decide),qb8 s.rl c (by decide),s.map,fun q d=>qb8 (s.row q d) c (by decide)⟩
theorem SB.own{w W:World}{a:Nat}{h:SHd}{S:Sp}{qs:List (SR × Option Addr × Nat)}(s:SB w W a h S qs):OwnSp W w.heap.size h S qs:=⟨s.nm,s.lv,s.az,s.rl,s.map,s.row⟩
theorem qj7(G:Gm)(k:Nat):(syR G k).nm.length=G.ts.length+1+(lfs (G.rs.take k)).length:=by
 unfold syR tkG;simp;omega
theorem qqb(G:Gm)(k:Nat):(syR G k).nm.drop ((syR G k).tk+1)=lfs (G.rs.take k):=by
 show(tkG G++e0 :: lfs (G.rs.take k)).drop (G.ts.length+1)=_
 have e:tkG G++e0 :: lfs (G.rs.take k)=(tkG G++[e0])++lfs (G.rs.take k):=by simp
 rw[e,List.drop_append_of_le_length (by unfold tkG;simp),List.drop_of_length_le (by unfold tkG;simp)]
 rfl
theorem qcs(rs:List Ru)(k:Nat):(lfs (rs.take k)).length<=k:=by
 have a:=j9 (rs.take k)
 have b:(rs.take k).length<=k:=by simp;omega
 omega
theorem qsd{G:Gm}{k:Nat}{r:Ru}(a:G.rs[k]?=some r)(h:r.l∈lfs (G.rs.take k)):syR G (k+1)=syR G k:=by
 unfold syR;rw[qdi a];unfold lfS;rw[if_pos (jz.2 h)]
theorem qrn{G:Gm}{k:Nat}{r:Ru}(a:G.rs[k]?=some r)(h:r.l ∉ lfs (G.rs.take k)):syR G (k+1)=⟨(syR G k).tk,(syR G k).nt,(syR G k).st,(syR G k).ex,(syR G k).nm++[r.l],(syR G k).lv,(syR G k).az,(syR G k).rs⟩:=by
 unfold syR;rw[qdi a];unfold lfS;rw[if_neg (fun e=>h (jz.1 e))];simp
theorem SB.lefts{w W:World}{f:Nat}{h:SHd}{G:Gm}{k:Nat}(s:SB w W f h (syR G k) []):Calls Tryz.prog 93 #[.agg (sC h (syR G k))] W fun e b=>∃a c,e=.returned (.slice a (lfs (G.rs.take k)).length c)/\Row b 1 a (lfs (G.rs.take k)).length c (strC (lfs (G.rs.take k)))/\Below W.heap.size W b:=by
 have d:(syR G k).nm.length - ((syR G k).tk+1)=(lfs (G.rs.take k)).length:=by
  rw[qj7];show _ - (G.ts.length+1)=_;omega
 have:=qek h (syR G k) W s.isSp.nm (by rw[qj7];show G.ts.length+1<=_;omega)
 rw[d,qqb]at this;exact this
theorem qgp(G:Gm)(h:Hd)(w:World)(hG:IsG w h G):Calls Tryz.prog 81 #[gv h G] w fun e Y=>∃d,e=.returned (sv d (sy0 G))/\OwnSp Y w.heap.size d (sy0 G) []/\Below w.heap.size w Y:=by
 have c6:G.ts.length<=100:=hG.small.nt;have c7:G.rs.length<=200:=hG.small.nr
 have b2:G.ts.length<=h.tc/\h.tc<=9223372036854775807:=by have h1:=hG.tok.le;have h2:=hG.tok.max;unfold maxLen at h2;omega
 have b3:=kj hG.rul;have HG:Hid (IsG w h G):=hG;clear hG;obtain⟨C,q,B,y⟩:=h;simp only at b2 b3;have P:Below w.heap.size w ((w.alloc (.cells #[.slice C G.ts.length q,.string G.s,.int .i64 G.e,.slice B G.rs.length y] 25)).alloc (.cells zC 31)):=qd (qb _ _) (qb _ _);have E:((w.alloc (.cells #[.slice C G.ts.length q,.string G.s,.int .i64 G.e,.slice B G.rs.length y] 25)).alloc (.cells zC 31)).heap[w.heap.size]?=some (.cells #[.slice C G.ts.length q,.string G.s,.int .i64 G.e,.slice B G.rs.length y] 25 (0,0)):=qf (qb _ _) (heap_alloc_new _ _)
 have K:((w.alloc (.cells #[.slice C G.ts.length q,.string G.s,.int .i64 G.e,.slice B G.rs.length y] 25)).alloc (.cells zC 31)).heap[w.heap.size+1]?=some (.cells zC 31 (0,0)):=by
  have:=heap_alloc_new (w.alloc (.cells #[.slice C G.ts.length q,.string G.s,.int .i64 G.e,.slice B G.rs.length y] 25)) (.cells zC 31)
  rwa [qt]at this
 unfold gv;simp only
 obtain⟨g,u⟩:∃g,Hid (G.ts.length=g):=⟨_,rfl⟩
 obtain⟨L,S⟩:∃L,Hid (G.rs.length=L):=⟨_,rfl⟩
 rw[u.out]at c6 b2 P E K ⊢;rw[S.out]at c7 b3 P E K ⊢;go_enter Tryz.func81,Tryz.ntmps81
 go_upto_region 1 with fail
 have ez:(w.alloc (.cells #[.slice C g q,.string G.s,.int .i64 G.e,.slice B L y] 25)).alloc (.cells #[.int .i64 0,.int .i64 0,.int .i64 0,.int .i64 0,.slice none 0 0,.slice none 0 0,.slice none 0 0,.slice none 0 0] 31)=(w.alloc (.cells #[.slice C g q,.string G.s,.int .i64 G.e,.slice B L y] 25)).alloc (.cells zC 31):=rfl;rw[ez];generalize (w.alloc (.cells #[.slice C g q,.string G.s,.int .i64 G.e,.slice B L y] 25)).alloc (.cells zC 31)=W1 at P E K ⊢
 obtain⟨x,a2⟩:∃x,Hid (x=w.heap.size):=⟨_,rfl⟩
 rw[<-a2.out]at E K ⊢
 have p0:W1.cell? ⟨x,0,none⟩=some (.slice C g q):=by rw[qe E];rfl
 have p2:W1.cell? ⟨x,2,none⟩=some (.int .i64 G.e):=by rw[qe E];rfl
 have hv:Below W1.heap.size W1 (W1.alloc (.cells #[.int .i64 (g:Int),.int .i64 0,.int .i64 0,.int .i64 G.e,.slice none 0 0,.slice none 0 0,.slice none 0 0,.slice none 0 0] 31)):=qb _ _
 have H2:Hid (∃d,SX w (W1.alloc (.cells #[.int .i64 (g:Int),.int .i64 0,.int .i64 0,.int .i64 G.e,.slice none 0 0,.slice none 0 0,.slice none 0 0,.slice none 0 0] 31)) x (x+1) W1.heap.size ⟨C,q,B,y⟩ G d (syT G 0)):=by
  refine⟨⟨none,0,none,0,none,0,none,0⟩,SB.first ?_ rfl rfl rfl rfl (qd P hv) P.size,?_,qf hv K,?_⟩
  ·unfold syT sC;rw[u.out];exact heap_alloc_new _ _
  ·rw[u.out,S.out];exact qf hv E
  ·have:=(Array.getElem?_eq_some_iff.1 K).1;omega
 have b0:Hid (w.heap.size<=x+1):=by rw[a2.out];exact Nat.le_succ _
 clear ez P E K hv a2
 go_upto_region 2 with fail
 generalize W1.alloc (.cells #[.int .i64 (g:Int),.int .i64 0,.int .i64 0,.int .i64 G.e,.slice none 0 0,.slice none 0 0,.slice none 0 0,.slice none 0 0] 31)=W2 at H2 ⊢;generalize W1.heap.size=j at H2 ⊢;generalize x+1=i at H2 b0 ⊢;clear p0 p2
 have p0:W2.cell? ⟨x,0,none⟩=some (.slice C g q):=by
  obtain⟨d,s⟩:=H2.out;rw[qe s.gx,u.out];rfl
 go_upto_block 0 with fail
 clear p0
 go_cut [17] (fun s17 wd=>Hid (∃d,SX w wd x i j ⟨C,q,B,y⟩ G d (syT G g)))
 case first =>
  go_wp2_with fail
  go_loopg [17] g (fun kx s17 wr=>∃k:Nat,s17=.int .i64 k/\k<=g/\g - k<=kx/\Hid (∃d,SX w wr x i j ⟨C,q,B,y⟩ G d (syT G k)))
  case atStart=>exact⟨0,rfl,Nat.zero_le _,by omega,H2⟩
  case round =>
   clear H2;obtain⟨k,rfl,hk,hg,J⟩:=hrel
   by_cases a4:k<g
   ·have X:(k:Int)<(g:Int):=by omega
    obtain⟨d,s⟩:=J.out
    obtain⟨t,ht⟩:∃t,G.ts[k]?=some t:=⟨G.ts[k]'(by rw[u.out];exact a4),List.getElem?_eq_getElem _⟩
    obtain⟨b,o,b8,d0,d1,d2⟩:=ja (HG.out.tok.below s.sp.bel) ht;simp only at b8;subst b8;have HT:Hid (G.ts[k]?=some t):=ht;have hv:Below wr.heap.size wr (wr.alloc (.cells #[.string t.n,.int .i64 t.l,.int .i64 t.a] 58)):=qb _ _
    have D:Hid (SX w (wr.alloc (.cells #[.string t.n,.int .i64 t.l,.int .i64 t.a] 58)) x i j ⟨some ⟨b,o,none⟩,q,B,y⟩ G d (syT G k)/\(wr.alloc (.cells #[.string t.n,.int .i64 t.l,.int .i64 t.a] 58)).heap[wr.heap.size]?=some (.cells #[.string t.n,.int .i64 t.l,.int .i64 t.a] 58 (0,0))):=⟨s.step hv,heap_alloc_new _ _⟩
    clear s J ht hv
    go_upto_region 5 with fail
    obtain⟨Z,a6⟩:∃Z,Hid (Z=wr.heap.size):=⟨_,rfl⟩
    rw[<-a6.out]at D ⊢;generalize wr.alloc (.cells #[.string t.n,.int .i64 t.l,.int .i64 t.a] 58)=V at D ⊢;clear a6 d0 d1 d2
    have e1:(syT G k).nm.length=k:=by unfold syT;simp;have:=u.out;omega
    have e2:(syT G k).lv.length=k:=by unfold syT;simp;have:=u.out;omega
    have e3:(syT G k).az.length=k:=by unfold syT;simp;have:=u.out;omega
    obtain⟨g1,c1,I,A,x1,f1,s1,k1⟩:=D.out.1.addNm t.n (by omega);have b4:Z≠j:=qr ⟨_,D.out.2⟩ ⟨_,D.out.1.sp.box⟩ (by decide);have B1:=k1 Z 58 _ D.out.2 (by decide) b4
    have y0:V.cell? ⟨Z,0,none⟩=some (.string t.n):=by rw[qe D.out.2];rfl
    obtain⟨-,-,-,-,N,-,-,-⟩:=sbox D.out.1.sp.box;rw[e1]at A x1 s1 B1 N
    have O:Hid (SX w (I.setCell ⟨j,4,none⟩ (.slice (some ⟨g1,0,none⟩) (k+1) c1)) x i j ⟨some ⟨b,o,none⟩,q,B,y⟩ G ⟨some ⟨g1,0,none⟩,c1,d.la,d.lc,d.aa,d.ac,d.ra,d.rc⟩ ⟨(syT G k).tk,(syT G k).nt,(syT G k).st,(syT G k).ex,(syT G k).nm++[t.n],(syT G k).lv,(syT G k).az,(syT G k).rs⟩/\(I.setCell ⟨j,4,none⟩ (.slice (some ⟨g1,0,none⟩) (k+1) c1)).heap[Z]?=some (.cells #[.string t.n,.int .i64 t.l,.int .i64 t.a] 58 (0,0))):=⟨s1,B1⟩
    clear s1 B1 k1 D
    go_upto_region 6 with (at_builtin;refine Lib.wpList_append_run _ rfl _ _ _ _ rfl _ _ rfl rfl _ _ A ?_)
    clear A x1 f1 y0 N;generalize I.setCell ⟨j,4,none⟩ (.slice (some ⟨g1,0,none⟩) (k+1) c1)=Q1 at O ⊢;obtain⟨g2,c2,V2,a0,x2,f2,s2,k2⟩:=O.out.1.addLv t.l (by show(syT G k).lv.length<10000;omega)
    have B2:=k2 Z 58 _ O.out.2 (by decide) b4
    have y0:Q1.cell? ⟨Z,1,none⟩=some (.int .i64 t.l):=by rw[qe O.out.2];rfl
    obtain⟨-,-,-,-,-,N,-,-⟩:=sbox O.out.1.sp.box;simp only at a0 x2 s2 B2 N;rw[e2]at a0 x2 s2 B2 N
    have T:Hid (SX w (V2.setCell ⟨j,5,none⟩ (.slice (some ⟨g2,0,none⟩) (k+1) c2)) x i j ⟨some ⟨b,o,none⟩,q,B,y⟩ G ⟨some ⟨g1,0,none⟩,c1,some ⟨g2,0,none⟩,c2,d.aa,d.ac,d.ra,d.rc⟩ ⟨(syT G k).tk,(syT G k).nt,(syT G k).st,(syT G k).ex,(syT G k).nm++[t.n],(syT G k).lv++[t.l],(syT G k).az,(syT G k).rs⟩/\(V2.setCell ⟨j,5,none⟩ (.slice (some ⟨g2,0,none⟩) (k+1) c2)).heap[Z]?=some (.cells #[.string t.n,.int .i64 t.l,.int .i64 t.a] 58 (0,0))):=⟨s2,B2⟩
    clear s2 B2 k2 O
    go_upto_region 7 with (at_builtin;refine Lib.wpList_append_run _ rfl _ _ _ _ rfl _ _ rfl rfl _ _ a0 ?_)
    clear a0 x2 f2 y0 N;generalize V2.setCell ⟨j,5,none⟩ (.slice (some ⟨g2,0,none⟩) (k+1) c2)=Q2 at T ⊢;obtain⟨g3,c3,V3,a5,x3,f3,s3⟩:=T.out.1.addAz t.a (by show(syT G k).az.length<10000;omega)
    have y0:Q2.cell? ⟨Z,2,none⟩=some (.int .i64 t.a):=by rw[qe T.out.2];rfl
    obtain⟨-,-,-,-,-,-,N,-⟩:=sbox T.out.1.sp.box;simp only at a5 x3 s3 N;rw[e3]at a5 x3 s3 N
    have R:Hid (∃d,SX w (V3.setCell ⟨j,6,none⟩ (.slice (some ⟨g3,0,none⟩) (k+1) c3)) x i j ⟨some ⟨b,o,none⟩,q,B,y⟩ G d (syT G (k+1))):=by
     have e:syT G (k+1)=⟨(syT G k).tk,(syT G k).nt,(syT G k).st,(syT G k).ex,(syT G k).nm++[t.n],(syT G k).lv++[t.l],(syT G k).az++[t.a],(syT G k).rs⟩:=by
      unfold syT;rw[zn HT.out];simp
     rw[<-e]at s3;exact⟨_,s3⟩
    clear s3 T;go_wp2_with(at_builtin;refine Lib.wpList_append_run _ rfl _ _ _ _ rfl _ _ rfl rfl _ _ a5 ?_)
    go_roundg (g - (k+1))
    case measure=>omega
    case rel=>exact⟨k+1,by simp,by omega,Nat.le_refl _,R⟩
   ·have X:¬(k:Int)<(g:Int):=by omega
    have R:Hid (∃d,SX w wr x i j ⟨C,q,B,y⟩ G d (syT G g)):=by
     have:k=g:=by omega
     subst this;exact J.out
    clear J;go_wp2_with fail;go_meet;exact R
 case rest =>
  obtain⟨w8,d4⟩:∃w8,w8=wc:=⟨_,rfl⟩
  subst wc;clear H2;obtain⟨h8,s8⟩:=hcut.out
  have e1:(syT G g).nm.length=g:=by unfold syT;simp;have:=u.out;omega
  obtain⟨g1,c1,I,A,x1,f1,s1,-⟩:=s8.addNm ⟨#[]⟩ (by omega);obtain⟨-,-,-,-,N,-,-,-⟩:=sbox s8.sp.box;rw[e1]at A x1 s1 N
  have HS:Hid (∃d,SX w (I.setCell ⟨j,4,none⟩ (.slice (some ⟨g1,0,none⟩) (g+1) c1)) x i j ⟨C,q,B,y⟩ G d (syR G 0)):=by
   have e:syR G 0=⟨(syT G g).tk,(syT G g).nt,(syT G g).st,(syT G g).ex,(syT G g).nm++[⟨#[]⟩],(syT G g).lv,(syT G g).az,(syT G g).rs⟩:=by
    unfold syT syR tkG;rw[show G.ts.take g=G.ts from List.take_of_length_le (by rw[u.out];exact Nat.le_refl _)]
    simp[lfs,e0]
   rw[<-e]at s1;exact⟨_,s1⟩
  clear s1 s8 hcut
  go_upto_region 10 with (at_builtin;refine Lib.wpList_append_run _ rfl _ _ _ _ rfl _ _ rfl rfl _ _ A ?_)
  clear A x1 f1 N;generalize I.setCell ⟨j,4,none⟩ (.slice (some ⟨g1,0,none⟩) (g+1) c1)=Q1 at HS ⊢
  have p3:Q1.cell? ⟨x,3,none⟩=some (.slice B L y):=by
   obtain⟨d,s⟩:=HS.out;rw[qe s.gx,S.out];rfl
  go_wp2_with fail;clear p3
  go_loopg [51] L (fun kx s51 wr=>∃k:Nat,s51=.int .i64 k/\k<=L/\L - k<=kx/\Hid (∃d,SX w wr x i j ⟨C,q,B,y⟩ G d (syR G k)))
  case atStart=>exact⟨0,rfl,Nat.zero_le _,by omega,HS⟩
  case round =>
   clear HS;obtain⟨k,rfl,hk,hg,J⟩:=hrel;obtain⟨d,s⟩:=J.out
   by_cases a4:k<L
   ·have X:(k:Int)<(L:Int):=by omega
    obtain⟨r,hr⟩:∃r,G.rs[k]?=some r:=⟨G.rs[k]'(by rw[S.out];exact a4),List.getElem?_eq_getElem _⟩
    obtain⟨b,o,xa,xc,b6,d0,d1,d2,-⟩:=(HG.out.rul.below s.sp.bel).at hr;simp only at b6;subst b6;have HT:Hid (G.rs[k]?=some r):=hr;have hv:Below wr.heap.size wr (wr.alloc (.cells #[.string r.l,.slice xa r.r.length xc,.string r.p] 55)):=qb _ _
    have D:Hid (SX w (wr.alloc (.cells #[.string r.l,.slice xa r.r.length xc,.string r.p] 55)) x i j ⟨C,q,some ⟨b,o,none⟩,y⟩ G d (syR G k)/\(wr.alloc (.cells #[.string r.l,.slice xa r.r.length xc,.string r.p] 55)).heap[wr.heap.size]?=some (.cells #[.string r.l,.slice xa r.r.length xc,.string r.p] 55 (0,0))):=⟨s.step hv,heap_alloc_new _ _⟩
    clear s J hr hv
    go_upto_region 13 with fail
    obtain⟨b7,a7⟩:∃b7,Hid (b7=wr.heap.size):=⟨_,rfl⟩
    rw[<-a7.out]at D ⊢;generalize wr.alloc (.cells #[.string r.l,.slice xa r.r.length xc,.string r.p] 55)=V at D ⊢;clear a7 d0 d1 d2;obtain⟨bb,b1⟩:=zr (r.l∈lfs (G.rs.take k));have a1:Hid (bb=true↔r.l∈lfs (G.rs.take k)):=b1;clear b1
    have q7:V.cell? ⟨b7,0,none⟩=some (.string r.l):=by rw[qe D.out.2];rfl
    obtain⟨q0,q1,q2,q3,q4,q5,q6,q8⟩:=sbox D.out.1.sp.box
    obtain⟨m,z⟩:∃m,(lfs (G.rs.take k)).length=m:=⟨_,rfl⟩
    have c5:m<=200:=by have:=qcs G.rs k;omega
    have a9:Hid ((syR G k).nm.length=g+1+m):=by
     show _=_;rw[qj7,z,u.out]
    have H:Hid (Calls Tryz.prog 93 #[.agg (sC d (syR G k))] V.drew fun e Y=>∃M c,e=.returned (.slice M m c)/\Row Y 1 M m c (strC (lfs (G.rs.take k)))/\Below V.heap.size V Y):=by
     have:=(D.out.1.sp.step (qk V)).lefts;rw[z]at this;exact this.mono (fun e Y ⟨M,c,h1,h2,h3⟩=>⟨M,c,h1,h2,qd (qk V) h3⟩)
    have a8:Hid (∀(U:World) (M:Option Addr) (c:Nat),Row U 1 M m c (strC (lfs (G.rs.take k)))->Calls Tryz.prog 92 #[.slice M m c,.string r.l] U fun e Y=>e=.returned (.bool bb)/\Y=U):=fun U M c hU=>by
     have:=yu (lfs (G.rs.take k)) M c r.l U (by rw[z];exact hU) (by rw[z];omega) bb a1.out
     rw[z]at this;exact this
    unfold sC at H;clear z
    go_cut [51,60] from 51 to 68 (fun s51 s60 wd=>s51=.int .i64 (k:Int)/\s60=.bool (!bb)/\Hid (Below V.heap.size V wd))
    case first =>
     go_region_with(first | (go_at_call 93;refine H.out.mono ?_;rintro e I ⟨M,c,rfl,F,hB⟩;have z7:=qj hB q7) | (go_at_call 92;refine(a8.out _ _ _ F).mono ?_;rintro e V2 ⟨rfl,rfl⟩))
     all_goals
      have R:Hid (Below V.heap.size V _):=hB;clear hB F z7;go_wp2_with fail;go_meet;exact⟨rfl,rfl,R⟩
    case rest =>
     obtain⟨rfl,rfl,HB⟩:=hcut
     obtain⟨V3,c9⟩:∃V3,V3=wc:=⟨_,rfl⟩
     subst wc;clear q0 q1 q2 q3 q4 q5 q6 q8 q7 H a8;have s3:=D.out.1.step HB.out
     have q7:V3.cell? ⟨b7,0,none⟩=some (.string r.l):=by rw[qe (qf HB.out D.out.2)];rfl
     cases bb
     ·obtain⟨g1,c1,V4,A,x1,f1,s4,-⟩:=s3.addNm r.l (by rw[a9.out];omega)
      obtain⟨-,-,-,-,N,-,-,-⟩:=sbox s3.sp.box;rw[<-qrn HT.out (fun h=>by have:=a1.out.2 h;cases this)]at s4
      rw[a9.out]at A x1 s4 N
      have R:Hid (∃d,SX w (V4.setCell ⟨j,4,none⟩ (.slice (some ⟨g1,0,none⟩) (g+1+m+1) c1)) x i j ⟨C,q,some ⟨b,o,none⟩,y⟩ G d (syR G (k+1))):=⟨_,s4⟩
      clear s3 s4 D HB
      generalize g+1+m=nl at *
      go_wp2_with(at_builtin;refine Lib.wpList_append_run _ rfl _ _ _ _ rfl _ _ rfl rfl _ _ A ?_)
      go_roundg (L - (k+1))
      case measure=>omega
      case rel=>exact⟨k+1,by simp,by omega,Nat.le_refl _,R⟩
     ·have R:Hid (∃d,SX w V3 x i j ⟨C,q,some ⟨b,o,none⟩,y⟩ G d (syR G (k+1))):=by
       rw[qsd HT.out (a1.out.1 rfl)];exact⟨_,s3⟩
      clear s3 D HB q7;go_wp2_with fail;go_roundg (L - (k+1))
      case measure=>omega
      case rel=>exact⟨k+1,by simp,by omega,Nat.le_refl _,R⟩
   ·have X:¬(k:Int)<(L:Int):=by omega
    have c4:k=L:=by omega
    subst c4;have a3:G.rs.take k=G.rs:=List.take_of_length_le (by rw[S.out];exact Nat.le_refl _)
    obtain⟨q0,q1,q2,q3,q4,q5,q6,q8⟩:=sbox s.sp.box
    obtain⟨m,z⟩:∃m,(lfs (G.rs.take k)).length=m:=⟨_,rfl⟩
    have c5:m<=200:=by have:=qcs G.rs k;omega
    have H:Hid (Calls Tryz.prog 93 #[.agg (sC d (syR G k))] wr fun e Y=>∃M c,e=.returned (.slice M m c)/\Row Y 1 M m c (strC (lfs (G.rs.take k)))/\Below wr.heap.size wr Y):=by
     have:=s.sp.lefts;rw[z]at this;exact this
    unfold sC at H
    have HS:Hid (SX w wr x i j ⟨C,q,B,y⟩ G d (syR G k)/\(lfs G.rs).length=m/\G.rs.take k=G.rs):=⟨s,by rw[<-z,a3],a3⟩
    clear s J z a3;go_wp2_with fail;refine H.out.mono ?_;rintro e I ⟨M,c,rfl,F,hB⟩;have d3:=ze F;clear q0 q1 q2 q3 q4 q5 q6 q8 F H;have s1:=HS.out.1.step hB
    have z1:I.cell? ⟨j,1,none⟩=some (.int .i64 0):=by rw[qe s1.sp.box];rfl
    have b9:I.frozen? ⟨j,1,none⟩=false:=qi s1.sp.box 1;have s2:=s1.sp.putNt m
    have s3:SB w (I.setCell ⟨j,1,none⟩ (.int .i64 (m:Int))) j d (sy0 G) []:=by
     have e:sy0 G=⟨(syR G k).tk,m,(syR G k).st,(syR G k).ex,(syR G k).nm,(syR G k).lv,(syR G k).az,(syR G k).rs⟩:=by
      unfold sy0 syR nmG;rw[HS.out.2.2,HS.out.2.1]
     rw[e];exact s2
    have rx:(I.setCell ⟨j,1,none⟩ (.int .i64 (m:Int))).heap[i]?=some (.cells zC 31 (0,0)):=by
     rw[Below.heap_setCell _ _ _ _ s1.ne];exact s1.rx
    have f:Hid (SB w (I.setCell ⟨j,1,none⟩ (.int .i64 (m:Int))) j d (sy0 G) []/\(I.setCell ⟨j,1,none⟩ (.int .i64 (m:Int))).heap[i]?=some (.cells zC 31 (0,0))/\i≠j):=⟨s3,rx,s1.ne⟩
    clear s1 s2 s3 rx hB HS
    go_upto_region 17 with fail
    generalize I.setCell ⟨j,1,none⟩ (.int .i64 (m:Int))=Q at f ⊢;clear z1 b9;obtain⟨q0,q1,q2,q3,q4,q5,q6,q8⟩:=sbox f.out.1.box
    have z0:Q.cell? ⟨i,0,none⟩=some (.int .i64 0):=by rw[qe f.out.2.1];rfl
    have z1:Q.cell? ⟨i,1,none⟩=some (.int .i64 0):=by rw[qe f.out.2.1];rfl
    have z2:Q.cell? ⟨i,2,none⟩=some (.int .i64 0):=by rw[qe f.out.2.1];rfl
    have z3:Q.cell? ⟨i,3,none⟩=some (.int .i64 0):=by rw[qe f.out.2.1];rfl
    have z4:Q.cell? ⟨i,4,none⟩=some (.slice none 0 0):=by rw[qe f.out.2.1];rfl
    have z5:Q.cell? ⟨i,5,none⟩=some (.slice none 0 0):=by rw[qe f.out.2.1];rfl
    have z6:Q.cell? ⟨i,6,none⟩=some (.slice none 0 0):=by rw[qe f.out.2.1];rfl
    have z7:Q.cell? ⟨i,7,none⟩=some (.slice none 0 0):=by rw[qe f.out.2.1];rfl
    have f0:Q.frozen? ⟨i,0,none⟩=false:=qi f.out.2.1 0;have f1:Q.frozen? ⟨i,1,none⟩=false:=qi f.out.2.1 1;have f2:Q.frozen? ⟨i,2,none⟩=false:=qi f.out.2.1 2;have f3:Q.frozen? ⟨i,3,none⟩=false:=qi f.out.2.1 3;have f4:Q.frozen? ⟨i,4,none⟩=false:=qi f.out.2.1 4;have f5:Q.frozen? ⟨i,5,none⟩=false:=qi f.out.2.1 5;have f6:Q.frozen? ⟨i,6,none⟩=false:=qi f.out.2.1 6;have f7:Q.frozen? ⟨i,7,none⟩=false:=qi f.out.2.1 7
    have R:Hid (∀v0 v1 v2 v3 v4 v5 v6 v7,OwnSp (set8 Q i v0 v1 v2 v3 v4 v5 v6 v7) w.heap.size d (sy0 G) []/\Below w.heap.size w (set8 Q i v0 v1 v2 v3 v4 v5 v6 v7)):=fun v0 v1 v2 v3 v4 v5 v6 v7=>⟨f.out.1.own.set8 ⟨_,f.out.2.1⟩,jd f.out.1.bel b0.out⟩
    obtain⟨r0,c8⟩:∃r0,Hid (((sy0 G).tk:Int)=r0):=⟨_,rfl⟩
    go_wp2_with fail;refine bodyPost_ret (v:=sv d (sy0 G)) (by unfold sv sC;simp[results,Tryz.results81,go_sem, *]) rfl ?_
    exact⟨d,rfl,R.out _ _ _ _ _ _ _ _⟩
structure Of0 (G:Gm) (S:Sp):Prop where
 tk:S.tk=G.ts.length
 nm:S.nm=nmG G
 lv:S.lv=G.ts.map (·.l)
 az:S.az=G.ts.map (·.a)
structure RO (w W:World) (b2 b3 b4 b5:Nat) (c2 c3:Array Value) (l:Int) (ys:List Nat) (xa:Option Addr) (xc:Nat):Prop where
 x2:W.heap[b2]?=some (.cells c2 55 (0,0))
 x3:W.heap[b3]?=some (.cells c3 31 (0,0))
 x4:W.heap[b4]?=some (.cells #[.int .i64 0,.slice none 0 0,.int .i64 0,.int .i64 0] 47 (0,0))
 x5:W.heap[b5]?=some (.cells #[.int .i64 l,.slice xa ys.length xc,.int .i64 0,.int .i64 0] 47 (0,0))
 own:W.ownsRow w.heap.size 3 1 (.slice xa ys.length xc) ys.length (natC ys)
 bel:Below w.heap.size w W
 ne:b4≠b5
 n5:w.heap.size<=b5
theorem RO.step{w W b:World}{c d f g:Nat}{c2 h:Array Value}{l:Int}{k:List Nat}{i:Option Addr}{j:Nat}(s:RO w W c d f g c2 h l k i j)(a:Below W.heap.size W b):RO w b c d f g c2 h l k i j :=
 ⟨qf a s.x2,qf a s.x3,qf a s.x4,qf a s.x5,zw s.own a,qd s.bel a,s.ne,s.n5⟩
theorem RO.add{w W:World}{q r x f:Nat}{c2 z:Array Value}{l:Int}{j:List Nat}{o:Option Addr}{v:Nat}(s:RO w W q r x f c2 z l j o v)(y:Nat)(K:j.length<1000):
  ∃g c a,(Builtin.append_ #[26,26] 26 #[.slice o j.length v,.slice (some ⟨W.heap.size,0,none⟩) 1 1]).run Tryz.prog (W.alloc (.cells #[.int .i64 (y:Int)] 3))=.ok (.slice (some ⟨g,0,none⟩) (j.length+1) c) a /\
   a.cell? ⟨f,1,none⟩=some (.slice o j.length v)/\a.frozen? ⟨f,1,none⟩=false/\RO w (a.setCell ⟨f,1,none⟩ (.slice (some ⟨g,0,none⟩) (j.length+1) c)) q r x f c2 z l (j++[y]) (some ⟨g,0,none⟩) c:=by
 obtain⟨g,c,a,H,B,A,J⟩:=jc (us:=[.int .i64 (y:Int)]) u29 i3 rfl (by decide) (by decide) rfl (fun u C=>by rw[List.mem_singleton]at C;subst C;rfl) s.own s.bel.size (by omega)
 have m:Kept (fun k=>blk o=some k) W a:=((Kept.refl _ W).alloc _).trans A (fun k _ e=>zi e)
 have n:∀{b T:Nat} {d:Array Value},W.heap[b]?=some (.cells d T (0,0))->T≠3->a.heap[b]?=some (.cells d T (0,0)):=fun t F=>by
  rw[m.block _ (Array.getElem?_eq_some_iff.1 t).1 (fun e=>qr ⟨_,t⟩ (qw s.own e).2.2 F rfl)];exact t
 have D:=n s.x2 (by decide);have E:=n s.x3 (by decide);have I:=n s.x4 (by decide);have h:=n s.x5 (by decide);refine⟨g,c,a,H,by rw[qe h];rfl,qi h 1,?_,?_,?_,?_,?_,?_,s.ne,s.n5⟩
 ·exact(Below.heap_setCell _ _ _ _ (show q≠f from qr ⟨_,D⟩ ⟨_,h⟩ (by decide))).trans D
 ·exact(Below.heap_setCell _ _ _ _ (show r≠f from qr ⟨_,E⟩ ⟨_,h⟩ (by decide))).trans E
 ·exact(Below.heap_setCell _ _ _ _ s.ne).trans I
 ·rw[setCell_eq_setRow a f 1 _ 47 (0,0) _ h,setRow_heap _ _ _ _ 47 _ h,List.length_append];rfl
 ·rw[jf,List.length_append]
  exact qh B (fun i G=>by
   cases G
   exact Below.heap_setCell _ _ _ _ (qr (qx B rfl) ⟨_,h⟩ (by decide)))
 ·refine(s.bel.trans (m.below s.bel.size (fun k A e=>?_))).setCell (p:=⟨f,1,none⟩) s.n5 _;have:=(qw s.own e).1;omega
def bO (G:Gm) (r:Ru) (k:Nat):Option Nat:=if r.p=e0 then byL G (r.r.take k) else q9 (tkG G) r.p
theorem qse(G:Gm)(r:Ru):bO G r r.r.length=byG G r:=by
 unfold bO byG;rw[List.take_of_length_le (Nat.le_refl _)]
theorem qro{G:Gm}(a:MayP G)(r:Ru):bO G r 0=q9 (tkG G) r.p:=by
 unfold bO
 split
 ·rename_i h;rw[h];have:q9 (tkG G) e0=none:=qdv (fun h=>qrk a h rfl);rw[this];rfl
 ·rfl
structure RD7 (w W:World) (b4 b5:Nat) (l:Int) (ys:List Nat) (lv a:Int) (xa:Option Addr) (xc:Nat):Prop where
 x4:W.heap[b4]?=some (.cells #[.int .i64 0,.slice none 0 0,.int .i64 0,.int .i64 0] 47 (0,0))
 x5:W.heap[b5]?=some (.cells #[.int .i64 l,.slice xa ys.length xc,.int .i64 lv,.int .i64 a] 47 (0,0))
 own:W.ownsRow w.heap.size 3 1 (.slice xa ys.length xc) ys.length (natC ys)
 bel:Below w.heap.size w W
theorem RO.done{w W:World}{g h a b:Nat}{c2 i:Array Value}{l:Int}{f:List Nat}{c:Option Addr}{d:Nat}(s:RO w W g h a b c2 i l f c d):RD7 w W a b l f 0 0 c d:=⟨s.x4,s.x5,s.own,s.bel⟩
theorem RD7.put2{w W:World}{c b:Nat}{l:Int}{h:List Nat}{m a:Int}{f:Option Addr}{g:Nat}(s:RD7 w W c b l h m a f g)(d:c≠b)(k:w.heap.size<=b)(z:Int):RD7 w (W.setCell ⟨b,2,none⟩ (.int .i64 z)) c b l h z a f g:=by
 refine⟨(Below.heap_setCell _ _ _ _ d).trans s.x4,?_,qh s.own (fun i j=>Below.heap_setCell _ _ _ _ (qr (qx s.own j) ⟨_,s.x5⟩ (by decide))),s.bel.setCell (p:=⟨b,2,none⟩) k _⟩;rw[setCell_eq_setRow W b 2 _ 47 (0,0) _ s.x5,setRow_heap _ _ _ _ 47 _ s.x5];rfl
theorem RD7.put3{w W:World}{c b:Nat}{l:Int}{j:List Nat}{f a:Int}{g:Option Addr}{h:Nat}(s:RD7 w W c b l j f a g h)(d:c≠b)(m:w.heap.size<=b)(z:Int):RD7 w (W.setCell ⟨b,3,none⟩ (.int .i64 z)) c b l j f z g h:=by
 refine⟨(Below.heap_setCell _ _ _ _ d).trans s.x4,?_,qh s.own (fun i k=>Below.heap_setCell _ _ _ _ (qr (qx s.own k) ⟨_,s.x5⟩ (by decide))),s.bel.setCell (p:=⟨b,3,none⟩) m _⟩;rw[setCell_eq_setRow W b 3 _ 47 (0,0) _ s.x5,setRow_heap _ _ _ _ 47 _ s.x5];rfl
theorem j0{W:World}{b j a E k n:Nat}{v u:Value}{cs:List Value}(h:W.ownsRow a E k v n cs)(f:Loc W b 47)(c:E≠47):(W.setCell ⟨b,j,none⟩ u).ownsRow a E k v n cs :=
 qh h (fun _ d=>Below.heap_setCell _ _ _ _ (qr (qx h d) f c))
theorem qdk{W:World}{b T:Nat}{a c d f:Value}(h:W.heap[b]?=some (.cells #[a,c,d,f] T (0,0))):
  W.cell? ⟨b,0,none⟩=some a/\W.cell? ⟨b,1,none⟩=some c/\W.cell? ⟨b,2,none⟩=some d/\W.cell? ⟨b,3,none⟩=some f/\W.frozen? ⟨b,0,none⟩=false/\W.frozen? ⟨b,1,none⟩=false/\W.frozen? ⟨b,2,none⟩=false/\W.frozen? ⟨b,3,none⟩=false :=
 ⟨by rw[qe h];rfl,by rw[qe h];rfl,by rw[qe h];rfl,by rw[qe h];rfl,qi h 0,qi h 1,qi h 2,qi h 3⟩
theorem qh8(w:World)(a b c:Obj):Below w.heap.size w (((w.alloc a).alloc b).alloc c)/\(((w.alloc a).alloc b).alloc c).heap[w.heap.size]?=some a/\(((w.alloc a).alloc b).alloc c).heap[w.heap.size+1]?=some b/\(((w.alloc a).alloc b).alloc c).heap[w.heap.size+1+1]?=some c/\(((w.alloc a).alloc b).alloc c).heap.size=w.heap.size+1+1+1:=by
 have g:=heap_alloc_new w a;have d:=heap_alloc_new (w.alloc a) b;have f:=heap_alloc_new ((w.alloc a).alloc b) c;rw[qt]at d;rw[qt,qt]at f;exact⟨qd (qd (qb _ _) (qb _ _)) (qb _ _),qf (qb _ _) (qf (qb _ _) g),qf (qb _ _) d,f,by rw[qt,qt,qt]⟩
theorem qj8(G:Gm)(S:Sp)(h:SHd)(w:World)(a1:IsSp w h S)(ho:Of0 G S)(hm:MayP G)(h5:G.ts.length<=100)(i5:G.rs.length<=200)(hn:NmP G)(r:Ru)(hr:r∈G.rs)(L:Option Addr)(F:Nat)(I:Row w 1 L r.r.length F (strC r.r)):
  Calls Tryz.prog 99 #[.agg #[.string r.l,.slice L r.r.length F,.string r.p],.agg (sC h S)] w fun e M=>∃z A,e=.returned (.agg #[.int .i64 (ruG G r).l,.slice z (ruG G r).r.length A,.int .i64 (ruG G r).lv,.int .i64 (ruG G r).a])/\M.ownsRow w.heap.size 3 1 (.slice z (ruG G r).r.length A) (ruG G r).r.length (natC (ruG G r).r)/\Below w.heap.size w M:=by
 have h4:r.r.length<=20:=(hm.rl r hr).2.1;have h7:=ze I
 have g2:S.nm.length=(nmG G).length:=by rw[ho.nm]
 have g3:(nmG G).length<=400:=by rw[jj];have:=j9 G.rs;omega
 have C:Hid (IsSp w h S/\Of0 G S/\MayP G/\NmP G/\r∈G.rs/\Row w 1 L r.r.length F (strC r.r)):=⟨a1,ho,hm,hn,hr,I⟩
 have a4:Hid (∀(V:World) (s:ByteArray),Below w.heap.size w V->Calls Tryz.prog 84 #[.slice h.na S.nm.length h.nc,.string s] V fun e M=>e=.returned (.int .i64 (idxI (q9 (nmG G) s)))/\M=V):=fun V s hV=>by
  have h1:=(a1.below hV).nm;rw[ho.nm]at h1 ⊢;exact qa1 (nmG G) h.na h.nc s V h1 (by omega)
 have h3:=ze a1.nm
 have a5:Hid (∀V:World,Below w.heap.size w V->Calls Tryz.prog 97 #[.agg (sC h S)] V fun e M=>e=.returned (.slice h.na S.tk h.nc)/\Row M 1 h.na S.tk h.nc (strC (tkG G))/\Below V.heap.size V M):=fun V hV=>by
  have:=qej h S V (a1.below hV).nm (by rw[ho.tk,ho.nm,jj];omega)
  have e:S.nm.take S.tk=tkG G:=by
   rw[ho.nm,ho.tk];unfold nmG;rw[List.take_append_of_le_length (by unfold tkG;simp),List.take_of_length_le (by unfold tkG;simp)]
  rw[e]at this;exact this
 have a3:Hid (∀(V:World),Row V 1 h.na S.tk h.nc (strC (tkG G))->Calls Tryz.prog 84 #[.slice h.na S.tk h.nc,.string r.p] V fun e M=>e=.returned (.int .i64 (idxI (q9 (tkG G) r.p)))/\M=V):=fun V hV=>by
  have e:S.tk=(tkG G).length:=by rw[ho.tk];unfold tkG;simp
  rw[e]at hV ⊢;exact qa1 (tkG G) h.na h.nc r.p V hV (by unfold tkG;simp;omega)
 have H:Hid (Below w.heap.size w (((w.alloc (.cells #[.string r.l,.slice L r.r.length F,.string r.p] 55)).alloc (.cells (sC h S) 31)).alloc (.cells #[.int .i64 0,.slice none 0 0,.int .i64 0,.int .i64 0] 47))/\(((w.alloc (.cells #[.string r.l,.slice L r.r.length F,.string r.p] 55)).alloc (.cells (sC h S) 31)).alloc (.cells #[.int .i64 0,.slice none 0 0,.int .i64 0,.int .i64 0] 47)).heap[w.heap.size]?=some (.cells #[.string r.l,.slice L r.r.length F,.string r.p] 55 (0,0))/\(((w.alloc (.cells #[.string r.l,.slice L r.r.length F,.string r.p] 55)).alloc (.cells (sC h S) 31)).alloc (.cells #[.int .i64 0,.slice none 0 0,.int .i64 0,.int .i64 0] 47)).heap[w.heap.size+1]?=some (.cells (sC h S) 31 (0,0))/\(((w.alloc (.cells #[.string r.l,.slice L r.r.length F,.string r.p] 55)).alloc (.cells (sC h S) 31)).alloc (.cells #[.int .i64 0,.slice none 0 0,.int .i64 0,.int .i64 0] 47)).heap[w.heap.size+1+1]?=some (.cells #[.int .i64 0,.slice none 0 0,.int .i64 0,.int .i64 0] 47 (0,0))/\(((w.alloc (.cells #[.string r.l,.slice L r.r.length F,.string r.p] 55)).alloc (.cells (sC h S) 31)).alloc (.cells #[.int .i64 0,.slice none 0 0,.int .i64 0,.int .i64 0] 47)).heap.size=w.heap.size+1+1+1):=qh8 w _ _ _;clear a1 ho hm hn hr I
 obtain⟨K,f6⟩:∃K,Hid (S.nm.length=K):=⟨_,rfl⟩
 obtain⟨B,Y⟩:∃B,Hid (r.r.length=B):=⟨_,rfl⟩
 obtain⟨d,q⟩:∃d,Hid (S.tk=d):=⟨_,rfl⟩
 have e3:sC h S=#[.int .i64 (d:Int),.int .i64 (S.nt:Int),.int .i64 (S.st:Int),.int .i64 S.ex,.slice h.na K h.nc,.slice h.la S.lv.length h.lc,.slice h.aa S.az.length h.ac,.slice h.ra S.rs.length h.rc]:=by unfold sC;rw[f6.out,q.out]
 have b7:S.lv.length=d:=by rw[C.out.2.1.lv,List.length_map,<-C.out.2.1.tk];exact q.out
 have b1:S.az.length=d:=by rw[C.out.2.1.az,List.length_map,<-C.out.2.1.tk];exact q.out
 rw[b7,b1]at e3;have h0:=ze C.out.1.lv;have h2:=ze C.out.1.az;rw[b7]at h0;rw[b1]at h2
 have i1:d<=100:=by rw[<-q.out,C.out.2.1.tk];exact h5
 rw[f6.out]at a4 h3 g2;rw[q.out]at a5 a3;rw[Y.out]at h4 h7 H ⊢;rw[e3]at a5 H ⊢
 have i0:K<=400:=by omega
 clear e3 b7 b1 g2 g3
 generalize S.rs.length=R at *
 go_enter Tryz.func99,Tryz.ntmps99
 go_upto_region 1 with fail
 generalize ((w.alloc (.cells #[.string r.l,.slice L B F,.string r.p] 55)).alloc (.cells #[.int .i64 (d:Int),.int .i64 (S.nt:Int),.int .i64 (S.st:Int),.int .i64 S.ex,.slice h.na K h.nc,.slice h.la d h.lc,.slice h.aa d h.ac,.slice h.ra R h.rc] 31)).alloc (.cells #[.int .i64 0,.slice none 0 0,.int .i64 0,.int .i64 0] 47)=W1 at H ⊢
 obtain⟨D,a2⟩:∃D,Hid (D=w.heap.size):=⟨_,rfl⟩
 rw[<-a2.out]at H ⊢
 have t:Hid (Below w.heap.size w W1/\W1.heap[D]?=some (.cells #[.string r.l,.slice L B F,.string r.p] 55 (0,0))/\W1.heap[D+1]?=some (.cells #[.int .i64 (d:Int),.int .i64 (S.nt:Int),.int .i64 (S.st:Int),.int .i64 S.ex,.slice h.na K h.nc,.slice h.la d h.lc,.slice h.aa d h.ac,.slice h.ra R h.rc] 31 (0,0))/\W1.heap[D+1+1]?=some (.cells #[.int .i64 0,.slice none 0 0,.int .i64 0,.int .i64 0] 47 (0,0))/\W1.heap.size=D+1+1+1/\w.heap.size<=D+1+1):=⟨by rw[<-a2.out];exact H.out.1,H.out.2.1,H.out.2.2.1,H.out.2.2.2.1,H.out.2.2.2.2,by rw[a2.out];omega⟩
 clear H a2
 generalize D+1=n at *
 obtain⟨f,c9⟩:∃f,Hid (f=n+1):=⟨_,rfl⟩
 rw[<-c9.out]at t ⊢
 have c4:W1.cell? ⟨n,4,none⟩=some (.slice h.na K h.nc):=by rw[qe t.out.2.2.1];rfl
 have c0:W1.cell? ⟨D,0,none⟩=some (.string r.l):=by rw[qe t.out.2.1];rfl
 have f4:Hid (idxI (q9 (nmG G) r.l)=(ruG G r).l):=by
  have hx:=qbt (G:=G) (.inr (qc1.2 ⟨r,C.out.2.2.2.2.1,rfl⟩));show _=_;rw[qc2 hx];rfl
 go_wp2_with fail;refine(a4.out _ _ t.out.1).mono ?_;rintro e V ⟨rfl,rfl⟩
 obtain⟨l,HL⟩:∃l,Hid (idxI (q9 (nmG G) r.l)=l):=⟨_,rfl⟩
 rw[HL.out]at f4 ⊢;have hv:Below V.heap.size V (V.alloc (.cells #[.int .i64 l,.slice none 0 0,.int .i64 0,.int .i64 0] 47)):=qb _ _
 have P:Hid (RO w (V.alloc (.cells #[.int .i64 l,.slice none 0 0,.int .i64 0,.int .i64 0] 47)) D n f V.heap.size #[.string r.l,.slice L B F,.string r.p] #[.int .i64 (d:Int),.int .i64 (S.nt:Int),.int .i64 (S.st:Int),.int .i64 S.ex,.slice h.na K h.nc,.slice h.la d h.lc,.slice h.aa d h.ac,.slice h.ra R h.rc] l [] none 0) :=
  ⟨qf hv t.out.2.1,qf hv t.out.2.2.1,qf hv t.out.2.2.2.1,heap_alloc_new _ _,World.ownsRow_nil _ _ _ _,qd t.out.1 hv,by rw[t.out.2.2.2.2.1];omega,t.out.1.size⟩
 clear hv c4 c0
 go_upto_region 2 with fail
 generalize V.alloc (.cells #[.int .i64 l,.slice none 0 0,.int .i64 0,.int .i64 0] 47)=Q at P ⊢
 obtain⟨m,d9⟩:∃m,Hid (m=V.heap.size):=⟨_,rfl⟩
 rw[<-d9.out]at P ⊢;have d8:Hid (w.heap.size<=f):=t.out.2.2.2.2.2;clear d9 t HL c9
 have c2:Q.cell? ⟨D,2,none⟩=some (.string r.p):=by rw[qe P.out.x2];rfl
 obtain⟨d0,d1,d2,d3,d4,d5,d6,d7⟩:Q.cell? ⟨n,0,none⟩=some (.int .i64 (d:Int))/\Q.cell? ⟨n,1,none⟩=some (.int .i64 (S.nt:Int))/\Q.cell? ⟨n,2,none⟩=some (.int .i64 (S.st:Int))/\Q.cell? ⟨n,3,none⟩=some (.int .i64 S.ex)/\Q.cell? ⟨n,4,none⟩=some (.slice h.na K h.nc)/\Q.cell? ⟨n,5,none⟩=some (.slice h.la d h.lc)/\Q.cell? ⟨n,6,none⟩=some (.slice h.aa d h.ac)/\Q.cell? ⟨n,7,none⟩=some (.slice h.ra R h.rc) :=
  ⟨by rw[qe P.out.x3];rfl,by rw[qe P.out.x3];rfl,by rw[qe P.out.x3];rfl,by rw[qe P.out.x3];rfl,by rw[qe P.out.x3];rfl,by rw[qe P.out.x3];rfl,by rw[qe P.out.x3];rfl,by rw[qe P.out.x3];rfl⟩
 have HZ:Hid (q9 (tkG G) r.p=bO G r 0):=(qro C.out.2.2.1 r).symm;rw[HZ.out]at a3
 go_cut [6] (fun s6 wd=>s6=.int .i64 (idxI (bO G r 0))/\Hid (RO w wd D n f m #[.string r.l,.slice L B F,.string r.p] #[.int .i64 (d:Int),.int .i64 (S.nt:Int),.int .i64 (S.st:Int),.int .i64 S.ex,.slice h.na K h.nc,.slice h.la d h.lc,.slice h.aa d h.ac,.slice h.ra R h.rc] l [] none 0))
 case first =>
  go_region_with(first | (go_at_call 97;refine(a5.out _ (qd P.out.bel (qk _))).mono ?_;rintro e V1 ⟨rfl,I,hB⟩;have z2:V1.cell? ⟨D,2,none⟩=some (.string r.p):=qj hB c2) | (go_at_call 84;refine(a3.out _ I).mono ?_;rintro e V2 ⟨rfl,rfl⟩))
  all_goals
   have X:Hid (RO w _ D n f m #[.string r.l,.slice L B F,.string r.p] #[.int .i64 (d:Int),.int .i64 (S.nt:Int),.int .i64 (S.st:Int),.int .i64 S.ex,.slice h.na K h.nc,.slice h.la d h.lc,.slice h.aa d h.ac,.slice h.ra R h.rc] l [] none 0):=(P.out.step (qk _)).step hB;clear hB I z2;go_wp2_with fail;go_meet;exact⟨rfl,X⟩
 case rest =>
  obtain⟨rfl,R0⟩:=hcut
  obtain⟨w5,i6⟩:∃w5,w5=wc:=⟨_,rfl⟩
  subst wc;clear c2 d0 d1 d2 d3 d4 d5 d6 d7 P a5 a3
  have c1:w5.cell? ⟨D,1,none⟩=some (.slice L B F):=by rw[qe R0.out.x2];rfl
  go_upto_block 0 with fail
  clear c1
  go_cut [6,24] (fun s6 s24 wd=>s6=.int .i64 (idxI (byG G r))/\Hid (∃z A,RO w wd D n f m #[.string r.l,.slice L B F,.string r.p] #[.int .i64 (d:Int),.int .i64 (S.nt:Int),.int .i64 (S.st:Int),.int .i64 S.ex,.slice h.na K h.nc,.slice h.la d h.lc,.slice h.aa d h.ac,.slice h.ra R h.rc] l (ruG G r).r z A))
  case first =>
   go_wp2_with fail
   go_loopg [6,24] B (fun kx s6 s24 wr=>∃k:Nat,s6=.int .i64 (idxI (bO G r k))/\s24=.int .i64 k/\k<=B/\B - k<=kx/\Hid (∃z A,RO w wr D n f m #[.string r.l,.slice L B F,.string r.p] #[.int .i64 (d:Int),.int .i64 (S.nt:Int),.int .i64 (S.st:Int),.int .i64 S.ex,.slice h.na K h.nc,.slice h.la d h.lc,.slice h.aa d h.ac,.slice h.ra R h.rc] l ((r.r.take k).map (ix (nmG G))) z A))
   case atStart=>exact⟨0,rfl,rfl,Nat.zero_le _,by omega,(⟨_,_,R0.out⟩:∃z A,RO w w5 D n f m #[.string r.l,.slice L B F,.string r.p] #[.int .i64 (d:Int),.int .i64 (S.nt:Int),.int .i64 (S.st:Int),.int .i64 S.ex,.slice h.na K h.nc,.slice h.la d h.lc,.slice h.aa d h.ac,.slice h.ra R h.rc] l ((r.r.take 0).map (ix (nmG G))) z A)⟩
   case round =>
    clear R0;obtain⟨k,rfl,rfl,hk,hg,J⟩:=hrel
    by_cases g9:k<B
    ·have g1:(k:Int)<(B:Int):=by omega
     obtain⟨z,A,s⟩:=J.out
     obtain⟨x,hx⟩:∃x,r.r[k]?=some x:=⟨r.r[k]'(by rw[Y.out];exact g9),List.getElem?_eq_getElem _⟩
     obtain⟨b,o,h6,q0⟩:=jm (C.out.2.2.2.2.2.below s.bel) hx;subst h6;have c3:x∈nmG G:=qbt (C.out.2.2.2.1.rr r C.out.2.2.2.2.1 x (List.mem_of_getElem? hx));have a7:Hid (r.r[k]?=some x):=hx
     have c4:wr.cell? ⟨n,4,none⟩=some (.slice h.na K h.nc):=by rw[qe s.x3];rfl
     have a6:Hid (Calls Tryz.prog 84 #[.slice h.na K h.nc,.string x] wr fun e M=>e=.returned (.int .i64 ((ix (nmG G) x:Nat):Int))/\M=wr):=by
      have:=a4.out wr x s.bel;rw[qc2 c3]at this;exact this
     obtain⟨y,HY⟩:∃y,Hid (ix (nmG G) x=y):=⟨_,rfl⟩
     rw[HY.out]at a6
     have k0:y<=1000:=by
      have:=qeu c3;rw[HY.out,jj]at this;have:=j9 G.rs;omega
     have a9:((r.r.take k).map (ix (nmG G))).length=k:=by rw[List.length_map,List.length_take,Y.out];omega
     obtain⟨g,c,V1,b8,x1,f1,s1⟩:=s.add y (by omega)
     have c1:wr.cell? ⟨m,1,none⟩=some (.slice z k A):=by rw[qe s.x5,a9];rfl
     rw[a9]at b8 x1 s1
     have Z:Hid (RO w (V1.setCell ⟨m,1,none⟩ (.slice (some ⟨g,0,none⟩) (k+1) c)) D n f m #[.string r.l,.slice (some ⟨b,o,none⟩) B F,.string r.p] #[.int .i64 (d:Int),.int .i64 (S.nt:Int),.int .i64 (S.st:Int),.int .i64 S.ex,.slice h.na K h.nc,.slice h.la d h.lc,.slice h.aa d h.ac,.slice h.ra R h.rc] l ((r.r.take (k+1)).map (ix (nmG G))) (some ⟨g,0,none⟩) c):=by
      have e:(r.r.take (k+1)).map (ix (nmG G))=(r.r.take k).map (ix (nmG G))++[y]:=by rw[zn a7.out,List.map_append,<-HY.out];rfl
      rw[e];exact s1
     clear s s1 J hx c3 a9
     go_upto_region 8 with (first | (go_at_call 84;refine a6.out.mono ?_;rintro e V2 ⟨rfl,rfl⟩) | (at_builtin;refine Lib.wpList_append_run _ rfl _ _ _ _ rfl _ _ rfl rfl _ _ b8 ?_))
     generalize V1.setCell ⟨m,1,none⟩ (.slice (some ⟨g,0,none⟩) (k+1) c)=Q1 at Z ⊢;clear b8 x1 f1 c1 c4 q0 a6
     have z2:Q1.cell? ⟨D,2,none⟩=some (.string r.p):=by rw[qe Z.out.x2];rfl
     have z0:Q1.cell? ⟨n,0,none⟩=some (.int .i64 (d:Int)):=by rw[qe Z.out.x3];rfl
     have X:Hid (∃z A,RO w Q1 D n f m #[.string r.l,.slice (some ⟨b,o,none⟩) B F,.string r.p] #[.int .i64 (d:Int),.int .i64 (S.nt:Int),.int .i64 (S.st:Int),.int .i64 S.ex,.slice h.na K h.nc,.slice h.la d h.lc,.slice h.aa d h.ac,.slice h.ra R h.rc] l ((r.r.take (k+1)).map (ix (nmG G))) z A):=⟨_,_,Z.out⟩
     clear Z
     by_cases hp:r.p=e0
     ·have hb:=(zo r.p).2 hp
      by_cases g4:y<d
      ·have g5:(y:Int)<(d:Int):=by omega
       have HE:Hid (bO G r (k+1)=some y):=by
        show _=_;unfold bO;rw[if_pos hp,zn a7.out,qdj];unfold byS;rw[HY.out,if_pos (by rw[<-C.out.2.1.tk,q.out];exact g4)]
       clear hp;go_wp2_with fail;go_roundg (B - (k+1))
       case measure=>omega
       case rel=>exact⟨k+1,by rw[HE.out];rfl,by simp,by omega,Nat.le_refl _,X⟩
      ·have g5:¬(y:Int)<(d:Int):=by omega
       have HE:Hid (bO G r (k+1)=bO G r k):=by
        show _=_;unfold bO;rw[if_pos hp,if_pos hp,zn a7.out,qdj];unfold byS;rw[HY.out,if_neg (by rw[<-C.out.2.1.tk,q.out];exact g4)]
       clear hp;go_wp2_with fail;go_roundg (B - (k+1))
       case measure=>omega
       case rel=>exact⟨k+1,by rw[HE.out],by simp,by omega,Nat.le_refl _,X⟩
     ·have hb:(r.p.toList == [])=false:=by
       cases hq:(r.p.toList == [])
       ·rfl
       ·exact absurd ((zo r.p).1 hq) hp
      have HE:Hid (bO G r (k+1)=bO G r k):=by
       show _=_;unfold bO;rw[if_neg hp,if_neg hp]
      clear hp;go_wp2_with fail;go_roundg (B - (k+1))
      case measure=>omega
      case rel=>exact⟨k+1,by rw[HE.out],by simp,by omega,Nat.le_refl _,X⟩
    ·have g1:¬(k:Int)<(B:Int):=by omega
     have HE:Hid (bO G r k=byG G r):=by
      have e:k=r.r.length:=by rw[Y.out];omega
      rw[e];exact qse G r
     have X:Hid (∃z A,RO w wr D n f m #[.string r.l,.slice L B F,.string r.p] #[.int .i64 (d:Int),.int .i64 (S.nt:Int),.int .i64 (S.st:Int),.int .i64 S.ex,.slice h.na K h.nc,.slice h.la d h.lc,.slice h.aa d h.ac,.slice h.ra R h.rc] l (ruG G r).r z A):=by
      have e:(r.r.take k).map (ix (nmG G))=(ruG G r).r:=by rw[List.take_of_length_le (by rw[Y.out];omega)];rfl
      rw[<-e];exact J.out
     clear J;go_wp2_with fail;go_meet;exact⟨by rw[HE.out],X⟩
  case rest =>
   obtain⟨rfl,R1⟩:=hcut
   obtain⟨T,i7⟩:∃T,T=wc:=⟨_,rfl⟩
   subst wc;clear R0 a4;obtain⟨z,A,s⟩:=R1.out;have N:Hid (RO w T D n f m #[.string r.l,.slice L B F,.string r.p] #[.int .i64 (d:Int),.int .i64 (S.nt:Int),.int .i64 (S.st:Int),.int .i64 S.ex,.slice h.na K h.nc,.slice h.la d h.lc,.slice h.aa d h.ac,.slice h.ra R h.rc] l (ruG G r).r z A):=s;clear s R1
   obtain⟨zz,a8⟩:∃zz,Hid (idxI (byG G r)=zz):=⟨_,rfl⟩
   rw[a8.out]
   go_upto_if 50 with fail
   go_cut [49] (fun s49 wd=>Hid (RD7 w wd f m l (ruG G r).r (ruG G r).lv (ruG G r).a z A))
   case first =>
    have f5:Hid ((ruG G r).lv=lvO G.ts (byG G r)/\(ruG G r).a=azO G.ts (byG G r)):=⟨rfl,rfl⟩
    cases O:byG G r with
    | none =>
     have X:Hid (RD7 w T f m l (ruG G r).r (ruG G r).lv (ruG G r).a z A):=by
      have h1:=f5.out;rw[O]at h1;rw[h1.1,h1.2];exact N.out.done
     have hz:¬(0:Int)<=zz:=by rw[<-a8.out,O];decide
     clear O;go_wp2_with fail;go_meet;exact X
    | some j =>
     have hj:j<G.ts.length:=qon O
     obtain⟨u,hu⟩:∃u,G.ts[j]?=some u:=⟨G.ts[j],List.getElem?_eq_getElem hj⟩
     have q5:T.cell? ⟨n,5,none⟩=some (.slice h.la d h.lc):=by rw[qe N.out.x3];rfl
     have q6:T.cell? ⟨n,6,none⟩=some (.slice h.aa d h.ac):=by rw[qe N.out.x3];rfl
     obtain⟨b,o,b6,v5⟩:=qcy (C.out.1.lv.below N.out.bel) (i:=j) (x:=u.l) (by rw[C.out.2.1.lv,List.getElem?_map,hu];rfl)
     obtain⟨b',o',b0,v6⟩:=qcy (C.out.1.az.below N.out.bel) (i:=j) (x:=u.a) (by rw[C.out.2.1.az,List.getElem?_map,hu];rfl)
     have g8:b<w.heap.size:=by
      obtain⟨b9,o9,h9,v9⟩:=qcy C.out.1.lv (i:=j) (x:=u.l) (by rw[C.out.2.1.lv,List.getElem?_map,hu];rfl)
      rw[b6]at h9
      cases h9
      exact World.block_lt_of_cell? w _ v9
     have g0:b'<w.heap.size:=by
      obtain⟨b9,o9,h9,v9⟩:=qcy C.out.1.az (i:=j) (x:=u.a) (by rw[C.out.2.1.az,List.getElem?_map,hu];rfl)
      rw[b0]at h9
      cases h9
      exact World.block_lt_of_cell? w _ v9
     rw[b6]at q5;rw[b0]at q6
     have i2:j<d:=by rw[<-q.out,C.out.2.1.tk];exact hj
     have h8:(j:Int)<(d:Int):=by omega
     have y2:T.cell? ⟨m,2,none⟩=some (.int .i64 0):=by rw[qe N.out.x5];rfl
     have y3:T.cell? ⟨m,3,none⟩=some (.int .i64 0):=by rw[qe N.out.x5];rfl
     have f2:T.frozen? ⟨m,2,none⟩=false:=qi N.out.x5 2;have f3:T.frozen? ⟨m,3,none⟩=false:=qi N.out.x5 3;have E:=N.out.step (qk T)
     have a0:(ruG G r).lv=u.l/\(ruG G r).a=u.a:=by
      have h1:=f5.out;rw[O]at h1;rw[h1.1,h1.2];unfold lvO azO;simp only[hu];exact⟨rfl,rfl⟩
     have g6:Hid (RD7 w ((T.drew.setCell ⟨m,2,none⟩ (.int .i64 u.l)).setCell ⟨m,3,none⟩ (.int .i64 u.a)) f m l (ruG G r).r (ruG G r).lv (ruG G r).a z A):=by
      rw[a0.1,a0.2];exact(E.done.put2 E.ne E.n5 u.l).put3 E.ne E.n5 u.a
     have g7:Hid (RD7 w ((T.drew.setCell ⟨m,3,none⟩ (.int .i64 u.a)).setCell ⟨m,2,none⟩ (.int .i64 u.l)) f m l (ruG G r).r (ruG G r).lv (ruG G r).a z A):=by
      rw[a0.1,a0.2];exact(E.done.put3 E.ne E.n5 u.a).put2 E.ne E.n5 u.l
     obtain rfl:zz=(j:Int):=by rw[<-a8.out,O];rfl
     have n3:n≠m:=qr ⟨_,N.out.x3⟩ ⟨_,N.out.x5⟩ (by decide)
     have c5:b≠m:=by have:=N.out.n5;omega
     have c6:b'≠m:=by have:=N.out.n5;omega
     clear E a0 hu O b6 b0 hj g8 g0
     go_upto_region 12 with fail
     go_region_held (fun M=>M.cell? ⟨n,5,none⟩=some (.slice (some ⟨b,o,none⟩) d h.lc)/\M.cell? ⟨n,6,none⟩=some (.slice (some ⟨b',o',none⟩) d h.ac)/\M.cell? ⟨b,o+j,none⟩=some (.int .i64 u.l)/\M.cell? ⟨b',o'+j,none⟩=some (.int .i64 u.a)) (first | exact⟨q5,q6,v5,v6⟩ | exact⟨qz q5 n3,qz q6 n3,qz v5 c5,qz v6 c6⟩ | exact⟨qz (qz q5 n3) n3,qz (qz q6 n3) n3,qz (qz v5 c5) c5,qz (qz v6 c6) c6⟩) (fail)
     all_goals
      go_wp2_with fail;go_meet
      first | exact g6 | exact g7
   case rest =>
    obtain⟨w7,i8⟩:∃w7,w7=wc:=⟨_,rfl⟩
    subst wc
    have U:Hid (RD7 w w7 f m l (ruG G r).r (ruG G r).lv (ruG G r).a z A/\w.heap.size<=f):=⟨hcut.out,d8.out⟩
    clear hcut N
    have y0:w7.cell? ⟨m,0,none⟩=some (.int .i64 l):=by rw[qe U.out.1.x5];rfl
    have y1:w7.cell? ⟨m,1,none⟩=some (.slice z (ruG G r).r.length A):=by rw[qe U.out.1.x5];rfl
    have y2:w7.cell? ⟨m,2,none⟩=some (.int .i64 (ruG G r).lv):=by rw[qe U.out.1.x5];rfl
    have y3:w7.cell? ⟨m,3,none⟩=some (.int .i64 (ruG G r).a):=by rw[qe U.out.1.x5];rfl
    obtain⟨z0,z1,z2,z3,f0,f1,f2,f3⟩:=qdk U.out.1.x4
    have X:Hid (∀v0 v1 v2 v3,((((w7.setCell ⟨f,0,none⟩ v0).setCell ⟨f,1,none⟩ v1).setCell ⟨f,2,none⟩ v2).setCell ⟨f,3,none⟩ v3).ownsRow w.heap.size 3 1 (.slice z (ruG G r).r.length A) (ruG G r).r.length (natC (ruG G r).r)/\Below w.heap.size w ((((w7.setCell ⟨f,0,none⟩ v0).setCell ⟨f,1,none⟩ v1).setCell ⟨f,2,none⟩ v2).setCell ⟨f,3,none⟩ v3)):=fun v0 v1 v2 v3=>by
     have hl:Loc w7 f 47:=⟨_,U.out.1.x4⟩
     have l1:=hl.set f 0 v0;have l2:=l1.set f 1 v1;have l3:=l2.set f 2 v2;exact⟨j0 (j0 (j0 (j0 U.out.1.own hl (by decide)) l1 (by decide)) l2 (by decide)) l3 (by decide),(((U.out.1.bel.setCell (p:=⟨f,0,none⟩) U.out.2 _).setCell (p:=⟨f,1,none⟩) U.out.2 _).setCell (p:=⟨f,2,none⟩) U.out.2 _).setCell (p:=⟨f,3,none⟩) U.out.2 _⟩
    obtain⟨yn,f9⟩:∃yn,Hid ((ruG G r).r.length=yn):=⟨_,rfl⟩
    obtain⟨c8,f8⟩:∃c8,Hid ((ruG G r).lv=c8):=⟨_,rfl⟩
    obtain⟨c7,f7⟩:∃c7,Hid ((ruG G r).a=c7):=⟨_,rfl⟩
    rw[f9.out]at y1;rw[f8.out]at y2;rw[f7.out]at y3;go_wp2_with fail;refine bodyPost_ret (v:=.agg #[.int .i64 l,.slice z yn A,.int .i64 c8,.int .i64 c7]) (by simp[results,Tryz.results99,go_sem, *]) rfl ?_;exact⟨z,A,by rw[<-f4.out,f9.out,f8.out,f7.out],X.out _ _ _ _⟩
structure RS7 (w W:World) (b2 b3:Nat) (c2 c3:Array Value) (qs:List (SR × Option Addr × Nat)) (ao:Option Addr) (n c:Nat):Prop where
 x2:W.heap[b2]?=some (.cells c2 25 (0,0))
 x3:W.heap[b3]?=some (.cells c3 31 (0,0))
 len:n=qs.length
 own:W.ownsRow w.heap.size 47 4 (.slice ao n c) n (srC qs)
 row:∀q∈qs,W.ownsRow w.heap.size 3 1 (.slice q.2.1 q.1.r.length q.2.2) q.1.r.length (natC q.1.r)
 bel:Below w.heap.size w W
theorem RS7.step{w W b:World}{f g:Nat}{c2 h:Array Value}{qs:List (SR × Option Addr × Nat)}{d:Option Addr}{n c:Nat}(s:RS7 w W f g c2 h qs d n c)(a:Below W.heap.size W b):RS7 w b f g c2 h qs d n c :=
 ⟨qf a s.x2,qf a s.x3,s.len,zw s.own a,fun q i=>zw (s.row q i) a,qd s.bel a⟩
theorem RS7.add{w W:World}{x y:Nat}{c2 A:Array Value}{qs:List (SR × Option Addr × Nat)}{o:Option Addr}{n c:Nat}(s:RS7 w W x y c2 A qs o n c)(q:SR × Option Addr × Nat)(H:W.ownsRow w.heap.size 3 1 (.slice q.2.1 q.1.r.length q.2.2) q.1.r.length (natC q.1.r))(L:n<10000):
  ∃g j f,(Builtin.append_ #[29,29] 29 #[.slice o n c,.slice (some ⟨W.heap.size,0,none⟩) 1 1]).run Tryz.prog (W.alloc (.cells #[.int .i64 q.1.l,.slice q.2.1 q.1.r.length q.2.2,.int .i64 q.1.lv,.int .i64 q.1.a] 47))=.ok (.slice (some ⟨g,0,none⟩) (n+1) j) f/\RS7 w f x y c2 A (qs++[q]) (some ⟨g,0,none⟩) (n+1) j:=by
 obtain⟨g,j,f,I,m,B,K⟩:=jc (us:=[.int .i64 q.1.l,.slice q.2.1 q.1.r.length q.2.2,.int .i64 q.1.lv,.int .i64 q.1.a]) u30 i62 rfl (by decide) (by decide) rfl (fun u C=>by simp at C;rcases C with rfl | rfl | rfl | rfl <;> rfl) s.own s.bel.size (by omega)
 have h:Kept (fun k=>blk o=some k) W f:=((Kept.refl _ W).alloc _).trans B (fun k _ e=>zi e)
 have z:∀{b T:Nat} {d:Array Value},W.heap[b]?=some (.cells d T (0,0))->T≠47->f.heap[b]?=some (.cells d T (0,0)):=fun p F=>by
  rw[h.block _ (Array.getElem?_eq_some_iff.1 p).1 (fun e=>qr ⟨_,p⟩ (qw s.own e).2.2 F rfl)];exact p
 have stay:∀{E k n:Nat} {v:Value} {cs:List Value},W.ownsRow w.heap.size E k v n cs->E≠47->f.ownsRow w.heap.size E k v n cs:=fun m D=>j8 m h (fun i G e=>qr (qx m G) (qw s.own e).2.2 D rfl)
 refine⟨g,j,f,I,z s.x2 (by decide),z s.x3 (by decide),by rw[List.length_append,s.len];rfl,by rw[qj6];exact m,?_,?_⟩
 ·intro J t
  rcases List.mem_append.1 t with h1 | h1
  ·exact stay (s.row J h1) (by decide)
  ·rw[List.mem_singleton]at h1;subst h1;exact stay H (by decide)
 ·refine s.bel.trans (h.below s.bel.size (fun k B e=>?_));have:=(qw s.own e).1;omega
theorem qi3(G:Gm)(hd:Hd)(S:Sp)(h:SHd)(w:World)(X:IsG w hd G)(a5:IsSp w h S)(ho:Of0 G S)(hm:MayP G)(hn:NmP G):
  Calls Tryz.prog 86 #[gv hd G,.agg (sC h S)] w fun e O=>∃L c qs,e=.returned (.slice L (G.rs.length+1) c)/\(O.ownsRow w.heap.size 47 4 (.slice L (G.rs.length+1) c) (G.rs.length+1) (srC qs)/\qs.map (·.1)=⟨-1,[S.st],0,0⟩ :: G.rs.map (ruG G)/\∀q∈qs,O.ownsRow w.heap.size 3 1 (.slice q.2.1 q.1.r.length q.2.2) q.1.r.length (natC q.1.r))/\Below w.heap.size w O:=by
 have a2:G.ts.length<=100:=X.small.nt;have a3:G.rs.length<=200:=X.small.nr;have Z:=kj X.rul
 have T:Hid (∀(V:World) (r:Ru) (t:Option Addr) (u:Nat),Below w.heap.size w V->r∈G.rs->Row V 1 t r.r.length u (strC r.r)->Calls Tryz.prog 99 #[.agg #[.string r.l,.slice t r.r.length u,.string r.p],.agg (sC h S)] V fun e O=>∃xa xc,e=.returned (.agg #[.int .i64 (ruG G r).l,.slice xa (ruG G r).r.length xc,.int .i64 (ruG G r).lv,.int .i64 (ruG G r).a])/\O.ownsRow V.heap.size 3 1 (.slice xa (ruG G r).r.length xc) (ruG G r).r.length (natC (ruG G r).r)/\Below V.heap.size V O):=fun V r t u hV hr n=>qj8 G S h V (a5.below hV) ho hm a2 a3 hn r hr t u n
 have HG:Hid (IsG w hd G):=X;clear X a5 ho hm hn;obtain⟨A,B,C,v⟩:=hd;unfold gv;simp only at Z ⊢;have x:Below w.heap.size w ((w.alloc (.cells #[.slice A G.ts.length B,.string G.s,.int .i64 G.e,.slice C G.rs.length v] 25)).alloc (.cells (sC h S) 31)):=qd (qb _ _) (qb _ _);have j:((w.alloc (.cells #[.slice A G.ts.length B,.string G.s,.int .i64 G.e,.slice C G.rs.length v] 25)).alloc (.cells (sC h S) 31)).heap[w.heap.size]?=some (.cells #[.slice A G.ts.length B,.string G.s,.int .i64 G.e,.slice C G.rs.length v] 25 (0,0)):=qf (qb _ _) (heap_alloc_new _ _)
 have i:((w.alloc (.cells #[.slice A G.ts.length B,.string G.s,.int .i64 G.e,.slice C G.rs.length v] 25)).alloc (.cells (sC h S) 31)).heap[w.heap.size+1]?=some (.cells (sC h S) 31 (0,0)):=by
  have:=heap_alloc_new (w.alloc (.cells #[.slice A G.ts.length B,.string G.s,.int .i64 G.e,.slice C G.rs.length v] 25)) (.cells (sC h S) 31)
  rwa [qt]at this
 obtain⟨d,K⟩:∃d,Hid (G.rs.length=d):=⟨_,rfl⟩
 obtain⟨I,a6⟩:∃I,Hid (G.ts.length=I):=⟨_,rfl⟩
 rw[K.out]at a3 Z x j i ⊢;rw[a6.out]at a2 x j i ⊢
 obtain⟨s3,a4⟩:∃s3,sC h S=s3:=⟨_,rfl⟩
 have H:=a4;unfold sC at H;subst H;rw[a4]at T x j i ⊢;go_enter Tryz.func86,Tryz.ntmps86
 go_upto_region 1 with fail
 generalize (w.alloc (.cells #[.slice A I B,.string G.s,.int .i64 G.e,.slice C d v] 25)).alloc (.cells #[.int .i64 (S.tk:Int),.int .i64 (S.nt:Int),.int .i64 (S.st:Int),.int .i64 S.ex,.slice h.na S.nm.length h.nc,.slice h.la S.lv.length h.lc,.slice h.aa S.az.length h.ac,.slice h.ra S.rs.length h.rc] 31)=f at x j i ⊢
 obtain⟨D,Q⟩:∃D,Hid (D=w.heap.size):=⟨_,rfl⟩
 rw[<-Q.out]at j i ⊢
 generalize D+1=N at *
 have d2:f.cell? ⟨N,2,none⟩=some (.int .i64 (S.st:Int)):=by rw[qe i];rfl
 have E:Below f.heap.size f (f.alloc (.cells #[.int .i64 (S.st:Int)] 3)):=qb _ _;have z:Below (f.alloc (.cells #[.int .i64 (S.st:Int)] 3)).heap.size (f.alloc (.cells #[.int .i64 (S.st:Int)] 3)) ((f.alloc (.cells #[.int .i64 (S.st:Int)] 3)).alloc (.cells #[.int .i64 (-1),.slice (some ⟨f.heap.size,0,none⟩) 1 1,.int .i64 0,.int .i64 0] 47)):=qb _ _
 have P:Hid (RS7 w ((f.alloc (.cells #[.int .i64 (S.st:Int)] 3)).alloc (.cells #[.int .i64 (-1),.slice (some ⟨f.heap.size,0,none⟩) 1 1,.int .i64 0,.int .i64 0] 47)) D N #[.slice A I B,.string G.s,.int .i64 G.e,.slice C d v] #[.int .i64 (S.tk:Int),.int .i64 (S.nt:Int),.int .i64 (S.st:Int),.int .i64 S.ex,.slice h.na S.nm.length h.nc,.slice h.la S.lv.length h.lc,.slice h.aa S.az.length h.ac,.slice h.ra S.rs.length h.rc] [(⟨-1,[S.st],0,0⟩,some ⟨f.heap.size,0,none⟩,1)] (some ⟨f.heap.size+1,0,none⟩) 1 1):=by
  refine⟨qf z (qf E j),qf z (qf E i),rfl,?_,?_,qd (qd x E) z⟩
  ·have:=vz (f.alloc (.cells #[.int .i64 (S.st:Int)] 3)) w.heap.size 47 4 1 [.int .i64 (-1),.slice (some ⟨f.heap.size,0,none⟩) 1 1,.int .i64 0,.int .i64 0] (by rw[qt];have:=x.size;omega) rfl (by omega)
   rw[qt]at this;exact this
  ·intro q M;rw[List.mem_singleton]at M;subst M;exact zw (vz f w.heap.size 3 1 1 [.int .i64 (S.st:Int)] x.size rfl (by omega)) z
 clear E z x j i Q
 go_upto_region 2 with fail
 generalize (f.alloc (.cells #[.int .i64 (S.st:Int)] 3)).alloc (.cells #[.int .i64 (-1),.slice (some ⟨f.heap.size,0,none⟩) 1 1,.int .i64 0,.int .i64 0] 47)=W2 at P ⊢;generalize f.heap.size=c1 at P ⊢;clear d2
 have p3:W2.cell? ⟨D,3,none⟩=some (.slice C d v):=by rw[qe P.out.x2];rfl
 go_wp2_with fail;clear p3
 go_loopg [5,16] d (fun kx s5 s16 wr=>∃(k:Nat) (L:Nat × Nat),s5=.slice (some ⟨L.1,0,none⟩) (k+1) L.2/\s16=.int .i64 k/\k<=d/\d - k<=kx/\Hid (∃qs,RS7 w wr D N #[.slice A I B,.string G.s,.int .i64 G.e,.slice C d v] #[.int .i64 (S.tk:Int),.int .i64 (S.nt:Int),.int .i64 (S.st:Int),.int .i64 S.ex,.slice h.na S.nm.length h.nc,.slice h.la S.lv.length h.lc,.slice h.aa S.az.length h.ac,.slice h.ra S.rs.length h.rc] qs (some ⟨L.1,0,none⟩) (k+1) L.2/\qs.map (·.1)=⟨-1,[S.st],0,0⟩ :: (G.rs.take k).map (ruG G)))
 case atStart=>exact⟨0,(c1+1,1),rfl,rfl,Nat.zero_le _,by omega,(⟨_,P.out,rfl⟩:∃qs,RS7 w W2 D N #[.slice A I B,.string G.s,.int .i64 G.e,.slice C d v] #[.int .i64 (S.tk:Int),.int .i64 (S.nt:Int),.int .i64 (S.st:Int),.int .i64 S.ex,.slice h.na S.nm.length h.nc,.slice h.la S.lv.length h.lc,.slice h.aa S.az.length h.ac,.slice h.ra S.rs.length h.rc] qs (some ⟨c1+1,0,none⟩) (0+1) 1/\qs.map (·.1)=⟨-1,[S.st],0,0⟩ :: (G.rs.take 0).map (ruG G))⟩
 case round =>
  clear P;obtain⟨k,⟨ag,ac⟩,rfl,rfl,hk,hg,J⟩:=hrel;simp only at J
  by_cases a8:k<d
  ·have Y:(k:Int)<(d:Int):=by omega
   obtain⟨qs,s,y⟩:=J.out
   obtain⟨r,hr⟩:∃r,G.rs[k]?=some r:=⟨G.rs[k]'(by rw[K.out];exact a8),List.getElem?_eq_getElem _⟩
   obtain⟨b,o,t,u,a1,d0,d1,d2,n⟩:=(HG.out.rul.below s.bel).at hr;simp only at a1;subst a1;have hv:Below wr.heap.size wr (wr.alloc (.cells #[.string r.l,.slice t r.r.length u,.string r.p] 55)):=qb _ _
   have m:Hid (RS7 w (wr.alloc (.cells #[.string r.l,.slice t r.r.length u,.string r.p] 55)) D N #[.slice A I B,.string G.s,.int .i64 G.e,.slice (some ⟨b,o,none⟩) d v] #[.int .i64 (S.tk:Int),.int .i64 (S.nt:Int),.int .i64 (S.st:Int),.int .i64 S.ex,.slice h.na S.nm.length h.nc,.slice h.la S.lv.length h.lc,.slice h.aa S.az.length h.ac,.slice h.ra S.rs.length h.rc] qs (some ⟨ag,0,none⟩) (k+1) ac/\(wr.alloc (.cells #[.string r.l,.slice t r.r.length u,.string r.p] 55)).heap[wr.heap.size]?=some (.cells #[.string r.l,.slice t r.r.length u,.string r.p] 55 (0,0))/\Row (wr.alloc (.cells #[.string r.l,.slice t r.r.length u,.string r.p] 55)) 1 t r.r.length u (strC r.r)/\G.rs[k]?=some r/\qs.map (·.1)=⟨-1,[S.st],0,0⟩ :: (G.rs.take k).map (ruG G)):=⟨s.step hv,heap_alloc_new _ _,n.below hv,hr,y⟩
   clear s J hr hv y n
   go_upto_region 5 with fail
   obtain⟨U,R⟩:∃U,Hid (U=wr.heap.size):=⟨_,rfl⟩
   rw[<-R.out]at m ⊢;generalize wr.alloc (.cells #[.string r.l,.slice t r.r.length u,.string r.p] 55)=V at m ⊢;clear R d0 d1 d2
   have q0:V.cell? ⟨U,0,none⟩=some (.string r.l):=by rw[qe m.out.2.1];rfl
   have q1:V.cell? ⟨U,1,none⟩=some (.slice t r.r.length u):=by rw[qe m.out.2.1];rfl
   have q2:V.cell? ⟨U,2,none⟩=some (.string r.p):=by rw[qe m.out.2.1];rfl
   obtain⟨c0,a7,c2,c3,c4,c5,c6,c7⟩:=sbox m.out.1.x3;go_wp2_with fail;refine(T.out _ r t u m.out.1.bel (List.mem_of_getElem? m.out.2.2.2.1) m.out.2.2.1).mono ?_;rintro e V1 ⟨xa,xc,rfl,F,x⟩;clear q0 q1 q2 c0 a7 c2 c3 c4 c5 c6 c7;obtain⟨g,c',V2,a0,s2⟩:=(m.out.1.step x).add (ruG G r,xa,xc) (zd F m.out.1.bel.size) (by omega)
   have HF:Hid (∃qs,RS7 w V2 D N #[.slice A I B,.string G.s,.int .i64 G.e,.slice (some ⟨b,o,none⟩) d v] #[.int .i64 (S.tk:Int),.int .i64 (S.nt:Int),.int .i64 (S.st:Int),.int .i64 S.ex,.slice h.na S.nm.length h.nc,.slice h.la S.lv.length h.lc,.slice h.aa S.az.length h.ac,.slice h.ra S.rs.length h.rc] qs (some ⟨g,0,none⟩) (k+1+1) c'/\qs.map (·.1)=⟨-1,[S.st],0,0⟩ :: (G.rs.take (k+1)).map (ruG G)):=by
    refine⟨_,s2,?_⟩;rw[List.map_append,m.out.2.2.2.2,zn m.out.2.2.2.1];simp
   simp only at a0;clear s2 F x m
   generalize (ruG G r).r.length=yn at *
   go_wp2_with(at_builtin;refine Lib.wpList_append_run _ rfl _ _ _ _ rfl _ _ rfl rfl _ _ a0 ?_)
   go_roundg (d - (k+1))
   case measure=>omega
   case rel=>exact⟨k+1,(g,c'),rfl,by simp,by omega,Nat.le_refl _,HF⟩
  ·have Y:¬(k:Int)<(d:Int):=by omega
   have HF:Hid (∃qs,(wr.ownsRow w.heap.size 47 4 (.slice (some ⟨ag,0,none⟩) (d+1) ac) (d+1) (srC qs)/\qs.map (·.1)=⟨-1,[S.st],0,0⟩ :: G.rs.map (ruG G)/\∀q∈qs,wr.ownsRow w.heap.size 3 1 (.slice q.2.1 q.1.r.length q.2.2) q.1.r.length (natC q.1.r))/\Below w.heap.size w wr):=by
    have hk:k=d:=by omega
    subst hk;obtain⟨qs,s,y⟩:=J.out;rw[List.take_of_length_le (by rw[K.out];exact Nat.le_refl _)]at y
    exact⟨qs,⟨s.own,y,s.row⟩,s.bel⟩
   have hk:k=d:=by omega
   clear J;subst hk;go_wp2_with fail;go_ret;obtain⟨qs,M⟩:=HF.out;exact⟨_,_,rfl,⟨qs,M.1.1,M.1.2.1,fun a b c hm=>M.1.2.2 (a,b,c) hm⟩,M.2⟩
theorem Of0.drop{G:Gm}{S:Sp}(a:Of0 G S):S.nm.drop (S.tk+1)=lfs G.rs:=by
 rw[a.nm,a.tk];unfold nmG
 have e:tkG G++e0 :: lfs G.rs=(tkG G++[e0])++lfs G.rs:=by simp
 rw[e,List.drop_append_of_le_length (by unfold tkG;simp),List.drop_of_length_le (by unfold tkG;simp)]
 rfl
theorem Of0.take{G:Gm}{S:Sp}(a:Of0 G S):S.nm.take S.tk=tkG G:=by
 rw[a.nm,a.tk];unfold nmG;rw[List.take_append_of_le_length (by unfold tkG;simp),List.take_of_length_le (by unfold tkG;simp)]
theorem Of0.len{G:Gm}{S:Sp}(a:Of0 G S):S.nm.length - (S.tk+1)=(lfs G.rs).length:=by
 rw[a.nm,a.tk,jj];omega
theorem qh9{G:Gm}{S:Sp}(a:Of0 G S)(h:SHd)(V:World)(g:Row V 1 h.na S.nm.length h.nc (strC S.nm))(m:Nat)(f:(lfs G.rs).length=m):Calls Tryz.prog 93 #[.agg (sC h S)] V fun e d=>∃b c,e=.returned (.slice b m c)/\Row d 1 b m c (strC (lfs G.rs))/\Below V.heap.size V d:=by
 have:=qek h S V g (by rw[a.nm,a.tk,jj];omega)
 rw[a.len,a.drop,f]at this;exact this
theorem qm7{G:Gm}{S:Sp}(a:Of0 G S)(h:SHd)(V:World)(c:Row V 1 h.na S.nm.length h.nc (strC S.nm)):Calls Tryz.prog 97 #[.agg (sC h S)] V fun e b=>e=.returned (.slice h.na S.tk h.nc)/\Row b 1 h.na S.tk h.nc (strC (tkG G))/\Below V.heap.size V b:=by
 have:=qej h S V c (by rw[a.nm,a.tk,jj];omega)
 rw[a.take]at this;exact this
theorem qj9(G:Gm)(S:Sp)(v:Of0 G S)(y:G.rs.length<=200)(h:SHd)(V:World)(l:Nat)(q:V.heap[l]?=some (.cells (sC h S) 31 (0,0)))(p:Row V 1 h.na S.nm.length h.nc (strC S.nm))(x:ByteArray)(b:Bool)(o:b=true↔x∈lfs G.rs):
  Calls Tryz.prog 98 #[.string x,.pointer (some ⟨l,0,none⟩)] V fun e f=>e=.returned (.bool b)/\Below V.heap.size V f:=by
 obtain⟨m,g⟩:∃m,(lfs G.rs).length=m:=⟨_,rfl⟩
 have u:m<=200:=by have:=j9 G.rs;omega
 have j:Hid (Calls Tryz.prog 93 #[.agg (sC h S)] V fun e f=>∃a c,e=.returned (.slice a m c)/\Row f 1 a m c (strC (lfs G.rs))/\Below V.heap.size V f):=qh9 v h V p m g
 have s:Hid (∀(U:World) (a:Option Addr) (c:Nat),Row U 1 a m c (strC (lfs G.rs))->Calls Tryz.prog 92 #[.slice a m c,.string x] U fun e f=>e=.returned (.bool b)/\f=U):=fun U a c t=>by
  have:=yu (lfs G.rs) a c x U (by rw[g];exact t) (by rw[g];omega) b o
  rw[g]at this;exact this
 obtain⟨c0,c1,c2,A,B,C,D,E⟩:=sbox q;unfold sC at j;clear q p o g;go_enter Tryz.func98,Tryz.ntmps98;go_wp2_with fail;refine j.out.mono ?_;rintro e k ⟨a,c,rfl,d,n⟩;have r:Hid (Below V.heap.size V k):=n;have i:Hid (Row k 1 a m c (strC (lfs G.rs))):=d;clear n d;go_wp2_with fail;refine(s.out _ _ _ i.out).mono ?_;rintro e z ⟨rfl,rfl⟩;go_wp2_with fail;go_ret;exact⟨rfl,r.out⟩
theorem qfv(G:Gm)(S:Sp)(M:Of0 G S)(F:G.rs.length<=200)(h:SHd)(w:World)(g:Nat)(a:w.heap[g]?=some (.cells (sC h S) 31 (0,0)))(N:Row w 1 h.na S.nm.length h.nc (strC S.nm))(l:List ByteArray)(t:Option Addr)(d:Nat)(A:Row w 1 t l.length d (strC l))(B:l.length<=1000):
  Calls Tryz.prog 107 #[.slice t l.length d,.func (.func 98) #[] #[.pointer (some ⟨g,0,none⟩)]] w fun e f=>∃z:Int,e=.returned (.int .i64 z)/\(0<=z↔∃x∈l,x∈lfs G.rs)/\Below w.heap.size w f:=by
 have C:=ze A
 have H:Hid (∀(V:World) (x:ByteArray) (b:Bool),Below w.heap.size w V->(b=true↔x∈lfs G.rs)->Calls Tryz.prog 98 #[.string x,.pointer (some ⟨g,0,none⟩)] V fun e f=>e=.returned (.bool b)/\Below V.heap.size V f):=fun V x b L P=>qj9 G S M F h V g (qf L a) (N.below L) x b P
 have I:Hid (Row w 1 t l.length d (strC l)):=A;clear A a N M
 obtain⟨n,s⟩:∃n,Hid (l.length=n):=⟨_,rfl⟩
 rw[s.out]at C B I ⊢;go_enter Tryz.func107,Tryz.ntmps107;go_wp2_with fail
 go_loopg [8] n (fun kx s8 wr=>∃k:Nat,s8=.int .i64 k/\k<=n/\n - k<=kx/\Hid (Below w.heap.size w wr/\∀(i:Nat) (x:ByteArray),i<k->l[i]?=some x->x ∉ lfs G.rs))
 case atStart=>exact⟨0,rfl,Nat.zero_le _,by omega,(⟨Below.refl _ _,fun i y p=>absurd p (Nat.not_lt_zero _)⟩:Below w.heap.size w w/\∀(i:Nat) (x:ByteArray),i<0->l[i]?=some x->x ∉ lfs G.rs)⟩
 case round =>
  obtain⟨k,rfl,R,Q,J⟩:=hrel
  by_cases D:k<n
  ·have r:(k:Int)<(n:Int):=by omega
   obtain⟨x,a⟩:∃x,l[k]?=some x:=⟨l[k]'(by rw[s.out];exact D),List.getElem?_eq_getElem _⟩
   obtain⟨b,o,v,c0⟩:=jm (I.out.below J.out.1) a;subst v;have K:Hid (l[k]?=some x):=a;clear a
   by_cases j:x∈lfs G.rs
   ·have c:Hid (Calls Tryz.prog 98 #[.string x,.pointer (some ⟨g,0,none⟩)] wr fun e f=>e=.returned (.bool true)/\Below wr.heap.size wr f):=H.out wr x true J.out.1 ⟨fun _=>j,fun _=>rfl⟩
    have m:Hid (∃x∈l,x∈lfs G.rs):=⟨x,List.mem_of_getElem? K.out,j⟩
    clear j;go_wp2_with(go_at_call 98;refine c.out.mono ?_;rintro e w1 ⟨rfl,u⟩)
    go_ret;exact⟨(k:Int),rfl,⟨fun _=>m.out,fun _=>by omega⟩,qd J.out.1 u⟩
   ·have c:Hid (Calls Tryz.prog 98 #[.string x,.pointer (some ⟨g,0,none⟩)] wr fun e f=>e=.returned (.bool false)/\Below wr.heap.size wr f):=H.out wr x false J.out.1 ⟨(fun e=>by cases e),fun e=>absurd e j⟩
    have m:Hid (∀(i:Nat) (x:ByteArray),i<k+1->l[i]?=some x->x ∉ lfs G.rs):=fun i q p E=>by
     rcases Nat.lt_or_ge i k with h | h
     ·exact J.out.2 i q h E
     ·have:i=k:=by omega
      subst this;rw[K.out]at E
      cases E
      exact j
    clear j;go_wp2_with(go_at_call 98;refine c.out.mono ?_;rintro e w1 ⟨rfl,u⟩)
    go_roundg (n - (k+1))
    case measure=>omega
    case rel=>exact⟨k+1,by simp,by omega,Nat.le_refl _,(⟨qd J.out.1 u,m.out⟩:Below w.heap.size w w1/\∀(i:Nat) (x:ByteArray),i<k+1->l[i]?=some x->x ∉ lfs G.rs)⟩
  ·have r:¬(k:Int)<(n:Int):=by omega
   have m:Hid (¬∃x∈l,x∈lfs G.rs):=by
    rintro⟨x,a,O⟩;obtain⟨i,p⟩:=List.getElem?_of_mem a;exact J.out.2 i x (by have:=(List.getElem?_eq_some_iff.1 p).1;rw[s.out]at this;omega) p O
   go_wp2_with fail;go_ret;exact⟨-1,rfl,⟨fun h=>by omega,fun h=>absurd h m.out⟩,J.out.1⟩
theorem qho(G:Gm)(S:Sp)(t:Of0 G S)(i:G.rs.length<=200)(h:SHd)(w:World)(f:Nat)(v:w.heap[f]?=some (.cells (sC h S) 31 (0,0)))(u:Row w 1 h.na S.nm.length h.nc (strC S.nm))(l:List ByteArray)(d:Option Addr)(n a:Nat)(y:l.length=n)(s:Row w 1 d n a (strC l))(g:n<=1000)(b:Bool)(r:b=true↔∃x∈l,x∈lfs G.rs):
  Calls Tryz.prog 96 #[.slice d n a,.func (.func 98) #[] #[.pointer (some ⟨f,0,none⟩)]] w fun e j=>e=.returned (.bool b)/\Below w.heap.size w j:=by
 subst y;have m:Hid (Calls Tryz.prog 107 #[.slice d l.length a,.func (.func 98) #[] #[.pointer (some ⟨f,0,none⟩)]] w fun e j=>∃z:Int,e=.returned (.int .i64 z)/\(0<=z↔∃x∈l,x∈lfs G.rs)/\Below w.heap.size w j):=qfv G S t i h w f v u l d a s g;have k:Hid (b=true↔∃x∈l,x∈lfs G.rs):=r;clear u r v s t;go_enter Tryz.func96,Tryz.ntmps96;go_wp2_with fail;refine m.out.mono ?_;rintro e w1 ⟨z,rfl,c,q⟩;have o:Hid (b=true↔0<=z):=k.out.trans c.symm;have p:Hid (Below w.heap.size w w1):=q;clear c q k m
 cases b
 ·have c:¬0<=z:=fun h=>by have:=o.out.2 h;cases this
  go_wp2_with fail;go_ret;exact⟨by simp[c],p.out⟩
 ·have c:0<=z:=o.out.1 rfl;go_wp2_with fail;go_ret;exact⟨by simp,p.out⟩
def NmR (G:Gm) (r:Ru):Prop:=(r.p=e0\/r.p∈tkG G)/\∀x∈r.r,x∈tkG G\/x∈lfs G.rs
theorem ql9{G:Gm}:NmP G↔(G.rs≠[]/\(¬∃x∈tkG G,x∈lfs G.rs)/\(∀r∈G.rs,NmR G r)/\kc G∈lfs G.rs):=by
 constructor
 ·intro h;refine⟨h.ne,?_,fun r a=>⟨h.pr r a,h.rr r a⟩,h.st⟩;rintro⟨x,f,b⟩;unfold tkG at f;obtain⟨t,c,rfl⟩:=List.mem_map.1 f;exact h.tk t c b
 ·rintro⟨g,i,d,j⟩;exact⟨g,fun t c b=>i ⟨t.n,by unfold tkG;exact List.mem_map.2 ⟨t,c,rfl⟩,b⟩,fun r a=>(d r a).1,fun r a=>(d r a).2,j⟩
theorem qss{G:Gm}(a:MayP G){r:Ru}(b:r∈G.rs){x:ByteArray}(c:x∈r.r):x∈nmG G↔(x∈tkG G\/x∈lfs G.rs):=by
 constructor
 ·intro h;unfold nmG at h
  rcases List.mem_append.1 h with h | h
  ·exact .inl h
  ·rcases List.mem_cons.1 h with h | h
   ·exact absurd h (qrl a b c)
   ·exact .inr h
 ·exact qbt
theorem qli(G:Gm)(hd:Hd)(S:Sp)(h:SHd)(w:World)(hG:IsG w hd G)(F:IsSp w h S)(ho:Of0 G S)(hm:MayP G)(b:Bool)(hb:b=true↔NmP G):
  Calls Tryz.prog 83 #[gv hd G,.agg (sC h S)] w fun e v=>e=.returned (.bool b)/\Below w.heap.size w v:=by
 have g7:G.ts.length<=100:=hG.small.nt;have f1:G.rs.length<=200:=hG.small.nr;have d8:=kj hG.rul
 obtain⟨m,T⟩:∃m,(lfs G.rs).length=m:=⟨_,rfl⟩
 have h5:m<=200:=by have:=j9 G.rs;omega
 have h6:S.nm.length<=400:=by rw[ho.nm,jj];have:=j9 G.rs;omega
 have HP:Hid (b=true↔(G.rs≠[]/\(¬∃x∈tkG G,x∈lfs G.rs)/\(∀r∈G.rs,NmR G r)/\kc G∈lfs G.rs)):=hb.trans ql9
 have HG:Hid (IsG w hd G/\IsSp w h S/\Of0 G S/\MayP G):=⟨hG,F,ho,hm⟩
 have a8:Hid (∀V:World,Below w.heap.size w V->Calls Tryz.prog 97 #[.agg (sC h S)] V fun e v=>e=.returned (.slice h.na S.tk h.nc)/\Row v 1 h.na S.tk h.nc (strC (tkG G))/\Below V.heap.size V v):=fun V A=>qm7 ho h V (F.below A).nm
 have b6:Hid (∀V:World,Below w.heap.size w V->Calls Tryz.prog 93 #[.agg (sC h S)] V fun e v=>∃ao c,e=.returned (.slice ao m c)/\Row v 1 ao m c (strC (lfs G.rs))/\Below V.heap.size V v):=fun V A=>qh9 ho h V (F.below A).nm m T
 have Q:Hid (∀V:World,Below w.heap.size w V->G.rs≠[]->Calls Tryz.prog 85 #[gv hd G] V fun e v=>e=.returned (.string (kc G))/\Below V.heap.size V v):=fun V A g5=>qdw G hd V (hG.below A) g5
 obtain⟨bt,a9⟩:=zr (∃x∈tkG G,x∈lfs G.rs);have a6:Hid (bt=true↔∃x∈tkG G,x∈lfs G.rs):=a9
 have X:(tkG G).length=S.tk:=by rw[ho.tk];unfold tkG;simp
 have a5:Hid (∀(V:World) (C:Nat),Below w.heap.size w V->V.heap[C]?=some (.cells (sC h S) 31 (0,0))->Row V 1 h.na S.tk h.nc (strC (tkG G))->Calls Tryz.prog 96 #[.slice h.na S.tk h.nc,.func (.func 98) #[] #[.pointer (some ⟨C,0,none⟩)]] V fun e v=>e=.returned (.bool bt)/\Below V.heap.size V v):=fun V C A hx a=>qho G S ho f1 h V C hx (F.below A).nm (tkG G) h.na S.tk h.nc X a (by rw[ho.tk];omega) bt a9
 have f6:Hid (∀(V:World) (x:ByteArray) (g:Bool),Row V 1 h.na S.tk h.nc (strC (tkG G))->(g=true↔x∈tkG G)->Calls Tryz.prog 92 #[.slice h.na S.tk h.nc,.string x] V fun e v=>e=.returned (.bool g)/\v=V):=fun V x g a d=>by
  have:=yu (tkG G) h.na h.nc x V (by rw[X];exact a) (by rw[X,ho.tk];omega) g d
  rw[X]at this;exact this
 have f5:Hid (∀(V:World) (x:ByteArray) (g:Bool),Below w.heap.size w V->(g=true↔x∈nmG G)->Calls Tryz.prog 92 #[.slice h.na S.nm.length h.nc,.string x] V fun e v=>e=.returned (.bool g)/\v=V):=fun V x g A d=>yu S.nm h.na h.nc x V (F.below A).nm (by omega) g (by rw[ho.nm];exact d)
 have f4:Hid (∀(V:World) (ao:Option Addr) (c:Nat) (x:ByteArray) (g:Bool),Row V 1 ao m c (strC (lfs G.rs))->(g=true↔x∈lfs G.rs)->Calls Tryz.prog 92 #[.slice ao m c,.string x] V fun e v=>e=.returned (.bool g)/\v=V):=fun V ao c x g a d=>by
  have:=yu (lfs G.rs) ao c x V (by rw[T];exact a) (by rw[T];omega) g d
  rw[T]at this;exact this
 have h7:=ze F.nm;obtain⟨ta,tc,ra,rc⟩:=hd;simp only at d8;clear hG F ho hm hb a9 X T;unfold gv at Q ⊢;simp only at Q ⊢;have hB:Below w.heap.size w ((w.alloc (.cells #[.slice ta G.ts.length tc,.string G.s,.int .i64 G.e,.slice ra G.rs.length rc] 25)).alloc (.cells (sC h S) 31)):=qd (qb _ _) (qb _ _);have n:((w.alloc (.cells #[.slice ta G.ts.length tc,.string G.s,.int .i64 G.e,.slice ra G.rs.length rc] 25)).alloc (.cells (sC h S) 31)).heap[w.heap.size]?=some (.cells #[.slice ta G.ts.length tc,.string G.s,.int .i64 G.e,.slice ra G.rs.length rc] 25 (0,0)):=qf (qb _ _) (heap_alloc_new _ _)
 have E:((w.alloc (.cells #[.slice ta G.ts.length tc,.string G.s,.int .i64 G.e,.slice ra G.rs.length rc] 25)).alloc (.cells (sC h S) 31)).heap[w.heap.size+1]?=some (.cells (sC h S) 31 (0,0)):=by
  have:=heap_alloc_new (w.alloc (.cells #[.slice ta G.ts.length tc,.string G.s,.int .i64 G.e,.slice ra G.rs.length rc] 25)) (.cells (sC h S) 31)
  rwa [qt]at this
 obtain⟨B,P⟩:∃B,Hid (G.rs.length=B):=⟨_,rfl⟩
 obtain⟨tn,f9⟩:∃tn,Hid (G.ts.length=tn):=⟨_,rfl⟩
 rw[P.out]at f1 d8 hB n E Q ⊢;rw[f9.out]at g7 hB n E Q ⊢
 obtain⟨s3,b1⟩:∃s3,sC h S=s3:=⟨_,rfl⟩
 have a4:=b1;unfold sC at a4;subst a4;rw[b1]at a8 b6 a5 hB n E ⊢;clear b1;go_enter Tryz.func83,Tryz.ntmps83
 go_upto_region 1 with fail
 generalize (w.alloc (.cells #[.slice ta tn tc,.string G.s,.int .i64 G.e,.slice ra B rc] 25)).alloc (.cells #[.int .i64 (S.tk:Int),.int .i64 (S.nt:Int),.int .i64 (S.st:Int),.int .i64 S.ex,.slice h.na S.nm.length h.nc,.slice h.la S.lv.length h.lc,.slice h.aa S.az.length h.ac,.slice h.ra S.rs.length h.rc] 31)=f at hB n E ⊢
 obtain⟨Z,b4⟩:∃Z,Hid (Z=w.heap.size):=⟨_,rfl⟩
 rw[<-b4.out]at n E ⊢
 generalize Z+1=C at *
 have t:Hid (∀V:World,Below f.heap.size f V->Below w.heap.size w V/\V.heap[Z]?=some (.cells #[.slice ta tn tc,.string G.s,.int .i64 G.e,.slice ra B rc] 25 (0,0))/\V.heap[C]?=some (.cells #[.int .i64 (S.tk:Int),.int .i64 (S.nt:Int),.int .i64 (S.st:Int),.int .i64 S.ex,.slice h.na S.nm.length h.nc,.slice h.la S.lv.length h.lc,.slice h.aa S.az.length h.ac,.slice h.ra S.rs.length h.rc] 31 (0,0))):=fun V A=>⟨qd hB A,qf A n,qf A E⟩
 have CC:Hid (∀V:World,Below f.heap.size f V->V.cell? ⟨C,0,none⟩=some (.int .i64 (S.tk:Int))/\V.cell? ⟨C,1,none⟩=some (.int .i64 (S.nt:Int))/\V.cell? ⟨C,2,none⟩=some (.int .i64 (S.st:Int))/\V.cell? ⟨C,3,none⟩=some (.int .i64 S.ex)/\V.cell? ⟨C,4,none⟩=some (.slice h.na S.nm.length h.nc)/\V.cell? ⟨C,5,none⟩=some (.slice h.la S.lv.length h.lc)/\V.cell? ⟨C,6,none⟩=some (.slice h.aa S.az.length h.ac)/\V.cell? ⟨C,7,none⟩=some (.slice h.ra S.rs.length h.rc)):=fun V A=>sbox (t.out V A).2.2
 have p3:f.cell? ⟨Z,3,none⟩=some (.slice ra B rc):=by rw[qe n];rfl
 clear hB n E b4
 by_cases U:B=0
 ·have z:Hid (b=false):=by
   cases b
   ·rfl
   ·exact absurd (List.eq_nil_of_length_eq_zero (by rw[P.out];exact U)) (HP.out.1 rfl).1
  have d9:((B:Int) == 0)=true:=by simp;exact U
  clear U;go_wp2_with fail;go_ret;exact⟨by rw[z.out];rfl,(t.out _ (Below.refl _ _)).1⟩
 have d9:((B:Int) == 0)=false:=by simp;exact U
 have b8:Hid (G.rs≠[]):=fun e=>U (by rw[<-P.out,e];rfl)
 obtain⟨c0,c1,c2,c3,c4,c5,c6,c7⟩:=CC.out f (Below.refl _ _);go_wp2_with fail;refine(a8.out _ (t.out _ (Below.refl _ _)).1).mono ?_;rintro e V1 ⟨rfl,a,c9⟩
 have R:Hid (Below f.heap.size f V1/\Row V1 1 h.na S.tk h.nc (strC (tkG G))):=⟨c9,a⟩
 clear c9 a c0 c1 c2 c3 c4 c5 c6 c7 p3;go_wp2_with fail;refine(a5.out _ C (t.out _ R.out.1).1 (t.out _ R.out.1).2.2 R.out.2).mono ?_;rintro e V2 ⟨rfl,d3⟩;have a2:Hid (Below f.heap.size f V2):=qd R.out.1 d3;clear d3 R a5
 cases bt
 rotate_left
 ·have z:Hid (b=false):=by
   cases b
   ·rfl
   ·exact absurd (a6.out.1 rfl) (HP.out.1 rfl).2.1
  go_wp2_with fail;go_ret;exact⟨by rw[z.out];rfl,(t.out _ a2.out).1⟩
 have f7:Hid (¬∃x∈tkG G,x∈lfs G.rs):=fun e=>by have:=a6.out.2 e;cases this
 have p3:V2.cell? ⟨Z,3,none⟩=some (.slice ra B rc):=by rw[qe (t.out _ a2.out).2.1];rfl
 clear a6;go_wp2_with fail;clear p3
 go_loopg [22] B (fun kx s22 wr=>∃k:Nat,s22=.int .i64 k/\k<=B/\B - k<=kx/\Hid (Below f.heap.size f wr/\∀(i:Nat) (r:Ru),i<k->G.rs[i]?=some r->NmR G r))
 case atStart=>exact⟨0,rfl,Nat.zero_le _,by omega,(⟨a2.out,fun i r hi=>absurd hi (Nat.not_lt_zero _)⟩:Below f.heap.size f V2/\∀(i:Nat) (r:Ru),i<0->G.rs[i]?=some r->NmR G r)⟩
 case round =>
  clear a2;obtain⟨k,rfl,hk,hg,J⟩:=hrel
  by_cases g4:k<B
  ·have d6:(k:Int)<(B:Int):=by omega
   obtain⟨r,hr⟩:∃r,G.rs[k]?=some r:=⟨G.rs[k]'(by rw[P.out];exact g4),List.getElem?_eq_getElem _⟩
   obtain⟨bb,o,ya,yc,f0,d0,d1,d2,a⟩:=(HG.out.1.rul.below (t.out _ J.out.1).1).at hr;simp only at f0;subst f0;have g6:r.r.length<=20:=(HG.out.2.2.2.rl r (List.mem_of_getElem? hr)).2.1;have h0:=ze a;have hv:Below wr.heap.size wr (wr.alloc (.cells #[.string r.l,.slice ya r.r.length yc,.string r.p] 55)):=qb _ _
   have N:Hid (Below f.heap.size f (wr.alloc (.cells #[.string r.l,.slice ya r.r.length yc,.string r.p] 55))/\(wr.alloc (.cells #[.string r.l,.slice ya r.r.length yc,.string r.p] 55)).heap[wr.heap.size]?=some (.cells #[.string r.l,.slice ya r.r.length yc,.string r.p] 55 (0,0))/\Row (wr.alloc (.cells #[.string r.l,.slice ya r.r.length yc,.string r.p] 55)) 1 ya r.r.length yc (strC r.r)/\G.rs[k]?=some r/\∀(i:Nat) (r:Ru),i<k->G.rs[i]?=some r->NmR G r):=⟨qd J.out.1 hv,heap_alloc_new _ _,a.below hv,hr,J.out.2⟩
   clear J hr hv a
   obtain⟨O,a7⟩:∃O,Hid (r.r.length=O):=⟨_,rfl⟩
   rw[a7.out]at N d1 g6 h0
   go_upto_region 6 with fail
   obtain⟨b7,b5⟩:∃b7,Hid (b7=wr.heap.size):=⟨_,rfl⟩
   rw[<-b5.out]at N ⊢;generalize wr.alloc (.cells #[.string r.l,.slice ya O yc,.string r.p] 55)=V at N ⊢;clear b5 d0 d1 d2;obtain⟨bp,d5⟩:=zr (¬(r.p=e0\/r.p∈tkG G));have H:Hid (bp=true↔¬(r.p=e0\/r.p∈tkG G)):=d5;clear d5
   have q2:V.cell? ⟨b7,2,none⟩=some (.string r.p):=by rw[qe N.out.2.1];rfl
   obtain⟨c0,c1,c2,c3,c4,c5,c6,c7⟩:=CC.out V N.out.1
   go_cut [22,36] from 22 to 50 (fun s22 s36 wd=>s22=.int .i64 (k:Int)/\s36=.bool bp/\Hid (Below V.heap.size V wd))
   case first =>
    by_cases hp:r.p=e0
    ·have n:=(zo r.p).2 hp;have z:Hid (bp=false):=zb H.out (fun h=>h (.inl hp))
     have HD:Hid (∀q,Below V.heap.size V (V.drewN q)):=fun q=>yh (Below.refl _ _) q
     have mx:=qay;clear hp;go_quiet (fail);go_wp2_with fail;go_meet;exact⟨rfl,by rw[z.out],HD.out _⟩
    ·have n:(r.p.toList == [])=false:=by
      cases hq:(r.p.toList == [])
      ·rfl
      ·exact absurd ((zo r.p).1 hq) hp
     obtain⟨g,d⟩:=zr (r.p∈tkG G);have a0:Hid (g=true↔r.p∈tkG G):=d
     have z:Hid (bp=!g):=by
      show _=_
      cases g
      ·exact H.out.2 (fun e=>by rcases e with e | e;exact hp e;have:=d.2 e;cases this)
      ·exact zb H.out (fun e=>e (.inr (d.1 rfl)))
     clear hp d
     go_region_with(first | (go_at_call 97;refine(a8.out _ (t.out _ (qd N.out.1 (qk _))).1).mono ?_;rintro e V1 ⟨rfl,a,hB⟩;have z2:V1.cell? ⟨b7,2,none⟩=some (.string r.p):=qj hB q2) | (go_at_call 92;refine(f6.out _ r.p g a a0.out).mono ?_;rintro e V2 ⟨rfl,rfl⟩))
     all_goals
      have Y:Hid (Below V.heap.size V _):=qd (qk V) hB;clear hB a z2;go_wp2_with fail;go_meet;exact⟨rfl,by rw[z.out],Y⟩
   case rest =>
    obtain⟨rfl,rfl,Y⟩:=hcut
    obtain⟨V3,h2⟩:∃V3,V3=wc:=⟨_,rfl⟩
    subst wc;clear c0 c1 c2 c3 c4 c5 c6 c7 q2
    have I:Hid (Below f.heap.size f V3/\Row V3 1 ya O yc (strC r.r)):=⟨qd N.out.1 Y.out,N.out.2.2.1.below Y.out⟩
    cases bp
    rotate_left
    ·have z:Hid (b=false):=by
      cases b
      ·rfl
      ·exact absurd ((HP.out.1 rfl).2.2.1 r (List.mem_of_getElem? N.out.2.2.2.1)).1 (H.out.1 rfl)
     go_wp2_with fail;go_ret;exact⟨by rw[z.out];rfl,(t.out _ I.out.1).1⟩
    have f8:Hid (r.p=e0\/r.p∈tkG G):=by
     rcases Classical.em (r.p=e0\/r.p∈tkG G) with e | e
     ·exact e
     ·have:=H.out.2 e;cases this
    have q1:V3.cell? ⟨b7,1,none⟩=some (.slice ya O yc):=by rw[qe (qf Y.out N.out.2.1)];rfl
    have a1:Hid (G.rs[k]?=some r/\∀(i:Nat) (r:Ru),i<k->G.rs[i]?=some r->NmR G r):=N.out.2.2.2;clear H Y N;go_wp2_with fail;clear q1
    go_loopg [40] O (fun kx s40 wr=>∃u:Nat,s40=.int .i64 u/\u<=O/\O - u<=kx/\Hid (wr=V3/\∀(i:Nat) (x:ByteArray),i<u->r.r[i]?=some x->x∈tkG G\/x∈lfs G.rs))
    case atStart=>exact⟨0,rfl,Nat.zero_le _,by omega,(⟨rfl,fun i x hi=>absurd hi (Nat.not_lt_zero _)⟩:V3=V3/\∀(i:Nat) (x:ByteArray),i<0->r.r[i]?=some x->x∈tkG G\/x∈lfs G.rs)⟩
    case round =>
     obtain⟨u,rfl,h4,h3,K⟩:=hrel;obtain⟨g8,hK⟩:=K.out;subst g8;have HK:Hid (∀(i:Nat) (x:ByteArray),i<u->r.r[i]?=some x->x∈tkG G\/x∈lfs G.rs):=hK;clear K hK
     by_cases d7:u<O
     ·have b0:(u:Int)<(O:Int):=by omega
      obtain⟨x,hx⟩:∃x,r.r[u]?=some x:=⟨r.r[u]'(by rw[a7.out];exact d7),List.getElem?_eq_getElem _⟩
      obtain⟨b9,o9,g9,q0⟩:=jm I.out.2 hx;subst g9;obtain⟨-,-,-,-,c4,-,-,-⟩:=CC.out wr I.out.1;obtain⟨g,d⟩:=zr (x∈nmG G);have a0:Hid (g=true↔(x∈tkG G\/x∈lfs G.rs)):=d.trans (qss HG.out.2.2.2 (List.mem_of_getElem? a1.out.1) (List.mem_of_getElem? hx));have f3:Hid (Calls Tryz.prog 92 #[.slice h.na S.nm.length h.nc,.string x] wr fun e v=>e=.returned (.bool g)/\v=wr):=f5.out wr x g (t.out _ I.out.1).1 d;have c8:Hid (r.r[u]?=some x):=hx;clear d hx;go_wp2_with fail;refine f3.out.mono ?_;rintro e V4 ⟨rfl,rfl⟩
      cases g
      ·have z:Hid (b=false):=by
        cases b
        ·rfl
        ·have:=a0.out.2 (((HP.out.1 rfl).2.2.1 r (List.mem_of_getElem? a1.out.1)).2 x (List.mem_of_getElem? c8.out))
         cases this
       go_wp2_with fail;go_ret;exact⟨by rw[z.out];rfl,(t.out _ I.out.1).1⟩
      ·have z:Hid (∀(i:Nat) (x:ByteArray),i<u+1->r.r[i]?=some x->x∈tkG G\/x∈lfs G.rs):=fun i y hi hy=>by
        rcases Nat.lt_or_ge i u with h1 | h1
        ·exact HK.out i y h1 hy
        ·have:i=u:=by omega
         subst this;rw[c8.out]at hy
         cases hy
         exact a0.out.1 rfl
       go_wp2_with fail;go_roundg (O - (u+1))
       case measure=>omega
       case rel=>exact⟨u+1,by simp,by omega,Nat.le_refl _,(⟨rfl,z.out⟩:V4=V4/\∀(i:Nat) (x:ByteArray),i<u+1->r.r[i]?=some x->x∈tkG G\/x∈lfs G.rs)⟩
     ·have b0:¬(u:Int)<(O:Int):=by omega
      have z:Hid (Below f.heap.size f wr/\∀(i:Nat) (r:Ru),i<k+1->G.rs[i]?=some r->NmR G r):=by
       refine⟨I.out.1,fun i q hi hq=>?_⟩
       rcases Nat.lt_or_ge i k with h1 | h1
       ·exact a1.out.2 i q h1 hq
       ·have:i=k:=by omega
        subst this;rw[a1.out.1]at hq
        cases hq
        refine⟨f8.out,fun x hx=>?_⟩;obtain⟨j,hj⟩:=List.getElem?_of_mem hx;exact HK.out j x (by have:=(List.getElem?_eq_some_iff.1 hj).1;rw[a7.out]at this;omega) hj
      go_wp2_with fail;go_roundg (B - (k+1))
      case measure=>omega
      case rel=>exact⟨k+1,by simp,by omega,Nat.le_refl _,z⟩
  ·have d6:¬(k:Int)<(B:Int):=by omega
   obtain⟨bs,a3⟩:=zr (kc G∈lfs G.rs);have f2:Hid (bs=true↔kc G∈lfs G.rs):=a3
   have z:Hid (b=bs):=by
    have d4:∀r∈G.rs,NmR G r:=fun r hr=>by
     obtain⟨i,hi⟩:=List.getElem?_of_mem hr;exact J.out.2 i r (by have:=(List.getElem?_eq_some_iff.1 hi).1;rw[P.out]at this;omega) hi
    cases bs
    ·exact zb HP.out (fun e=>by have:=a3.2 e.2.2.2;cases this)
    ·exact HP.out.2 ⟨b8.out,f7.out,d4,a3.1 rfl⟩
   have M:Hid (Below f.heap.size f wr):=J.out.1;clear J a3 HP
   have GC:Hid (∀V:World,Below f.heap.size f V->V.cell? ⟨Z,0,none⟩=some (.slice ta tn tc)/\V.cell? ⟨Z,1,none⟩=some (.string G.s)/\V.cell? ⟨Z,2,none⟩=some (.int .i64 G.e)/\V.cell? ⟨Z,3,none⟩=some (.slice ra B rc)):=fun V A=>by
    obtain⟨z0,z1,z2,z3,-⟩:=qdk (t.out V A).2.1;exact⟨z0,z1,z2,z3⟩
   obtain⟨c0,c1,c2,c3,c4,c5,c6,c7⟩:=CC.out wr M.out;obtain⟨g0,g1,g2,g3⟩:=GC.out wr M.out
   go_upto_region 15 with fail
   go_region_with(first
    | (go_at_call 93;refine(b6.out _ (by first | exact(t.out _ (qd M.out (qk _))).1 | exact(t.out _ (qd (qd M.out (qk _)) D)).1)).mono ?_;rintro e VL ⟨ao,c,rfl,a,L⟩;obtain⟨k0,k1,u,k3⟩:=GC.out VL (by first | exact qd (qd M.out (qk _)) L | exact qd (qd (qd M.out (qk _)) D) L))
    | (go_at_call 85;refine(Q.out _ (by first | exact(t.out _ (qd M.out (qk _))).1 | exact(t.out _ (qd (qd M.out (qk _)) L)).1) b8.out).mono ?_;rintro e VS ⟨rfl,D⟩;obtain⟨y0,y1,y2,y3,y4,y5,y6,y7⟩:=CC.out VS (by first | exact qd (qd M.out (qk _)) D | exact qd (qd (qd M.out (qk _)) L) D))
    | (go_at_call 92;refine(f4.out _ ao c (kc G) bs (by first | exact a | exact a.below D) f2.out).mono ?_;rintro e V9 ⟨rfl,rfl⟩))
   all_goals first
    | (have Y:Hid (Below w.heap.size w _):=(t.out _ (qd (qd (qd M.out (qk _)) L) D)).1
       go_wp2_with fail;go_ret
       exact⟨by rw[z.out];rfl,Y.out⟩)
    | (have Y:Hid (Below w.heap.size w _):=(t.out _ (qd (qd (qd M.out (qk _)) D) L)).1
       go_wp2_with fail;go_ret
       exact⟨by rw[z.out];rfl,Y.out⟩)
theorem qc3{w:World}{a b n x:Nat}{fd:List Bool}(h:w.ownsRow a 4 1 (.slice (some ⟨b,0,none⟩) n n) n (booC fd))(c:fd.length=n)(d:x<n):w.cell? ⟨b,x,none⟩=some (.bool (isF fd x)):=by
 rw[h.cellAt x (by omega)];unfold booC;rw[List.getElem?_map,vm (by omega)];rfl
theorem qav{P:Nat->Prop}{fd:List Bool}(h:ko P fd){x:Nat}(a:x<fd.length):isF fd x=true↔P x:=h x (isF fd x) (vm a)
theorem qi4(w:World)(h:SHd)(S:Sp)(j:WF S)(v:IsSp w h S)(b:Bool)(hb:b=true↔yd S):Calls Tryz.prog 87 #[sv h S] w fun e N=>e=.returned (.bool b)/\Below w.heap.size w N:=by
 obtain⟨n,p⟩:∃n,n=S.tk+1+S.nt:=⟨_,rfl⟩
 have hn:n<=1000:=by have:=j.tk;have:=j.nt;omega
 have s:Hid (∀V:World,Below w.heap.size w V->Calls Tryz.prog 61 #[.agg (sC h S)] V fun e N=>BRes V N n (Der S) e):=fun V K=>qb6 V h S n p j (v.below K)
 have r:Hid (∀V:World,Below w.heap.size w V->Calls Tryz.prog 43 #[.agg (sC h S)] V fun e N=>BRes V N n (Rch S) e):=fun V K=>qiz V h S n p j (v.below K)
 have HP:Hid (b=true↔yd S):=hb;have z:Below w.heap.size w (w.alloc (.cells (sC h S) 31)):=qb _ _;have q:(w.alloc (.cells (sC h S) 31)).heap[w.heap.size]?=some (.cells (sC h S) 31 (0,0)):=heap_alloc_new _ _
 have u:S.nm.length=n:=by rw[p];exact j.nm
 have a3:S.tk<=100:=j.tk;have a0:=ze v.nm;rw[u]at a0;have HN:Hid (n=S.tk+1+S.nt):=p;clear j v hb p;unfold sv sC;unfold sC at s r;rw[u]at s r ⊢;go_enter Tryz.func87,Tryz.ntmps87
 go_upto_region 1 with fail
 have e0:w.alloc (.cells #[.int .i64 (S.tk:Int),.int .i64 (S.nt:Int),.int .i64 (S.st:Int),.int .i64 S.ex,.slice h.na n h.nc,.slice h.la S.lv.length h.lc,.slice h.aa S.az.length h.ac,.slice h.ra S.rs.length h.rc] 31)=w.alloc (.cells (sC h S) 31):=by unfold sC;rw[u]
 rw[e0];generalize w.alloc (.cells (sC h S) 31)=W0 at z q ⊢
 obtain⟨i,D⟩:∃i,Hid (i=w.heap.size):=⟨_,rfl⟩
 rw[<-D.out]at q ⊢
 have a:Hid (Below w.heap.size w W0/\W0.heap[i]?=some (.cells (sC h S) 31 (0,0))):=⟨z,q⟩
 have C:Hid (∀V:World,V.heap[i]?=some (.cells (sC h S) 31 (0,0))->V.cell? ⟨i,0,none⟩=some (.int .i64 (S.tk:Int))/\V.cell? ⟨i,1,none⟩=some (.int .i64 (S.nt:Int))/\V.cell? ⟨i,2,none⟩=some (.int .i64 (S.st:Int))/\V.cell? ⟨i,3,none⟩=some (.int .i64 S.ex)/\V.cell? ⟨i,4,none⟩=some (.slice h.na n h.nc)/\V.cell? ⟨i,5,none⟩=some (.slice h.la S.lv.length h.lc)/\V.cell? ⟨i,6,none⟩=some (.slice h.aa S.az.length h.ac)/\V.cell? ⟨i,7,none⟩=some (.slice h.ra S.rs.length h.rc)):=fun V K=>by
  have:=sbox K;rw[u]at this;exact this
 obtain⟨c0,c1,c2,c3,c4,c5,c6,c7⟩:=C.out W0 q;clear e0 z q D
 go_cut [3,4] (fun s3 s4 wd=>∃O P:Nat,s3=.slice (some ⟨O,0,none⟩) n n/\s4=.slice (some ⟨P,0,none⟩) n n/\Hid (∃f g:List Bool,f.length=n/\g.length=n/\ko (Der S) f/\ko (Rch S) g/\wd.ownsRow 0 4 1 (.slice (some ⟨O,0,none⟩) n n) n (booC f)/\wd.ownsRow 0 4 1 (.slice (some ⟨P,0,none⟩) n n) n (booC g)/\Below w.heap.size w wd/\wd.heap[i]?=some (.cells (sC h S) 31 (0,0))))
 case first =>
  go_region_with(first
   | (go_at_call 61;refine(s.out _ (by first | exact qd a.out.1 (qk _) | exact qd (qd a.out.1 (qk _)) c)).mono ?_;rintro e H ⟨R,dy,rfl,X,Y,ty,d⟩;obtain⟨y0,y1,y2,y3,y4,y5,y6,y7⟩:=C.out H (qf d (by first | exact a.out.2 | exact qf c a.out.2)))
   | (go_at_call 43;refine(r.out _ (by first | exact qd a.out.1 (qk _) | exact qd (qd a.out.1 (qk _)) d)).mono ?_;rintro e G ⟨Q,dr,rfl,U,or_,Z,c⟩;obtain⟨x0,A,B,x3,x4,x5,x6,x7⟩:=C.out G (qf c (by first | exact a.out.2 | exact qf d a.out.2))))
  all_goals first
   | (have l:Hid (∃f g:List Bool,f.length=n/\g.length=n/\ko (Der S) f/\ko (Rch S) g/\G.ownsRow 0 4 1 (.slice (some ⟨R,0,none⟩) n n) n (booC f)/\G.ownsRow 0 4 1 (.slice (some ⟨Q,0,none⟩) n n) n (booC g)/\Below w.heap.size w G/\G.heap[i]?=some (.cells (sC h S) 31 (0,0))):=⟨dy,dr,X,U,ty,Z,zw (zd Y (Nat.zero_le _)) c,zd or_ (Nat.zero_le _),qd (qd (qd a.out.1 (qk _)) d) c,qf c (qf d a.out.2)⟩
      clear y0 y1 y2 y3 y4 y5 y6 y7 x0 A B x3 x4 x5 x6 x7 Y or_ X U ty Z d c;go_wp2_with fail;go_meet
      exact⟨R,Q,rfl,rfl,l⟩)
   | (have l:Hid (∃f g:List Bool,f.length=n/\g.length=n/\ko (Der S) f/\ko (Rch S) g/\H.ownsRow 0 4 1 (.slice (some ⟨R,0,none⟩) n n) n (booC f)/\H.ownsRow 0 4 1 (.slice (some ⟨Q,0,none⟩) n n) n (booC g)/\Below w.heap.size w H/\H.heap[i]?=some (.cells (sC h S) 31 (0,0))):=⟨dy,dr,X,U,ty,Z,zd Y (Nat.zero_le _),zw (zd or_ (Nat.zero_le _)) d,qd (qd (qd a.out.1 (qk _)) c) d,qf d (qf c a.out.2)⟩
      clear y0 y1 y2 y3 y4 y5 y6 y7 x0 A B x3 x4 x5 x6 x7 Y or_ X U ty Z d c;go_wp2_with fail;go_meet
      exact⟨R,Q,rfl,rfl,l⟩)
 case rest =>
  obtain⟨O,P,rfl,rfl,J0⟩:=hcut
  obtain⟨w2,a4⟩:∃w2,w2=wc:=⟨_,rfl⟩
  subst wc;clear c0 c1 c2 c3 c4 c5 c6 c7 s r a;obtain⟨f,g,l1,l2,t1,t2,o1,o2,I,L⟩:=J0.out
  have m:Hid (f.length=n/\g.length=n/\ko (Der S) f/\ko (Rch S) g/\w2.ownsRow 0 4 1 (.slice (some ⟨O,0,none⟩) n n) n (booC f)/\w2.ownsRow 0 4 1 (.slice (some ⟨P,0,none⟩) n n) n (booC g)/\Below w.heap.size w w2):=⟨l1,l2,t1,t2,o1,o2,I⟩
  obtain⟨c0,-,-,-,c4,-,-,-⟩:=C.out w2 L;clear l1 l2 t1 t2 o1 o2 I L J0 C;go_wp2_with fail
  go_loopg [5] n (fun kx s5 wr=>∃k:Nat,s5=.int .i64 k/\S.tk+1<=k/\k<=n/\n - k<=kx/\Hid (wr=w2/\∀x,S.tk<x->x<k->Der S x/\Rch S x))
  case atStart=>exact⟨S.tk+1,by simp,Nat.le_refl _,by have:=HN.out;omega,by omega,(⟨rfl,fun x T h2=>by omega⟩:w2=w2/\∀x,S.tk<x->x<S.tk+1->Der S x/\Rch S x)⟩
  case round =>
   obtain⟨k,rfl,a2,hk,hg,J⟩:=hrel;obtain⟨a1,hJ⟩:=J.out;subst a1;have HK:Hid (∀x,S.tk<x->x<k->Der S x/\Rch S x):=hJ;clear J hJ
   by_cases t:k<n
   ·have M:(k:Int)<(n:Int):=by omega
    have q1:=qc3 m.out.2.2.2.2.1 m.out.1 t;have q2:=qc3 m.out.2.2.2.2.2.1 m.out.2.1 t
    obtain⟨A,E⟩:∃A,Hid (isF f k=A):=⟨_,rfl⟩
    obtain⟨B,F⟩:∃B,Hid (isF g k=B):=⟨_,rfl⟩
    rw[E.out]at q1;rw[F.out]at q2
    have T1:Hid (A=true↔Der S k):=by rw[<-E.out];exact qav m.out.2.2.1 (by rw[m.out.1];exact t)
    have T2:Hid (B=true↔Rch S k):=by rw[<-F.out];exact qav m.out.2.2.2.1 (by rw[m.out.2.1];exact t)
    have o:(¬Der S k\/¬Rch S k)->Hid (b=true):=fun e=>HP.out.2 ⟨k,by omega,by have:=HN.out;omega,e⟩
    cases A
    ·have l:=o (.inl (fun e=>by have:=T1.out.2 e;cases this))
     clear o;go_wp2_with fail;go_ret;exact⟨by rw[l.out];rfl,m.out.2.2.2.2.2.2⟩
    ·cases B
     ·have l:=o (.inr (fun e=>by have:=T2.out.2 e;cases this))
      clear o;go_wp2_with fail;go_ret;exact⟨by rw[l.out];rfl,m.out.2.2.2.2.2.2⟩
     ·have l:Hid (∀x,S.tk<x->x<k+1->Der S x/\Rch S x):=fun x T h2=>by
       rcases Nat.lt_or_ge x k with y | y
       ·exact HK.out x T y
       ·have:x=k:=by omega
        subst this;exact⟨T1.out.1 rfl,T2.out.1 rfl⟩
      clear o;go_wp2_with fail;go_roundg (n - (k+1))
      case measure=>omega
      case rel=>exact⟨k+1,by simp,by omega,by omega,Nat.le_refl _,(⟨rfl,l.out⟩:wr=wr/\∀x,S.tk<x->x<k+1->Der S x/\Rch S x)⟩
   ·have M:¬(k:Int)<(n:Int):=by omega
    have l:Hid (b=false):=by
     cases b
     ·rfl
     ·obtain⟨x,T,h2,y⟩:=HP.out.1 rfl;have h4:=HK.out x T (by have:=HN.out;omega)
      rcases y with y | y
      ·exact absurd h4.1 y
      ·exact absurd h4.2 y
    go_wp2_with fail;go_ret;exact⟨by rw[l.out];rfl,m.out.2.2.2.2.2.2⟩
structure OX (w W:World) (gb rb sb:Nat) (h:Hd) (G:Gm) (hh:SHd) (S:Sp) (qs:List (SR × Option Addr × Nat)):Prop where
 gx:W.heap[gb]?=some (.cells #[.slice h.ta G.ts.length h.tc,.string G.s,.int .i64 G.e,.slice h.ra G.rs.length h.rc] 25 (0,0))
 rx:W.heap[rb]?=some (.cells zC 31 (0,0))
 sx:W.heap[sb]?=some (.cells (sC hh S) 31 (0,0))
 own:OwnSp W w.heap.size hh S qs
 bel:Below w.heap.size w W
 ne:rb≠sb
 nw:w.heap.size<=sb
theorem OX.step{w W b:World}{c f g:Nat}{h:Hd}{G:Gm}{d:SHd}{S:Sp}{qs:List (SR × Option Addr × Nat)}(s:OX w W c f g h G d S qs)(a:Below W.heap.size W b):OX w b c f g h G d S qs :=
 ⟨qf a s.gx,qf a s.rx,qf a s.sx,s.own.step a,qd s.bel a,s.ne,s.nw⟩
theorem qbu{W:World}{a j b T:Nat}{u:Value}{c:Array Value}(d:W.heap[b]?=some (.cells c T (0,0)))(f:b≠a):(W.setCell ⟨a,j,none⟩ u).heap[b]?=some (.cells c T (0,0)):=by
 rw[Below.heap_setCell _ _ _ _ f];exact d
theorem OX.putSt{w W:World}{b d a:Nat}{h:Hd}{G:Gm}{c:SHd}{S:Sp}{qs:List (SR × Option Addr × Nat)}(s:OX w W b d a h G c S qs)(x:Nat):OX w (W.setCell ⟨a,2,none⟩ (.int .i64 (x:Int))) b d a h G c ⟨S.tk,S.nt,x,S.ex,S.nm,S.lv,S.az,S.rs⟩ qs:=by
 have f:=s.own.far (j:=2) (u:=.int .i64 (x:Int)) ⟨_,s.sx⟩;refine⟨qbu s.gx (qr ⟨_,s.gx⟩ ⟨_,s.sx⟩ (by decide)),qbu s.rx s.ne,?_,⟨f.nm,f.lv,f.az,f.rl,f.map,f.row⟩,s.bel.setCell (p:=⟨a,2,none⟩) s.nw _,s.ne,s.nw⟩;rw[ye s.sx];unfold sC;simp
theorem OX.putRs{w W:World}{g k d n:Nat}{h:Hd}{G:Gm}{a:SHd}{S:Sp}{qs rs:List (SR × Option Addr × Nat)}(s:OX w W g k d h G a S qs)(b:Option Addr)(c:Nat)(i:rs.length=n)(l:W.ownsRow w.heap.size 47 4 (.slice b n c) n (srC rs))(o:∀q∈rs,W.ownsRow w.heap.size 3 1 (.slice q.2.1 q.1.r.length q.2.2) q.1.r.length (natC q.1.r)):OX w (W.setCell ⟨d,7,none⟩ (.slice b n c)) g k d h G ⟨a.na,a.nc,a.la,a.lc,a.aa,a.ac,b,c⟩ ⟨S.tk,S.nt,S.st,S.ex,S.nm,S.lv,S.az,rs.map (·.1)⟩ rs:=by
 have f:=s.own.far (j:=7) (u:=.slice b n c) ⟨_,s.sx⟩
 have e:(rs.map (·.1)).length=n:=by rw[List.length_map];exact i
 refine⟨qbu s.gx (qr ⟨_,s.gx⟩ ⟨_,s.sx⟩ (by decide)),qbu s.rx s.ne,?_,⟨f.nm,f.lv,f.az,?_,rfl,fun q m=>xw (o q m) ⟨_,s.sx⟩ (by decide)⟩,s.bel.setCell (p:=⟨d,7,none⟩) s.nw _,s.ne,s.nw⟩
 ·rw[ye s.sx];unfold sC;simp[i]
 ·simp only[e];exact xw l ⟨_,s.sx⟩ (by decide)
theorem box8{W:World}{b:Nat}{c0 c1 c2 a c d f g:Value}(h:W.heap[b]?=some (.cells #[c0,c1,c2,a,c,d,f,g] 31 (0,0))):W.cell? ⟨b,0,none⟩=some c0/\W.cell? ⟨b,1,none⟩=some c1/\W.cell? ⟨b,2,none⟩=some c2/\W.cell? ⟨b,3,none⟩=some a/\W.cell? ⟨b,4,none⟩=some c/\W.cell? ⟨b,5,none⟩=some d/\W.cell? ⟨b,6,none⟩=some f/\W.cell? ⟨b,7,none⟩=some g:=by
 refine⟨?_,?_,?_,?_,?_,?_,?_,?_⟩ <;> (rw[qe h];rfl)
theorem qa4{W:World}{b:Nat}{c:Array Value}(h:W.heap[b]?=some (.cells c 31 (0,0))):W.frozen? ⟨b,0,none⟩=false/\W.frozen? ⟨b,1,none⟩=false/\W.frozen? ⟨b,2,none⟩=false/\W.frozen? ⟨b,3,none⟩=false/\W.frozen? ⟨b,4,none⟩=false/\W.frozen? ⟨b,5,none⟩=false/\W.frozen? ⟨b,6,none⟩=false/\W.frozen? ⟨b,7,none⟩=false :=
 ⟨qi h 0,qi h 1,qi h 2,qi h 3,qi h 4,qi h 5,qi h 6,qi h 7⟩
theorem box4{W:World}{b T:Nat}{c0 c1 c2 a:Value}(h:W.heap[b]?=some (.cells #[c0,c1,c2,a] T (0,0))):W.cell? ⟨b,0,none⟩=some c0/\W.cell? ⟨b,1,none⟩=some c1/\W.cell? ⟨b,2,none⟩=some c2/\W.cell? ⟨b,3,none⟩=some a:=by
 refine⟨?_,?_,?_,?_⟩ <;> (rw[qe h];rfl)
theorem OwnSp.mono{W:World}{b a:Nat}{h:SHd}{S:Sp}{qs:List (SR × Option Addr × Nat)}(s:OwnSp W b h S qs)(c:a<=b):OwnSp W a h S qs :=
 ⟨zd s.nm c,zd s.lv c,zd s.az c,zd s.rl c,s.map,fun q d=>zd (s.row q d) c⟩
theorem OX.first{w W:World}{d i:Nat}{h:Hd}{G:Gm}{b:SHd}{S:Sp}{qs:List (SR × Option Addr × Nat)}{c:Array Value}(k:W.heap[d]?=some (.cells #[.slice h.ta G.ts.length h.tc,.string G.s,.int .i64 G.e,.slice h.ra G.rs.length h.rc] 25 (0,0)))(g:W.heap[i]?=some (.cells zC 31 (0,0)))(j:sC b S=c)(l:OwnSp W w.heap.size b S qs)(f:Below w.heap.size w W):OX w (W.alloc (.cells c 31)) d i W.heap.size h G b S qs:=by
 have a:Below W.heap.size W (W.alloc (.cells c 31)):=qb _ _;have m:=(Array.getElem?_eq_some_iff.1 g).1;refine⟨qf a k,qf a g,?_,l.step a,qd f a,by omega,f.size⟩;rw[j];exact heap_alloc_new _ _
theorem qsf{W:World}{B n i:Nat}{b:Option Addr}{l:List ByteArray}(h:W.ownsRow B 9 1 (.slice b n i) n (strC l))(j:B<=W.heap.size)(p:n<10000)(x:ByteArray):
  ∃g c a,(Builtin.append_ #[28,28] 28 #[.slice b n i,.slice (some ⟨W.heap.size,0,none⟩) 1 1]).run Tryz.prog (W.alloc (.cells #[.string x] 9))=.ok (.slice (some ⟨g,0,none⟩) (n+1) c) a/\a.ownsRow B 9 1 (.slice (some ⟨g,0,none⟩) (n+1) c) (n+1) (strC (l++[x]))/\Kept (fun k=>blk b=some k) W a:=by
 obtain⟨g,c,a,o,d,m,-⟩:=jc (us:=[.string x]) u28 i9 rfl (by decide) (by decide) rfl (fun u f=>by rw[List.mem_singleton]at f;subst f;rfl) h j (by omega)
 have e:strC (l++[x])=strC l++[.string x]:=by unfold strC;rw[List.map_append];rfl
 rw[<-e]at d;exact⟨g,c,a,o,d,((Kept.refl _ W).alloc _).trans m (fun k _ e=>zi e)⟩
theorem qb9(G:Gm)(h:Hd)(w:World)(H:IsG w h G):Calls Tryz.prog 31 #[gv h G] w fun e I=>∃d c,e=.returned (.slice d (lfs G.rs).length c)/\I.ownsRow w.heap.size 9 1 (.slice d (lfs G.rs).length c) (lfs G.rs).length (strC (lfs G.rs))/\Below w.heap.size w I:=by
 have Q:G.rs.length<=200:=H.small.nr;have C:=kj H.rul;have X:Hid (IsG w h G):=H;clear H;obtain⟨m,p,u,j⟩:=h;unfold gv;simp only at C ⊢;have F:Below w.heap.size w (w.alloc (.cells #[.slice m G.ts.length p,.string G.s,.int .i64 G.e,.slice u G.rs.length j] 25)):=qb _ _;have t:(w.alloc (.cells #[.slice m G.ts.length p,.string G.s,.int .i64 G.e,.slice u G.rs.length j] 25)).heap[w.heap.size]?=some (.cells #[.slice m G.ts.length p,.string G.s,.int .i64 G.e,.slice u G.rs.length j] 25 (0,0)):=heap_alloc_new _ _
 obtain⟨v,L⟩:∃v,Hid (G.ts.length=v):=⟨_,rfl⟩
 obtain⟨a,f⟩:∃a,Hid (G.rs.length=a):=⟨_,rfl⟩
 rw[L.out]at F t ⊢;rw[f.out]at Q C F t ⊢;go_enter Tryz.func31,Tryz.ntmps31
 go_upto_region 1 with fail
 generalize w.alloc (.cells #[.slice m v p,.string G.s,.int .i64 G.e,.slice u a j] 25)=T at F t ⊢
 obtain⟨q,x⟩:∃q,Hid (q=w.heap.size):=⟨_,rfl⟩
 rw[<-x.out]at t ⊢
 have H1:Hid (T.heap[q]?=some (.cells #[.slice m v p,.string G.s,.int .i64 G.e,.slice u a j] 25 (0,0))/\Below w.heap.size w T):=⟨t,F⟩
 clear t F x;go_wp2_with fail
 go_loopg [3,4] a (fun kx s3 s4 wr=>∃(k:Nat) (d:Option Addr) (n c:Nat),s3=.slice d n c/\s4=.int .i64 k/\k<=a/\a - k<=kx/\Hid ((lfs (G.rs.take k)).length=n/\wr.ownsRow w.heap.size 9 1 (.slice d n c) n (strC (lfs (G.rs.take k)))/\Below w.heap.size w wr/\wr.heap[q]?=some (.cells #[.slice m v p,.string G.s,.int .i64 G.e,.slice u a j] 25 (0,0))))
 case atStart=>exact⟨0,none,0,0,rfl,rfl,Nat.zero_le _,by omega,rfl,World.ownsRow_nil _ _ _ _,H1.out.2,H1.out.1⟩
 case round =>
  clear H1;obtain⟨k,d,n,c,rfl,rfl,Z,hg,J⟩:=hrel;obtain⟨p0,p1,p2,p3⟩:=box4 J.out.2.2.2
  by_cases O:k<a
  ·have B:(k:Int)<(a:Int):=by omega
   obtain⟨r,P⟩:∃r,G.rs[k]?=some r:=⟨G.rs[k]'(by rw[f.out];exact O),List.getElem?_eq_getElem _⟩
   have S:Hid (G.rs[k]?=some r):=P;obtain⟨b,o,xa,xc,D,d0,d1,d2,-⟩:=(X.out.rul.below J.out.2.2.1).at P;simp only at D;subst D
   have a0:n<=200:=by have:=qcs G.rs k;have:=J.out.1;omega
   have y:Hid (Calls Tryz.prog 32 #[.slice d n c,.string r.l] wr fun e I=>e=.returned (.int .i64 (idxI (q9 (lfs (G.rs.take k)) r.l)))/\I=wr):=by
    have:=qa2 (lfs (G.rs.take k)) d c r.l wr (by rw[J.out.1];exact Row.of_own J.out.2.1) (by rw[J.out.1];omega)
    rw[J.out.1]at this;exact this
   obtain⟨g,Y,N,E,U,i⟩:=qsf J.out.2.1 J.out.2.2.1.size (by omega) r.l
   have V:Hid (N.ownsRow w.heap.size 9 1 (.slice (some ⟨g,0,none⟩) (n+1) Y) (n+1) (strC (lfs (G.rs.take k)++[r.l]))/\Below w.heap.size w N/\N.heap[q]?=some (.cells #[.slice m v p,.string G.s,.int .i64 G.e,.slice (some ⟨b,o,none⟩) a j] 25 (0,0))):=by
    refine⟨U,J.out.2.2.1.trans (i.below J.out.2.2.1.size (fun k Z e=>?_)),?_⟩
    ·have:=(qw J.out.2.1 e).1;omega
    ·rw[i.block q (Array.getElem?_eq_some_iff.1 J.out.2.2.2).1 (fun e=>qr ⟨_,J.out.2.2.2⟩ (qw J.out.2.1 e).2.2 (by decide) rfl)];exact J.out.2.2.2
   clear U i P
   obtain⟨z,M⟩:∃z,Hid (idxI (q9 (lfs (G.rs.take k)) r.l)=z):=⟨_,rfl⟩
   rw[M.out]at y;go_wp2_with fail;refine y.out.mono ?_;rintro e wq ⟨rfl,rfl⟩
   by_cases hz:z<0
   ·have K:Hid (lfs (G.rs.take (k+1))=lfs (G.rs.take k)++[r.l]):=by
     rw[qdi S.out];unfold lfS;rw[if_neg (fun e=>by have:=(qa3 _).2 e;rw[M.out]at this;omega)]
     exact rfl
    go_wp2_with(at_builtin;refine Lib.wpList_append_run _ rfl _ _ _ _ rfl _ _ rfl rfl _ _ E ?_)
    go_roundg (a - (k+1))
    case measure=>omega
    case rel =>
     refine⟨k+1,_,_,_,rfl,by simp,by omega,Nat.le_refl _,?_⟩;rw[K.out];exact⟨by simp[J.out.1],V.out⟩
   ·have K:Hid (lfs (G.rs.take (k+1))=lfs (G.rs.take k)):=by
     rw[qdi S.out];unfold lfS;rw[if_pos ((qa3 _).1 (by rw[M.out];omega))]
     exact rfl
    go_wp2_with fail;go_roundg (a - (k+1))
    case measure=>omega
    case rel =>
     refine⟨k+1,_,_,_,rfl,by simp,by omega,Nat.le_refl _,?_⟩;rw[K.out];exact J.out
  ·have B:¬(k:Int)<(a:Int):=by omega
   have A:k=a:=by omega
   have R:Hid ((lfs G.rs).length=n/\wr.ownsRow w.heap.size 9 1 (.slice d n c) n (strC (lfs G.rs))/\Below w.heap.size w wr):=by
    have:=J.out;rw[List.take_of_length_le (by rw[f.out,A];exact Nat.le_refl _)]at this
    exact⟨this.1,this.2.1,this.2.2.1⟩
   clear J A;go_wp2_with fail;go_ret;rw[R.out.1];exact⟨_,_,rfl,R.out.2⟩
theorem qgq(G:Gm)(h:Hd)(w:World)(g:IsG w h G)(s:ByteArray):
  Calls Tryz.prog 54 #[gv h G,.string s] w fun e R=>e=.returned (.int .i64 (idxI (q9 (tkG G) s)))/\Below w.heap.size w R:=by
 obtain⟨ts,A,r,rs⟩:=G;obtain⟨c,a,t,x⟩:=h
 have K:ts.length<=a/\a<=9223372036854775807:=by have Q:=g.tok.le;have N:=g.tok.max;simp only at Q N;unfold maxLen at N;omega
 have L:ts.length<=100:=g.small.nt;have F:Hid (Row w 3 c ts.length a (tokC ts)):=g.tok;unfold gv tkG;simp only;clear g
 obtain⟨n,E⟩:∃n,Hid (ts.length=n):=⟨_,rfl⟩
 rw[E.out]at F K L ⊢;generalize rs.length=z
 obtain⟨l,B⟩:∃l,Hid (ts.map (·.n)=l):=⟨_,rfl⟩
 rw[B.out]
 have D:Hid (l.length=n):=by rw[<-B.out,List.length_map];exact E.out
 have C:Hid (∀(i:Nat) (u:Tk),ts[i]?=some u->l[i]?=some u.n):=fun i u m=>by rw[<-B.out,List.getElem?_map,m];rfl
 go_enter Tryz.func54,Tryz.ntmps54
 go_upto_region 1 with fail
 have c0:(w.alloc (.cells #[.slice c n a,.string A,.int .i64 r,.slice t z x] 25)).cell? ⟨w.heap.size,0,none⟩=some (.slice c n a):=by rw[World.cell?_alloc_mark];rfl
 have p:Hid (Below w.heap.size w (w.alloc (.cells #[.slice c n a,.string A,.int .i64 r,.slice t z x] 25))/\Row (w.alloc (.cells #[.slice c n a,.string A,.int .i64 r,.slice t z x] 25)) 3 c n a (tokC ts)):=⟨qb _ _,F.out.below (qb _ _)⟩
 generalize w.alloc (.cells #[.slice c n a,.string A,.int .i64 r,.slice t z x] 25)=V at c0 p ⊢;generalize w.heap.size=S at c0 ⊢;clear F;go_wp2
 go_loop [5] (fun v=>∃i:Nat,i<=n/\v=.int .i64 i/\Hid (∀(j:Nat) (y:ByteArray),j<i->l[j]?=some y->y≠s)) (fun v=>n - (intOf v).toNat)
 case atStart=>exact⟨0,Nat.zero_le _,rfl,(fun j u h=>absurd h (Nat.not_lt_zero _):∀(j:Nat) (y:ByteArray),j<0->l[j]?=some y->y≠s)⟩
 case round =>
  obtain⟨i,T,rfl,J⟩:=hrel
  by_cases I:i<n
  ·have k:(i:Int)<(n:Int):=by omega
   obtain⟨u,m⟩:∃u,ts[i]?=some u:=⟨ts[i]'(by rw[E.out];exact I),List.getElem?_eq_getElem _⟩
   obtain⟨b,o,rfl,P,-,-⟩:=ja p.out.2 m;have q:Hid (l[i]?=some u.n):=C.out i u m;clear m
   by_cases d:u.n=s
   ·have H:=xh d
    have f:Hid (idxI (q9 l s)=(i:Int)):=by
     show _=_;rw[qdg J.out q.out d];rfl
    generalize u.n=un at P H q;clear d;go_wp2;go_ret;exact⟨by rw[f.out];rfl,p.out.1⟩
   ·have H:=k9 d
    have f:Hid (∀(j:Nat) (y:ByteArray),j<i+1->l[j]?=some y->y≠s):=fun j v U M=>by
     rcases Nat.lt_or_ge j i with h | h
     ·exact J.out j v h M
     ·have:j=i:=by omega
      subst this;rw[q.out]at M
      cases M
      exact d
    generalize u.n=un at P H q;clear d;go_wp2
    go_round
    case rel=>exact⟨i+1,by omega,by simp,f⟩
    case measure=>simp[intOf];omega
  ·have k:¬(i:Int)<(n:Int):=by omega
   have f:Hid (idxI (q9 l s)=-1):=by
    show _=_;rw[qbq (fun j y O=>J.out j y (by have:=(List.getElem?_eq_some_iff.1 O).1;rw[D.out]at this;omega) O)]
    rfl
   go_wp2;go_ret;exact⟨by rw[f.out];rfl,p.out.1⟩
end Go.Proofs.YtngclmglmhiljaaGreatDoor
