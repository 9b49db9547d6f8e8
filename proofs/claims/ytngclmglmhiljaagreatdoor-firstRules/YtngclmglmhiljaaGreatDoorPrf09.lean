/- Texts that the proofs of the First statements stand on, part Prf09. -/
import Derived.RangeFuncNested
import Derived.RangeFuncBound
import Derived.RangeFuncCalls
import Derived.RangeFuncLeaves
import Derived.Shelf.Abstract
import Derived.Shelf.RegionOpen
import Derived.WalkKit
import Derived.OwnWalkIn
import Derived.TacticsInMore
import Derived.LoopNIn
import Derived.LoopIn
import Derived.Laws.Bits64b
import Derived.BigQuiet
import Derived.Test.YtngclmglmhiljaaGreatDoorPrf08
set_option maxHeartbeats 16000000
set_option maxRecDepth 100000
namespace Go.Proofs.YtngclmglmhiljaaGreatDoor
open Go.RowKit
structure Rlk (S:Sp) (n:Nat) (r:SR) (x:Nat):Prop where
 l:r.l=(x:Int)
 xn:x<n
 sy:∀y∈r.r,y<n/\y≠S.tk
 ln:r.r.length<=100
def LF (w W1 wr:World) (fb n:Nat) (p:FP) (E:List Bool) (S:Sp) (x:Nat) (r:SR) (WL:List (List Nat)) (k:Nat):Prop :=
 ∃p' WL',p'.eb=p.eb/\FM wr w.heap.size fb p' n S.tk E WL'/\FV W1 fb p wr p'/\FA S n x r.r WL WL' k/\∀z∈r.r.take k,Nul S z
theorem qp6{l:List Nat}{k y:Nat}(c:l[k]?=some y){P:Nat->Prop}(h:∀z∈l.take k,P z)(b:P y):∀z∈l.take (k+1),P z:=by
 intro z a;rw[List.take_add_one,List.mem_append]at a
 rcases a with a | a
 ·exact h z a
 ·rw[c]at a;rw[Option.toList_some,List.mem_singleton]at a;subst a;exact b
theorem qgn(w W:World)(d n:Nat)(p:FP)(E:List Bool)(S:Sp)(g:List (List Nat))(h:FM W w.heap.size d p n S.tk E g)(hb:Below w.heap.size w W)(hE:∀z,isF E z=true↔Nul S z)(r:SR)(x i:Nat)(q:Option Addr)(s:Nat)(h0:0<i)(hi:S.rs[i]?=some r)(Y:Rlk S n r x)(f:Row w 1 q r.r.length s (natC r.r))(hI:Ins g)(hM:∃M,Mng S n M/\vv g M)(hn:2 * n<=g.length)(a3:g.length<=50000)(N:tot g<=90000):
  Calls Tryz.prog 44 #[.pointer (some ⟨d,0,none⟩),.agg #[.int .i64 r.l,.slice q r.r.length s,.int .i64 r.lv,.int .i64 r.a]] W fun e W'=>e=.returned (.tuple #[])/\∃m,m.eb=p.eb/\∃v,FM W' w.heap.size d m n S.tk E v/\FV W d p W' m/\FA S n x r.r g v r.r.length:=by
 have I:Hid ((∀z,isF E z=true↔Nul S z)/\S.rs[i]?=some r/\Rlk S n r x/\0<i):=⟨hE,hi,Y,h0⟩
 have HR:Hid (∀V:World,Below w.heap.size w V->Row V 1 q r.r.length s (natC r.r)):=fun V hV=>⟨f.len,f.le,f.max,f.lies.imp id fun⟨b,o,he,hc⟩=>⟨b,o,he,fun j u hu=>qj hV (hc j u hu)⟩⟩
 have HZ:Hid (2 * n<=g.length/\g.length<=50000/\tot g<=90000):=⟨hn,a3,N⟩
 have a9:=ze f;have Z:=Y.l
 obtain⟨c,HN⟩:∃c,Hid (r.r.length=c):=⟨_,rfl⟩
 have a7:c<=100:=by rw[<-HN.out];exact Y.ln
 rw[HN.out]at a9 ⊢;rw[Z];have hv:Below W.heap.size W (W.alloc (.cells #[.int .i64 (x:Int),.slice q c s,.int .i64 r.lv,.int .i64 r.a] 47)):=qb _ _;have X:(W.alloc (.cells #[.int .i64 (x:Int),.slice q c s,.int .i64 r.lv,.int .i64 r.a] 47)).heap[W.heap.size]?=some (.cells #[.int .i64 (x:Int),.slice q c s,.int .i64 r.lv,.int .i64 r.a] 47 (0,0)):=heap_alloc_new _ _
 have D:Hid (FM (W.alloc (.cells #[.int .i64 (x:Int),.slice q c s,.int .i64 r.lv,.int .i64 r.a] 47)) w.heap.size d p n S.tk E g/\FV W d p (W.alloc (.cells #[.int .i64 (x:Int),.slice q c s,.int .i64 r.lv,.int .i64 r.a] 47)) p/\Below w.heap.size w (W.alloc (.cells #[.int .i64 (x:Int),.slice q c s,.int .i64 r.lv,.int .i64 r.a] 47))/\∀k,FK d p k->k<W.heap.size):=⟨h.below hv,⟨zk hv,fun _ e=>.inl e⟩,qd hb hv,fun k Y=>(h.lt Y).2.1⟩
 have HB:Hid ((W.alloc (.cells #[.int .i64 (x:Int),.slice q c s,.int .i64 r.lv,.int .i64 r.a] 47)).heap[W.heap.size]?=some (.cells #[.int .i64 (x:Int),.slice q c s,.int .i64 r.lv,.int .i64 r.a] 47 (0,0))):=X
 have HS:Hid (W.heap.size<(W.alloc (.cells #[.int .i64 (x:Int),.slice q c s,.int .i64 r.lv,.int .i64 r.a] 47)).heap.size):=by
  show _<_;rw[qt];omega
 have Q:Hid (LF w (W.alloc (.cells #[.int .i64 (x:Int),.slice q c s,.int .i64 r.lv,.int .i64 r.a] 47)) (W.alloc (.cells #[.int .i64 (x:Int),.slice q c s,.int .i64 r.lv,.int .i64 r.a] 47)) d n p E S x r g 0):=⟨p,g,rfl,D.out.1,FV.refl _ _ _,FA.begin hI hM,fun z hz=>by cases hz⟩
 have d0:=X;clear h hb hE hi Y h0 f hI hM hn a3 N Z hv X;go_enter Tryz.func44,Tryz.ntmps44
 go_upto_block 0 with fail
 generalize W.alloc (.cells #[.int .i64 (x:Int),.slice q c s,.int .i64 r.lv,.int .i64 r.a] 47)=R at D HB Q HS d0 ⊢
 obtain⟨K,a4⟩:∃K,Hid (K=W.heap.size):=⟨_,rfl⟩
 rw[<-a4.out]at HB HS D d0 ⊢
 have P:Hid (∀(V:World) (m:FP),FV R d p V m->V.cell? ⟨K,0,none⟩=some (.int .i64 (x:Int))/\V.cell? ⟨K,1,none⟩=some (.slice q c s)):=fun V m hV=>by
  have hb:V.heap[K]?=some (.cells #[.int .i64 (x:Int),.slice q c s,.int .i64 r.lv,.int .i64 r.a] 47 (0,0)):=by
   rw[hV.1.block K HS.out (fun e=>by have:=D.out.2.2.2 K e;omega)]
   exact HB.out
  exact⟨by rw[qe hb];rfl,by rw[qe hb];rfl⟩
 have e0:R.cell? ⟨K,1,none⟩=some (.slice q c s):=(P.out R p (FV.refl _ _ _)).2;clear d0;go_wp2_with fail;clear e0
 go_loopg [9] c (fun kx s9 wr=>∃k:Nat,s9=.int .i64 k/\k<=c/\c - k<=kx/\Hid (LF w R wr d n p E S x r g k))
 case atStart=>exact⟨0,rfl,Nat.zero_le _,by omega,Q⟩
 case round =>
  clear Q;obtain⟨k,rfl,Y,hg,J⟩:=hrel
  by_cases a5:k<c
  ·have a2:(k:Int)<(c:Int):=by omega
   obtain⟨O,A,H,F,B,hA,hT⟩:=J.out
   obtain⟨y,hy⟩:∃y,r.r[k]?=some y:=⟨r.r[k]'(by rw[HN.out];exact a5),List.getElem?_eq_getElem _⟩
   have a0:=I.out.2.2.1.sy y (List.mem_of_getElem? hy);have T:Below w.heap.size w wr:=D.out.2.2.1.trans (FV.below D.out.1 D.out.2.2.1.size B);obtain⟨bx,ox,a8,cy⟩:=vj (HR.out wr T) hy;subst a8;obtain⟨d0,d1⟩:=P.out wr O B
   obtain⟨l,Z⟩:∃l,A[x]?=some l:=⟨A[x]'(by rw[hA.len];have:=HZ.out.1;have:=I.out.2.2.1.xn;omega),List.getElem?_eq_getElem _⟩
   have HC:Hid (Calls Tryz.prog 47 #[.pointer (some ⟨d,0,none⟩),.int .i64 (x:Int),.int .i64 (y:Int)] wr fun e W'=>e=.returned (.tuple #[])/\∃m,m.eb=O.eb/\FM W' w.heap.size d m n S.tk E (A.set x (l++[y]))/\FV wr d O W' m):=qdf wr w.heap.size d n S.tk O E A F T.size x y l Z (by have:=qf4 Z;have:=hA.tot;have:=HZ.out.2.2;omega)
   have HA:Hid (FA S n x r.r g (A.set x (l++[y])) (k+1)):=hA.lay I.out.2.2.2 I.out.2.1 I.out.2.2.1.l hy a0.2 a0.1 I.out.2.2.1.xn (by have:=HZ.out.1;omega) hT Z
   have C:Hid (O.eb=p.eb/\FV R d p wr O/\r.r[k]?=some y/\(∀z∈r.r.take k,Nul S z)/\y<n):=⟨H,B,hy,hT,a0.1⟩
   clear F B hA hT Z J T H;go_wp2_with fail;refine HC.out.mono ?_;rintro e V ⟨rfl,p2,L,G,a1⟩;clear HC d0 d1 cy;have U:=C.out.2.1.trans a1;obtain⟨d0,d1⟩:=P.out V p2 U;have d3:=G.c1;have d4:=G.ce C.out.2.2.2.2
   have b0:(y:Int)<(n:Int):=by have:=C.out.2.2.2.2;omega
   have t:Hid (p2.eb=p.eb/\FM V w.heap.size d p2 n S.tk E (A.set x (l++[y]))/\FV R d p V p2):=⟨L.trans C.out.1,G,U⟩
   clear G a1 U L
   cases hf:isF E y
   ·rw[hf]at d4
    have HF:Hid (∃m,m.eb=p.eb/\∃v,FM V w.heap.size d m n S.tk E v/\FV W d p V m/\FA S n x r.r g v c):=by
     have a6:¬Nul S y:=fun e=>by rw[<-I.out.1,hf]at e;cases e
     refine⟨p2,t.out.1,_,t.out.2.1,D.out.2.1.trans t.out.2.2,?_⟩;rw[<-HN.out];exact HA.out.stop C.out.2.2.1 a6
    clear HA C t hf;go_wp2_with fail;refine bodyPost_ret (results_none rfl _ _ _) rfl ?_;exact⟨rfl,HF.out⟩
   ·rw[hf]at d4
    have HF:Hid (LF w R V d n p E S x r g (k+1)):=⟨p2,_,t.out.1,t.out.2.1,t.out.2.2,HA.out,qp6 C.out.2.2.1 C.out.2.2.2.1 ((I.out.1 y).1 hf)⟩
    clear HA C t hf;go_wp2_with fail;go_roundg (c - (k+1))
    case measure=>omega
    case rel=>exact⟨k+1,by simp,by omega,Nat.le_refl _,HF⟩
  ·have a2:¬(k:Int)<(c:Int):=by omega
   have HF:Hid (∃m,m.eb=p.eb/\∃v,FM wr w.heap.size d m n S.tk E v/\FV W d p wr m/\FA S n x r.r g v c):=by
    have:k=c:=by omega
    subst this;obtain⟨O,A,H,F,B,hA,-⟩:=J.out;exact⟨O,H,A,F,D.out.2.1.trans B,hA⟩
   clear J;go_wp2_with fail;go_end0;exact⟨rfl,HF.out⟩
end Go.Proofs.YtngclmglmhiljaaGreatDoor
namespace Go.Proofs.YtngclmglmhiljaaGreatDoor
open Go.RowKit Go.Shelf
attribute [local go_sem] Oper.semAt_some
def bw (n:Nat) (hn:0<n) (zs:List Nat) (j:Nat):Nat × Fin n:=(zs.length - 1 - j,⟨(zs[zs.length - 1 - j]?.getD 0) % n,Nat.mod_lt _ hn⟩)
def bws (n:Nat) (hn:0<n) (zs:List Nat) (k:Nat):List (Nat × Fin n):=(List.range k).map (bw n hn zs)
theorem qfr(n:Nat)(a:0<n)(zs:List Nat)(k:Nat):bws n a zs (k+1)=bws n a zs k++[bw n a zs k]:=by
 unfold bws;rw[List.range_succ,List.map_append];rfl
theorem qhm(n:Nat)(a:0<n)(zs:List Nat)(k:Nat):(bws n a zs k).length=k:=by unfold bws;simp
def encB (n:Nat) (x:Nat × Fin n):Array Value:=#[.int .i64 (x.1:Int),.int .i64 (x.2.val:Int)]
def KpB (n₀ Bs:Nat) (A B:World):Prop:=Below n₀ A B/\∀(cs:Array Value) (T:TypeId) (fr:Nat × Nat),A.heap[Bs]?=some (.cells cs T fr)->B.heap[Bs]?=some (.cells cs T fr)
theorem KpB.refl(b a:Nat)(A:World):KpB b a A A:=⟨Below.refl _ _,fun _ _ _ h=>h⟩
theorem qcl{b a:Nat}{A B C:World}(h:KpB b a A B)(k:KpB b a B C):KpB b a A C:=⟨h.1.trans k.1,fun cs T c e=>k.2 cs T c (h.2 cs T c e)⟩
theorem qsr{b d:Nat}{w:World}(i:b<=w.heap.size)(W:World)(l:Nat)(o c:Obj)(g:w.heap.size<=l)(h:W.heap[l]?=some o)(a:o.isCells=false)(j:o.isWalk=false):KpB b d W (W.putObj l c):=by
 refine⟨belowK_b i W l o c g h a j,fun cs T k e=>?_⟩;rw[World.putObj_heap_other (fun f=>?_)]
 ·exact e
 ·subst f;rw[h]at e
  cases e
  cases a
theorem qri(F:Fence)(n:Nat)(E:F.fn 79)(K:F.round=none)(hn:1<=n)(l j D len c g:Nat)(f:0<g)(a:Option Addr)(zs:List Nat)(hz:zs.length=len)(S:len<=1000)(R:len<=c/\c<=9223372036854775807)(M:∀z∈zs,z<g)(J N:List (Nat × Fin g)->World->Prop)(Z:∀d x W,J d W->d.length<len->YieldAt F (n - 1) Tryz.prog l (encB g x) W fun e s=>(e=.returned (.bool true)/\J (d++[x]) s/\KpB D j W s)\/(e=.returned (.bool false)/\N (d++[x]) s))(W:World)(t:W.heap[j]?=some (.cells #[.slice a len c] 26 (0,0)))(hc:∀V,Below D W V->Row V 1 a len c (natC zs))(Y:J [] W):
  CallsIn F n Tryz.prog 79 #[.func (.yield l) #[] #[],.pointer (some ⟨j,0,none⟩)] W fun e s=>(∃v,e=.returned v) /\
   ((∃U,U=bws g f zs len/\J U s)\/(∃d,(∃k,k<=len/\d=bws g f zs k)/\N d s)):=by
 refine callsIn_of_wp Tryz.func79 rfl E ?_ K;simp only[Tryz.ntmps79,List.size_toArray,List.length_cons,List.length_nil,Nat.reduceAdd,Nat.reduceSub,Array.replicate_succ,Array.replicate_zero,List.push_toArray,List.append_toArray,List.nil_append,List.cons_append]
 have c0:W.cell? ⟨j,0,none⟩=some (.slice a len c):=by rw[qe t];rfl
 have X:Hid (∀V,KpB D j W V->V.cell? ⟨j,0,none⟩=some (.slice a len c)/\Row V 1 a len c (natC zs)):=fun V Q=>⟨by rw[qe (Q.2 _ _ _ t)];rfl,hc V Q.1⟩
 gi_wp2
 clear c0
 gi_loopw [3] (fun i wr=>∃k m,k+m=len/\i=.int .i64 ((m:Int) - 1)/\J (bws g f zs k) wr/\KpB D j W wr) (fun i _=>(intOf i+1).toNat)
 case atStart=>exact⟨0,len,by omega,by simp,Y,KpB.refl _ _ _⟩
 case round =>
  obtain⟨k,m,a0,rfl,u,A⟩:=hrel;obtain⟨c0,B⟩:=X.out wr A
  rcases Nat.eq_zero_or_pos m with hm | hm
  ·subst hm
   have H:((0:Nat):Int) - 1=-1:=by omega
   rw[H]
   gi_wp2
   go_end0
   have:k=len:=by omega
   subst this;exact⟨⟨_,rfl⟩,.inl ⟨_,rfl,u⟩⟩
  ·obtain⟨q,rfl⟩:∃q,m=q+1:=⟨m - 1,by omega⟩
   have H:((q+1:Nat):Int) - 1=(q:Int):=by omega
   rw[H]
   obtain⟨z,r⟩:∃z,zs[q]?=some z:=⟨zs[q]'(by omega),List.getElem?_eq_getElem _⟩
   obtain⟨b,o,rfl,cz⟩:=vj B r;have h:=M z (List.mem_of_getElem? r)
   have p:bw g f zs k=(q,⟨z,h⟩):=by
    unfold bw
    have e:zs.length - 1 - k=q:=by omega
    simp only[e,r,Option.getD_some,Nat.mod_eq_of_lt h]
   obtain⟨fn,T,C,O,L,P⟩:=Z _ (bw g f zs k) wr u (by rw[qhm];omega)
   rw[p]at L P;unfold encB at L
   dsimp only at L
   have a1:(0:Int)<=(q:Int):=by omega
   have a2:(q:Int)<(len:Int):=by omega
   gi_wp2
   refine P.mono ?_;rintro e W3 (⟨rfl,G,I⟩ | ⟨rfl,y⟩)
   ·gi_wp2
    go_roundw
    case rel=>exact⟨k+1,q,by omega,by simp,by rw[qfr,p];exact G,qcl A I⟩
    case measure=>simp[intOf]
   ·gi_wp2
    refine bodyPost_ret (results_none rfl _ _ _) rfl ?_;exact⟨⟨_,rfl⟩,.inr ⟨_,⟨k+1,by omega,by rw[qfr,p]⟩,y⟩⟩
theorem qom(F:Fence)(n:Nat)(m:F.fn 79)(p:F.round=none)(A:1<=n)(f j len b d:Nat)(c:0<d)(a:Option Addr)(zs:List Nat)(B:zs.length=len)(i:len<=1000)(h:len<=b/\b<=9223372036854775807)(q:∀z∈zs,z<d)(w:World)(o:j<=w.heap.size)(g:w.heap[f]?=some (.cells #[.slice a len b] 26 (0,0)))(y:∀V,Below j w V->Row V 1 a len b (natC zs)):
  SeqStopsK F n Tryz.prog 79 #[.pointer (some ⟨f,0,none⟩)] (encB d) (KpB j f) (fun C=>C=bws d c zs len) (fun r=>∃k,k<=len/\r=bws d c zs k) len w:=fun l J t W s _ _ x u =>
 qri F n m p A l f j len b d c a zs B i h q J t x W ((s.block f (Array.getElem?_eq_some_iff.1 g).1).trans g) (fun V v=>y V ((s.mono o).trans v)) u
attribute [local go_sem] Oper.semAt_some
theorem qau{n:Nat}{d:0<n}{zs:List Nat}{a:List (Nat × Fin n)}{x:Nat × Fin n}(k:a.length<zs.length)(j:∀z∈zs,z<n)(h:a++[x]=bws n d zs (a.length+1)):a=bws n d zs a.length/\zs[zs.length - (a.length+1)]?=some x.2.val:=by
 rw[qfr]at h;obtain⟨f,g⟩:=List.append_inj h (by rw[qhm]);refine⟨f,?_⟩
 have i:x=bw n d zs a.length:=by simpa using g
 obtain⟨z,b⟩:∃z,zs[zs.length - (a.length+1)]?=some z:=⟨zs[zs.length - (a.length+1)]'(by omega),List.getElem?_eq_getElem _⟩
 have c:=j z (List.mem_of_getElem? b);rw[i];unfold bw
 have e:zs.length - 1 - a.length=zs.length - (a.length+1):=by omega
 simp only[e,b,Option.getD_some,Nat.mod_eq_of_lt c]
def LkW (W5:World) (b4 fb:Nat) (p0:FP) (V:World) (p':FP):Prop:=Kept (fun k=>FK fb p0 k\/k=b4) W5 V/\∀k,FK fb p' k->FK fb p0 k\/W5.heap.size<=k
def LI (w W5:World) (b4 fb n:Nat) (hn:0<n) (p0:FP) (E:List Bool) (S:Sp) (x:Nat) (r:SR) (WL:List (List Nat)) (pre:List (Nat × Fin n)) (V:World):Prop :=
 ∃(p':FP) (WL':List (List Nat)) (q:Nat),p'.eb=p0.eb/\FM V w.heap.size fb p' n S.tk E WL'/\LkW W5 b4 fb p0 V p'/\V.heap[b4]?=some (.cells #[.int .i64 (q:Int)] 3 (0,0))/\q<WL'.length/\Ins WL'/\2 * n<=WL'.length/\WL'.length<=WL.length+pre.length/\(tot WL'<=tot WL+3 * pre.length/\(pre=bws n hn r.r pre.length->FB S n x r.r WL WL' (r.r.length - pre.length) q))
def LM (w W5:World) (b4 fb n:Nat) (hn:0<n) (p0:FP) (E:List Bool) (S:Sp) (x:Nat) (r:SR) (WL:List (List Nat)) (pre:List (Nat × Fin n)) (xx:Nat × Fin n) (V:World):Prop :=
 ∃(p':FP) (WL':List (List Nat)) (q:Nat),p'.eb=p0.eb/\FM V w.heap.size fb p' n S.tk E WL'/\LkW W5 b4 fb p0 V p'/\V.heap[b4]?=some (.cells #[.int .i64 (q:Int)] 3 (0,0))/\q<WL'.length/\Ins WL'/\2 * n<=WL'.length/\WL'.length<=WL.length+pre.length/\(tot WL'<=tot WL+3 * pre.length+1/\(pre++[xx]=bws n hn r.r (pre.length+1)->FB1 S n x r.r WL WL' (r.r.length - (pre.length+1)) q xx.2.val))
theorem qlg{A B:World}{row:Option Nat}(f:A.grownBy B row)(h:∀r,row=some r->∃o:Obj,A.heap[r]?=some o/\o.isCells=false){k T:Nat}(g:Loc A k T):B.heap[k]?=A.heap[k]?:=by
 obtain⟨d,b⟩:=g;refine f.block k (Array.getElem?_eq_some_iff.1 b).1 (fun e=>?_);obtain⟨o,c,a⟩:=h k e.symm;rw[b]at c
 cases c
 cases a
theorem LI.own(w g:World)(o p n:Nat)(v:0<n)(z:FP)(E:List Bool)(S:Sp)(x:Nat)(r:SR)(m:List (List Nat)):OwnFrom g.heap.size (LI w g o p n v z E S x r m):=by
 rintro A V B row ⟨y,d,q,s,h,a,i,t⟩ b l
 have j:∀{k T:Nat},Loc V k T->B.heap[k]?=V.heap[k]?:=fun u=>qlg b (fun r e=>(l r e).2) u
 refine⟨y,d,q,s,h.keep (fun k c=>?_),⟨⟨b.os.trans a.1.os,b.tape.trans a.1.tape,b.output.trans a.1.output,Nat.le_trans a.1.size b.size,fun k c f=>?_⟩,a.2⟩,by rw[j ⟨_,i⟩];exact i,t⟩
 ·rcases (h.lt c).2.2 with e | e | e | e <;> exact j e
 ·rw[<-a.1.block k c f];exact b.block k (Nat.lt_of_lt_of_le c a.1.size) (fun e=>by have:=(l k e.symm).1;omega)
theorem FV.others{V c:World}{B d n p:Nat}{g m:FP}{E:List Bool}{i:List (List Nat)}(h:FM V B d g n p E i)(v:FV V d g c m):KeepsOthers V c:=by
 refine⟨v.1.size,fun k o a l=>?_⟩;rw[v.1.block k (Array.getElem?_eq_some_iff.1 a).1 (fun e=>?_)]
 ·exact a
 ·have b:∀{T:Nat},Loc V k T->False:=fun⟨j,f⟩=>by
   rw[a]at f
   cases f
   cases l
  rcases (h.lt e).2.2 with e | e | e | e <;> exact b e
theorem LkW.out{b V:World}{d a m:Nat}{p c:FP}(h:LkW b d a p V c)(f:∀k,FK a p k->k<m){k:Nat}(g:m<=k)(i:k<b.heap.size):¬FK a c k:=fun e=>by
 rcases h.2 k e with e | e
 ·have:=f k e;omega
 ·omega
theorem LkW.move{c V b:World}{d a:Nat}{p g i:FP}(h:LkW c d a p V g)(v:FV V a g b i):LkW c d a p b i:=by
 refine⟨h.1.trans v.1 (fun k f e=>?_),fun k f=>?_⟩
 ·rcases h.2 k e with e | e
  ·exact .inl e
  ·omega
 ·rcases v.2 k f with e | e
  ·exact h.2 k e
  ·exact .inr (Nat.le_trans h.1.size e)
theorem LkW.store{b V:World}{a c:Nat}{p d:FP}(h:LkW b a c p V d)(u:Value):LkW b a c p (V.setCell ⟨a,0,none⟩ u) d:=⟨h.1.setCell ⟨a,0,none⟩ u (fun _=>.inr rfl),h.2⟩
theorem FM.store{V:World}{B b n f a:Nat}{c:FP}{E:List Bool}{d:List (List Nat)}(h:FM V B b c n f E d)(g:¬FK b c a)(u:Value):FM (V.setCell ⟨a,0,none⟩ u) B b c n f E d:=h.keep (fun k i=>Below.heap_setCell _ _ _ _ (fun e=>by
 have e:k=a:=e;subst e
 exact g i))
theorem KpB.move{V d:World}{w:World}{b n k a:Nat}{c j:FP}{E:List Bool}{f:List (List Nat)}(h:FM V w.heap.size b c n k E f)(g:w.heap.size<=V.heap.size)(v:FV V b c d j)(i:¬FK b c a):KpB w.heap.size a V d:=⟨FV.below h g v,fun cs T l e=>by rw[v.1.block a (Array.getElem?_eq_some_iff.1 e).1 i];exact e⟩
theorem KpB.store{V w:World}{a b:Nat}(c:w.heap.size<=a)(d:b≠a)(u:Value):KpB w.heap.size b V (V.setCell ⟨a,0,none⟩ u):=⟨(Below.refl _ V).setCell (p:=⟨a,0,none⟩) c _,fun cs T f e=>by rw[Below.heap_setCell _ _ _ _ d];exact e⟩
theorem qcm{V:World}{a:Nat}{q:Int}(h:V.heap[a]?=some (.cells #[.int .i64 q] 3 (0,0)))(z:Int):(V.setCell ⟨a,0,none⟩ (.int .i64 z)).heap[a]?=some (.cells #[.int .i64 z] 3 (0,0)):=by
 rw[setCell_eq_setRow V a 0 _ 3 (0,0) _ h];exact setRow_heap _ _ _ _ 3 _ h
theorem qm6(W:World)(a:Option Addr)(n c:Nat):Calls Tryz.prog 71 #[.slice a n c] W fun e b=>e=.returned (.func (.func 79) #[] #[.pointer (some ⟨W.heap.size,0,none⟩)])/\b=W.alloc (.cells #[.slice a n c] 26):=by
 go_enter Tryz.func71,Tryz.ntmps71;go_wp2_with fail;go_ret;exact⟨rfl,rfl⟩
theorem qfs(w W:World)(d n:Nat)(H:0<n)(f3:n<=1000)(p:FP)(E:List Bool)(S:Sp)(N:List (List Nat))(h:FM W w.heap.size d p n S.tk E N)(hb:Below w.heap.size w W)(hE:∀z,isF E z=true↔Nul S z)(r:SR)(x i:Nat)(v:Option Addr)(A:Nat)(h0:0<i)(hi:S.rs[i]?=some r)(hk:Rlk S n r x)(R:Row w 1 v r.r.length A (natC r.r))(hI:Ins N)(hM:∃M,Mng S n M/\vv N M)(hn:2 * n<=N.length)(f4:N.length<=50000)(b9:tot N<=90000):
  Calls Tryz.prog 45 #[.pointer (some ⟨d,0,none⟩),.agg #[.int .i64 r.l,.slice v r.r.length A,.int .i64 r.lv,.int .i64 r.a]] W fun e W'=>e=.returned (.tuple #[])/\∃I,I.eb=p.eb/\∃b1,FM W' w.heap.size d I n S.tk E b1/\FV W d p W' I/\∃q,FB S n x r.r N b1 0 q:=by
 have f5:=ze R;have hl:=hk.l;have f6:=hk.xn
 obtain⟨t,HN⟩:∃t,Hid (r.r.length=t):=⟨_,rfl⟩
 have i0:t<=100:=by rw[<-HN.out];exact hk.ln
 rw[HN.out]at f5 ⊢;rw[hl];have a0:Below W.heap.size W ((((W.alloc (.cells #[.pointer (some ⟨d,0,none⟩)] 44)).alloc (.cells #[.int .i64 (x:Int),.slice v t A,.int .i64 r.lv,.int .i64 r.a] 47)).alloc (.cells #[.int .i64 ((n:Int)+(x:Int))] 3)).alloc (.cells #[.slice v t A] 26)):=qd (qb _ _) (qd (qb _ _) (qd (qb _ _) (qb _ _)));have s1:(W.alloc (.cells #[.pointer (some ⟨d,0,none⟩)] 44)).heap.size=W.heap.size+1:=qt _ _
 have s2:((W.alloc (.cells #[.pointer (some ⟨d,0,none⟩)] 44)).alloc (.cells #[.int .i64 (x:Int),.slice v t A,.int .i64 r.lv,.int .i64 r.a] 47)).heap.size=W.heap.size+2:=by rw[qt,s1]
 have s3:(((W.alloc (.cells #[.pointer (some ⟨d,0,none⟩)] 44)).alloc (.cells #[.int .i64 (x:Int),.slice v t A,.int .i64 r.lv,.int .i64 r.a] 47)).alloc (.cells #[.int .i64 ((n:Int)+(x:Int))] 3)).heap.size=W.heap.size+3:=by rw[qt,s2]
 have s4:((((W.alloc (.cells #[.pointer (some ⟨d,0,none⟩)] 44)).alloc (.cells #[.int .i64 (x:Int),.slice v t A,.int .i64 r.lv,.int .i64 r.a] 47)).alloc (.cells #[.int .i64 ((n:Int)+(x:Int))] 3)).alloc (.cells #[.slice v t A] 26)).heap.size=W.heap.size+4:=by rw[qt,s3]
 have k2:((((W.alloc (.cells #[.pointer (some ⟨d,0,none⟩)] 44)).alloc (.cells #[.int .i64 (x:Int),.slice v t A,.int .i64 r.lv,.int .i64 r.a] 47)).alloc (.cells #[.int .i64 ((n:Int)+(x:Int))] 3)).alloc (.cells #[.slice v t A] 26)).heap[W.heap.size]?=some (.cells #[.pointer (some ⟨d,0,none⟩)] 44 (0,0)):=qf (qd (qb _ _) (qd (qb _ _) (qb _ _))) (heap_alloc_new _ _)
 have k3:((((W.alloc (.cells #[.pointer (some ⟨d,0,none⟩)] 44)).alloc (.cells #[.int .i64 (x:Int),.slice v t A,.int .i64 r.lv,.int .i64 r.a] 47)).alloc (.cells #[.int .i64 ((n:Int)+(x:Int))] 3)).alloc (.cells #[.slice v t A] 26)).heap[W.heap.size+1]?=some (.cells #[.int .i64 (x:Int),.slice v t A,.int .i64 r.lv,.int .i64 r.a] 47 (0,0)):=by
  have:=heap_alloc_new (W.alloc (.cells #[.pointer (some ⟨d,0,none⟩)] 44)) (.cells #[.int .i64 (x:Int),.slice v t A,.int .i64 r.lv,.int .i64 r.a] 47);rw[s1]at this;exact qf (qd (qb _ _) (qb _ _)) this
 have k4:((((W.alloc (.cells #[.pointer (some ⟨d,0,none⟩)] 44)).alloc (.cells #[.int .i64 (x:Int),.slice v t A,.int .i64 r.lv,.int .i64 r.a] 47)).alloc (.cells #[.int .i64 ((n:Int)+(x:Int))] 3)).alloc (.cells #[.slice v t A] 26)).heap[W.heap.size+2]?=some (.cells #[.int .i64 ((n:Int)+(x:Int))] 3 (0,0)):=by
  have:=heap_alloc_new ((W.alloc (.cells #[.pointer (some ⟨d,0,none⟩)] 44)).alloc (.cells #[.int .i64 (x:Int),.slice v t A,.int .i64 r.lv,.int .i64 r.a] 47)) (.cells #[.int .i64 ((n:Int)+(x:Int))] 3);rw[s2]at this;exact qf (qb _ _) this
 have k5:((((W.alloc (.cells #[.pointer (some ⟨d,0,none⟩)] 44)).alloc (.cells #[.int .i64 (x:Int),.slice v t A,.int .i64 r.lv,.int .i64 r.a] 47)).alloc (.cells #[.int .i64 ((n:Int)+(x:Int))] 3)).alloc (.cells #[.slice v t A] 26)).heap[W.heap.size+3]?=some (.cells #[.slice v t A] 26 (0,0)):=by
  have:=heap_alloc_new (((W.alloc (.cells #[.pointer (some ⟨d,0,none⟩)] 44)).alloc (.cells #[.int .i64 (x:Int),.slice v t A,.int .i64 r.lv,.int .i64 r.a] 47)).alloc (.cells #[.int .i64 ((n:Int)+(x:Int))] 3)) (.cells #[.slice v t A] 26);rw[s3]at this;exact this
 have h5:=h.below a0;refine(callsIn_wide (n:=3)).1 ?_;refine callsIn_of_wp_marks Tryz.func45 rfl trivial ?_ rfl;simp only[Tryz.ntmps45,List.size_toArray,List.length_cons,List.length_nil,Nat.reduceAdd,Nat.reduceSub,Array.replicate_succ,Array.replicate_zero,List.push_toArray,List.append_toArray,List.nil_append,List.cons_append];have e1:((W.alloc (.cells #[.pointer (some ⟨d,0,none⟩)] 44)).alloc (.cells #[.int .i64 (x:Int),.slice v t A,.int .i64 r.lv,.int .i64 r.a] 47)).cell? ⟨d,1,none⟩=some (.slice (some ⟨p.eb,0,none⟩) n n):=(h.below (qd (qb _ _) (qb _ _))).c1
 gi_wp2_with (first
  | (refine⟨trivial,?_⟩;gi_at_call 48;refine(callsIn_wide.2 (yw ((W.alloc (.cells #[.pointer (some ⟨d,0,none⟩)] 44)).alloc (.cells #[.int .i64 (x:Int),.slice v t A,.int .i64 r.lv,.int .i64 r.a] 47)) d n n x _ e1 f3 f6)).mono ?_;rintro e w' ⟨rfl,rfl⟩)
  | (refine⟨trivial,?_⟩;gi_at_call 71;refine(callsIn_wide.2 (qm6 (((W.alloc (.cells #[.pointer (some ⟨d,0,none⟩)] 44)).alloc (.cells #[.int .i64 (x:Int),.slice v t A,.int .i64 r.lv,.int .i64 r.a] 47)).alloc (.cells #[.int .i64 ((n:Int)+(x:Int))] 3)) v t A)).mono ?_;rintro e w' ⟨rfl,rfl⟩))
 obtain⟨J,d9⟩:∃J,((((W.alloc (.cells #[.pointer (some ⟨d,0,none⟩)] 44)).alloc (.cells #[.int .i64 (x:Int),.slice v t A,.int .i64 r.lv,.int .i64 r.a] 47)).alloc (.cells #[.int .i64 ((n:Int)+(x:Int))] 3)).alloc (.cells #[.slice v t A] 26))=J:=⟨_,rfl⟩
 rw[d9]at a0 s4 k2 k3 k4 k5 h5 ⊢
 have HP:Hid ((∀k,FK d p k->k<W.heap.size)/\w.heap.size<=W.heap.size):=⟨fun k hk=>(h.lt hk).2.1,hb.size⟩
 clear d9 s1 s2 s3 e1
 obtain⟨g,f2⟩:∃g,W.heap.size=g:=⟨_,rfl⟩
 have O:Hid (W.heap.size=g):=f2;have a4:Below w.heap.size w J:=qd hb a0;rw[f2]at s4 k2 k3 k4 k5 ⊢
 have a8:Hid (∀(V:World) (I:FP),LkW J (g+2) d p V I->V.cell? ⟨g,0,none⟩=some (.pointer (some ⟨d,0,none⟩))/\¬FK d I (g+2)/\¬FK d I (g+2+1)/\Below w.heap.size w V):=fun V I hV=>by
  have f9:V.heap[g]?=some (.cells #[.pointer (some ⟨d,0,none⟩)] 44 (0,0)):=by
   rw[hV.1.block g (by omega) (fun e=>e.elim (fun e=>by have:=HP.out.1 _ e;rw[O.out]at this;omega) (fun e=>by omega))]
   exact k2
  refine⟨by rw[qe f9];rfl,hV.out HP.out.1 (by rw[O.out];omega) (by omega),hV.out HP.out.1 (by rw[O.out];omega) (by omega),a4.trans (hV.1.below a4.size (fun k hk e=>e.elim (fun e=>?_) (fun e=>?_)))⟩
  ·have:=(h.lt e).1;omega
  ·have:=HP.out.2;rw[O.out]at this;omega
 have d6:Hid (∀V,Below w.heap.size J V->Row V 1 v t A (natC r.r)):=fun V hV=>by
  have h6:=a4.trans hV;rw[<-HN.out];exact⟨R.len,R.le,R.max,R.lies.imp id fun⟨b,o,he,hc⟩=>⟨b,o,he,fun j u hu=>qj h6 (hc j u hu)⟩⟩
 have c9:Hid (LI w J (g+2) d n H p E S x r N [] J):=⟨p,N,n+x,rfl,h5,⟨Kept.refl _ _,fun _ e=>.inl e⟩,k4,by omega,hI,hn,by simp,by simp,fun _=>FB.begin hI hM f6 hn⟩
 have HE:Hid ((∀z,isF E z=true↔Nul S z)/\S.rs[i]?=some r/\Rlk S n r x/\0<i):=⟨hE,hi,hk,h0⟩
 have HZ:Hid (2 * n<=N.length/\N.length<=50000/\tot N<=90000):=⟨hn,f4,b9⟩
 have c5:∀z∈r.r,z<n:=fun z hz=>(hk.sy z hz).1
 have X:Hid (∀z∈r.r,z<n):=c5
 refine wpIn_rangeFunc_ownG rfl (by omega) (gf:=79) (lb:=#[.pointer (some ⟨g+2+1,0,none⟩)]) rfl trivial (enters_of Tryz.func79 (by kernel_rfl) rfl)
  (qom Fence.wide _ trivial rfl (by omega) (g+2+1) w.heap.size t A n H v r.r HN.out (by omega) f5 c5 J a4.size k5 d6.out) qcl (qsr a4.size) (Below.refl _ _) (fun _=>rfl)
  (LI w J (g+2) d n H p E S x r N) (fun _ _ _=>False) (LI.own w J (g+2) d n H p E S x r N) (fun _ _ _ _ _ hs _ _=>hs) c9.out
  (fun xx=>{ tmps:=#[.pointer (some ⟨d,0,none⟩),.agg #[.int .i64 (x:Int),.slice v t A,.int .i64 r.lv,.int .i64 r.a],.pointer (some ⟨g,0,none⟩),.pointer (some ⟨g+1,0,none⟩),.pointer (some ⟨g+2,0,none⟩),undef,.int .i64 (xx.2.val:Int),.pointer (some ⟨d,0,none⟩),.pointer (some ⟨g+1,0,none⟩),.int .i64 (x:Int),.int .i64 ((n:Int)+(x:Int)),.pointer (some ⟨g+1,1,none⟩),.slice v t A,.func (.func 79) #[] #[.pointer (some ⟨g+2+1,0,none⟩)],.int .i64 (xx.1:Int),.int .i64 (xx.2.val:Int),undef,undef,undef,undef,undef,undef,undef,undef,undef,undef,undef,undef,undef,undef,undef,undef,undef,undef,undef,undef,undef],defers:=[] }) ?assign ?body ?done ?stop
 case assign =>
  intro l xx V K hK;unfold encB
  gi_wp2
  exact hK
 case body =>
  clear h hb hE hi hk h0 R hI hM hn f4 b9 a0 k2 k3 k4 k5 h5 c9 c5 d6;rintro l C ⟨ix,⟨y,hy⟩⟩ V b6 Q;have d5:Hid (LI w J (g+2) d n H p E S x r N C V):=b6;obtain⟨p1,a1,q,h1,h2,h3,h4,h5,h6,h7,h8,h9,a2⟩:=b6;obtain⟨c2,c6,c7,b7⟩:=a8.out V p1 h3;have f0:=h2.c0;have f1:=h2.c1
  have c4:V.cell? ⟨g+2,0,none⟩=some (.int .i64 (q:Int)):=by rw[qe h4];rfl
  by_cases ht:S.tk<y
  ·have hd:decide ((S.tk:Int)<(y:Int)/\(y:Int)<(n:Int))=true:=by rw[decide_eq_true_eq];omega
   obtain⟨m,hm⟩:∃m,a1[n+y]?=some m:=⟨a1[n+y]'(by omega),List.getElem?_eq_getElem _⟩
   have c3:=h2.below (qk V);have d3:Hid (Calls Tryz.prog 47 #[.pointer (some ⟨d,0,none⟩),.int .i64 ((n+y:Nat):Int),.int .i64 (q:Int)] V.drew fun e W'=>e=.returned (.tuple #[])/\∃I,I.eb=p1.eb/\FM W' w.heap.size d I n S.tk E (a1.set (n+y) (m++[q]))/\FV V.drew d p1 W' I):=qdf V.drew w.heap.size d n S.tk p1 E a1 c3 b7.size (n+y) q m hm (by have:=qf4 hm;have:=HZ.out.2.2;omega)
   have c8:Hid (Calls Tryz.prog 48 #[.pointer (some ⟨d,0,none⟩),.int .i64 (y:Int)] V.drew fun e w'=>e=.returned (.int .i64 ((n+y:Nat):Int))/\w'=V.drew):=yw V.drew d n n y _ c3.c1 f3 hy
   have f7:Hid (∀U F,F.eb=p1.eb->FM U w.heap.size d F n S.tk E (a1.set (n+y) (m++[q]))->FV V.drew d p1 U F->LM w J (g+2) d n H p E S x r N C (ix,⟨y,hy⟩) U/\KeepsOthers V U/\KpB w.heap.size (g+2+1) V U):=fun U F t1 t2 t3=>by
    have b8:FV V d p1 U F:=⟨(show Kept (FK d p1) V V.drew from(Kept.refl _ V).drew).trans t3.1 (fun _ _ e=>e),t3.2⟩
    refine⟨⟨F,_,q,t1.trans h1,t2,h3.move b8,by rw[b8.1.block _ (Array.getElem?_eq_some_iff.1 h4).1 c6];exact h4,by rw[List.length_set];exact h5,qet h6 hm h5,by rw[List.length_set];exact h7,by rw[List.length_set];exact h8,by rw[qcu hm];omega,fun f=>?_⟩,FV.others h2 b8,KpB.move h2 b7.size b8 c7⟩
    have B:=qau (by rw[HN.out];exact Q) X.out f
    have Z:=a2 B.1
    have e1:r.r.length - C.length=r.r.length - (C.length+1)+1:=by have:=HN.out;omega
    rw[e1]at Z;exact Z.lay HE.out.2.2.2 HE.out.2.1 HE.out.2.2.1.l B.2 ht hy hm
   have i7:Tryz.prog.follows .mixedOrders=true:=by kernel_rfl
   clear h1 h2 h3 h4 h5 h6 h7 h8 h9 a2 hm d5 c3 c6 c7 b7
   gi_wp2_with (refine⟨trivial,?_⟩;gi_at_call 46;refine(CallsIn.inRound l (callsIn_wide.2 (jt V d S.tk n n (some ⟨p1.eb,0,none⟩) f0 f1 (y:Int)))).mono ?_;rintro e w1 ⟨rfl,a3⟩;rw[a3];clear a3 w1;rw[hd];clear hd)
   clear f0 f1
   gi_region_with_o (first
    | (refine⟨trivial,?_⟩;gi_at_call 48;refine(CallsIn.inRound l (callsIn_wide.2 c8.out)).mono ?_;rintro e w2 ⟨rfl,rfl⟩)
    | (refine⟨trivial,?_⟩;gi_at_call 47;refine(CallsIn.inRound l (callsIn_wide.2 d3.out)).mono ?_;rintro e U ⟨rfl,F,t1,t2,t3⟩;obtain⟨d7,d8⟩:=f7.out U F t1 t2 t3;have HM:Hid (LM w J (g+2) d n H p E S x r N C (ix,⟨y,hy⟩) U):=d7;have HO:Hid (KeepsOthers _ U/\KpB w.heap.size (g+2+1) _ U):=d8;clear d7 d8 t1 t2 t3))
   all_goals
    obtain⟨F,s,q2,g1,P,g3,g4,g5,g6,g7,g8,g9,Y⟩:=HM.out;obtain⟨d2,a6,b5,a5⟩:=a8.out U F g3;have d0:=P.c0;have d1:=P.c1
    have d4:U.cell? ⟨g+2,0,none⟩=some (.int .i64 (q2:Int)):=by rw[qe g4];rfl
    have e4:=qi g4 0;have dy:=P.ce hy
    have i1:(y:Int)<(n:Int):=by omega
    cases hf:isF E y
    ·rw[hf]at dy
     have HF:Hid (KeepsFrom J.heap.size V (U.setCell ⟨g+2,0,none⟩ (.int .i64 (y:Int)))/\KpB w.heap.size (g+2+1) V (U.setCell ⟨g+2,0,none⟩ (.int .i64 (y:Int)))/\LI w J (g+2) d n H p E S x r N (C++[(ix,⟨y,hy⟩)]) (U.setCell ⟨g+2,0,none⟩ (.int .i64 (y:Int)))):=by
      refine⟨(HO.out.1.trans (KeepsOthers.setCell _ _ _)).from _,qcl HO.out.2 (KpB.store (by rw[<-O.out];have:=HP.out.2;omega) (by omega) _),F,s,y,g1,P.store a6 _,g3.store _,qcm g4 _,by omega,g6,g7,by rw[List.length_append];simp;omega,by rw[List.length_append];simp;omega,fun f=>?_⟩
      rw[List.length_append]at f ⊢;simp only[List.length_singleton]at f ⊢;have B:=qau (by rw[HN.out];exact Q) X.out f
      exact(Y f).sym (fun e=>by rw[<-HE.out.1,hf]at e;cases e) hy (HE.out.2.2.1.sy y (List.mem_of_getElem? B.2)).2 (by have:=HZ.out.1;omega)
     clear g1 P g3 g4 g5 g6 g7 g8 g9 Y HM HO hf
     gi_wp2
     exact HF.out
    ·rw[hf]at dy;have a9:Hid (Calls Tryz.prog 72 #[.pointer (some ⟨d,0,none⟩),.int .i64 (y:Int),.int .i64 (q2:Int)] U fun e W'=>e=.returned (.int .i64 (s.length:Int))/\∃I,I.eb=F.eb/\FM W' w.heap.size d I n S.tk E (s++[[y,q2]])/\FV U d F W' I):=qe5 U w.heap.size d n S.tk F E s P a5.size y q2 (by have:=HZ.out.2.1;omega)
     have HU:Hid (FM U w.heap.size d F n S.tk E s/\∀G p3 (L:Nat),p3.eb=F.eb->FM G w.heap.size d p3 n S.tk E (s++[[y,q2]])->FV U d F G p3->L=s.length->G.cell? ⟨g+2,0,none⟩=some (.int .i64 (q2:Int))/\G.frozen? ⟨g+2,0,none⟩=false/\KeepsFrom J.heap.size V (G.setCell ⟨g+2,0,none⟩ (.int .i64 (L:Int)))/\KpB w.heap.size (g+2+1) V (G.setCell ⟨g+2,0,none⟩ (.int .i64 (L:Int)))/\LI w J (g+2) d n H p E S x r N (C++[(ix,⟨y,hy⟩)]) (G.setCell ⟨g+2,0,none⟩ (.int .i64 (L:Int)))):=by
      refine⟨P,fun G p3 L t1 t2 t3 t4=>?_⟩;subst t4
      have t4:G.heap[g+2]?=some (.cells #[.int .i64 (q2:Int)] 3 (0,0)):=by rw[t3.1.block _ (Array.getElem?_eq_some_iff.1 g4).1 a6];exact g4
      have t5:=g3.move t3;have b4:=(a8.out G p3 t5).2.1;refine⟨by rw[qe t4];rfl,qi t4 0,((HO.out.1.trans (FV.others P t3)).trans (KeepsOthers.setCell _ _ _)).from _,qcl HO.out.2 (qcl (KpB.move P a5.size t3 b5) (KpB.store (by rw[<-O.out];have:=HP.out.2;omega) (by omega) _)),p3,s++[[y,q2]],s.length,t1.trans g1,t2.store b4 _,t5.store _,qcm t4 _,by rw[List.length_append];simp,qfi g6 (fun z hz=>?_),by rw[List.length_append];omega,by rw[List.length_append,List.length_append];simp;omega,by rw[qfh,List.length_append];simp;omega,fun f=>?_⟩
      ·rcases List.mem_cons.1 hz with rfl | hz
       ·omega
       ·rw[List.mem_singleton]at hz;subst hz;exact g5
      ·rw[List.length_append]at f ⊢;simp only[List.length_singleton]at f ⊢;have B:=qau (by rw[HN.out];exact Q) X.out f
       exact(Y f).fork ((HE.out.1 y).1 hf) hy (HE.out.2.2.1.sy y (List.mem_of_getElem? B.2)).2 HZ.out.1
     clear g1 P g3 g4 g5 g6 g7 g8 g9 Y HM HO hf a6 b5 a5
     gi_wp2_with (refine⟨trivial,?_⟩;gi_at_call 72;refine(CallsIn.inRound l (callsIn_wide.2 a9.out)).mono ?_;rintro e G ⟨rfl,p3,t1,t2,t3⟩;obtain⟨v4,z4,b3⟩:=HU.out.2 G p3 _ t1 t2 t3 rfl)
     exact b3
  ·have hd:decide ((S.tk:Int)<(y:Int)/\(y:Int)<(n:Int))=false:=by rw[decide_eq_false_iff_not];omega
   have HM:Hid (LM w J (g+2) d n H p E S x r N C (ix,⟨y,hy⟩) V):=by
    refine⟨p1,a1,q,h1,h2,h3,h4,h5,h6,h7,h8,by omega,fun f=>?_⟩;have B:=qau (by rw[HN.out];exact Q) X.out f
    have Z:=a2 B.1
    have e1:r.r.length - C.length=r.r.length - (C.length+1)+1:=by have:=HN.out;omega
    rw[e1]at Z;exact Z.skip B.2 ht
   have HO:Hid (KeepsOthers V V/\KpB w.heap.size (g+2+1) V V):=⟨KeepsOthers.refl _,KpB.refl _ _ _⟩
   have b0:Hid (Calls Tryz.prog 46 #[.pointer (some ⟨d,0,none⟩),.int .i64 (y:Int)] V fun e w'=>e=.returned (.bool false)/\w'=V):=by
    rw[<-hd];exact jt V d S.tk n n (some ⟨p1.eb,0,none⟩) f0 f1 (y:Int)
   clear h1 h2 h3 h4 h5 h6 h7 h8 h9 a2 d5 c6 c7 b7 f0 f1 hd c4 c2;obtain⟨F,s,q2,g1,P,g3,g4,g5,g6,g7,g8,g9,Y⟩:=HM.out;obtain⟨d2,a6,b5,a5⟩:=a8.out V F g3;have d0:=P.c0;have d1:=P.c1
   have d4:V.cell? ⟨g+2,0,none⟩=some (.int .i64 (q2:Int)):=by rw[qe g4];rfl
   have e4:=qi g4 0;have dy:=P.ce hy
   have i1:(y:Int)<(n:Int):=by omega
   cases hf:isF E y
   ·rw[hf]at dy
    have HF:Hid (KeepsFrom J.heap.size V (V.setCell ⟨g+2,0,none⟩ (.int .i64 (y:Int)))/\KpB w.heap.size (g+2+1) V (V.setCell ⟨g+2,0,none⟩ (.int .i64 (y:Int)))/\LI w J (g+2) d n H p E S x r N (C++[(ix,⟨y,hy⟩)]) (V.setCell ⟨g+2,0,none⟩ (.int .i64 (y:Int)))):=by
     refine⟨(HO.out.1.trans (KeepsOthers.setCell _ _ _)).from _,qcl HO.out.2 (KpB.store (by rw[<-O.out];have:=HP.out.2;omega) (by omega) _),F,s,y,g1,P.store a6 _,g3.store _,qcm g4 _,by omega,g6,g7,by rw[List.length_append];simp;omega,by rw[List.length_append];simp;omega,fun f=>?_⟩
     rw[List.length_append]at f ⊢;simp only[List.length_singleton]at f ⊢;have B:=qau (by rw[HN.out];exact Q) X.out f
     exact(Y f).sym (fun e=>by rw[<-HE.out.1,hf]at e;cases e) hy (HE.out.2.2.1.sy y (List.mem_of_getElem? B.2)).2 (by have:=HZ.out.1;omega)
    clear g1 P g3 g4 g5 g6 g7 g8 g9 Y HM HO hf
    gi_wp2_with (refine⟨trivial,?_⟩;gi_at_call 46;refine(CallsIn.inRound l (callsIn_wide.2 b0.out)).mono ?_;rintro e w1 ⟨rfl,a3⟩;rw[a3];clear a3 w1)
    exact HF.out
   ·rw[hf]at dy;have a9:Hid (Calls Tryz.prog 72 #[.pointer (some ⟨d,0,none⟩),.int .i64 (y:Int),.int .i64 (q2:Int)] V fun e W'=>e=.returned (.int .i64 (s.length:Int))/\∃I,I.eb=F.eb/\FM W' w.heap.size d I n S.tk E (s++[[y,q2]])/\FV V d F W' I):=qe5 V w.heap.size d n S.tk F E s P a5.size y q2 (by have:=HZ.out.2.1;omega)
    have HU:Hid (FM V w.heap.size d F n S.tk E s/\∀G p3 (L:Nat),p3.eb=F.eb->FM G w.heap.size d p3 n S.tk E (s++[[y,q2]])->FV V d F G p3->L=s.length->G.cell? ⟨g+2,0,none⟩=some (.int .i64 (q2:Int))/\G.frozen? ⟨g+2,0,none⟩=false/\KeepsFrom J.heap.size V (G.setCell ⟨g+2,0,none⟩ (.int .i64 (L:Int)))/\KpB w.heap.size (g+2+1) V (G.setCell ⟨g+2,0,none⟩ (.int .i64 (L:Int)))/\LI w J (g+2) d n H p E S x r N (C++[(ix,⟨y,hy⟩)]) (G.setCell ⟨g+2,0,none⟩ (.int .i64 (L:Int)))):=by
     refine⟨P,fun G p3 L t1 t2 t3 t4=>?_⟩;subst t4
     have t4:G.heap[g+2]?=some (.cells #[.int .i64 (q2:Int)] 3 (0,0)):=by rw[t3.1.block _ (Array.getElem?_eq_some_iff.1 g4).1 a6];exact g4
     have t5:=g3.move t3;have b4:=(a8.out G p3 t5).2.1;refine⟨by rw[qe t4];rfl,qi t4 0,((HO.out.1.trans (FV.others P t3)).trans (KeepsOthers.setCell _ _ _)).from _,qcl HO.out.2 (qcl (KpB.move P a5.size t3 b5) (KpB.store (by rw[<-O.out];have:=HP.out.2;omega) (by omega) _)),p3,s++[[y,q2]],s.length,t1.trans g1,t2.store b4 _,t5.store _,qcm t4 _,by rw[List.length_append];simp,qfi g6 (fun z hz=>?_),by rw[List.length_append];omega,by rw[List.length_append,List.length_append];simp;omega,by rw[qfh,List.length_append];simp;omega,fun f=>?_⟩
     ·rcases List.mem_cons.1 hz with rfl | hz
      ·omega
      ·rw[List.mem_singleton]at hz;subst hz;exact g5
     ·rw[List.length_append]at f ⊢;simp only[List.length_singleton]at f ⊢;have B:=qau (by rw[HN.out];exact Q) X.out f
      exact(Y f).fork ((HE.out.1 y).1 hf) hy (HE.out.2.2.1.sy y (List.mem_of_getElem? B.2)).2 HZ.out.1
    clear g1 P g3 g4 g5 g6 g7 g8 g9 Y HM HO hf a6 b5 a5
    gi_wp2_with (first | (refine⟨trivial,?_⟩;gi_at_call 46;refine(CallsIn.inRound l (callsIn_wide.2 b0.out)).mono ?_;rintro e w1 ⟨rfl,a3⟩;rw[a3];clear a3 w1) | (refine⟨trivial,?_⟩;gi_at_call 72;refine(CallsIn.inRound l (callsIn_wide.2 a9.out)).mono ?_;rintro e G ⟨rfl,p3,t1,t2,t3⟩;obtain⟨v4,z4,b3⟩:=HU.out.2 G p3 _ t1 t2 t3 rfl))
    exact b3
 case done =>
  rintro D ys V hD rfl b6 hK;obtain⟨p1,a1,q,h1,h2,h3,h4,f8,h6,h7,h8,h9,a2⟩:=b6;rw[qhm]at a2;have Z:=a2 rfl;rw[HN.out,Nat.sub_self]at Z;have a7:Below J.heap.size V (V.putObj D (.deferred none)):=(Below.refl _ V).grown (grownBy_putObj' V D _) (by have:=h3.1.size;exact this) (fun k e=>by cases e;exact hD)
  have HF:Hid (∃I,I.eb=p.eb/\∃b1,FM (V.putObj D (.deferred none)) w.heap.size d I n S.tk E b1/\FV W d p (V.putObj D (.deferred none)) I/\∃q,FB S n x r.r N b1 0 q):=by
   refine⟨p1,h1,a1,h2.keep (fun k hk=>World.putObj_heap_other (fun e=>?_)),⟨⟨a7.os.trans (h3.1.os.trans a0.os),a7.tape.trans (h3.1.tape.trans a0.tape),a7.output.trans (h3.1.output.trans a0.output),Nat.le_trans a0.size (Nat.le_trans h3.1.size a7.size),fun k hk g0=>?_⟩,fun k hk=>?_⟩,q,Z⟩
   ·have i2:∀{T:Nat},Loc V k T->False:=fun⟨i5,hc⟩=>by
     rw[e,hK]at hc
     cases hc
    rcases (h2.lt hk).2.2 with e | e | e | e <;> exact i2 e
   ·have i6:k<g:=by rw[<-O.out];exact hk
    rw[a7.block k (by omega),h3.1.block k (by omega) (fun e=>e.elim g0 (fun e=>by omega)),a0.block k hk]
   ·rcases h3.2 k hk with e | e
    ·exact .inl e
    ·exact .inr (by rw[O.out];omega)
  clear h1 h2 h3 h4 f8 h6 h7 h8 h9 a2 Z a7
  gi_wp2
  refine⟨by simp,.inl ⟨_,_,rfl,run_takeDeferred hK,?_⟩⟩;exact⟨_,results_none rfl _ _ _,rfl,HF.out⟩
 case stop =>
  rintro D c C V _ _ hf _;exact hf.elim
end Go.Proofs.YtngclmglmhiljaaGreatDoor
namespace Go.Proofs.YtngclmglmhiljaaGreatDoor
open Go.RowKit
def q9:List ByteArray->ByteArray->Option Nat
 | [],_=>none
 | x :: r,s=>if x=s then some 0 else (q9 r s).map (·+1)
theorem qdg{s:ByteArray}:∀{l:List ByteArray} {k:Nat} {x:ByteArray},(∀(i:Nat) (y:ByteArray),i<k->l[i]?=some y->y≠s)->l[k]?=some x->x=s->q9 l s=some k
 | [],k,x,_,h,_=>by cases h
 | u :: r,0,x,_,h,he=>by
  cases h
  unfold q9;rw[if_pos he]
 | u :: r,k+1,x,hb,h,he=>by
  unfold q9;rw[if_neg (hb 0 u (by omega) rfl),qdg (k:=k) (x:=x) (fun i y b a=>hb (i+1) y (by omega) (by simpa using a)) (by simpa using h) he];rfl
theorem qbq{s:ByteArray}:∀{l:List ByteArray},(∀(i:Nat) (y:ByteArray),l[i]?=some y->y≠s)->q9 l s=none
 | [],_=>rfl
 | u :: r,hb=>by
  unfold q9;rw[if_neg (hb 0 u rfl),qbq (l:=r) (fun i y a=>hb (i+1) y (by simpa using a))];rfl
theorem jz{s:ByteArray}:∀{l:List ByteArray},(q9 l s).isSome=true↔s∈l
 | []=>by simp[q9]
 | u :: r=>by
  unfold q9
  split
  ·rename_i h;subst h;simp
  ·rename_i h;rw[Option.isSome_map,jz]
   constructor
   ·intro a;exact List.mem_cons_of_mem _ a
   ·intro a
    rcases List.mem_cons.1 a with h2 | h2
    ·exact absurd h2.symm h
    ·exact h2
theorem qh5{s:ByteArray}:∀{l:List ByteArray} {k:Nat},q9 l s=some k->l[k]?=some s
 | [],k,h=>by cases h
 | u :: r,k,h=>by
  unfold q9 at h
  split at h
  ·rename_i e;cases h;subst e;rfl
  ·obtain⟨j,a,rfl⟩:=Option.map_eq_some_iff.1 h
   simpa using qh5 a
theorem qft{s:ByteArray}{l:List ByteArray}{k:Nat}(h:q9 l s=some k):k<l.length:=(List.getElem?_eq_some_iff.1 (qh5 h)).1
theorem qdh(u:ByteArray)(r:List ByteArray)(s:ByteArray):q9 (u :: r) s=if u=s then some 0 else (q9 r s).map (·+1):=rfl
theorem qb7{s:ByteArray}:∀(a b:List ByteArray),q9 (a++b) s=match q9 a s with | some k=>some k | none=>(q9 b s).map (·+a.length)
 | [],b=>by simp[q9]
 | u :: r,b=>by
  have c:=qb7 (s:=s) r b;rw[List.cons_append,qdh,qdh]
  by_cases h:u=s
  ·rw[if_pos h,if_pos h]
  ·rw[if_neg h,if_neg h,c]
   cases q9 r s with
   | some k=>rfl
   | none =>
    simp only[Option.map_none]
    cases q9 b s with
    | none=>rfl
    | some j=>simp[Nat.add_assoc]
def qh6 (F:FuncId):Prop:=∀(l:List ByteArray) (ao:Option Addr) (cap:Nat) (s:ByteArray) (w:World),Row w 1 ao l.length cap (strC l)->l.length<=10000->Calls Tryz.prog F #[.slice ao l.length cap,.string s] w fun e w'=>e=.returned (.int .i64 (idxI (q9 l s)))/\w'=w
theorem qa1:qh6 84:=by
 intro l D m s w t F;have q:=ze t;have z:Hid (Row w 1 D l.length m (strC l)):=t;clear t
 obtain⟨n,j⟩:∃n,Hid (l.length=n):=⟨_,rfl⟩
 rw[j.out]at q F z ⊢;go_enter Tryz.func84,Tryz.ntmps84;go_wp2_with fail
 go_loopg [8] n (fun kx s8 wr=>∃k:Nat,s8=.int .i64 k/\k<=n/\n - k<=kx/\Hid (wr=w/\∀(i:Nat) (y:ByteArray),i<k->l[i]?=some y->y≠s))
 case atStart=>exact⟨0,rfl,Nat.zero_le _,by omega,(⟨rfl,fun i y C=>absurd C (Nat.not_lt_zero _)⟩:w=w/\∀(i:Nat) (y:ByteArray),i<0->l[i]?=some y->y≠s)⟩
 case round =>
  obtain⟨k,rfl,H,G,J⟩:=hrel;obtain⟨u,B⟩:=J.out;subst u;have g:Hid (∀(i:Nat) (y:ByteArray),i<k->l[i]?=some y->y≠s):=B;clear J B
  by_cases r:k<n
  ·have f:(k:Int)<(n:Int):=by omega
   obtain⟨x,v⟩:∃x,l[k]?=some x:=⟨l[k]'(by rw[j.out];exact r),List.getElem?_eq_getElem _⟩
   obtain⟨b,o,p,c0⟩:=jm z.out v;subst p;have A:Hid (l[k]?=some x):=v;clear v
   by_cases a:x=s
   ·have E:=xh a.symm
    have d:Hid (idxI (q9 l s)=(k:Int)):=by
     show _=_;rw[qdg g.out A.out a];rfl
    clear a;go_wp2_with fail;go_ret;exact⟨by rw[d.out];rfl,rfl⟩
   ·have E:=k9 (fun e=>a e.symm:s≠x)
    have d:Hid (∀(i:Nat) (y:ByteArray),i<k+1->l[i]?=some y->y≠s):=fun i y C c=>by
     rcases Nat.lt_or_ge i k with h | h
     ·exact g.out i y h c
     ·have:i=k:=by omega
      subst this;rw[A.out]at c
      cases c
      exact a
    clear a;go_wp2_with fail;go_roundg (n - (k+1))
    case measure=>omega
    case rel=>exact⟨k+1,by simp,by omega,Nat.le_refl _,(⟨rfl,d.out⟩:wr=wr/\∀(i:Nat) (y:ByteArray),i<k+1->l[i]?=some y->y≠s)⟩
  ·have f:¬(k:Int)<(n:Int):=by omega
   have d:Hid (idxI (q9 l s)=-1):=by
    show _=_;rw[qbq (fun i y c=>g.out i y (by have:=(List.getElem?_eq_some_iff.1 c).1;rw[j.out]at this;omega) c)]
    rfl
   go_wp2_with fail;go_ret;exact⟨by rw[d.out];rfl,rfl⟩
theorem qa2:qh6 32:=by
 intro l D m s w t F;have q:=ze t;have z:Hid (Row w 1 D l.length m (strC l)):=t;clear t
 obtain⟨n,j⟩:∃n,Hid (l.length=n):=⟨_,rfl⟩
 rw[j.out]at q F z ⊢;go_enter Tryz.func32,Tryz.ntmps32;go_wp2_with fail
 go_loopg [5] n (fun kx s5 wr=>∃k:Nat,s5=.int .i64 k/\k<=n/\n - k<=kx/\Hid (wr=w/\∀(i:Nat) (y:ByteArray),i<k->l[i]?=some y->y≠s))
 case atStart=>exact⟨0,rfl,Nat.zero_le _,by omega,(⟨rfl,fun i y C=>absurd C (Nat.not_lt_zero _)⟩:w=w/\∀(i:Nat) (y:ByteArray),i<0->l[i]?=some y->y≠s)⟩
 case round =>
  obtain⟨k,rfl,H,G,J⟩:=hrel;obtain⟨u,B⟩:=J.out;subst u;have g:Hid (∀(i:Nat) (y:ByteArray),i<k->l[i]?=some y->y≠s):=B;clear J B
  by_cases r:k<n
  ·have f:(k:Int)<(n:Int):=by omega
   obtain⟨x,v⟩:∃x,l[k]?=some x:=⟨l[k]'(by rw[j.out];exact r),List.getElem?_eq_getElem _⟩
   obtain⟨b,o,p,c0⟩:=jm z.out v;subst p;have A:Hid (l[k]?=some x):=v;clear v
   by_cases a:x=s
   ·have E:=xh a
    have d:Hid (idxI (q9 l s)=(k:Int)):=by
     show _=_;rw[qdg g.out A.out a];rfl
    clear a;go_wp2_with fail;go_ret;exact⟨by rw[d.out];rfl,rfl⟩
   ·have E:=k9 a
    have d:Hid (∀(i:Nat) (y:ByteArray),i<k+1->l[i]?=some y->y≠s):=fun i y C c=>by
     rcases Nat.lt_or_ge i k with h | h
     ·exact g.out i y h c
     ·have:i=k:=by omega
      subst this;rw[A.out]at c
      cases c
      exact a
    clear a;go_wp2_with fail;go_roundg (n - (k+1))
    case measure=>omega
    case rel=>exact⟨k+1,by simp,by omega,Nat.le_refl _,(⟨rfl,d.out⟩:wr=wr/\∀(i:Nat) (y:ByteArray),i<k+1->l[i]?=some y->y≠s)⟩
  ·have f:¬(k:Int)<(n:Int):=by omega
   have d:Hid (idxI (q9 l s)=-1):=by
    show _=_;rw[qbq (fun i y c=>g.out i y (by have:=(List.getElem?_eq_some_iff.1 c).1;rw[j.out]at this;omega) c)]
    rfl
   go_wp2_with fail;go_ret;exact⟨by rw[d.out];rfl,rfl⟩
theorem qa3(o:Option Nat):(0<=idxI o)↔o.isSome=true:=by
 cases o with
 | none=>simp[idxI]
 | some k=>simp[idxI]
theorem yu(l:List ByteArray)(c:Option Addr)(a:Nat)(s:ByteArray)(w:World)(j:Row w 1 c l.length a (strC l))(m:l.length<=10000)(b:Bool)(i:b=true↔s∈l):
  Calls Tryz.prog 92 #[.slice c l.length a,.string s] w fun e f=>e=.returned (.bool b)/\f=w:=by
 have g:Hid (Calls Tryz.prog 84 #[.slice c l.length a,.string s] w fun e f=>e=.returned (.int .i64 (idxI (q9 l s)))/\f=w):=qa1 l c a s w j m
 have d:Hid (b=true↔0<=idxI (q9 l s)):=by rw[qa3,jz];exact i
 clear i j;generalize idxI (q9 l s)=z at g d;go_enter Tryz.func92,Tryz.ntmps92;go_wp2_with fail;refine g.out.mono ?_;rintro e w1 ⟨rfl,rfl⟩
 cases b
 ·have k:¬0<=z:=fun h=>by have:=d.out.2 h;cases this
  go_wp2_with fail;go_ret;exact⟨by simp[k],rfl⟩
 ·have k:0<=z:=d.out.1 rfl;go_wp2_with fail;go_ret;exact⟨by simp,rfl⟩
def lfS (l:List ByteArray) (r:Ru):List ByteArray:=if (q9 l r.l).isSome=true then l else l++[r.l]
def lfs (rs:List Ru):List ByteArray:=rs.foldl lfS []
def tkG (G:Gm):List ByteArray:=G.ts.map (·.n)
def nmG (G:Gm):List ByteArray:=tkG G++e0 :: lfs G.rs
def kc (G:Gm):ByteArray:=if G.s=e0 then ((G.rs[0]?).map (·.l)).getD e0 else G.s
def kz (G:Gm):Prop:=12<G.ts.length\/30<G.rs.length\/10<(lfs G.rs).length\/∃r∈G.rs,6<r.r.length
structure NmP (G:Gm):Prop where
 ne:G.rs≠[]
 tk:∀t∈G.ts,t.n ∉ lfs G.rs
 pr:∀r∈G.rs,r.p=e0\/r.p∈tkG G
 rr:∀r∈G.rs,∀x∈r.r,x∈tkG G\/x∈lfs G.rs
 st:kc G∈lfs G.rs
def ix (l:List ByteArray) (s:ByteArray):Nat:=(q9 l s).getD 0
def byS (nm:List ByteArray) (tk:Nat) (o:Option Nat) (x:ByteArray):Option Nat:=if ix nm x<tk then some (ix nm x) else o
def byL (G:Gm) (l:List ByteArray):Option Nat:=l.foldl (byS (nmG G) G.ts.length) none
def byG (G:Gm) (r:Ru):Option Nat:=if r.p=e0 then byL G r.r else q9 (tkG G) r.p
def lvO (ts:List Tk) (o:Option Nat):Int:=match o with | some k=>((ts[k]?).map (·.l)).getD 0 | none=>0
def azO (ts:List Tk) (o:Option Nat):Int:=match o with | some k=>((ts[k]?).map (·.a)).getD 0 | none=>0
def ruG (G:Gm) (r:Ru):SR:=⟨(ix (nmG G) r.l:Int),r.r.map (ix (nmG G)),lvO G.ts (byG G r),azO G.ts (byG G r)⟩
def stG (G:Gm):Nat:=G.ts.length+1+ix (lfs G.rs) (kc G)
def sy0 (G:Gm):Sp:=⟨G.ts.length,(lfs G.rs).length,0,G.e,nmG G,G.ts.map (·.l),G.ts.map (·.a),[]⟩
def spG (G:Gm):Sp:=⟨G.ts.length,(lfs G.rs).length,stG G,G.e,nmG G,G.ts.map (·.l),G.ts.map (·.a),⟨-1,[stG G],0,0⟩ :: G.rs.map (ruG G)⟩
def yd (S:Sp):Prop:=∃x,S.tk<x/\x<S.tk+1+S.nt/\(¬Der S x\/¬Rch S x)
def OfR (G:Gm) (k:Int):Prop:=(k=1/\¬MayP G)\/(k=6/\MayP G/\kz G)\/(k=7/\MayP G/\¬kz G/\¬NmP G)\/(k=8/\MayP G/\¬kz G/\NmP G/\yd (spG G))\/(k=0/\MayP G/\¬kz G/\NmP G/\¬yd (spG G))
theorem qp7(rs:List Ru)(r:Ru):lfs (rs++[r])=lfS (lfs rs) r:=by unfold lfs;rw[List.foldl_append];rfl
theorem qdi{rs:List Ru}{k:Nat}{r:Ru}(h:rs[k]?=some r):lfs (rs.take (k+1))=lfS (lfs (rs.take k)) r:=by rw[zn h,qp7]
theorem qrj{l:List ByteArray}{r:Ru}{x:ByteArray}:x∈lfS l r↔x∈l\/x=r.l:=by
 unfold lfS
 split
 ·rename_i h;have h:=jz.1 h
  constructor
  ·exact .inl
  ·rintro(a | a)
   ·exact a
   ·rw[a];exact h
 ·rw[List.mem_append,List.mem_singleton]
theorem qeg(x:ByteArray):∀(rs:List Ru) (l:List ByteArray),x∈rs.foldl lfS l↔x∈l\/∃r∈rs,r.l=x
 | [],l=>by simp
 | r :: rs,l=>by
  rw[List.foldl_cons,qeg x rs,qrj]
  constructor
  ·rintro((h | h) | ⟨q,a,h⟩)
   ·exact .inl h
   ·exact .inr ⟨r,by simp,h.symm⟩
   ·exact .inr ⟨q,List.mem_cons_of_mem _ a,h⟩
  ·rintro(h | ⟨q,a,h⟩)
   ·exact .inl (.inl h)
   ·rcases List.mem_cons.1 a with rfl | a
    ·exact .inl (.inr h.symm)
    ·exact .inr ⟨q,a,h⟩
theorem qc1{rs:List Ru}{x:ByteArray}:x∈lfs rs↔∃r∈rs,r.l=x:=by
 unfold lfs;rw[qeg];simp
theorem qe6:∀(rs:List Ru) (l:List ByteArray),(rs.foldl lfS l).length<=l.length+rs.length
 | [],l=>by simp
 | r :: rs,l=>by
  rw[List.foldl_cons];have:=qe6 rs (lfS l r)
  have a:(lfS l r).length<=l.length+1:=by
   unfold lfS
   split
   ·omega
   ·simp
  rw[List.length_cons];omega
theorem j9(rs:List Ru):(lfs rs).length<=rs.length:=by
 have:=qe6 rs [];unfold lfs
 simpa using this
theorem jj(G:Gm):(nmG G).length=G.ts.length+1+(lfs G.rs).length:=by
 unfold nmG tkG;rw[List.length_append,List.length_map,List.length_cons];omega
theorem qhn{s:ByteArray}(h:zp s):s≠e0:=by
 rintro rfl;unfold zp at h
 have:nameOk (by8 e0)=false:=by kernel_rfl
 rw[this]at h
 cases h
theorem qp8{G:Gm}(h:MayP G){x:ByteArray}(b:x∈lfs G.rs):x≠e0:=by
 obtain⟨r,a,rfl⟩:=qc1.1 b;exact qhn (h.rl r a).1
theorem qrk{G:Gm}(h:MayP G){x:ByteArray}(a:x∈tkG G):x≠e0:=by
 unfold tkG at a;obtain⟨t,c,rfl⟩:=List.mem_map.1 a;obtain⟨i,b⟩:=List.getElem?_of_mem c;exact qhn (h.tk.1 i t b).1
theorem qrl{G:Gm}(h:MayP G){r:Ru}(a:r∈G.rs){x:ByteArray}(b:x∈r.r):x≠e0:=qhn ((h.rl r a).2.2.2 x b)
theorem qdv{l:List ByteArray}{s:ByteArray}(h:s ∉ l):q9 l s=none:=by
 cases a:q9 l s with
 | none=>rfl
 | some k=>exact absurd (jz.1 (by rw[a];rfl)) h
theorem yx{l:List ByteArray}{s:ByteArray}(h:s∈l):∃k,q9 l s=some k:=by
 cases a:q9 l s with
 | none=>have:=jz.2 h;rw[a]at this;cases this
 | some k=>exact⟨k,rfl⟩
theorem qeh{G:Gm}(d:MayP G)(f:NmP G){x:ByteArray}(a:x∈lfs G.rs):q9 (nmG G) x=some (G.ts.length+1+ix (lfs G.rs) x):=by
 obtain⟨k,b⟩:=yx a
 have c:q9 (tkG G) x=none:=qdv (fun h=>by
  unfold tkG at h;obtain⟨t,g,rfl⟩:=List.mem_map.1 h
  exact f.tk t g a)
 unfold nmG;rw[qb7,c];simp only;rw[qdh,if_neg (fun e=>qp8 d a e.symm),b];unfold ix tkG;rw[b];simp;omega
theorem qp9{G:Gm}{x:ByteArray}(c:x∈tkG G):q9 (nmG G) x=some (ix (tkG G) x)/\ix (tkG G) x<G.ts.length:=by
 obtain⟨k,b⟩:=yx c;have a:=qft b;unfold nmG ix;rw[qb7,b];refine⟨rfl,?_⟩;unfold tkG at a;rw[List.length_map]at a;exact a
theorem qeu{l:List ByteArray}{x:ByteArray}(h:x∈l):ix l x<l.length:=by
 obtain⟨k,a⟩:=yx h;unfold ix;rw[a];exact qft a
theorem qc2{l:List ByteArray}{x:ByteArray}(h:x∈l):q9 l x=some (ix l x):=by
 obtain⟨k,a⟩:=yx h;unfold ix;rw[a];rfl
theorem qbt{G:Gm}{x:ByteArray}(h:x∈tkG G\/x∈lfs G.rs):x∈nmG G:=by
 unfold nmG
 rcases h with h | h
 ·exact List.mem_append_left _ h
 ·exact List.mem_append_right _ (List.mem_cons_of_mem _ h)
theorem qei{G:Gm}(t:MayP G)(f:¬kz G)(m:NmP G):WF (spG G):=by
 have o:G.ts.length<=12:=by
  rcases Nat.lt_or_ge 12 G.ts.length with h | h
  ·exact absurd (.inl h) f
  ·exact h
 have p:G.rs.length<=30:=by
  rcases Nat.lt_or_ge 30 G.rs.length with h | h
  ·exact absurd (.inr (.inl h)) f
  ·exact h
 have s:(lfs G.rs).length<=10:=by
  rcases Nat.lt_or_ge 10 (lfs G.rs).length with h | h
  ·exact absurd (.inr (.inr (.inl h))) f
  ·exact h
 have k:∀r∈G.rs,r.r.length<=6:=fun r a=>by
  rcases Nat.lt_or_ge 6 r.r.length with h | h
  ·exact absurd (.inr (.inr (.inr ⟨r,a,h⟩))) f
  ·exact h
 have c:stG G<G.ts.length+1+(lfs G.rs).length:=by
  have:=qeu m.st;unfold stG;omega
 refine⟨jj G,by simp[spG],by simp[spG],by show G.ts.length<=100;omega,by show(lfs G.rs).length<=200;omega,by simp[spG];omega,rfl,⟨by show G.ts.length<stG G;unfold stG;omega,c⟩,?_,?_⟩
 ·intro i r A a
  obtain⟨j,rfl⟩:∃j,i=j+1:=⟨i - 1,by omega⟩
  have a:(G.rs.map (ruG G))[j]?=some r:=by simpa [spG] using a
  rw[List.getElem?_map]at a;obtain⟨q,g,rfl⟩:=Option.map_eq_some_iff.1 a;have b:q.l∈lfs G.rs:=qc1.2 ⟨q,List.mem_of_getElem? g,rfl⟩;refine⟨ix (nmG G) q.l,rfl,?_⟩;have n:=qeh t m b
  have v:ix (nmG G) q.l=G.ts.length+1+ix (lfs G.rs) q.l:=by
   unfold ix at n ⊢;rw[n];rfl
  have z:=qeu b;show G.ts.length<_/\_<G.ts.length+1+(lfs G.rs).length;omega
 ·intro r a
  have a:r=⟨-1,[stG G],0,0⟩\/r∈G.rs.map (ruG G):=by simpa [spG] using a
  rcases a with rfl | a
  ·refine⟨by simp,fun y d=>?_⟩
   have:y=stG G:=by simpa using d
   subst this;exact c
  ·obtain⟨q,g,rfl⟩:=List.mem_map.1 a;refine⟨by have:=k q g;simp[ruG];omega,fun y d=>?_⟩
   have d:y∈q.r.map (ix (nmG G)):=d;obtain⟨x,u,rfl⟩:=List.mem_map.1 d;have:=qeu (qbt (m.rr q g x u));rw[jj]at this;exact this
theorem qdj(G:Gm)(l:List ByteArray)(x:ByteArray):byL G (l++[x])=byS (nmG G) G.ts.length (byL G l) x:=by unfold byL;rw[List.foldl_append];rfl
theorem qsb{c:List ByteArray}{b:Nat}{o:Option Nat}{x:ByteArray}(h:∀k,o=some k->k<b):∀k,byS c b o x=some k->k<b:=by
 intro k a;unfold byS at a
 split at a
 ·cases a;assumption
 ·exact h k a
theorem qe7(b:List ByteArray)(a:Nat):∀(l:List ByteArray) (o:Option Nat),(∀k,o=some k->k<a)->∀k,l.foldl (byS b a) o=some k->k<a
 | [],_,h,k,hk=>h k hk
 | x :: l,o,h,k,hk=>qe7 b a l (byS b a o x) (qsb h) k hk
theorem qsc{G:Gm}{l:List ByteArray}{k:Nat}(h:byL G l=some k):k<G.ts.length:=qe7 _ _ l none (fun k a=>by cases a) k h
theorem qon{G:Gm}{r:Ru}{k:Nat}(h:byG G r=some k):k<G.ts.length:=by
 unfold byG at h
 split at h
 ·exact qsc h
 ·have:=qft h;unfold tkG at this
  rwa [List.length_map]at this
theorem qqa{w:World}{b o n a k:Nat}{l:List ByteArray}(h:Row w 1 (some ⟨b,o,none⟩) n a (strC l))(m:k<=n):Row w 1 (some ⟨b,o+k,none⟩) (n - k) (a - k) (strC (l.drop k)):=by
 have d:=h.len;have g:=h.le;have i:=h.max
 have f:l.length=n:=by unfold strC at d;rw[List.length_map]at d;omega
 refine⟨by unfold strC;rw[List.length_map,List.length_drop];omega,by omega,by omega,.inr ⟨b,o+k,rfl,fun j u c=>?_⟩⟩
 rcases h.lies with ⟨e,-⟩ | ⟨b',o',e,hc⟩
 ·cases e
 ·cases e
  rw[Nat.add_assoc];refine hc (k+j) u ?_;unfold strC at c ⊢;rw[List.getElem?_map]at c ⊢;rw[List.getElem?_drop]at c;exact c
theorem qej(h:SHd)(S:Sp)(w:World)(b:Row w 1 h.na S.nm.length h.nc (strC S.nm))(g:S.tk<=S.nm.length):
  Calls Tryz.prog 97 #[sv h S] w fun e a=>e=.returned (.slice h.na S.tk h.nc)/\Row a 1 h.na S.tk h.nc (strC (S.nm.take S.tk))/\Below w.heap.size w a:=by
 have f:=ze b
 have c:Hid (∀a,Below w.heap.size w a->Row a 1 h.na S.tk h.nc (strC (S.nm.take S.tk))):=fun a d=>by
  have:=(b.below d).take S.tk g;rw[Nat.mul_one]at this;unfold strC at this ⊢
  rwa [<-List.map_take]at this
 unfold sv sC;clear b
 generalize S.nm.length=n at *
 generalize S.lv.length=k;generalize S.az.length=i;generalize S.rs.length=l
 have j:(S.tk:Int)<=(h.nc:Int):=by omega
 go_enter Tryz.func97,Tryz.ntmps97;go_wp2_with fail;go_ret;exact⟨rfl,c.out _ (qb _ _),qb _ _⟩
theorem qek(h:SHd)(S:Sp)(w:World)(g:Row w 1 h.na S.nm.length h.nc (strC S.nm))(m:S.tk+1<=S.nm.length):
  Calls Tryz.prog 93 #[sv h S] w fun e a=>∃l c,e=.returned (.slice l (S.nm.length - (S.tk+1)) c)/\Row a 1 l (S.nm.length - (S.tk+1)) c (strC (S.nm.drop (S.tk+1)))/\Below w.heap.size w a:=by
 have k:=ze g;obtain⟨b,o,f,-⟩:=g.at (by omega);rw[f]at g
 have i:Hid (∀a,Below w.heap.size w a->Row a 1 (some ⟨b,o+(S.tk+1),none⟩) (S.nm.length - (S.tk+1)) (h.nc - (S.tk+1)) (strC (S.nm.drop (S.tk+1)))):=fun a t=>qqa (g.below t) m
 have d:Hid (h.nc=S.tk+1->∀a,Row a 1 (some ⟨b,o,none⟩) (S.nm.length - (S.tk+1)) 0 (strC (S.nm.drop (S.tk+1)))):=fun e a=>by
  have r:S.nm.length=S.tk+1:=by omega
  have s:S.nm.drop (S.tk+1)=[]:=List.drop_of_length_le (by omega);rw[s,r,Nat.sub_self];exact⟨rfl,Nat.le_refl _,Nat.zero_le _,.inr ⟨b,o,rfl,fun j u x=>by cases x⟩⟩
 unfold sv sC;rw[f];clear g f
 obtain⟨n,q⟩:∃n,Hid (S.nm.length=n):=⟨_,rfl⟩
 rw[q.out]at i d k m ⊢;generalize S.lv.length=B;generalize S.az.length=y;generalize S.rs.length=C
 have z:(S.tk:Int)+1<=(n:Int):=by omega
 have A:(n:Int)<=(h.nc:Int):=by omega
 go_enter Tryz.func93,Tryz.ntmps93
 by_cases v:h.nc=S.tk+1
 ·have p:Hid (∀a,Row a 1 (some ⟨b,o,none⟩) (n - (S.tk+1)) 0 (strC (S.nm.drop (S.tk+1)))):=d.out v;clear i d;go_wp2_with fail;go_ret;exact⟨_,_,rfl,p.out _,qb _ _⟩
 ·clear d;go_wp2_with fail;go_ret;exact⟨_,_,rfl,i.out _ (qb _ _),qb _ _⟩
theorem qdw(G:Gm)(h:Hd)(w:World)(k:IsG w h G)(m:G.rs≠[]):Calls Tryz.prog 85 #[gv h G] w fun e y=>e=.returned (.string (kc G))/\Below w.heap.size w y:=by
 obtain⟨ts,c,q,rs⟩:=G;obtain⟨C,D,z,A⟩:=h;simp only at m
 obtain⟨r,i⟩:∃r,rs[0]?=some r:=by
  cases rs with
  | nil=>exact absurd rfl m
  | cons a l=>exact⟨a,rfl⟩
 have p:=kj k.rul;obtain⟨b,o,E,F,j,c0,-,-,-⟩:=k.rul.at i;simp only at j p c0;subst j;rw[Nat.zero_mul,Nat.add_zero]at c0;have s:0<rs.length:=(List.getElem?_eq_some_iff.1 i).1;have g:=qo c0;unfold gv;simp only
 by_cases d:c=e0
 ·have u:=(zo c).2 d
  have f:Hid (kc ⟨ts,c,q,rs⟩=r.l):=by
   unfold kc;simp only;rw[if_pos d,i];rfl
  rw[f.out];generalize r.l=B at g ⊢;clear k i d c0 m f
  generalize rs.length=t at *
  generalize ts.length=x at *
  have n:(0:Int)<(t:Int):=by omega
  go_enter Tryz.func85,Tryz.ntmps85;go_wp2_with fail;go_ret;exact⟨rfl,qb _ _⟩
 ·have u:(c.toList == [])=false:=by
   cases v:(c.toList == [])
   ·rfl
   ·exact absurd ((zo c).1 v) d
  have f:Hid (kc ⟨ts,c,q,rs⟩=c):=by
   show _=_;unfold kc;simp only;rw[if_neg d]
  rw[f.out];clear k i d c0 m f g
  generalize rs.length=t at *
  generalize ts.length=x at *
  go_enter Tryz.func85,Tryz.ntmps85;go_wp2_with fail;go_ret;exact⟨rfl,qb _ _⟩
theorem qlh(l p:ByteArray)(b:Option Addr)(n c:Nat)(w:World):Calls Tryz.prog 95 #[.agg #[.string l,.slice b n c,.string p]] w fun e a=>e=.returned (.bool (decide ((6:Int)<(n:Int))))/\Below w.heap.size w a:=by
 go_enter Tryz.func95,Tryz.ntmps95;go_wp2_with fail;go_ret;exact⟨rfl,qb _ _⟩
theorem qgo(rs:List Ru)(x:Option Addr)(c:Nat)(w:World)(a:ks w x rs.length c rs)(M:rs.length<=10000)(H:∀r∈rs,r.r.length<=1000):
  Calls Tryz.prog 106 #[.slice x rs.length c,.func (.func 95) #[] #[]] w fun e F=>∃z:Int,e=.returned (.int .i64 z)/\(0<=z↔∃r∈rs,6<r.r.length)/\Below w.heap.size w F:=by
 have C:=kj a
 have v:Hid (ks w x rs.length c rs/\∀r∈rs,r.r.length<=1000):=⟨a,H⟩
 clear a H
 obtain⟨n,u⟩:∃n,Hid (rs.length=n):=⟨_,rfl⟩
 rw[u.out]at C M v ⊢;go_enter Tryz.func106,Tryz.ntmps106;go_wp2_with fail
 go_loopg [8] n (fun kx s8 wr=>∃k:Nat,s8=.int .i64 k/\k<=n/\n - k<=kx/\Hid (Below w.heap.size w wr/\∀(i:Nat) (r:Ru),i<k->rs[i]?=some r->¬6<r.r.length))
 case atStart=>exact⟨0,rfl,Nat.zero_le _,by omega,(⟨Below.refl _ _,fun i y g=>absurd g (Nat.not_lt_zero _)⟩:Below w.heap.size w w/\∀(i:Nat) (r:Ru),i<0->rs[i]?=some r->¬6<r.r.length)⟩
 case round =>
  obtain⟨k,rfl,P,O,J⟩:=hrel
  by_cases D:k<n
  ·have j:(k:Int)<(n:Int):=by omega
   obtain⟨r,a⟩:∃r,rs[k]?=some r:=⟨rs[k]'(by rw[u.out];exact D),List.getElem?_eq_getElem _⟩
   obtain⟨b,o,I,K,B,c0,c1,c2,s⟩:=(v.out.1.below J.out.1).at a;subst B;have m:=v.out.2 r (List.mem_of_getElem? a);have G:Hid (rs[k]?=some r):=a;have d:Hid (Calls Tryz.prog 95 #[.agg #[.string r.l,.slice I r.r.length K,.string r.p]] wr fun e F=>e=.returned (.bool (decide ((6:Int)<(r.r.length:Int))))/\Below wr.heap.size wr F):=qlh r.l r.p I r.r.length K wr;clear a s
   by_cases t:6<r.r.length
   ·have hd:decide ((6:Int)<(r.r.length:Int))=true:=by simp;omega
    rw[hd]at d
    have f:Hid (∃r∈rs,6<r.r.length):=⟨r,List.mem_of_getElem? G.out,t⟩
    generalize r.r.length=N at c1 d m;clear t hd;go_wp2_with(go_at_call 95;refine d.out.mono ?_;rintro e w1 ⟨rfl,A⟩)
    go_ret;exact⟨(k:Int),rfl,⟨fun _=>f.out,fun _=>by omega⟩,qd J.out.1 A⟩
   ·have hd:decide ((6:Int)<(r.r.length:Int))=false:=by simp;omega
    rw[hd]at d
    have f:Hid (∀(i:Nat) (r:Ru),i<k+1->rs[i]?=some r->¬6<r.r.length):=fun i q g E=>by
     rcases Nat.lt_or_ge i k with h | h
     ·exact J.out.2 i q h E
     ·have:i=k:=by omega
      subst this;rw[G.out]at E
      cases E
      exact t
    generalize r.r.length=N at c1 d m;clear t hd;go_wp2_with(go_at_call 95;refine d.out.mono ?_;rintro e w1 ⟨rfl,A⟩)
    go_roundg (n - (k+1))
    case measure=>omega
    case rel=>exact⟨k+1,by simp,by omega,Nat.le_refl _,(⟨qd J.out.1 A,f.out⟩:Below w.heap.size w w1/\∀(i:Nat) (r:Ru),i<k+1->rs[i]?=some r->¬6<r.r.length)⟩
  ·have j:¬(k:Int)<(n:Int):=by omega
   have f:Hid (¬∃r∈rs,6<r.r.length):=by
    rintro⟨r,a,L⟩;obtain⟨i,g⟩:=List.getElem?_of_mem a;exact J.out.2 i r (by have:=(List.getElem?_eq_some_iff.1 g).1;rw[u.out]at this;omega) g L
   go_wp2_with fail;go_ret;exact⟨-1,rfl,⟨fun h=>by omega,fun h=>absurd h f.out⟩,J.out.1⟩
theorem qi1(rs:List Ru)(d:Option Addr)(a:Nat)(w:World)(n:ks w d rs.length a rs)(p:rs.length<=10000)(o:∀r∈rs,r.r.length<=1000)(b:Bool)(m:b=true↔∃r∈rs,6<r.r.length):
  Calls Tryz.prog 94 #[.slice d rs.length a,.func (.func 95) #[] #[]] w fun e f=>e=.returned (.bool b)/\Below w.heap.size w f:=by
 have i:Hid (Calls Tryz.prog 106 #[.slice d rs.length a,.func (.func 95) #[] #[]] w fun e f=>∃z:Int,e=.returned (.int .i64 z)/\(0<=z↔∃r∈rs,6<r.r.length)/\Below w.heap.size w f):=qgo rs d a w n p o;have g:Hid (b=true↔∃r∈rs,6<r.r.length):=m;clear n m o;go_enter Tryz.func94,Tryz.ntmps94;go_wp2_with fail;refine i.out.mono ?_;rintro e w1 ⟨z,rfl,c,l⟩;have j:Hid (b=true↔0<=z):=g.out.trans c.symm;have k:Hid (Below w.heap.size w w1):=l;clear c l g i
 cases b
 ·have c:¬0<=z:=fun h=>by have:=j.out.2 h;cases this
  go_wp2_with fail;go_ret;exact⟨by simp[c],k.out⟩
 ·have c:0<=z:=j.out.1 rfl;go_wp2_with fail;go_ret;exact⟨by simp,k.out⟩
theorem qi2(G:Gm)(h:Hd)(w:World)(a:IsG w h G)(b:Bool)(x:b=true↔kz G)(m:Nat)(q:(lfs G.rs).length=m):Calls Tryz.prog 82 #[gv h G,.int .i64 (m:Int)] w fun e v=>e=.returned (.bool b)/\Below w.heap.size w v:=by
 obtain⟨ts,M,L,rs⟩:=G;obtain⟨N,A,y,z⟩:=h;simp only at q;have J:ts.length<=100:=a.small.nt;have K:rs.length<=200:=a.small.nr
 have H:m<=200:=by have:=j9 rs;omega
 have F:ts.length<=A/\A<=9223372036854775807:=by have k:=a.tok.le;have j:=a.tok.max;simp only at k j;unfold maxLen at j;omega
 have s:=kj a.rul;simp only at s;obtain⟨i,d⟩:=zr (∃r∈rs,6<r.r.length)
 have B:Hid (∀V:World,Below w.heap.size w V->Calls Tryz.prog 94 #[.slice y rs.length z,.func (.func 95) #[] #[]] V fun e v=>e=.returned (.bool i)/\Below V.heap.size V v):=fun V E=>qi1 rs y z V (a.rul.below E) (by omega) (fun r I=>Nat.le_trans (a.small.rl r I).2.2.1 (by omega)) i d
 have f:Hid (b=true↔(12<ts.length\/30<rs.length\/10<m\/i=true)):=by
  rw[<-q,d];exact x
 unfold gv;simp only;clear a x d q
 generalize ts.length=u at *
 generalize rs.length=t at *
 have g:Hid (∀o,Below w.heap.size w (w.alloc o)):=fun o=>qb w o
 go_enter Tryz.func82,Tryz.ntmps82
 by_cases k:12<u
 ·have c:Hid (b=true):=f.out.2 (.inl k)
  have l:(12:Int)<(u:Int):=by omega
  go_wp2_with fail;go_ret;exact⟨by rw[c.out];rfl,g.out _⟩
 have l:¬(12:Int)<(u:Int):=by omega
 by_cases j:30<t
 ·have c:Hid (b=true):=f.out.2 (.inr (.inl j))
  have n:(30:Int)<(t:Int):=by omega
  go_wp2_with fail;go_ret;exact⟨by rw[c.out];rfl,g.out _⟩
 have n:¬(30:Int)<(t:Int):=by omega
 by_cases C:10<m
 ·have c:Hid (b=true):=f.out.2 (.inr (.inr (.inl C)))
  have p:(10:Int)<(m:Int):=by omega
  go_wp2_with fail;go_ret;exact⟨by rw[c.out];rfl,g.out _⟩
 have p:¬(10:Int)<(m:Int):=by omega
 have c:Hid (b=i):=by
  cases b <;> cases i
  ·rfl
  ·have:=f.out.2 (.inr (.inr (.inr rfl)));cases this
  ·rcases f.out.1 rfl with h | h | h | h
   ·omega
   ·omega
   ·omega
   ·cases h
  ·rfl
 go_wp2_with fail;refine(B.out _ (g.out _)).mono ?_;rintro e w1 ⟨rfl,D⟩;go_wp2_with fail;go_ret;exact⟨by rw[c.out];rfl,qd (g.out _) D⟩
structure SB (w W:World) (sb:Nat) (h:SHd) (S:Sp) (qs:List (SR × Option Addr × Nat)):Prop where
 box:W.heap[sb]?=some (.cells (sC h S) 31 (0,0))
 nm:W.ownsRow w.heap.size 9 1 (.slice h.na S.nm.length h.nc) S.nm.length (strC S.nm)
 lv:W.ownsRow w.heap.size 3 1 (.slice h.la S.lv.length h.lc) S.lv.length (intC S.lv)
 az:W.ownsRow w.heap.size 3 1 (.slice h.aa S.az.length h.ac) S.az.length (intC S.az)
 rl:W.ownsRow w.heap.size 47 4 (.slice h.ra S.rs.length h.rc) S.rs.length (srC qs)
 map:qs.map (·.1)=S.rs
 row:∀q∈qs,W.ownsRow w.heap.size 3 1 (.slice q.2.1 q.1.r.length q.2.2) q.1.r.length (natC q.1.r)
 dis:∀k,blk h.la=some k->blk h.aa≠some k
 bel:Below w.heap.size w W
 new:w.heap.size<=sb
theorem SB.isSp{w W:World}{b:Nat}{h:SHd}{S:Sp}{qs:List (SR × Option Addr × Nat)}(s:SB w W b h S qs):IsSp W h S :=
 ⟨Row.of_own s.nm,Row.of_own s.lv,Row.of_own s.az,⟨qs,s.map,Row.of_own s.rl,fun q a=>Row.of_own (s.row q a)⟩⟩
theorem zw{W b:World}{a E k n:Nat}{v:Value}{cs:List Value}(h:W.ownsRow a E k v n cs)(c:Below W.heap.size W b):b.ownsRow a E k v n cs :=
 qh h (fun i d=>c.block i (World.ownsRow.lt h i d).2)
theorem SB.step{w W b:World}{c:Nat}{h:SHd}{S:Sp}{qs:List (SR × Option Addr × Nat)}(s:SB w W c h S qs)(a:Below W.heap.size W b):SB w b c h S qs :=
 ⟨qf a s.box,zw s.nm a,zw s.lv a,zw s.az a,zw s.rl a,s.map,fun q d=>zw (s.row q d) a,s.dis,qd s.bel a,s.new⟩
theorem SB.first{w W:World}{a:Nat}{S:Sp}(h:W.heap[a]?=some (.cells (sC ⟨none,0,none,0,none,0,none,0⟩ S) 31 (0,0)))(c:S.nm=[])(d:S.lv=[])(f:S.az=[])(b:S.rs=[])(g:Below w.heap.size w W)(l:w.heap.size<=a):SB w W a ⟨none,0,none,0,none,0,none,0⟩ S []:=by
 refine⟨h,?_,?_,?_,?_,by rw[b];rfl,(fun q j=>by cases j),(fun k i=>by cases i),g,l⟩
 ·rw[c];exact World.ownsRow_nil _ _ _ _
 ·rw[d];exact World.ownsRow_nil _ _ _ _
 ·rw[f];exact World.ownsRow_nil _ _ _ _
 ·rw[b];exact World.ownsRow_nil _ _ _ _
theorem j8{W b:World}{F:Nat->Prop}{a E k n:Nat}{v:Value}{cs:List Value}(h:W.ownsRow a E k v n cs)(f:Kept F W b)(d:∀i,v.ownBlock=some i->¬F i):b.ownsRow a E k v n cs :=
 qh h (fun i c=>f.block i (World.ownsRow.lt h i c).2 (d i c))
theorem zl{W:World}{b j a E k n:Nat}{v u:Value}{cs:List Value}{c:Array Value}(h:W.ownsRow a E k v n cs)(f:W.heap[b]?=some (.cells c 31 (0,0)))(d:E≠31):(W.setCell ⟨b,j,none⟩ u).ownsRow a E k v n cs :=
 qh h (fun _ g=>Below.heap_setCell _ _ _ _ (qr (qx h g) ⟨_,f⟩ d))
theorem ye{W:World}{a j:Nat}{u:Value}{c:Array Value}(b:W.heap[a]?=some (.cells c 31 (0,0))):(W.setCell ⟨a,j,none⟩ u).heap[a]?=some (.cells (c.setIfInBounds j u) 31 (0,0)):=by
 rw[setCell_eq_setRow W a j _ 31 (0,0) _ b];exact setRow_heap _ _ _ _ 31 _ b
theorem SB.addNm{w W:World}{f:Nat}{h:SHd}{S:Sp}{qs:List (SR × Option Addr × Nat)}(s:SB w W f h S qs)(x:ByteArray)(A:S.nm.length<10000):
  ∃g c b,(Builtin.append_ #[28,28] 28 #[.slice h.na S.nm.length h.nc,.slice (some ⟨W.heap.size,0,none⟩) 1 1]).run Tryz.prog (W.alloc (.cells #[.string x] 9))=.ok (.slice (some ⟨g,0,none⟩) (S.nm.length+1) c) b /\
   b.heap[f]?=some (.cells (sC h S) 31 (0,0))/\SB w (b.setCell ⟨f,4,none⟩ (.slice (some ⟨g,0,none⟩) (S.nm.length+1) c)) f ⟨some ⟨g,0,none⟩,c,h.la,h.lc,h.aa,h.ac,h.ra,h.rc⟩ ⟨S.tk,S.nt,S.st,S.ex,S.nm++[x],S.lv,S.az,S.rs⟩ qs/\Kept (fun k=>k=f\/blk h.na=some k) W (b.setCell ⟨f,4,none⟩ (.slice (some ⟨g,0,none⟩) (S.nm.length+1) c)):=by
 obtain⟨g,c,b,y,j,l,z⟩:=jc (us:=[.string x]) u28 i9 rfl (by decide) (by decide) rfl (fun u m=>by rw[List.mem_singleton]at m;subst m;rfl) s.nm s.bel.size (by omega)
 have d:Kept (fun k=>blk h.na=some k) W b:=((Kept.refl _ W).alloc _).trans l (fun k _ e=>zi e)
 have stay:∀{E k n:Nat} {v:Value} {cs:List Value},W.ownsRow w.heap.size E k v n cs->E≠9->b.ownsRow w.heap.size E k v n cs:=fun j o=>j8 j d (fun i r e=>qr (qx j r) (qw s.nm e).2.2 o rfl)
 have a:b.heap[f]?=some (.cells (sC h S) 31 (0,0)):=by
  rw[d.block f (Array.getElem?_eq_some_iff.1 s.box).1 (fun e=>qr ⟨_,s.box⟩ (qw s.nm e).2.2 (by decide) rfl)];exact s.box
 refine⟨g,c,b,y,a,⟨?_,?_,zl (stay s.lv (by decide)) a (by decide),zl (stay s.az (by decide)) a (by decide),zl (stay s.rl (by decide)) a (by decide),s.map,fun q t=>zl (stay (s.row q t) (by decide)) a (by decide),s.dis,?_,s.new⟩,?_⟩
 ·rw[ye a];unfold sC;simp
 ·simp only[List.length_append,List.length_cons,List.length_nil]
  have e:strC (S.nm++[x])=strC S.nm++[.string x]:=by unfold strC;rw[List.map_append];rfl
  rw[e];exact zl j a (by decide)
 ·refine(s.bel.trans (d.below s.bel.size (fun k l e=>?_))).setCell (p:=⟨f,4,none⟩) s.new _;have:=(qw s.nm e).1;omega
 ·exact Kept.setCell (d.weaken (fun k e=>.inr e)) _ _ (fun _=>.inl rfl)
theorem qh7(l:List Int)(x:Int):intC (l++[x])=intC l++[.int .i64 x]:=by unfold intC;rw[List.map_append];rfl
theorem SB.addLv{w W:World}{f:Nat}{h:SHd}{S:Sp}(s:SB w W f h S [])(x:Int)(C:S.lv.length<10000):
  ∃g c d,(Builtin.append_ #[26,26] 26 #[.slice h.la S.lv.length h.lc,.slice (some ⟨W.heap.size,0,none⟩) 1 1]).run Tryz.prog (W.alloc (.cells #[.int .i64 x] 3))=.ok (.slice (some ⟨g,0,none⟩) (S.lv.length+1) c) d /\
   d.heap[f]?=some (.cells (sC h S) 31 (0,0))/\SB w (d.setCell ⟨f,5,none⟩ (.slice (some ⟨g,0,none⟩) (S.lv.length+1) c)) f ⟨h.na,h.nc,some ⟨g,0,none⟩,c,h.aa,h.ac,h.ra,h.rc⟩ ⟨S.tk,S.nt,S.st,S.ex,S.nm,S.lv++[x],S.az,S.rs⟩ []/\Kept (fun k=>k=f\/blk h.la=some k) W (d.setCell ⟨f,5,none⟩ (.slice (some ⟨g,0,none⟩) (S.lv.length+1) c)):=by
 obtain⟨g,c,d,B,j,r,z⟩:=jc (us:=[.int .i64 x]) u29 i3 rfl (by decide) (by decide) rfl (fun u t=>by rw[List.mem_singleton]at t;subst t;rfl) s.lv s.bel.size (by omega)
 have b:Kept (fun k=>blk h.la=some k) W d:=((Kept.refl _ W).alloc _).trans r (fun k _ e=>zi e)
 have stay:∀{E k n:Nat} {v:Value} {cs:List Value},W.ownsRow w.heap.size E k v n cs->E≠3->d.ownsRow w.heap.size E k v n cs:=fun j y=>j8 j b (fun i l e=>qr (qx j l) (qw s.lv e).2.2 y rfl)
 have o:d.ownsRow w.heap.size 3 1 (.slice h.aa S.az.length h.ac) S.az.length (intC S.az):=j8 s.az b (fun i l e=>s.dis i e (zi l))
 have a:d.heap[f]?=some (.cells (sC h S) 31 (0,0)):=by
  rw[b.block f (Array.getElem?_eq_some_iff.1 s.box).1 (fun e=>qr ⟨_,s.box⟩ (qw s.lv e).2.2 (by decide) rfl)];exact s.box
 refine⟨g,c,d,B,a,⟨?_,zl (stay s.nm (by decide)) a (by decide),?_,zl o a (by decide),zl (stay s.rl (by decide)) a (by decide),s.map,(fun q A=>by cases A),?_,?_,s.new⟩,?_⟩
 ·rw[ye a];unfold sC;simp
 ·simp only[List.length_append,List.length_cons,List.length_nil];rw[qh7];exact zl j a (by decide)
 ·intro k m e
  cases m
  rcases z with h1 | h1
  ·exact s.dis g (zi h1) e
  ·have:=(qw s.az e).2.1;simp only at this;omega
 ·refine(s.bel.trans (b.below s.bel.size (fun k r e=>?_))).setCell (p:=⟨f,5,none⟩) s.new _;have:=(qw s.lv e).1;omega
 ·exact Kept.setCell (b.weaken (fun k e=>.inr e)) _ _ (fun _=>.inl rfl)
theorem SB.addAz{w W:World}{f:Nat}{h:SHd}{S:Sp}(s:SB w W f h S [])(x:Int)(C:S.az.length<10000):
  ∃g c d,(Builtin.append_ #[26,26] 26 #[.slice h.aa S.az.length h.ac,.slice (some ⟨W.heap.size,0,none⟩) 1 1]).run Tryz.prog (W.alloc (.cells #[.int .i64 x] 3))=.ok (.slice (some ⟨g,0,none⟩) (S.az.length+1) c) d /\
   d.heap[f]?=some (.cells (sC h S) 31 (0,0))/\SB w (d.setCell ⟨f,6,none⟩ (.slice (some ⟨g,0,none⟩) (S.az.length+1) c)) f ⟨h.na,h.nc,h.la,h.lc,some ⟨g,0,none⟩,c,h.ra,h.rc⟩ ⟨S.tk,S.nt,S.st,S.ex,S.nm,S.lv,S.az++[x],S.rs⟩ []/\Kept (fun k=>k=f\/blk h.aa=some k) W (d.setCell ⟨f,6,none⟩ (.slice (some ⟨g,0,none⟩) (S.az.length+1) c)):=by
 obtain⟨g,c,d,B,l,r,z⟩:=jc (us:=[.int .i64 x]) u29 i3 rfl (by decide) (by decide) rfl (fun u t=>by rw[List.mem_singleton]at t;subst t;rfl) s.az s.bel.size (by omega)
 have b:Kept (fun k=>blk h.aa=some k) W d:=((Kept.refl _ W).alloc _).trans r (fun k _ e=>zi e)
 have stay:∀{E k n:Nat} {v:Value} {cs:List Value},W.ownsRow w.heap.size E k v n cs->E≠3->d.ownsRow w.heap.size E k v n cs:=fun l y=>j8 l b (fun i m e=>qr (qx l m) (qw s.az e).2.2 y rfl)
 have o:d.ownsRow w.heap.size 3 1 (.slice h.la S.lv.length h.lc) S.lv.length (intC S.lv):=j8 s.lv b (fun i m e=>s.dis i (zi m) e)
 have a:d.heap[f]?=some (.cells (sC h S) 31 (0,0)):=by
  rw[b.block f (Array.getElem?_eq_some_iff.1 s.box).1 (fun e=>qr ⟨_,s.box⟩ (qw s.az e).2.2 (by decide) rfl)];exact s.box
 refine⟨g,c,d,B,a,⟨?_,zl (stay s.nm (by decide)) a (by decide),zl o a (by decide),?_,zl (stay s.rl (by decide)) a (by decide),s.map,(fun q A=>by cases A),?_,?_,s.new⟩,?_⟩
 ·rw[ye a];unfold sC;simp
 ·simp only[List.length_append,List.length_cons,List.length_nil];rw[qh7];exact zl l a (by decide)
 ·intro k j e
  cases e
  rcases z with h1 | h1
  ·exact s.dis g j (zi h1)
  ·have:=(qw s.lv j).2.1;simp only at this;omega
 ·refine(s.bel.trans (b.below s.bel.size (fun k r e=>?_))).setCell (p:=⟨f,6,none⟩) s.new _;have:=(qw s.az e).1;omega
 ·exact Kept.setCell (b.weaken (fun k e=>.inr e)) _ _ (fun _=>.inl rfl)
theorem SB.putNt{w W:World}{a:Nat}{h:SHd}{S:Sp}{qs:List (SR × Option Addr × Nat)}(s:SB w W a h S qs)(x:Nat):SB w (W.setCell ⟨a,1,none⟩ (.int .i64 (x:Int))) a h ⟨S.tk,x,S.st,S.ex,S.nm,S.lv,S.az,S.rs⟩ qs:=by
 refine⟨?_,zl s.nm s.box (by decide),zl s.lv s.box (by decide),zl s.az s.box (by decide),zl s.rl s.box (by decide),s.map,fun q b=>zl (s.row q b) s.box (by decide),s.dis,s.bel.setCell (p:=⟨a,1,none⟩) s.new _,s.new⟩;rw[ye s.box];unfold sC;simp
theorem SB.putSt{w W:World}{a:Nat}{h:SHd}{S:Sp}{qs:List (SR × Option Addr × Nat)}(s:SB w W a h S qs)(x:Nat):SB w (W.setCell ⟨a,2,none⟩ (.int .i64 (x:Int))) a h ⟨S.tk,S.nt,x,S.ex,S.nm,S.lv,S.az,S.rs⟩ qs:=by
 refine⟨?_,zl s.nm s.box (by decide),zl s.lv s.box (by decide),zl s.az s.box (by decide),zl s.rl s.box (by decide),s.map,fun q b=>zl (s.row q b) s.box (by decide),s.dis,s.bel.setCell (p:=⟨a,2,none⟩) s.new _,s.new⟩;rw[ye s.box];unfold sC;simp
theorem qj6(qs:List (SR × Option Addr × Nat))(q:SR × Option Addr × Nat):srC (qs++[q])=srC qs++[.int .i64 q.1.l,.slice q.2.1 q.1.r.length q.2.2,.int .i64 q.1.lv,.int .i64 q.1.a]:=by unfold srC;rw[List.flatMap_append];rfl
theorem SB.addRu{w W:World}{j:Nat}{h:SHd}{S:Sp}{qs:List (SR × Option Addr × Nat)}(s:SB w W j h S qs)(q:SR × Option Addr × Nat)(A:W.ownsRow w.heap.size 3 1 (.slice q.2.1 q.1.r.length q.2.2) q.1.r.length (natC q.1.r))(F:S.rs.length<10000):
  ∃g c d,(Builtin.append_ #[29,29] 29 #[.slice h.ra S.rs.length h.rc,.slice (some ⟨W.heap.size,0,none⟩) 1 1]).run Tryz.prog (W.alloc (.cells #[.int .i64 q.1.l,.slice q.2.1 q.1.r.length q.2.2,.int .i64 q.1.lv,.int .i64 q.1.a] 47))=.ok (.slice (some ⟨g,0,none⟩) (S.rs.length+1) c) d /\
   d.heap[j]?=some (.cells (sC h S) 31 (0,0))/\SB w (d.setCell ⟨j,7,none⟩ (.slice (some ⟨g,0,none⟩) (S.rs.length+1) c)) j ⟨h.na,h.nc,h.la,h.lc,h.aa,h.ac,some ⟨g,0,none⟩,c⟩ ⟨S.tk,S.nt,S.st,S.ex,S.nm,S.lv,S.az,S.rs++[q.1]⟩ (qs++[q])/\Kept (fun k=>k=j\/blk h.ra=some k) W (d.setCell ⟨j,7,none⟩ (.slice (some ⟨g,0,none⟩) (S.rs.length+1) c)):=by
 obtain⟨g,c,d,B,m,t,D⟩:=jc (us:=[.int .i64 q.1.l,.slice q.2.1 q.1.r.length q.2.2,.int .i64 q.1.lv,.int .i64 q.1.a]) u30 i62 rfl (by decide) (by decide) rfl (fun u x=>by simp at x;rcases x with rfl | rfl | rfl | rfl <;> rfl) s.rl s.bel.size (by omega)
 have f:Kept (fun k=>blk h.ra=some k) W d:=((Kept.refl _ W).alloc _).trans t (fun k _ e=>zi e)
 have stay:∀{E k n:Nat} {v:Value} {cs:List Value},W.ownsRow w.heap.size E k v n cs->E≠47->d.ownsRow w.heap.size E k v n cs:=fun m y=>j8 m f (fun i z e=>qr (qx m z) (qw s.rl e).2.2 y rfl)
 have b:d.heap[j]?=some (.cells (sC h S) 31 (0,0)):=by
  rw[f.block j (Array.getElem?_eq_some_iff.1 s.box).1 (fun e=>qr ⟨_,s.box⟩ (qw s.rl e).2.2 (by decide) rfl)];exact s.box
 refine⟨g,c,d,B,b,⟨?_,zl (stay s.nm (by decide)) b (by decide),zl (stay s.lv (by decide)) b (by decide),zl (stay s.az (by decide)) b (by decide),?_,?_,?_,s.dis,?_,s.new⟩,?_⟩
 ·rw[ye b];unfold sC;simp
 ·simp only[List.length_append,List.length_cons,List.length_nil];rw[qj6];exact zl m b (by decide)
 ·rw[List.map_append,s.map];rfl
 ·intro C o
  rcases List.mem_append.1 o with h1 | h1
  ·exact zl (stay (s.row C h1) (by decide)) b (by decide)
  ·rw[List.mem_singleton]at h1;subst h1;exact zl (stay A (by decide)) b (by decide)
 ·refine(s.bel.trans (f.below s.bel.size (fun k t e=>?_))).setCell (p:=⟨j,7,none⟩) s.new _;have:=(qw s.rl e).1;omega
 ·exact Kept.setCell (f.weaken (fun k e=>.inr e)) _ _ (fun _=>.inl rfl)
theorem qrm{W:World}{B g n:Nat}{E:List Bool}(h:W.ownsRow B 4 1 (.slice (some ⟨g,0,none⟩) n n) n (booC E)){x:Nat}(b:x<n):W.cell? ⟨g,x,none⟩=some (.bool (isF E x)):=by
 have a:=h.1;unfold booC at a;rw[List.length_map]at a;rw[h.cellAt x (by omega)];unfold booC;rw[List.getElem?_map,vm (by omega)];rfl
end Go.Proofs.YtngclmglmhiljaaGreatDoor
