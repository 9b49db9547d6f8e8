/-
  Of any rules by numbers all of whose symbols yield something and are reached: what may be empty, what can stand first, what behind is just what the document says.
-/
import Derived.ChangeSlices
import Derived.Deep.Matrix
import Derived.Deep.Onto
import Derived.Deep.RegionHeld
import Derived.Test.YtngclmglmhiljaaGreatDoorCards
import Derived.Test.YtngclmglmhiljaaGreatDoorTie
import Derived.OpenShut
import Derived.ShutString
import Derived.ChangeOld
import Derived.Below
import Derived.SevenTiedAt
import Derived.Test.YtngclmglmhiljaaGreatDoorOthRules
set_option maxHeartbeats 16000000
set_option maxRecDepth 100000
namespace Go.Proofs.YtngclmglmhiljaaGreatDoor
open Go.RowKit
theorem ubw{W:World}{B n C p:Nat}{q:Option Addr}{x:Int}{cs:List Value}(h:W.ownsRow B 3 1 (.slice q n C) n cs)(E:B<=W.heap.size)(K:n<100000)(F:W.cell? ⟨p,0,none⟩=some (.int .i64 x)):
  ∃g c r,(Builtin.append_ #[26,26] 26 #[.slice q n C,.slice (some ⟨p,0,none⟩) 1 1]).run Tryz.prog W=.ok (.slice (some ⟨g,0,none⟩) (n+1) c) r/\r.ownsRow B 3 1 (.slice (some ⟨g,0,none⟩) (n+1) c) (n+1) (cs++[.int .i64 x])/\Kept (fun k=>blk q=some k) W r/\(blk q=some g\/W.heap.size<=g):=by
 obtain⟨A,y,i,l,m⟩:=info_parts i3
 have a:∀j u,([.int .i64 x]:List Value)[j]?=some u->W.cell? ((⟨p,0,none⟩:Addr).add j)=some u:=by
  intro j u d
  match j,d with
  | 0,d=>cases d;exact F
 have b:∀u∈([.int .i64 x]:List Value),u.oneCell'=true:=fun u d=>by rw[List.mem_singleton]at d;subst d;rfl
 obtain⟨v',G,z,v,H,-⟩:=run_append_own (P:=Tryz.prog) W B 26 26 3 A _ 1 8 u29 y i l m rfl (by decide) _ n _ h ⟨p,0,none⟩ 1 1 [.int .i64 x] rfl a b (by unfold maxLen;omega) (by omega) E
 obtain⟨v1,w1,f,-,s,t⟩:=qai (P:=Tryz.prog) W 26 26 3 A _ 1 8 u29 y i l m rfl (by decide) _ n _ (zd h (Nat.zero_le _)) ⟨p,0,none⟩ 1 1 [.int .i64 x] rfl a b (by unfold maxLen;omega) (by omega)
 rw[z]at f
 injection f with e1 e2
 subst e1 e2;obtain⟨D,c,rfl,I,J,o⟩:=zh v
 obtain⟨g,rfl⟩:∃g,D=some ⟨g,0,none⟩:=by
  rcases o with ⟨-,o,-⟩ | o
  ·omega
  ·exact o
 refine⟨g,c,G,z,v,s.weaken (fun k e=>zi e),?_⟩
 rcases t g rfl with h7 | h7
 ·exact .inl (zi h7)
 ·exact .inr h7
structure PA (w U:World) (sb:Nat) (h:SHd) (S:Sp) (n g c:Nat):Prop where
 box:U.heap[sb]?=some (.cells (sC h S) 31 (0,0))
 nm:U.ownsRow w.heap.size 9 1 (.slice h.na S.nm.length h.nc) S.nm.length (strC S.nm)
 lv:U.ownsRow w.heap.size 3 1 (.slice (some ⟨g,0,none⟩) (n+1) c) (n+1) (intC (S.lv++[0]))
 az:U.ownsRow w.heap.size 3 1 (.slice h.aa n h.ac) n (intC S.az)
 rl:U.ownsRow w.heap.size 47 4 (.slice h.ra S.rs.length h.rc) S.rs.length []
 rs:S.rs=[]
 dis:∀k,blk h.aa=some k->g≠k
 bel:Below w.heap.size w U
 new:w.heap.size<=sb
 len:S.lv.length=n/\S.az.length=n
theorem PA.step{w U b:World}{d:Nat}{h:SHd}{S:Sp}{n g c:Nat}(s:PA w U d h S n g c)(a:Below U.heap.size U b):PA w b d h S n g c :=
 ⟨qf a s.box,zw s.nm a,zw s.lv a,zw s.az a,zw s.rl a,s.rs,s.dis,qd s.bel a,s.new,s.len⟩
theorem SB.begin{w W:World}{t:Nat}{h:SHd}{S:Sp}(s:SB w W t h S [])(n:Nat)(x:S.lv.length=n)(y:S.az.length=n)(A:S.rs=[])(H:n<10000)(p:Nat)(F:W.cell? ⟨p,0,none⟩=some (.int .i64 0)):
  ∃g c V,(Builtin.append_ #[26,26] 26 #[.slice h.la n h.lc,.slice (some ⟨p,0,none⟩) 1 1]).run Tryz.prog W=.ok (.slice (some ⟨g,0,none⟩) (n+1) c) V/\PA w V t h S n g c/\Kept (fun k=>blk h.la=some k) W V /\
   (∀(b T:Nat) (d:Array Value),W.heap[b]?=some (.cells d T (0,0))->T≠3->V.heap[b]?=some (.cells d T (0,0)))/\(∀(b:Nat) (u:Value),W.cell? ⟨b,0,none⟩=some u->blk h.la≠some b->V.cell? ⟨b,0,none⟩=some u):=by
 have a:=s.lv;rw[x]at a;have f:=s.az;rw[y]at f;obtain⟨g,c,V,G,o,j,D⟩:=ubw a s.bel.size (by omega) F
 have stay:∀{E k n:Nat} {v:Value} {cs:List Value},W.ownsRow w.heap.size E k v n cs->E≠3->V.ownsRow w.heap.size E k v n cs:=fun o B=>j8 o j (fun i q e=>qr (qx o q) (qw a e).2.2 B rfl)
 have far:∀(b T:Nat) (d:Array Value),W.heap[b]?=some (.cells d T (0,0))->T≠3->V.heap[b]?=some (.cells d T (0,0)):=fun b T d l C=>by
  rw[j.block b (Array.getElem?_eq_some_iff.1 l).1 (fun e=>qr ⟨_,l⟩ (qw a e).2.2 C rfl)];exact l
 refine⟨g,c,V,G,⟨far t 31 _ s.box (by decide),stay s.nm (by decide),?_,j8 f j (fun i q e=>s.dis i e (zi q)),?_,A,?_,?_,s.new,x,y⟩,j,far,fun b u z l=>?_⟩
 ·rw[qh7];exact o
 ·have:=stay s.rl (by decide);exact this
 ·intro k m e;subst e
  rcases D with h1 | h1
  ·exact s.dis g h1 m
  ·have:=(qw f m).2.1;omega
 ·refine s.bel.trans (j.below s.bel.size (fun k j e=>?_));have:=(qw a e).1;omega
 ·have r:=World.block_lt_of_cell? W _ z;rw[<-z]
  unfold World.cell?
  rw[j.block b r l]
theorem PA.second{w U:World}{a:Nat}{h:SHd}{S:Sp}{n g c:Nat}(s:PA w U a h S n g c)(J:n<10000)(q:Nat)(B:U.cell? ⟨q,0,none⟩=some (.int .i64 0)):
  ∃l c2 V,(Builtin.append_ #[26,26] 26 #[.slice h.aa n h.ac,.slice (some ⟨q,0,none⟩) 1 1]).run Tryz.prog U=.ok (.slice (some ⟨l,0,none⟩) (n+1) c2) V/\V.heap[a]?=some (.cells (sC h S) 31 (0,0)) /\
   SB w ((V.setCell ⟨a,5,none⟩ (.slice (some ⟨g,0,none⟩) (n+1) c)).setCell ⟨a,6,none⟩ (.slice (some ⟨l,0,none⟩) (n+1) c2)) a ⟨h.na,h.nc,some ⟨g,0,none⟩,c,some ⟨l,0,none⟩,c2,h.ra,h.rc⟩ ⟨S.tk,S.nt,S.st,S.ex,S.nm,S.lv++[0],S.az++[0],S.rs⟩ [] /\
   (∀(b T:Nat) (d:Array Value),U.heap[b]?=some (.cells d T (0,0))->T≠3->b≠a->((V.setCell ⟨a,5,none⟩ (.slice (some ⟨g,0,none⟩) (n+1) c)).setCell ⟨a,6,none⟩ (.slice (some ⟨l,0,none⟩) (n+1) c2)).heap[b]?=some (.cells d T (0,0))):=by
 obtain⟨l,c2,V,H,m,r,G⟩:=ubw s.az s.bel.size (by omega) B
 have stay:∀{E k n:Nat} {v:Value} {cs:List Value},U.ownsRow w.heap.size E k v n cs->E≠3->V.ownsRow w.heap.size E k v n cs:=fun m u=>j8 m r (fun i y e=>qr (qx m y) (qw s.az e).2.2 u rfl)
 have far:∀(b T:Nat) (d:Array Value),U.heap[b]?=some (.cells d T (0,0))->T≠3->V.heap[b]?=some (.cells d T (0,0)):=fun b T d o x=>by
  rw[r.block b (Array.getElem?_eq_some_iff.1 o).1 (fun e=>qr ⟨_,o⟩ (qw s.az e).2.2 x rfl)];exact o
 have f:=far a 31 _ s.box (by decide)
 have A:V.ownsRow w.heap.size 3 1 (.slice (some ⟨g,0,none⟩) (n+1) c) (n+1) (intC (S.lv++[0])):=j8 s.lv r (fun i y e=>by
  have C:g=i:=Option.some.inj y
  exact s.dis i e C)
 have j:(V.setCell ⟨a,5,none⟩ (.slice (some ⟨g,0,none⟩) (n+1) c)).heap[a]?=some (.cells ((sC h S).setIfInBounds 5 (.slice (some ⟨g,0,none⟩) (n+1) c)) 31 (0,0)):=ye f
 have two:∀{E k n':Nat} {v:Value} {cs:List Value},V.ownsRow w.heap.size E k v n' cs->E≠31->((V.setCell ⟨a,5,none⟩ (.slice (some ⟨g,0,none⟩) (n+1) c)).setCell ⟨a,6,none⟩ (.slice (some ⟨l,0,none⟩) (n+1) c2)).ownsRow w.heap.size E k v n' cs:=fun m u=>zl (zl m f u) j u
 refine⟨l,c2,V,H,f,⟨?_,two (stay s.nm (by decide)) (by decide),?_,?_,?_,by rw[s.rs];rfl,(fun q B=>by cases B),?_,?_,s.new⟩,fun b T d o x t=>?_⟩
 ·rw[ye j];unfold sC;simp[s.len.1,s.len.2]
 ·simp only[List.length_append,List.length_cons,List.length_nil,s.len.1];exact two A (by decide)
 ·simp only[List.length_append,List.length_cons,List.length_nil,s.len.2];rw[qh7];exact two m (by decide)
 ·exact two (stay s.rl (by decide)) (by decide)
 ·intro k z e
  cases z
  cases e
  rcases G with h1 | h1
  ·exact s.dis _ h1 rfl
  ·have I:=(World.ownsRow.lt s.lv g rfl).2;have D:U.heap.size<=g:=h1;omega
 ·have F:Below w.heap.size w V:=s.bel.trans (r.below s.bel.size (fun k r e=>by have:=(qw s.az e).1;omega))
  exact(F.setCell (p:=⟨a,5,none⟩) s.new _).setCell (p:=⟨a,6,none⟩) s.new _
 ·rw[Below.heap_setCell _ _ _ _ t,Below.heap_setCell _ _ _ _ t];exact far b T d o x
structure RQ (w W:World) (bx:Nat) (l:Int) (ys:List Nat) (xa:Option Addr) (xc:Nat):Prop where
 box:W.heap[bx]?=some (.cells #[.int .i64 l,.slice xa ys.length xc,.int .i64 0,.int .i64 0] 47 (0,0))
 own:W.ownsRow w.heap.size 3 1 (.slice xa ys.length xc) ys.length (natC ys)
 bel:Below w.heap.size w W
 new:w.heap.size<=bx
theorem RQ.add{w W:World}{b:Nat}{l:Int}{m:List Nat}{f:Option Addr}{j:Nat}(s:RQ w W b l m f j)(y:Nat)(n:Nat)(t:m.length=n)(A:n<1000):
  ∃g c a,(Builtin.append_ #[26,26] 26 #[.slice f n j,.slice (some ⟨W.heap.size,0,none⟩) 1 1]).run Tryz.prog (W.alloc (.cells #[.int .i64 (y:Int)] 3))=.ok (.slice (some ⟨g,0,none⟩) (n+1) c) a /\
   a.cell? ⟨b,1,none⟩=some (.slice f n j)/\a.frozen? ⟨b,1,none⟩=false/\RQ w (a.setCell ⟨b,1,none⟩ (.slice (some ⟨g,0,none⟩) (n+1) c)) b l (m++[y]) (some ⟨g,0,none⟩) c:=by
 subst t;obtain⟨g,c,a,x,q,o,z⟩:=jc (us:=[.int .i64 (y:Int)]) u29 i3 rfl (by decide) (by decide) rfl (fun u r=>by rw[List.mem_singleton]at r;subst r;rfl) s.own s.bel.size (by omega)
 have d:Kept (fun k=>blk f=some k) W a:=((Kept.refl _ W).alloc _).trans o (fun k _ e=>zi e)
 have h:a.heap[b]?=some (.cells #[.int .i64 l,.slice f m.length j,.int .i64 0,.int .i64 0] 47 (0,0)):=by
  rw[d.block _ (Array.getElem?_eq_some_iff.1 s.box).1 (fun e=>qr ⟨_,s.box⟩ (qw s.own e).2.2 (by decide) rfl)];exact s.box
 refine⟨g,c,a,x,by rw[qe h];rfl,qi h 1,?_,?_,?_,s.new⟩
 ·rw[setCell_eq_setRow a b 1 _ 47 (0,0) _ h,setRow_heap _ _ _ _ 47 _ h,List.length_append];rfl
 ·rw[jf,List.length_append]
  exact qh q (fun i v=>by
   cases v
   exact Below.heap_setCell _ _ _ _ (qr (qx q rfl) ⟨_,h⟩ (by decide)))
 ·refine(s.bel.trans (d.below s.bel.size (fun k o e=>?_))).setCell (p:=⟨b,1,none⟩) s.new _;have:=(qw s.own e).1;omega
structure RawI (w:World) (ao:Option Addr) (n cap:Nat) (zs:List Int):Prop where
 le:n<=cap/\cap<=9223372036854775807
 get:∀i,i<n->∃b o,ao=some ⟨b,o,none⟩/\w.cell? ⟨b,o+i,none⟩=some (.int .i64 (zs.getD i 0))
theorem RawI.below{w f:World}{d:Option Addr}{n a:Nat}{zs:List Int}(h:RawI w d n a zs)(g:Below w.heap.size w f):RawI f d n a zs :=
 ⟨h.le,fun i j=>by obtain⟨b,o,e,c⟩:=h.get i j;exact⟨b,o,e,qj g c⟩⟩
theorem vk(z:Int)(m:Int)(a:0<m):-m<z.tmod m/\z.tmod m<m:=by
 refine⟨?_,Int.tmod_lt_of_pos z a⟩;have h:=Int.tmod_lt_of_pos (-z) a;rw[Int.neg_tmod]at h;omega
structure RawM (w:World) (ao:Option Addr) (n cap:Nat):Prop where
 le:n<=cap/\cap<=9223372036854775807
 get:∀i,i<n->∃b o ai ni ci zs,ao=some ⟨b,o,none⟩/\w.cell? ⟨b,o+i,none⟩=some (.slice ai ni ci)/\RawI w ai ni ci zs
theorem RawM.below{w g:World}{d:Option Addr}{n a:Nat}(h:RawM w d n a)(f:Below w.heap.size w g):RawM g d n a :=
 ⟨h.le,fun i l=>by obtain⟨b,o,j,m,k,zs,e,c,r⟩:=h.get i l;exact⟨b,o,j,m,k,zs,e,qj f c,r.below f⟩⟩
theorem ubx{H:Type}{enc:TypeId × Value->H}{W:World}{t:Option Addr}{n o:Nat}{d:DataW H}{I:List MemPlace}(h:DataW.Trod enc Tryz.prog W 0 (fun _=>true) true 38 (.slice t n o) d I):∃_:Unit,RawM W t n o:=by
 obtain⟨fuel,F⟩:=h
 rcases Deep.open_int_rows Tryz.underlying38 Tryz.underlying26 Tryz.underlying3 (by kernel_rfl) (by kernel_rfl) F with ⟨hcs,_⟩ | ⟨x,l,c,A,L,C,Z,hcs,_,hl,hm,_,hx⟩
 ·simp[Value.cells]at hcs;obtain⟨rfl,rfl,rfl⟩:=hcs;exact⟨(),⟨Nat.le_refl _,by omega⟩,fun i z=>absurd z (Nat.not_lt_zero _)⟩
 ·simp[Value.cells]at hcs;obtain⟨rfl,rfl,rfl⟩:=hcs;refine⟨(),⟨hl,by unfold maxLen at hm;omega⟩,fun i z=>?_⟩
  obtain⟨y,q,r,K,-,g,k⟩:=hx i (by omega);have D:=(hx 0 (by omega)).1;obtain⟨b,off,p⟩:=x
  have m:p=none:=by simpa [Addr.add] using World.cell?_spot D
  subst m;rw[Addr.add_lit]at y;refine⟨b,off,A i,L i,C i,Z i,rfl,y,⟨q,by unfold maxLen at r;omega⟩,fun j J=>?_⟩
  cases v:A i with
  | none =>
   have:=g v;omega
  | some a =>
   obtain⟨-,f⟩:=k a v;have u:=f j (by omega);have E:=f 0 (by omega);obtain⟨B,G,s2⟩:=a
   have s:s2=none:=by simpa [Addr.add] using World.cell?_spot E
   subst s;rw[Addr.add_lit]at u;exact⟨B,G,rfl,u⟩
structure SZ (w W:World) (rb sb:Nat) (h:SHd) (S:Sp) (qs:List (SR × Option Addr × Nat)):Prop where
 sp:SB w W sb h S qs
 rx:W.heap[rb]?=some (.cells zC 31 (0,0))
 ne:rb≠sb
theorem SZ.step{w W a:World}{c d:Nat}{h:SHd}{S:Sp}{qs:List (SR × Option Addr × Nat)}(s:SZ w W c d h S qs)(b:Below W.heap.size W a):SZ w a c d h S qs:=⟨s.sp.step b,qf b s.rx,s.ne⟩
theorem SZ.addNm{w W:World}{f d:Nat}{h:SHd}{S:Sp}{qs:List (SR × Option Addr × Nat)}(s:SZ w W f d h S qs)(x:ByteArray)(n:Nat)(i:S.nm.length=n)(l:n<10000):
  ∃g c b,(Builtin.append_ #[28,28] 28 #[.slice h.na n h.nc,.slice (some ⟨W.heap.size,0,none⟩) 1 1]).run Tryz.prog (W.alloc (.cells #[.string x] 9))=.ok (.slice (some ⟨g,0,none⟩) (n+1) c) b /\
   b.cell? ⟨d,4,none⟩=some (.slice h.na n h.nc)/\b.frozen? ⟨d,4,none⟩=false/\SZ w (b.setCell ⟨d,4,none⟩ (.slice (some ⟨g,0,none⟩) (n+1) c)) f d ⟨some ⟨g,0,none⟩,c,h.la,h.lc,h.aa,h.ac,h.ra,h.rc⟩ ⟨S.tk,S.nt,S.st,S.ex,S.nm++[x],S.lv,S.az,S.rs⟩ qs:=by
 subst i;obtain⟨g,c,b,m,a,j,k⟩:=s.sp.addNm x l;exact⟨g,c,b,m,by rw[qe a];rfl,qi a 4,⟨j,qfu k s.sp.nm s.rx (by decide) s.ne,s.ne⟩⟩
theorem SZ.addRu{w W:World}{i f:Nat}{h:SHd}{S:Sp}{qs:List (SR × Option Addr × Nat)}(s:SZ w W i f h S qs)(q:SR × Option Addr × Nat)(n:Nat)(j:S.rs.length=n)(p:W.ownsRow w.heap.size 3 1 (.slice q.2.1 q.1.r.length q.2.2) q.1.r.length (natC q.1.r))(o:n<10000):
  ∃g c d,(Builtin.append_ #[29,29] 29 #[.slice h.ra n h.rc,.slice (some ⟨W.heap.size,0,none⟩) 1 1]).run Tryz.prog (W.alloc (.cells #[.int .i64 q.1.l,.slice q.2.1 q.1.r.length q.2.2,.int .i64 q.1.lv,.int .i64 q.1.a] 47))=.ok (.slice (some ⟨g,0,none⟩) (n+1) c) d /\
   d.cell? ⟨f,7,none⟩=some (.slice h.ra n h.rc)/\d.frozen? ⟨f,7,none⟩=false/\SZ w (d.setCell ⟨f,7,none⟩ (.slice (some ⟨g,0,none⟩) (n+1) c)) i f ⟨h.na,h.nc,h.la,h.lc,h.aa,h.ac,some ⟨g,0,none⟩,c⟩ ⟨S.tk,S.nt,S.st,S.ex,S.nm,S.lv,S.az,S.rs++[q.1]⟩ (qs++[q]):=by
 subst j;obtain⟨g,c,d,t,b,k,m⟩:=s.sp.addRu q p o;exact⟨g,c,d,t,by rw[qe b];rfl,qi b 7,⟨k,qem m s.sp.rl s.rx (by decide) s.ne,s.ne⟩⟩
theorem SZ.putSt{w W:World}{b a:Nat}{h:SHd}{S:Sp}{qs:List (SR × Option Addr × Nat)}(s:SZ w W b a h S qs)(x:Nat):SZ w (W.setCell ⟨a,2,none⟩ (.int .i64 (x:Int))) b a h ⟨S.tk,S.nt,x,S.ex,S.nm,S.lv,S.az,S.rs⟩ qs:=⟨s.sp.putSt x,qbu s.rx s.ne,s.ne⟩
theorem SZ.putRs{w W:World}{f a n:Nat}{h:SHd}{S:Sp}{qs rs:List (SR × Option Addr × Nat)}(s:SZ w W f a h S qs)(b:Option Addr)(c:Nat)(d:rs.length=n)(g:W.ownsRow w.heap.size 47 4 (.slice b n c) n (srC rs))(j:∀q∈rs,W.ownsRow w.heap.size 3 1 (.slice q.2.1 q.1.r.length q.2.2) q.1.r.length (natC q.1.r)):SZ w (W.setCell ⟨a,7,none⟩ (.slice b n c)) f a ⟨h.na,h.nc,h.la,h.lc,h.aa,h.ac,b,c⟩ ⟨S.tk,S.nt,S.st,S.ex,S.nm,S.lv,S.az,rs.map (·.1)⟩ rs:=by
 have e:(rs.map (·.1)).length=n:=by rw[List.length_map];exact d
 refine⟨⟨?_,zl s.sp.nm s.sp.box (by decide),zl s.sp.lv s.sp.box (by decide),zl s.sp.az s.sp.box (by decide),?_,rfl,fun q i=>zl (j q i) s.sp.box (by decide),s.sp.dis,s.sp.bel.setCell (p:=⟨a,7,none⟩) s.sp.new _,s.sp.new⟩,qbu s.rx s.ne,s.ne⟩
 ·rw[ye s.sp.box];unfold sC;simp[d]
 ·simp only[e];exact zl g s.sp.box (by decide)
structure NS (T M i:Nat) (S:Sp):Prop where
 tk:S.tk=T
 nt:S.nt=M
 st:S.st=0
 ex:S.ex=0
 nm:S.nm.length=i
 lv:S.lv.length=min i T
 az:S.az.length=min i T
 rs:S.rs=[]
structure RS8 (T M n k:Nat) (S:Sp):Prop where
 tk:S.tk=T
 nt:S.nt=M
 st:S.st=T+1
 nm:S.nm.length=n
 lv:S.lv.length=T
 az:S.az.length=T
 len:S.rs.length=k+1
 hd:S.rs[0]?=some ⟨-1,[T+1],0,0⟩
 rl:∀(i:Nat) (r:SR),0<i->S.rs[i]?=some r->∃x:Nat,r.l=(x:Int)/\T<x/\x<n
 rr:∀r∈S.rs,r.r.length<=4/\∀y∈r.r,y<n/\y≠T
theorem RS8.wf{T M n k:Nat}{S:Sp}(t:RS8 T M n k S)(a:n=T+1+M)(g:T<=5)(f:M<=5)(c:1<=M)(h:k<=10):WF S:=by
 refine⟨?_,?_,?_,?_,?_,?_,?_,?_,?_,?_⟩
 ·rw[t.nm,t.tk,t.nt];exact a
 ·rw[t.lv,t.tk]
 ·rw[t.az,t.tk]
 ·rw[t.tk];omega
 ·rw[t.nt];omega
 ·rw[t.len];omega
 ·rw[t.hd,t.st]
 ·rw[t.tk,t.nt,t.st];omega
 ·rw[t.tk,t.nt,<-a];exact t.rl
 ·rw[t.tk,t.nt,<-a];exact fun r b=>⟨by have:=(t.rr r b).1;omega,fun y d=>((t.rr r b).2 y d).1⟩
def Few (S:Sp):Prop:=S.tk<=6/\S.rs.length<=11/\∀r∈S.rs,r.r.length<=20/\∀y∈r.r,y≠S.tk
theorem RS8.few{T M n k:Nat}{S:Sp}(t:RS8 T M n k S)(c:T<=5)(d:k<=10):Few S :=
 ⟨by rw[t.tk];omega,by rw[t.len];omega,fun r a=>⟨by have:=(t.rr r a).1;omega,fun y b=>by rw[t.tk];exact((t.rr r a).2 y b).2⟩⟩
theorem SZ.twice{w U:World}{l d:Nat}{h:SHd}{S:Sp}(s:SZ w U l d h S [])(n:Nat)(t:S.lv.length=n)(v:S.az.length=n)(z:S.rs=[])(y:n<10000)(p:Nat)(C:U.cell? ⟨p,0,none⟩=some (.int .i64 0)):
  ∃g c V,(Builtin.append_ #[26,26] 26 #[.slice h.la n h.lc,.slice (some ⟨p,0,none⟩) 1 1]).run Tryz.prog U=.ok (.slice (some ⟨g,0,none⟩) (n+1) c) V/\V.cell? ⟨d,6,none⟩=some (.slice h.aa n h.ac) /\
   (∀(b:Nat) (u:Value),U.cell? ⟨b,0,none⟩=some u->blk h.la≠some b->V.cell? ⟨b,0,none⟩=some u) /\
   (∀(j:World) (q:Nat),Below V.heap.size V j->j.cell? ⟨q,0,none⟩=some (.int .i64 0)->∃k c2 X,(Builtin.append_ #[26,26] 26 #[.slice h.aa n h.ac,.slice (some ⟨q,0,none⟩) 1 1]).run Tryz.prog j=.ok (.slice (some ⟨k,0,none⟩) (n+1) c2) X/\X.cell? ⟨d,5,none⟩=some (.slice h.la n h.lc)/\X.cell? ⟨d,6,none⟩=some (.slice h.aa n h.ac)/\X.frozen? ⟨d,5,none⟩=false/\X.frozen? ⟨d,6,none⟩=false /\
    ∃A,SZ w ((X.setCell ⟨d,5,none⟩ (.slice (some ⟨g,0,none⟩) (n+1) c)).setCell ⟨d,6,none⟩ (.slice (some ⟨k,0,none⟩) (n+1) c2)) l d A ⟨S.tk,S.nt,S.st,S.ex,S.nm,S.lv++[0],S.az++[0],S.rs⟩ []):=by
 obtain⟨g,c,V,E,i,-,far,o⟩:=s.sp.begin n t v z y p C
 have m:∀X:World,X.heap[d]?=some (.cells (sC h S) 31 (0,0))->X.cell? ⟨d,5,none⟩=some (.slice h.la n h.lc)/\X.cell? ⟨d,6,none⟩=some (.slice h.aa n h.ac):=fun X B=>by
  have:=sbox B;rw[t,v]at this;exact⟨this.2.2.2.2.2.1,this.2.2.2.2.2.2.1⟩
 refine⟨g,c,V,E,(m V i.box).2,o,fun j q x D=>?_⟩;obtain⟨k,c2,X,r,a,F,f⟩:=(i.step x).second y q D;exact⟨k,c2,X,r,(m X a).1,(m X a).2,qi a 5,qi a 6,_,F,f l 31 _ (qf x (far l 31 _ s.rx (by decide))) (by decide) s.ne,s.ne⟩
theorem ubd(a0 a1:Int)(A:Option Addr)(rn rc:Nat)(w:World)(f:RawM w A rn rc):Calls Tryz.prog 14 #[.int .i64 a0,.int .i64 a1,.slice A rn rc] w fun e w'=>∃h S,e=.returned (.agg (sC h S))/\(WF S/\Few S)/\IsSp w' h S/\Below w.heap.size w w':=by
 have HR:Hid (RawM w A rn rc):=f;have q3:=f.le;clear f;have g7:=vk a0 5 (by decide)
 obtain⟨r0,b0⟩:∃r,a0.tmod 5=r:=⟨_,rfl⟩
 rw[b0]at g7;have g8:0<=(r0+5).tmod 5:=Int.tmod_nonneg _ (by omega);have g9:=vk (r0+5) 5 (by decide)
 obtain⟨T,hT⟩:∃T:Nat,1+(r0+5).tmod 5=(T:Int):=⟨(1+(r0+5).tmod 5).toNat,by omega⟩
 obtain⟨q0,h7⟩:∃q0:Int,(r0+5).tmod 5=q0:=⟨_,rfl⟩
 rw[h7]at g8 g9 hT
 have a9:1<=T/\T<=5:=by omega
 have h3:=vk a1 5 (by decide)
 obtain⟨r1,d⟩:∃r,a1.tmod 5=r:=⟨_,rfl⟩
 rw[d]at h3;have h4:0<=(r1+5).tmod 5:=Int.tmod_nonneg _ (by omega);have h5:=vk (r1+5) 5 (by decide)
 obtain⟨M,hM⟩:∃M:Nat,1+(r1+5).tmod 5=(M:Int):=⟨(1+(r1+5).tmod 5).toNat,by omega⟩
 obtain⟨q1,h8⟩:∃q1:Int,(r1+5).tmod 5=q1:=⟨_,rfl⟩
 rw[h8]at h4 h5 hM
 have a3:1<=M/\M<=5:=by omega
 obtain⟨n,hn⟩:∃n:Nat,n=T+1+M:=⟨_,rfl⟩
 have q6:(T:Int)+1+(M:Int)=(n:Int):=by omega
 have HN:Hid (n=T+1+M):=hn
 have o2:n<=11:=by omega
 clear hn;have f8:Below w.heap.size w ((w.alloc (.cells zC 31)).alloc (.cells #[.int .i64 (T:Int),.int .i64 (M:Int),.int .i64 0,.int .i64 0,.slice none 0 0,.slice none 0 0,.slice none 0 0,.slice none 0 0] 31)):=qd (qb _ _) (qb _ _)
 have H0:Hid (∃h S,SZ w ((w.alloc (.cells zC 31)).alloc (.cells #[.int .i64 (T:Int),.int .i64 (M:Int),.int .i64 0,.int .i64 0,.slice none 0 0,.slice none 0 0,.slice none 0 0,.slice none 0 0] 31)) w.heap.size (w.heap.size+1) h S []/\NS T M 0 S):=by
  refine⟨⟨none,0,none,0,none,0,none,0⟩,⟨T,M,0,0,[],[],[],[]⟩,⟨SB.first ?_ rfl rfl rfl rfl f8 (Nat.le_succ _),qf (w:=w.alloc (.cells zC 31)) (qb _ _) (heap_alloc_new _ _),by omega⟩,⟨rfl,rfl,rfl,rfl,rfl,by simp,by simp,rfl⟩⟩;have:=heap_alloc_new (w.alloc (.cells zC 31)) (.cells #[.int .i64 (T:Int),.int .i64 (M:Int),.int .i64 0,.int .i64 0,.slice none 0 0,.slice none 0 0,.slice none 0 0,.slice none 0 0] 31);rw[qt]at this;exact this
 clear f8;go_enter Tryz.func14,Tryz.ntmps14
 go_upto_region 2 with fail
 have ez:(w.alloc (.cells #[.int .i64 0,.int .i64 0,.int .i64 0,.int .i64 0,.slice none 0 0,.slice none 0 0,.slice none 0 0,.slice none 0 0] 31)).alloc (.cells #[.int .i64 (T:Int),.int .i64 (M:Int),.int .i64 0,.int .i64 0,.slice none 0 0,.slice none 0 0,.slice none 0 0,.slice none 0 0] 31)=(w.alloc (.cells zC 31)).alloc (.cells #[.int .i64 (T:Int),.int .i64 (M:Int),.int .i64 0,.int .i64 0,.slice none 0 0,.slice none 0 0,.slice none 0 0,.slice none 0 0] 31):=rfl;rw[ez];clear ez;generalize (w.alloc (.cells zC 31)).alloc (.cells #[.int .i64 (T:Int),.int .i64 (M:Int),.int .i64 0,.int .i64 0,.slice none 0 0,.slice none 0 0,.slice none 0 0,.slice none 0 0] 31)=W1 at H0 ⊢
 obtain⟨B,c9⟩:∃B,Hid (B=w.heap.size):=⟨_,rfl⟩
 rw[<-c9.out]at H0 ⊢;generalize B+1=a at H0 ⊢
 have CZ:Hid (∀(V:World) (h:SHd) (S:Sp) (qs:List (SR × Option Addr × Nat)),SZ w V B a h S qs->S.tk=T->S.nt=M->V.cell? ⟨a,0,none⟩=some (.int .i64 (T:Int))/\V.cell? ⟨a,1,none⟩=some (.int .i64 (M:Int))):=fun V h S qs s H e2=>by
  have:=sbox s.sp.box;rw[H,e2]at this;exact⟨this.1,this.2.1⟩
 obtain⟨c0,c1⟩:W1.cell? ⟨a,0,none⟩=some (.int .i64 (T:Int))/\W1.cell? ⟨a,1,none⟩=some (.int .i64 (M:Int)):=by
  obtain⟨h,S,s,t⟩:=H0.out;exact CZ.out _ _ _ _ s t.tk t.nt
 clear b0 d h7 h8 hT hM g7 g8 g9 h3 h4 h5;go_wp2_with fail;clear c0 c1
 go_loopg [9] n (fun kx s9 wr=>∃i:Nat,s9=.int .i64 i/\i<=n/\n - i<=kx/\Hid (∃h S,SZ w wr B a h S []/\NS T M i S))
 case atStart=>exact⟨0,rfl,Nat.zero_le _,by omega,H0⟩
 case round =>
  clear H0;obtain⟨i,rfl,hi,hg,J⟩:=hrel
  by_cases m5:i<n
  ·have b3:(i:Int)<(n:Int):=by omega
   obtain⟨h,S,s,t⟩:=J.out
   have g0:(convert 56 9 (.slice (some ⟨wr.heap.size,0,none⟩) 1 1)).run Tryz.prog (wr.alloc (.cells #[.int .u8 (97+(i:Int))] 5))=.ok (.string (strOfNums [97+(i:Int)])) (wr.alloc (.cells #[.int .u8 (97+(i:Int))] 5)) :=
    run_convert_bytes_arg _ 56 5 Tryz.underlying56 Tryz.underlying5 wr.heap.size 0 1 1 [97+(i:Int)] rfl (fun j hj=>by
     rw[World.cell?_alloc_mark]
     match j,hj with
     | 0,_=>rfl) 9 Tryz.underlying9
   have hv:Below wr.heap.size wr (wr.alloc (.cells #[.int .u8 (97+(i:Int))] 5)):=qb _ _;have s6:=s.step hv;generalize strOfNums [97+(i:Int)]=nm at g0;obtain⟨c0,c1⟩:=CZ.out _ _ _ _ s6 t.tk t.nt;obtain⟨-,-,-,-,c4,-,-,-⟩:=sbox s6.sp.box;rw[t.nm]at c4
   have G:Hid (SZ w (wr.alloc (.cells #[.int .u8 (97+(i:Int))] 5)) B a h S []/\NS T M i S):=⟨s6,t⟩
   clear s s6 t J
   go_upto_region 7 with fail
   clear g0;generalize wr.alloc (.cells #[.int .u8 (97+(i:Int))] 5)=W6 at G c0 c1 c4 ⊢
   have a4:Hid (∀x:ByteArray,∃g c V,(Builtin.append_ #[28,28] 28 #[.slice h.na i h.nc,.slice (some ⟨W6.heap.size,0,none⟩) 1 1]).run Tryz.prog (W6.alloc (.cells #[.string x] 9))=.ok (.slice (some ⟨g,0,none⟩) (i+1) c) V/\V.cell? ⟨a,4,none⟩=some (.slice h.na i h.nc)/\V.frozen? ⟨a,4,none⟩=false/\(∃E p,SZ w (V.setCell ⟨a,4,none⟩ (.slice (some ⟨g,0,none⟩) (i+1) c)) B a E p []/\p.tk=T/\p.nt=M/\p.st=0/\p.ex=0/\p.nm.length=i+1/\p.lv.length=min i T/\p.az.length=min i T/\p.rs=[])):=fun x=>by
    obtain⟨g,c,V,d,x4,f4,s7⟩:=G.out.1.addNm x i G.out.2.nm (by omega);have t:=G.out.2;exact⟨g,c,V,d,x4,f4,_,_,s7,t.tk,t.nt,t.st,t.ex,by simp[t.nm],t.lv,t.az,t.rs⟩
   by_cases l8:i<T
   ·have g4:(i:Int)<(T:Int):=by omega
    have o1:((i:Int) == (T:Int))=false:=by simp;omega
    obtain⟨g,c,V,d,x4,f4,hq⟩:=a4.out nm;have HQ:Hid (∃E p,SZ w (V.setCell ⟨a,4,none⟩ (.slice (some ⟨g,0,none⟩) (i+1) c)) B a E p []/\p.tk=T/\p.nt=M/\p.st=0/\p.ex=0/\p.nm.length=i+1/\p.lv.length=min i T/\p.az.length=min i T/\p.rs=[]):=hq;clear hq
    go_upto_region 10 with (at_builtin;refine Lib.wpList_append_run _ rfl _ _ _ _ rfl _ _ rfl rfl _ _ d ?_)
    generalize V.setCell ⟨a,4,none⟩ (.slice (some ⟨g,0,none⟩) (i+1) c)=Q at HQ ⊢;clear d x4 f4 c0 c1 c4 G a4;obtain⟨E,p,s,H,e2,e3,e4,e5,Z,e7,e8⟩:=HQ.out;rw[Nat.min_eq_left (by omega)]at Z e7
    have a8:∀(X:World) (h':SHd),SZ w X B a h' ⟨p.tk,p.nt,p.st,p.ex,p.nm,p.lv++[0],p.az++[0],p.rs⟩ []->∃h S,SZ w X B a h S []/\NS T M (i+1) S:=fun X h' hX=>⟨h',_,hX,⟨H,e2,e3,e4,e5,by simp[Z];omega,by simp[e7];omega,e8⟩⟩
    have d2:blk E.la≠some Q.heap.size/\blk E.la≠some (Q.heap.size+1):=⟨fun e=>by have:=(qw s.sp.lv e).2.1;omega,fun e=>by have:=(qw s.sp.lv e).2.1;omega⟩
    obtain⟨c0,c1⟩:=CZ.out _ _ _ _ s H e2
    have y5:Q.cell? ⟨a,5,none⟩=some (.slice E.la i E.lc):=by have:=(sbox s.sp.box).2.2.2.2.2.1;rwa [Z]at this
    have y6:Q.cell? ⟨a,6,none⟩=some (.slice E.aa i E.ac):=by have:=(sbox s.sp.box).2.2.2.2.2.2.1;rwa [e7]at this
    have k5:=qo y5 (.cells #[.int .i64 0] 3);have k6:=qo y6 (.cells #[.int .i64 0] 3);have n2:=qo k5 (.cells #[.int .i64 0] 3);have n6:=qo k6 (.cells #[.int .i64 0] 3)
    have ka:(Q.alloc (.cells #[.int .i64 0] 3)).cell? ⟨Q.heap.size,0,none⟩=some (.int .i64 0):=by rw[World.cell?_alloc_mark];rfl
    have kb:((Q.alloc (.cells #[.int .i64 0] 3)).alloc (.cells #[.int .i64 0] 3)).cell? ⟨Q.heap.size,0,none⟩=some (.int .i64 0):=qo ka _
    have L2:((Q.alloc (.cells #[.int .i64 0] 3)).alloc (.cells #[.int .i64 0] 3)).cell? ⟨Q.heap.size+1,0,none⟩=some (.int .i64 0):=by
     have:((Q.alloc (.cells #[.int .i64 0] 3)).alloc (.cells #[.int .i64 0] 3)).cell? ⟨(Q.alloc (.cells #[.int .i64 0] 3)).heap.size,0,none⟩=some (.int .i64 0):=by rw[World.cell?_alloc_mark];rfl
     rwa [qt]at this
    have sa:SZ w (Q.alloc (.cells #[.int .i64 0] 3)).drew B a E p []:=(s.step (qb _ _)).step (qk _);have d3:SZ w ((Q.alloc (.cells #[.int .i64 0] 3)).alloc (.cells #[.int .i64 0] 3)).drew B a E p []:=((s.step (qb _ _)).step (qb _ _)).step (qk _);obtain⟨g1,k1,V1,i5,k7,d9,b6⟩:=sa.twice i Z e7 e8 (by omega) Q.heap.size ka;obtain⟨g2,k2,V2,i6,n8,b1,b7⟩:=d3.twice i Z e7 e8 (by omega) Q.heap.size kb;obtain⟨g3,k3,V3,i7,n9,b2,b8⟩:=d3.twice i Z e7 e8 (by omega) (Q.heap.size+1) L2;obtain⟨l1,m1,X1,i8,m9,n3,o5,o8,p1,i0⟩:=b6 (V1.alloc (.cells #[.int .i64 0] 3)) V1.heap.size (qb _ _) (by rw[World.cell?_alloc_mark];rfl)
    obtain⟨l2,m2,X2,k0,n0,n4,o6,o9,p2,i1⟩:=b7 V2 (Q.heap.size+1) (Below.refl _ _) (b1 _ _ L2 d2.2);obtain⟨l3,m3,X3,k4,n1,n5,o7,p0,p3,i2⟩:=b8 V3 Q.heap.size (Below.refl _ _) (b2 _ _ kb d2.1);have l0:=qo k7 (.cells #[.int .i64 0] 3);have d4:=a8 _ _ i0;have d5:=a8 _ _ i1;have d6:=a8 _ _ i2
    have F:Hid ((∃h S,SZ w ((X1.setCell ⟨a,5,none⟩ (.slice (some ⟨g1,0,none⟩) (i+1) k1)).setCell ⟨a,6,none⟩ (.slice (some ⟨l1,0,none⟩) (i+1) m1)) B a h S []/\NS T M (i+1) S)/\(∃h S,SZ w ((X2.setCell ⟨a,5,none⟩ (.slice (some ⟨g2,0,none⟩) (i+1) k2)).setCell ⟨a,6,none⟩ (.slice (some ⟨l2,0,none⟩) (i+1) m2)) B a h S []/\NS T M (i+1) S)/\(∃h S,SZ w ((X3.setCell ⟨a,5,none⟩ (.slice (some ⟨g3,0,none⟩) (i+1) k3)).setCell ⟨a,6,none⟩ (.slice (some ⟨l3,0,none⟩) (i+1) m3)) B a h S []/\NS T M (i+1) S)):=⟨d4,d5,d6⟩
    clear a8 d2 ka kb L2 sa d3 d9 b1 b2 b6 b7 b8 i0 i1 i2 d4 d5 d6 s H e2 e3 e4 e5 Z e7 e8 HQ l8;obtain⟨r8,r9,r6,r7,o3,o4,s0,s1⟩:=E;simp only at i5 i6 i7 i8 k0 k4 y5 y6 k5 k6 n2 n6 k7 n8 n9 l0 m9 n3 n0 n4 n1 n5
    go_upto_region 11 with fail
    go_region_law(first
     | (refine zc rfl (.tmp 57) (.tmp 58) rfl rfl (by simp[Act.eval,Act.put]) (by simp[Act.eval,Act.put]) i5 ?_)
     | (refine zc rfl (.tmp 57) (.tmp 58) rfl rfl (by simp[Act.eval,Act.put]) rfl i6 ?_)
     | (refine zc rfl (.tmp 57) (.tmp 58) rfl rfl (by simp[Act.eval,Act.put]) rfl i7 ?_)
     | (refine zc rfl (.tmp 61) (.tmp 62) rfl rfl (by simp[Act.eval,Act.put]) (by simp[Act.eval,Act.put]) i8 ?_)
     | (refine zc rfl (.tmp 61) (.tmp 62) rfl rfl (by simp[Act.eval,Act.put]) rfl k0 ?_)
     | (refine zc rfl (.tmp 61) (.tmp 62) rfl rfl (by simp[Act.eval,Act.put]) rfl k4 ?_))
    all_goals
     go_wp2_with fail;go_roundg (n - (i+1))
     case measure=>omega
     case rel=>first | exact⟨i+1,by simp,by omega,Nat.le_refl _,F.out.1⟩ | exact⟨i+1,by simp,by omega,Nat.le_refl _,F.out.2.1⟩ | exact⟨i+1,by simp,by omega,Nat.le_refl _,F.out.2.2⟩
   ·have g4:¬(i:Int)<(T:Int):=by omega
    obtain⟨x,a7⟩:∃x,Hid (x=if i=T then (⟨#[]⟩:ByteArray) else nm):=⟨_,rfl⟩
    obtain⟨g,c,V,d,x4,f4,hq⟩:=a4.out x
    have HQ:Hid (∃h S,SZ w (V.setCell ⟨a,4,none⟩ (.slice (some ⟨g,0,none⟩) (i+1) c)) B a h S []/\NS T M (i+1) S):=by
     obtain⟨E,p,s2,H,e2,e3,e4,e5,Z,e7,e8⟩:=hq;exact⟨E,p,s2,⟨H,e2,e3,e4,e5,by rw[Z];omega,by rw[e7];omega,e8⟩⟩
    have Y:Hid ((V.setCell ⟨a,4,none⟩ (.slice (some ⟨g,0,none⟩) (i+1) c)).cell? ⟨a,0,none⟩=some (.int .i64 (T:Int))):=by
     obtain⟨E,p,s2,H⟩:=HQ.out;exact(CZ.out _ _ _ _ s2 H.tk H.nt).1
    clear hq a4
    by_cases hE:i=T
    ·have l6:((i:Int) == (T:Int))=true:=by simp[hE]
     have hx:x=⟨#[]⟩:=by rw[a7.out,if_pos hE]
     subst hx;clear hE a7
     go_upto_region 10 with (at_builtin;refine Lib.wpList_append_run _ rfl _ _ _ _ rfl _ _ rfl rfl _ _ d ?_)
     generalize V.setCell ⟨a,4,none⟩ (.slice (some ⟨g,0,none⟩) (i+1) c)=Q at HQ Y ⊢;clear d x4 f4 c0 c1 c4 G;have c0:=Y.out;go_wp2_with fail;go_roundg (n - (i+1))
     case measure=>omega
     case rel=>exact⟨i+1,by simp,by omega,Nat.le_refl _,HQ⟩
    ·have l6:((i:Int) == (T:Int))=false:=by simp;omega
     have hx:x=nm:=by rw[a7.out,if_neg hE]
     subst hx;clear hE a7
     go_upto_region 10 with (at_builtin;refine Lib.wpList_append_run _ rfl _ _ _ _ rfl _ _ rfl rfl _ _ d ?_)
     generalize V.setCell ⟨a,4,none⟩ (.slice (some ⟨g,0,none⟩) (i+1) c)=Q at HQ Y ⊢;clear d x4 f4 c0 c1 c4 G;have c0:=Y.out;go_wp2_with fail;go_roundg (n - (i+1))
     case measure=>omega
     case rel=>exact⟨i+1,by simp,by omega,Nat.le_refl _,HQ⟩
  ·have b3:¬(i:Int)<(n:Int):=by omega
   have l9:i=n:=by omega
   subst l9
   obtain⟨W3,p5⟩:∃W3,W3=wr:=⟨_,rfl⟩
   subst wr;obtain⟨h,S,s,t⟩:=J.out;obtain⟨c0,c1⟩:=CZ.out _ _ _ _ s t.tk t.nt
   have c2:W3.cell? ⟨a,2,none⟩=some (.int .i64 0):=by
    have:=(sbox s.sp.box).2.2.1;rw[t.st]at this;exact this
   have f2:=(qa4 s.sp.box).2.2.1
   have d0:Hid (∃h S,SZ w (W3.setCell ⟨a,2,none⟩ (.int .i64 ((T:Int)+1))) B a h S []/\S.tk=T/\S.nt=M/\S.st=T+1/\S.nm.length=i/\S.lv.length=T/\S.az.length=T/\S.rs=[]):=by
    have h6:=s.putSt (T+1)
    have e:(((T+1:Nat)):Int)=(T:Int)+1:=by simp
    rw[e]at h6;have:=HN.out;exact⟨h,_,h6,t.tk,t.nt,rfl,t.nm,by show S.lv.length=T;rw[t.lv];omega,by show S.az.length=T;rw[t.az];omega,t.rs⟩
   clear s t J
   go_upto_region 13 with fail
   generalize W3.setCell ⟨a,2,none⟩ (.int .i64 ((T:Int)+1))=C at d0 ⊢;clear c0 c1 c2 f2;obtain⟨h,S,s,H,e2,e3,e4,e5,Z,e7⟩:=d0.out
   have c2:C.cell? ⟨a,2,none⟩=some (.int .i64 ((T:Int)+1)):=by
    have:=(sbox s.sp.box).2.2.1;rw[e3]at this
    simpa using this
   have y7:C.cell? ⟨a,7,none⟩=some (.slice h.ra 0 h.rc):=by
    have:=(sbox s.sp.box).2.2.2.2.2.2.2;rw[e7]at this;exact this
   have f7:=(qa4 s.sp.box).2.2.2.2.2.2.2
   have b4:(C.alloc (.cells #[.int .i64 ((T:Int)+1)] 3)).ownsRow w.heap.size 3 1 (.slice (some ⟨C.heap.size,0,none⟩) 1 1) 1 (natC [T+1]):=by
    have:=vz C w.heap.size 3 1 1 [.int .i64 ((T:Int)+1)] s.sp.bel.size rfl (by omega);unfold natC
    have e:(((T+1:Nat)):Int)=(T:Int)+1:=by simp
    simp only[List.map_cons,List.map_nil,e];exact this
   have b5:((C.alloc (.cells #[.int .i64 ((T:Int)+1)] 3)).alloc (.cells #[.int .i64 (-1),.slice (some ⟨C.heap.size,0,none⟩) 1 1,.int .i64 0,.int .i64 0] 47)).ownsRow w.heap.size 47 4 (.slice (some ⟨C.heap.size+1,0,none⟩) 1 1) 1 (srC [(⟨-1,[T+1],0,0⟩,some ⟨C.heap.size,0,none⟩,1)]):=by
    have:=vz (C.alloc (.cells #[.int .i64 ((T:Int)+1)] 3)) w.heap.size 47 4 1 [.int .i64 (-1),.slice (some ⟨C.heap.size,0,none⟩) 1 1,.int .i64 0,.int .i64 0] (by rw[qt];have:=s.sp.bel.size;omega) rfl (by omega)
    rw[qt]at this;exact this
   have s5:=((s.step (qb C (.cells #[.int .i64 ((T:Int)+1)] 3))).step (qb _ (.cells #[.int .i64 (-1),.slice (some ⟨C.heap.size,0,none⟩) 1 1,.int .i64 0,.int .i64 0] 47))).putRs (rs:=[(⟨-1,[T+1],0,0⟩,some ⟨C.heap.size,0,none⟩,1)]) (n:=1) (some ⟨C.heap.size+1,0,none⟩) 1 rfl b5 (fun q hq=>by
    rw[List.mem_singleton]at hq;subst hq
    exact zw b4 (qb _ _))
   have d1:Hid (∃h S qs,SZ w (((C.alloc (.cells #[.int .i64 ((T:Int)+1)] 3)).alloc (.cells #[.int .i64 (-1),.slice (some ⟨C.heap.size,0,none⟩) 1 1,.int .i64 0,.int .i64 0] 47)).setCell ⟨a,7,none⟩ (.slice (some ⟨C.heap.size+1,0,none⟩) 1 1)) B a h S qs/\RS8 T M i 0 S) :=
    ⟨_,_,_,s5,⟨H,e2,e3,e4,e5,Z,rfl,rfl,fun k r hk f=>(by have:=(List.getElem?_eq_some_iff.1 f).1;simp at this;omega),fun r f=>(by
     have f:r=⟨-1,[T+1],0,0⟩:=by simpa using f
     subst f
     exact⟨by simp,fun y D=>by have D:y=T+1:=(by simpa using D);have:=HN.out;exact⟨by omega,by omega⟩⟩)⟩⟩
   have n7:((C.alloc (.cells #[.int .i64 ((T:Int)+1)] 3)).alloc (.cells #[.int .i64 (-1),.slice (some ⟨C.heap.size,0,none⟩) 1 1,.int .i64 0,.int .i64 0] 47)).cell? ⟨a,7,none⟩=some (.slice h.ra 0 h.rc):=qo (qo y7 _) _;have l5:=(qa4 ((s.step (qb C (.cells #[.int .i64 ((T:Int)+1)] 3))).step (qb _ (.cells #[.int .i64 (-1),.slice (some ⟨C.heap.size,0,none⟩) 1 1,.int .i64 0,.int .i64 0] 47))).sp.box).2.2.2.2.2.2.2;clear s s5 b4 b5 H e2 e3 e4 e5 Z e7 d0
   go_upto_region 14 with fail
   obtain⟨W5,f9⟩:∃W5,W5=((C.alloc (.cells #[.int .i64 ((T:Int)+1)] 3)).alloc (.cells #[.int .i64 (-1),.slice (some ⟨C.heap.size,0,none⟩) 1 1,.int .i64 0,.int .i64 0] 47)).setCell ⟨a,7,none⟩ (.slice (some ⟨C.heap.size+1,0,none⟩) 1 1):=⟨_,rfl⟩
   rw[<-f9]at d1 ⊢;clear f9 c2 y7 f7 n7 l5;go_wp2_with fail
   go_loopg [11] 10 (fun kx s11 wr=>∃k:Nat,s11=.int .i64 k/\k<=10/\k<=rn/\10 - k<=kx/\Hid (∃h S qs,SZ w wr B a h S qs/\RS8 T M i k S))
   case atStart=>exact⟨0,rfl,Nat.zero_le _,Nat.zero_le _,by omega,d1⟩
   case round =>
    clear d1 hg m5 b3 hi;obtain⟨k,rfl,N,q2,hg,J⟩:=hrel
    by_cases m0:k<rn
    ·have g5:(k:Int)<(rn:Int):=by omega
     by_cases p9:k<10
     ·have g6:(k:Int)<10:=by omega
      obtain⟨h,S,qs,s,t⟩:=J.out;obtain⟨b,o,ai,ni,ci,zs,rfl,a2,L⟩:=HR.out.get k m0
      have d8:Hid (w.cell? ⟨b,o+k,none⟩=some (.slice ai ni ci)/\RawI w ai ni ci zs):=⟨a2,L⟩
      have q7:=L.le;clear a2 L;obtain⟨c0,c1⟩:=CZ.out _ _ _ _ s t.tk t.nt
      obtain⟨l,hl⟩:∃l:Nat,l=T+1+k % M:=⟨_,rfl⟩
      have m4:k % M<M:=Nat.mod_lt _ a3.1
      have a5:Hid (T<l/\l<i):=by have:=HN.out;exact⟨by omega,by omega⟩
      have l7:((M:Int) == 0)=false:=by simp;omega
      have d7:Hid ((l:Int)=IntKind.i64.wrap ((T:Int)+1+(k:Int) % (M:Int))):=by
       show _=_
       have H:(k:Int) % (M:Int)=((k % M:Nat):Int):=by simp
       rw[H,IntKind.wrap_i64];omega
      have a6:Hid (∃h S qs,SZ w wr B a h S qs/\RS8 T M i k S):=⟨_,_,_,s,t⟩
      clear s t J hl m4
      obtain⟨O,r5⟩:∃O,O=wr:=⟨_,rfl⟩
      subst wr
      go_upto_region 17 with fail
      go_cut [11,12] from 76 to 141 (fun s11 s12 wd=>s11=.int .i64 (k:Int)/\∃bx:Nat,s12=.pointer (some ⟨bx,0,none⟩)/\Hid (RQ O wd bx (l:Int) [] none 0))
      case first =>
       go_region_held (fun w'=>w'.cell? ⟨a,0,none⟩=some (.int .i64 (T:Int))/\w'.cell? ⟨a,1,none⟩=some (.int .i64 (M:Int))) (go_keep) (fail)
       all_goals
        go_wp2_with fail;go_meet;refine⟨rfl,_,rfl,?_⟩;rw[<-d7.out];exact⟨heap_alloc_new _ _,World.ownsRow_nil _ _ _ _,qd (qb _ _) (qk _),Nat.le_refl _⟩
      case rest =>
       obtain⟨rfl,bx,rfl,R0⟩:=hcut
       obtain⟨V0,p4⟩:∃V0,V0=wc:=⟨_,rfl⟩
       subst wc;clear c0 c1 d7 l7
       have b9:Hid (Below w.heap.size w O):=by
        obtain⟨h,S,qs,s,t⟩:=a6.out;exact s.sp.bel
       have c0:∀V,Below O.heap.size O V->V.cell? ⟨a,0,none⟩=some (.int .i64 (T:Int)):=fun V hV=>by
        obtain⟨h,S,qs,s,t⟩:=a6.out;exact qj hV (CZ.out _ _ _ _ s t.tk t.nt).1
       have Y:Hid (∀V,Below O.heap.size O V->V.cell? ⟨a,0,none⟩=some (.int .i64 (T:Int))):=c0;clear c0
       have p7:3<=i:=by have:=HN.out;omega
       have p8:((i:Int) - 1 == 0)=false:=by simp;omega
       go_wp2_with fail
       go_loopg [13] 4 (fun kx s13 wr=>∃m:Nat,s13=.int .i64 m/\m<=4/\m<=ni/\4 - m<=kx/\Hid (∃u P U,RQ O wr bx (l:Int) u P U/\u.length=m/\∀y∈u,y<i/\y≠T))
       case atStart=>exact⟨0,rfl,Nat.zero_le _,Nat.zero_le _,by omega,(⟨[],_,_,R0.out,rfl,fun y D=>by cases D⟩:∃u P U,RQ O V0 bx (l:Int) u P U/\u.length=0/\∀y∈u,y<i/\y≠T)⟩
       case round =>
        clear R0;obtain⟨m,rfl,q4,q5,p6,K⟩:=hrel
        have c8:Hid (Below O.heap.size O wr/\Below w.heap.size w wr):=by
         obtain⟨u,P,U,R,-⟩:=K.out;exact⟨R.bel,qd b9.out R.bel⟩
        have o0:=qj c8.out.2 d8.out.1
        by_cases m7:m<ni
        ·have h0:(m:Int)<(ni:Int):=by omega
         by_cases hm:m<4
         ·have m6:(m:Int)<4:=by omega
          obtain⟨L1,L3,rfl,cz⟩:=(d8.out.2.below c8.out.2).get m m7;generalize zs.getD m 0=z at cz;have c0:=Y.out wr c8.out.1;have f:=vk z ((i:Int) - 1) (by omega)
          obtain⟨r,b0⟩:∃r,z.tmod ((i:Int) - 1)=r:=⟨_,rfl⟩
          rw[b0]at f;have I:=vk (r+(i:Int) - 1) ((i:Int) - 1) (by omega);have m8:0<=(r+(i:Int) - 1).tmod ((i:Int) - 1):=Int.tmod_nonneg _ (by omega)
          obtain⟨q,hq⟩:∃q:Nat,(r+(i:Int) - 1).tmod ((i:Int) - 1)=(q:Int):=⟨((r+(i:Int) - 1).tmod ((i:Int) - 1)).toNat,by omega⟩
          have r2:q+1<i:=by omega
          obtain⟨r3,r4⟩:=f;clear I m8;obtain⟨u,P,U,R,el,D⟩:=K.out
          have HK:Hid (u.length=m/\∀y∈u,y<i/\y≠T):=⟨el,D⟩
          have y1:wr.cell? ⟨bx,1,none⟩=some (.slice P m U):=by
           have:=(box4 R.box).2.1
           rwa [el]at this
          by_cases q8:T<=q
          ·have h9:(T:Int)<=(q:Int):=by omega
           obtain⟨g,c,V,d,x1,f1,R2⟩:=R.add (q+1) m el (by omega)
           have l4:(((q+1:Nat)):Int)=(q:Int)+1:=by simp
           rw[l4]at d
           have F:Hid (∃u P U,RQ O (V.setCell ⟨bx,1,none⟩ (.slice (some ⟨g,0,none⟩) (m+1) c)) bx (l:Int) u P U/\u.length=m+1/\∀y∈u,y<i/\y≠T):=⟨_,_,_,R2,by simp[HK.out.1],fun y D=>by
            rcases List.mem_append.1 D with h1 | h1
            ·exact HK.out.2 y h1
            ·rw[List.mem_singleton]at h1;subst h1;exact⟨by omega,by omega⟩⟩
           clear R R2 K el D;go_wp2_with(at_builtin;refine Lib.wpList_append_run _ rfl _ _ _ _ rfl _ _ rfl rfl _ _ d ?_)
           go_roundg (4 - (m+1))
           case measure=>omega
           case rel=>exact⟨m+1,by simp,by omega,by omega,Nat.le_refl _,F⟩
          ·have h9:¬(T:Int)<=(q:Int):=by omega
           obtain⟨g,c,V,d,x1,f1,R2⟩:=R.add q m el (by omega)
           have F:Hid (∃u P U,RQ O (V.setCell ⟨bx,1,none⟩ (.slice (some ⟨g,0,none⟩) (m+1) c)) bx (l:Int) u P U/\u.length=m+1/\∀y∈u,y<i/\y≠T):=⟨_,_,_,R2,by simp[HK.out.1],fun y D=>by
            rcases List.mem_append.1 D with h1 | h1
            ·exact HK.out.2 y h1
            ·rw[List.mem_singleton]at h1;subst h1;exact⟨by omega,by omega⟩⟩
           clear R R2 K el D;go_wp2_with(at_builtin;refine Lib.wpList_append_run _ rfl _ _ _ _ rfl _ _ rfl rfl _ _ d ?_)
           go_roundg (4 - (m+1))
           case measure=>omega
           case rel=>exact⟨m+1,by simp,by omega,by omega,Nat.le_refl _,F⟩
         ·have m6:¬(m:Int)<4:=by omega
          obtain⟨u,P,U,R,el,D⟩:=K.out;obtain⟨h,S,qs,s,t⟩:=a6.out;obtain⟨g,c,V,d,x7,f7,s2⟩:=(s.step R.bel).addRu (⟨(l:Int),u,0,0⟩,P,U) (k+1) t.len (zd R.own b9.out.size) (by omega)
          have y7:wr.cell? ⟨a,7,none⟩=some (.slice h.ra (k+1) h.rc):=by
           have:=(sbox (s.step R.bel).sp.box).2.2.2.2.2.2.2
           rwa [t.len]at this
          obtain⟨y0,y1,y2,y3⟩:=box4 R.box;simp only at d;rw[el]at d y1
          have F:Hid (∃h S qs,SZ w (V.setCell ⟨a,7,none⟩ (.slice (some ⟨g,0,none⟩) (k+1+1) c)) B a h S qs/\RS8 T M i (k+1) S):=by
           refine⟨_,_,_,s2,⟨t.tk,t.nt,t.st,t.nm,t.lv,t.az,by simp[t.len],?_,?_,?_⟩⟩
           ·show(S.rs++_)[0]?=_;rw[List.getElem?_append_left (by rw[t.len];omega)]
            exact t.hd
           ·intro j r hj f;have f:(S.rs++[⟨(l:Int),u,0,0⟩])[j]?=some r:=f
            rcases Nat.lt_or_ge j S.rs.length with h1 | h1
            ·rw[List.getElem?_append_left h1]at f;exact t.rl j r hj f
            ·rw[List.getElem?_append_right h1]at f;have I:=List.mem_of_getElem? f;rw[List.mem_singleton]at I;subst I;exact⟨l,rfl,a5.out.1,a5.out.2⟩
           ·intro r f;have f:r∈S.rs++[⟨(l:Int),u,0,0⟩]:=f
            rcases List.mem_append.1 f with h1 | h1
            ·exact t.rr r h1
            ·rw[List.mem_singleton]at h1;subst h1;exact⟨by show u.length<=4;omega,D⟩
          clear R K s s2 t el D;go_wp2_with(at_builtin;refine Lib.wpList_append_run _ rfl _ _ _ _ rfl _ _ rfl rfl _ _ d ?_)
          go_roundg (10 - (k+1))
          case measure=>omega
          case rel=>exact⟨k+1,by simp,by omega,by omega,Nat.le_refl _,F⟩
        ·have h0:¬(m:Int)<(ni:Int):=by omega
         obtain⟨u,P,U,R,el,D⟩:=K.out;obtain⟨h,S,qs,s,t⟩:=a6.out;obtain⟨g,c,V,d,x7,f7,s2⟩:=(s.step R.bel).addRu (⟨(l:Int),u,0,0⟩,P,U) (k+1) t.len (zd R.own b9.out.size) (by omega)
         have y7:wr.cell? ⟨a,7,none⟩=some (.slice h.ra (k+1) h.rc):=by
          have:=(sbox (s.step R.bel).sp.box).2.2.2.2.2.2.2
          rwa [t.len]at this
         obtain⟨y0,y1,y2,y3⟩:=box4 R.box;simp only at d;rw[el]at d y1
         have F:Hid (∃h S qs,SZ w (V.setCell ⟨a,7,none⟩ (.slice (some ⟨g,0,none⟩) (k+1+1) c)) B a h S qs/\RS8 T M i (k+1) S):=by
          refine⟨_,_,_,s2,⟨t.tk,t.nt,t.st,t.nm,t.lv,t.az,by simp[t.len],?_,?_,?_⟩⟩
          ·show(S.rs++_)[0]?=_;rw[List.getElem?_append_left (by rw[t.len];omega)]
           exact t.hd
          ·intro j r hj f;have f:(S.rs++[⟨(l:Int),u,0,0⟩])[j]?=some r:=f
           rcases Nat.lt_or_ge j S.rs.length with h1 | h1
           ·rw[List.getElem?_append_left h1]at f;exact t.rl j r hj f
           ·rw[List.getElem?_append_right h1]at f;have I:=List.mem_of_getElem? f;rw[List.mem_singleton]at I;subst I;exact⟨l,rfl,a5.out.1,a5.out.2⟩
          ·intro r f;have f:r∈S.rs++[⟨(l:Int),u,0,0⟩]:=f
           rcases List.mem_append.1 f with h1 | h1
           ·exact t.rr r h1
           ·rw[List.mem_singleton]at h1;subst h1;exact⟨by show u.length<=4;omega,D⟩
         clear R K s s2 t el D;go_wp2_with(at_builtin;refine Lib.wpList_append_run _ rfl _ _ _ _ rfl _ _ rfl rfl _ _ d ?_)
         go_roundg (10 - (k+1))
         case measure=>omega
         case rel=>exact⟨k+1,by simp,by omega,by omega,Nat.le_refl _,F⟩
     ·have g6:¬(k:Int)<10:=by omega
      obtain⟨h,S,qs,s,t⟩:=J.out;obtain⟨z0,z1,z2,z3,z4,z5,z6,z7⟩:=box8 s.rx;obtain⟨f0,f1,f2,f3,f4,f5,f6,f7⟩:=qa4 s.rx;obtain⟨c0,c1,c2,c3,c4,c5,c6,c7⟩:=sbox s.sp.box
      have F:Hid (∀v0 v1 v2 v3 v4 v5 v6 v7,(WF S/\Few S)/\IsSp (set8 wr B v0 v1 v2 v3 v4 v5 v6 v7) h S/\Below w.heap.size w (set8 wr B v0 v1 v2 v3 v4 v5 v6 v7)):=fun v0 v1 v2 v3 v4 v5 v6 v7=>⟨⟨t.wf HN.out a9.2 a3.2 a3.1 N,t.few a9.2 N⟩,(s.sp.own.set8 ⟨_,s.rx⟩).isSp,jd s.sp.bel (Nat.le_of_eq c9.out.symm)⟩
      clear s t J;go_wp2_with fail;refine bodyPost_ret (v:=.agg (sC h S)) (by unfold sC;simp[results,Tryz.results14,go_sem, *]) rfl ?_
      exact⟨h,S,rfl,F.out _ _ _ _ _ _ _ _⟩
    ·have g5:¬(k:Int)<(rn:Int):=by omega
     obtain⟨h,S,qs,s,t⟩:=J.out;obtain⟨z0,z1,z2,z3,z4,z5,z6,z7⟩:=box8 s.rx;obtain⟨f0,f1,f2,f3,f4,f5,f6,f7⟩:=qa4 s.rx;obtain⟨c0,c1,c2,c3,c4,c5,c6,c7⟩:=sbox s.sp.box
     have F:Hid (∀v0 v1 v2 v3 v4 v5 v6 v7,(WF S/\Few S)/\IsSp (set8 wr B v0 v1 v2 v3 v4 v5 v6 v7) h S/\Below w.heap.size w (set8 wr B v0 v1 v2 v3 v4 v5 v6 v7)):=fun v0 v1 v2 v3 v4 v5 v6 v7=>⟨⟨t.wf HN.out a9.2 a3.2 a3.1 N,t.few a9.2 N⟩,(s.sp.own.set8 ⟨_,s.rx⟩).isSp,jd s.sp.bel (Nat.le_of_eq c9.out.symm)⟩
     clear s t J;go_wp2_with fail;refine bodyPost_ret (v:=.agg (sC h S)) (by unfold sC;simp[results,Tryz.results14,go_sem, *]) rfl ?_
     exact⟨h,S,rfl,F.out _ _ _ _ _ _ _ _⟩
def xr (S:Sp) (fd:List Bool) (k:Nat):List SR:=(S.rs.take 1)++(((S.rs.drop 1).take (k - 1)).filter (fun r=>isF fd r.l.toNat))
def uae (S:Sp) (fd:List Bool):Sp:=⟨S.tk,S.nt,S.st,S.ex,S.nm,S.lv,S.az,xr S fd S.rs.length⟩
theorem uby(S:Sp)(fd:List Bool):xr S fd 1=S.rs.take 1:=by unfold xr;simp
theorem uaw{S:Sp}{fd:List Bool}{k:Nat}{r:SR}(g:0<k)(f:S.rs[k]?=some r):xr S fd (k+1)=if isF fd r.l.toNat then xr S fd k++[r] else xr S fd k:=by
 unfold xr
 have b:k+1 - 1=(k - 1)+1:=by omega
 have c:(S.rs.drop 1)[k - 1]?=some r:=by
  rw[List.getElem?_drop]
  have:1+(k - 1)=k:=by omega
  rw[this];exact f
 have d:(S.rs.drop 1).take (k - 1+1)=(S.rs.drop 1).take (k - 1)++[r]:=by rw[List.take_add_one,c];rfl
 rw[b,d,List.filter_append]
 by_cases a:isF fd r.l.toNat=true
 ·rw[if_pos a];simp[a]
 ·rw[if_neg a];simp[a]
theorem ua2{S:Sp}{fd:List Bool}{k:Nat}{r:SR}(h:r∈xr S fd k):r∈S.rs:=by
 unfold xr at h
 rcases List.mem_append.1 h with h | h
 ·exact List.mem_of_mem_take h
 ·exact List.mem_of_mem_drop (List.mem_of_mem_take (List.mem_filter.1 h).1)
theorem ua3(S:Sp)(fd:List Bool)(k:Nat):(xr S fd k).length<=S.rs.length:=by
 unfold xr;rw[List.length_append];have a:=List.length_filter_le (fun r:SR=>isF fd r.l.toNat) ((S.rs.drop 1).take (k - 1));rw[List.length_take,List.length_drop]at a;rw[List.length_take];omega
theorem ucj{S:Sp}(h:WF S)(fd:List Bool):WF (uae S fd):=by
 have d:0<S.rs.length:=(List.getElem?_eq_some_iff.1 h.hd).1
 have g:S.rs.take 1=[⟨-1,[S.st],0,0⟩]:=by
  have:=h.hd
  cases f:S.rs with
  | nil=>rw[f]at d;exact absurd d (Nat.not_lt_zero _)
  | cons a l =>
   rw[f]at this;simp at this;simp[this]
 refine⟨h.nm,h.lv,h.az,h.tk,h.nt,Nat.le_trans (ua3 S fd _) h.nr,?_,h.st,?_,fun r b=>h.rr r (ua2 b)⟩
 ·show(xr S fd S.rs.length)[0]?=_;unfold xr;rw[g];rfl
 ·intro i r k b;have b:(xr S fd S.rs.length)[i]?=some r:=b;unfold xr at b;rw[List.getElem?_append_right (by rw[g];exact k)]at b
  have m:=List.mem_of_mem_take (List.mem_filter.1 (List.mem_of_getElem? b)).1;obtain⟨j,c⟩:=List.getElem?_of_mem m;rw[List.getElem?_drop]at c;exact h.rl (1+j) r (by omega) c
theorem ucd{S:Sp}(h:Few S)(fd:List Bool):Few (uae S fd):=⟨h.1,Nat.le_trans (ua3 S fd _) h.2.1,fun r a=>h.2.2 r (ua2 a)⟩
theorem uck{S:Sp}{n:Nat}(c:WF S)(a:Few S)(b:n=S.tk+1+S.nt)(f:∀x,S.tk<x->x<n->Rch S x):NSp S n :=
 ⟨c,b,fun r h y d=>⟨by rw[b];exact(c.rr r h).2 y d,(a.2.2 r h).2 y d⟩,f,by have:=a.2.1;omega,fun r h=>(a.2.2 r h).1⟩
theorem uce{W:World}{T E k b o:Nat}{L:Option Addr}{s:Nat}{z:Value}{by_:Nat}{cs us:List Value}(J:Tryz.prog.underlying T=some (.slice E))(v:(Tryz.prog.info? E).map (fun i=>(i.zero,i.size,i.bytes))=some (some z,k,by_))(C:z.cells.size=k)(R:0<k)(O:by_<=100)(p:∀u∈us,u.oneCell'=true)(h:Row W k (some ⟨b,o,none⟩) 1 1 cs)(N:b<W.heap.size)(A:Row W k L 1 s us):
  ∃g c t,(Builtin.append_ #[T,T] T #[.slice (some ⟨b,o,none⟩) 1 1,.slice L 1 s]).run Tryz.prog W=.ok (.slice (some ⟨g,0,none⟩) 2 c) t/\t.ownsRow W.heap.size E k (.slice (some ⟨g,0,none⟩) 2 c) 2 (cs++us)/\Below W.heap.size W t:=by
 obtain⟨K,I,q,l,r⟩:=info_parts v;obtain⟨D,F,rfl,B⟩:=A.at (by omega);obtain⟨b',V,Q,n⟩:=h.at (by omega)
 cases Q
 have a:∀j x,us[j]?=some x->W.cell? ((⟨D,F,none⟩:Addr).add j)=some x:=fun j x d=>by
  rw[Addr.add_lit];exact B j x d
 have f:∀j x,cs[j]?=some x->W.cell? ((⟨b,o,none⟩:Addr).add j)=some x:=fun j x d=>by
  rw[Addr.add_lit];exact n j x d
 have G:Came W k (some ⟨b,o,none⟩) b o 1 1 cs:=⟨Nat.le_refl _,fun _=>rfl,fun _=>N,h.len,fun j u d=>n j u d,fun j d=>by simp at d⟩
 obtain⟨v',U,y,S⟩:=run_append_onto (P:=Tryz.prog) G T T K _ by_ J I q l r C R (Onto.start G) ⟨D,F,none⟩ s us A.len a p (by unfold maxLen;omega) (by omega)
 have m:Builtin.nextslicecap (1+1) 1=2:=by decide +kernel
 have H:=run_append_grow (P:=Tryz.prog) (w:=W) T T E K _ J I q ⟨b,o,none⟩ 1 1 cs (by rw[l];exact h.len) f ⟨D,F,none⟩ 1 s us (by rw[l];exact A.len) a (by omega) (by omega) (by rw[m,r];omega)
 rw[y]at H
 injection H with e1 e2
 rcases S.val with ⟨h1,-⟩ | ⟨-,h1⟩
 ·omega
 ·have M:([]++us:List Value)=us:=rfl;rw[M]at h1;rw[e1]at y h1;refine⟨_,_,U,y,h1,?_⟩;rw[e2];exact qd ((⟨rfl,rfl,rfl,Nat.le_refl _,fun _ _=>rfl⟩:Below W.heap.size W W.drew)) (qb _ _)
structure RX8 (w W:World) (h:SHd) (S:Sp) (b1 b2 b4 fb n k:Nat) (fd:List Bool) (va:Option Addr) (m vc:Nat):Prop where
 bel:Below w.heap.size w W
 bs:W.heap[b1]?=some (.cells (sC h S) 31 (0,0))
 rx:W.heap[b2]?=some (.cells #[.int .i64 0,.int .i64 0,.int .i64 0,.int .i64 0,.slice none 0 0,.slice none 0 0,.slice none 0 0,.slice none 0 0] 31 (0,0))
 fl:W.ownsRow w.heap.size 4 1 (.slice (some ⟨fb,0,none⟩) n n) n (booC fd)
 bo:W.heap[b4]?=some (.cells #[.int .i64 (S.tk:Int),.int .i64 (S.nt:Int),.int .i64 (S.st:Int),.int .i64 S.ex,.slice h.na S.nm.length h.nc,.slice h.la S.lv.length h.lc,.slice h.aa S.az.length h.ac,.slice va m vc] 31 (0,0))
 ne:b4≠b1/\b4≠b2
 ge:w.heap.size<=b4
 rl:(va=h.ra/\m=1/\vc=1/\xr S fd k=S.rs.take 1)\/∃qs:List QR,qs.map (·.1)=xr S fd k/\W.ownsRow w.heap.size 47 4 (.slice va m vc) m (srC qs)/\∀q∈qs,Row w 1 q.2.1 q.1.r.length q.2.2 (natC q.1.r)
theorem RX8.step{w W b:World}{h:SHd}{S:Sp}{c d f g n k:Nat}{fd:List Bool}{i:Option Addr}{m j:Nat}(y:RX8 w W h S c d f g n k fd i m j)(a:Below W.heap.size W b):RX8 w b h S c d f g n k fd i m j:=by
 exact⟨qd y.bel a,qf a y.bs,qf a y.rx,zw y.fl a,qf a y.bo,y.ne,y.ge,y.rl.imp id fun⟨qs,l,o,p⟩=>⟨qs,l,zw o a,p⟩⟩
theorem RX8.skip{w W:World}{h:SHd}{S:Sp}{a b c d n k:Nat}{fd:List Bool}{f:Option Addr}{m g:Nat}{r:SR}(y:RX8 w W h S a b c d n k fd f m g)(j:0<k)(o:S.rs[k]?=some r)(i:isF fd r.l.toNat=false):RX8 w W h S a b c d n (k+1) fd f m g:=by
 have e:xr S fd (k+1)=xr S fd k:=by rw[uaw j o,i];simp
 refine⟨y.bel,y.bs,y.rx,y.fl,y.bo,y.ne,y.ge,?_⟩;rw[e];exact y.rl
theorem ubz{W:World}{b:Nat}{q:QR}(a:W.heap[b]?=some (.cells (rq q) 47 (0,0))):Row W 4 (some ⟨b,0,none⟩) 1 1 (srC [q]):=by
 refine⟨rfl,Nat.le_refl _,by unfold maxLen;omega,.inr ⟨b,0,rfl,fun j u c=>?_⟩⟩
 rw[Nat.zero_add,qe a];have e:(rq q).toList=srC [q]:=rfl;rw[<-Array.getElem?_toList,e];exact c
theorem ub0(qs:List QR):∀u∈srC qs,u.oneCell'=true:=by
 intro u b;unfold srC at b;obtain⟨q,-,a⟩:=List.mem_flatMap.1 b;simp only[List.mem_cons,List.not_mem_nil,or_false]at a
 rcases a with rfl | rfl | rfl | rfl <;> rfl
theorem ucp:Tryz.prog.underlying 29=some (.slice 47):=by kernel_rfl
theorem ucq:(Tryz.prog.info? 47).map (fun i=>(i.zero,i.size,i.bytes))=some (some (.agg #[.int .i64 0,.slice none 0 0,.int .i64 0,.int .i64 0]),4,48):=by kernel_rfl
theorem uaz(qs a:List QR):srC (qs++a)=srC qs++srC a:=by unfold srC;rw[List.flatMap_append]
theorem RX8.add{w W:World}{h:SHd}{S:Sp}{F K x L n k:Nat}{fd:List Bool}{J:Option Addr}{m Q:Nat}{r:SR}{t:Option Addr}{v:Nat}(y:RX8 w W h S F K x L n k fd J m Q)(a2:IsSp w h S)(hm:m<=1000)(hk:0<k)(hr:S.rs[k]?=some r)(hx:Row w 1 t r.r.length v (natC r.r))(hf:isF fd r.l.toNat=true):
  ∃g c d,(Builtin.append_ #[29,29] 29 #[.slice J m Q,.slice (some ⟨W.heap.size,0,none⟩) 1 1]).run Tryz.prog (W.alloc (.cells (rq (r,t,v)) 47)).drew=.ok (.slice (some ⟨g,0,none⟩) (m+1) c) d /\
   d.heap[F]?=some (.cells (sC h S) 31 (0,0))/\d.heap[x]?=some (.cells #[.int .i64 (S.tk:Int),.int .i64 (S.nt:Int),.int .i64 (S.st:Int),.int .i64 S.ex,.slice h.na S.nm.length h.nc,.slice h.la S.lv.length h.lc,.slice h.aa S.az.length h.ac,.slice J m Q] 31 (0,0))/\Below w.heap.size w d/\RX8 w (d.setCell ⟨x,7,none⟩ (.slice (some ⟨g,0,none⟩) (m+1) c)) h S F K x L n (k+1) fd (some ⟨g,0,none⟩) (m+1) c:=by
 obtain⟨V,U⟩:∃V,V=(W.alloc (.cells (rq (r,t,v)) 47)).drew:=⟨_,rfl⟩
 have X:Below W.heap.size W V:=by rw[U];exact qd (qb _ _) (⟨rfl,rfl,rfl,Nat.le_refl _,fun _ _=>rfl⟩:Below (W.alloc (.cells (rq (r,t,v)) 47)).heap.size (W.alloc (.cells (rq (r,t,v)) 47)) (W.alloc (.cells (rq (r,t,v)) 47)).drew)
 have N:V.heap[W.heap.size]?=some (.cells (rq (r,t,v)) 47 (0,0)):=by rw[U];exact heap_alloc_new _ _
 have f:=y.step X
 have e:xr S fd (k+1)=xr S fd k++[r]:=by rw[uaw hk hr,if_pos hf]
 have G:∀(g c:Nat) (d:World) (qs:List QR),Below w.heap.size w d->d.heap[F]?=some (.cells (sC h S) 31 (0,0))->d.heap[K]?=some (.cells #[.int .i64 0,.int .i64 0,.int .i64 0,.int .i64 0,.slice none 0 0,.slice none 0 0,.slice none 0 0,.slice none 0 0] 31 (0,0))->d.ownsRow w.heap.size 4 1 (.slice (some ⟨L,0,none⟩) n n) n (booC fd)->d.heap[x]?=some (.cells #[.int .i64 (S.tk:Int),.int .i64 (S.nt:Int),.int .i64 (S.st:Int),.int .i64 S.ex,.slice h.na S.nm.length h.nc,.slice h.la S.lv.length h.lc,.slice h.aa S.az.length h.ac,.slice J m Q] 31 (0,0))->qs.map (·.1)=xr S fd (k+1)->d.ownsRow w.heap.size 47 4 (.slice (some ⟨g,0,none⟩) (m+1) c) (m+1) (srC qs)->(∀q∈qs,Row w 1 q.2.1 q.1.r.length q.2.2 (natC q.1.r))->RX8 w (d.setCell ⟨x,7,none⟩ (.slice (some ⟨g,0,none⟩) (m+1) c)) h S F K x L n (k+1) fd (some ⟨g,0,none⟩) (m+1) c:=by
  intro g c d qs k1 k2 k3 k4 P k6 k7 L1;refine⟨k1.setCell (p:=⟨x,7,none⟩) y.ge _,(Below.heap_setCell _ _ _ _ (fun e=>y.ne.1 e.symm)).trans k2,?_,qh k4 (fun i H=>Below.heap_setCell _ _ _ _ (qr (qx k4 H) ⟨_,P⟩ (by decide))),?_,y.ne,y.ge,.inr ⟨qs,k6,qh k7 (fun i H=>Below.heap_setCell _ _ _ _ (qr (qx k7 H) ⟨_,P⟩ (by decide))),L1⟩⟩
  ·exact(Below.heap_setCell _ _ _ _ (fun e=>y.ne.2 e.symm)).trans k3
  ·rw[setCell_eq_setRow d x 7 _ 31 (0,0) _ P];exact setRow_heap _ _ _ _ 31 _ P
 rw[<-U]
 rcases f.rl with ⟨rfl,rfl,rfl,hk1⟩ | ⟨qs,hk1,hown,hrows⟩
 ·obtain⟨a4,I,z,a1⟩:=qoh a2.rl;obtain⟨b,o,C,-⟩:=z.at (by have:=(List.getElem?_eq_some_iff.1 hr).1;omega)
  have B:0<S.rs.length:=by have:=(List.getElem?_eq_some_iff.1 hr).1;omega
  cases a4 with
  | nil=>rw[<-I]at B;exact absurd B (Nat.not_lt_zero _)
  | cons q0 qt =>
   have ht:S.rs.take 1=[q0.1]:=by rw[<-I];rfl
   have M:∀j u,(srC [q0])[j]?=some u->w.cell? ⟨b,o+j,none⟩=some u:=fun j u O=>by
    obtain⟨b',o',he,Y⟩:=z.at B;rw[C]at he
    cases he
    refine Y j u ?_;have e2:srC (q0 :: qt)=srC [q0]++srC qt:=uaz [q0] qt;rw[e2,List.getElem?_append_left (List.getElem?_eq_some_iff.1 O).1];exact O
   have Z:b<w.heap.size:=World.block_lt_of_cell? w ⟨b,o+0,none⟩ (M 0 _ rfl)
   have D:Row V 4 (some ⟨b,o,none⟩) 1 1 (srC [q0]):=⟨rfl,Nat.le_refl _,by unfold maxLen;omega,.inr ⟨b,o,rfl,fun j u O=>qj f.bel (M j u O)⟩⟩
   obtain⟨g,c,d,s,ho,hB⟩:=uce ucp ucq rfl (by omega) (by omega) (ub0 [(r,t,v)]) D (Nat.lt_of_lt_of_le Z f.bel.size) (ubz N);have A:=f.step hB;rw[C];refine⟨g,c,d,s,A.bs,?_,A.bel,G g c d [q0,(r,t,v)] A.bel A.bs A.rx A.fl A.bo ?_ (zd ho f.bel.size) ?_⟩
   ·rw[<-C];exact A.bo
   ·rw[e,hk1,ht];rfl
   ·intro q a0
    rcases List.mem_cons.1 a0 with rfl | h1
    ·exact a1 q (List.mem_cons_self ..)
    ·rw[List.mem_singleton]at h1;subst h1;exact hx
 ·obtain⟨g,c,d,s,ho,R,hg⟩:=qoe ucp ucq rfl (by omega) (by omega) (ub0 [(r,t,v)]) hown f.bel.size (ubz N) (by omega) (by omega)
  have a3:∀j,blk J=some j->Loc V j 47:=fun j E=>(qw hown E).2.2
  have a:∀{j T:Nat},Loc V j T->T≠47->d.heap[j]?=V.heap[j]?:=fun {j T} E hT=>R.block j (by obtain⟨c,M⟩:=E;exact(Array.getElem?_eq_some_iff.1 M).1) (fun e=>qr E (a3 j e) hT rfl)
  refine⟨g,c,d,s,(a ⟨_,f.bs⟩ (by decide)).trans f.bs,(a ⟨_,f.bo⟩ (by decide)).trans f.bo,f.bel.trans (R.below f.bel.size (fun j E e=>by have:=(qw hown e).1;omega)),G g c d (qs++[(r,t,v)]) ?_ ((a ⟨_,f.bs⟩ (by decide)).trans f.bs) ?_ ?_ ((a ⟨_,f.bo⟩ (by decide)).trans f.bo) ?_ ?_ ?_⟩
  ·exact f.bel.trans (R.below f.bel.size (fun j E e=>by have:=(qw hown e).1;omega))
  ·exact(a ⟨_,f.rx⟩ (by decide)).trans f.rx
  ·exact qh f.fl (fun i H=>a (qx f.fl H) (by decide))
  ·rw[List.map_append,hk1,e];rfl
  ·rw[uaz];exact ho
  ·intro q N
   rcases List.mem_append.1 N with h1 | h1
   ·exact hrows q h1
   ·rw[List.mem_singleton]at h1;subst h1;exact hx
theorem RX8.len{w W:World}{h:SHd}{S:Sp}{a b c d n k:Nat}{fd:List Bool}{f:Option Addr}{m g:Nat}(y:RX8 w W h S a b c d n k fd f m g)(i:0<S.rs.length):m=(xr S fd k).length:=by
 rcases y.rl with ⟨-,h1,-,h2⟩ | ⟨qs,h1,h2,-⟩
 ·rw[h2,h1,List.length_take];omega
 ·have:=h2.1;rw[jq]at this;rw[<-h1,List.length_map];omega
theorem RX8.isp{w W k:World}{h:SHd}{S:Sp}{A B C E n:Nat}{fd:List Bool}{v:Option Addr}{m x:Nat}(y:RX8 w W h S A B C E n S.rs.length fd v m x)(a:IsSp w h S)(l:0<S.rs.length)(c:Below w.heap.size w k)(H:∀j T,Loc W j T->T≠31->k.heap[j]?=W.heap[j]?):IsSp k ⟨h.na,h.nc,h.la,h.lc,h.aa,h.ac,v,x⟩ (uae S fd):=by
 refine⟨a.nm.below c,a.lv.below c,a.az.below c,?_⟩;have d:=y.len l;show qci k v (xr S fd S.rs.length).length x (xr S fd S.rs.length);rw[<-d]
 rcases y.rl with ⟨h1,h2,h3,h4⟩ | ⟨qs,h1,h2,h3⟩
 ·obtain⟨t,f,g,s⟩:=qoh a.rl
  cases t with
  | nil=>rw[<-f]at l;exact absurd l (Nat.not_lt_zero _)
  | cons q0 qt =>
   rw[h4,h1,h2,h3];obtain⟨b,o,r,F⟩:=g.at l;rw[r];refine⟨[q0],by rw[<-f];rfl,⟨rfl,Nat.le_refl _,by unfold maxLen;omega,.inr ⟨b,o,rfl,fun j u z=>?_⟩⟩,fun q p=>?_⟩
   ·refine qj c (F j u ?_);have D:srC (q0 :: qt)=srC [q0]++srC qt:=uaz [q0] qt;rw[D,List.getElem?_append_left (List.getElem?_eq_some_iff.1 z).1];exact z
   ·rw[List.mem_singleton]at p;subst p;exact(s q (List.mem_cons_self ..)).below c
 ·exact⟨qs,h1,Row.of_own (qh h2 (fun i G=>H i 47 (qx h2 G) (by decide))),fun q p=>(h3 q p).below c⟩
theorem ube(w:World)(h:SHd)(S:Sp)(n:Nat)(b9:n=S.tk+1+S.nt)(O:WF S)(hf:Few S)(a5:IsSp w h S):
  Calls Tryz.prog 13 #[sv h S] w fun e Z=>∃h' fd,e=.returned (.agg (sC h' (uae S fd)))/\IsSp Z h' (uae S fd)/\Below w.heap.size w Z:=by
 have HX:Hid (WF S/\Few S/\IsSp w h S/\n=S.tk+1+S.nt):=⟨O,hf,a5,b9⟩
 have hn:n<=301:=by have:=O.tk;have:=O.nt;omega
 have f8:S.rs.length<=11:=hf.2.1
 have c9:1<=S.rs.length:=by have:=(List.getElem?_eq_some_iff.1 O.hd).1;omega
 obtain⟨k,o,-,-,N,-⟩:=a5.rl.at O.hd;have z:Hid (h.ra=some ⟨k,o,none⟩):=N;have d9:=j6 a5.rl;have a8:Below w.heap.size w ((w.alloc (.cells (sC h S) 31)).alloc (.cells #[.int .i64 0,.int .i64 0,.int .i64 0,.int .i64 0,.slice none 0 0,.slice none 0 0,.slice none 0 0,.slice none 0 0] 31)):=qd (qb _ _) (qb _ _);have a4:((w.alloc (.cells (sC h S) 31)).alloc (.cells #[.int .i64 0,.int .i64 0,.int .i64 0,.int .i64 0,.slice none 0 0,.slice none 0 0,.slice none 0 0,.slice none 0 0] 31)).heap[w.heap.size]?=some (.cells (sC h S) 31 (0,0)):=qf (qb _ _) (heap_alloc_new _ _)
 have a7:((w.alloc (.cells (sC h S) 31)).alloc (.cells #[.int .i64 0,.int .i64 0,.int .i64 0,.int .i64 0,.slice none 0 0,.slice none 0 0,.slice none 0 0,.slice none 0 0] 31)).heap[w.heap.size+1]?=some (.cells #[.int .i64 0,.int .i64 0,.int .i64 0,.int .i64 0,.slice none 0 0,.slice none 0 0,.slice none 0 0,.slice none 0 0] 31 (0,0)):=by
  have:=heap_alloc_new (w.alloc (.cells (sC h S) 31)) (.cells #[.int .i64 0,.int .i64 0,.int .i64 0,.int .i64 0,.slice none 0 0,.slice none 0 0,.slice none 0 0,.slice none 0 0] 31);rw[qt]at this;exact this
 clear O a5 hf b9;unfold sv sC;rw[N];clear N
 obtain⟨s,t⟩:∃s,Hid (S.rs.length=s):=⟨_,rfl⟩
 rw[t.out]at f8 c9 d9 ⊢;go_enter Tryz.func13,Tryz.ntmps13
 go_upto_region 1 with fail
 have e0:(w.alloc (.cells #[.int .i64 (S.tk:Int),.int .i64 (S.nt:Int),.int .i64 (S.st:Int),.int .i64 S.ex,.slice h.na S.nm.length h.nc,.slice h.la S.lv.length h.lc,.slice h.aa S.az.length h.ac,.slice (some ⟨k,o,none⟩) s h.rc] 31)).alloc (.cells #[.int .i64 0,.int .i64 0,.int .i64 0,.int .i64 0,.slice none 0 0,.slice none 0 0,.slice none 0 0,.slice none 0 0] 31)=(w.alloc (.cells (sC h S) 31)).alloc (.cells #[.int .i64 0,.int .i64 0,.int .i64 0,.int .i64 0,.slice none 0 0,.slice none 0 0,.slice none 0 0,.slice none 0 0] 31):=by unfold sC;rw[z.out,t.out]
 rw[e0];generalize (w.alloc (.cells (sC h S) 31)).alloc (.cells #[.int .i64 0,.int .i64 0,.int .i64 0,.int .i64 0,.slice none 0 0,.slice none 0 0,.slice none 0 0,.slice none 0 0] 31)=W1 at a8 a4 a7 ⊢
 obtain⟨y,d5⟩:∃y,Hid (y=w.heap.size):=⟨_,rfl⟩
 obtain⟨H,a9⟩:∃H,Hid (H=w.heap.size+1):=⟨_,rfl⟩
 rw[<-a9.out]at a7 ⊢;rw[<-d5.out]at a4 ⊢;clear e0
 have H1:Hid (Below w.heap.size w W1/\W1.heap[y]?=some (.cells (sC h S) 31 (0,0))/\W1.heap[H]?=some (.cells #[.int .i64 0,.int .i64 0,.int .i64 0,.int .i64 0,.slice none 0 0,.slice none 0 0,.slice none 0 0,.slice none 0 0] 31 (0,0))):=⟨a8,a4,a7⟩
 clear a8 a4 a7;obtain⟨c0,c1,c2,c3,c4,c5,c6,c7⟩:=sbox H1.out.2.1;rw[z.out,t.out]at c7
 have b0:Hid (Calls Tryz.prog 16 #[.agg #[.int .i64 (S.tk:Int),.int .i64 (S.nt:Int),.int .i64 (S.st:Int),.int .i64 S.ex,.slice h.na S.nm.length h.nc,.slice h.la S.lv.length h.lc,.slice h.aa S.az.length h.ac,.slice (some ⟨k,o,none⟩) s h.rc]] W1 fun e Z=>BRes W1 Z n (Rch S) e):=by
  have:=qhq W1 h S n HX.out.2.2.2 HX.out.1 (HX.out.2.2.1.below H1.out.1);unfold sv sC at this;rw[z.out,t.out]at this;exact this
 go_wp2_with fail;refine b0.out.mono ?_;rintro e x ⟨fb,fd,rfl,b5,b6,-,a3⟩;clear c0 c1 c2 c3 c4 c5 c6 c7 b0
 have H2:Hid (Below w.heap.size w x/\x.heap[y]?=some (.cells (sC h S) 31 (0,0))/\x.heap[H]?=some (.cells #[.int .i64 0,.int .i64 0,.int .i64 0,.int .i64 0,.slice none 0 0,.slice none 0 0,.slice none 0 0,.slice none 0 0] 31 (0,0))/\x.ownsRow w.heap.size 4 1 (.slice (some ⟨fb,0,none⟩) n n) n (booC fd)/\fd.length=n):=⟨qd H1.out.1 a3,qf a3 H1.out.2.1,qf a3 H1.out.2.2,zd b6 H1.out.1.size,b5⟩
 clear a3 b6 b5 H1;obtain⟨c0,c1,c2,c3,c4,c5,c6,c7⟩:=sbox H2.out.2.1;rw[z.out,t.out]at c7;have U:Below x.heap.size x (x.alloc (.cells #[.int .i64 (S.tk:Int),.int .i64 (S.nt:Int),.int .i64 (S.st:Int),.int .i64 S.ex,.slice h.na S.nm.length h.nc,.slice h.la S.lv.length h.lc,.slice h.aa S.az.length h.ac,.slice (some ⟨k,o,none⟩) s h.rc] 31)):=qb _ _;have M:(x.alloc (.cells #[.int .i64 (S.tk:Int),.int .i64 (S.nt:Int),.int .i64 (S.st:Int),.int .i64 S.ex,.slice h.na S.nm.length h.nc,.slice h.la S.lv.length h.lc,.slice h.aa S.az.length h.ac,.slice (some ⟨k,o,none⟩) s h.rc] 31)).heap[x.heap.size]?=some (.cells #[.int .i64 (S.tk:Int),.int .i64 (S.nt:Int),.int .i64 (S.st:Int),.int .i64 S.ex,.slice h.na S.nm.length h.nc,.slice h.la S.lv.length h.lc,.slice h.aa S.az.length h.ac,.slice (some ⟨k,o,none⟩) s h.rc] 31 (0,0)):=heap_alloc_new _ _
 have H4:Hid (RX8 w ((x.alloc (.cells #[.int .i64 (S.tk:Int),.int .i64 (S.nt:Int),.int .i64 (S.st:Int),.int .i64 S.ex,.slice h.na S.nm.length h.nc,.slice h.la S.lv.length h.lc,.slice h.aa S.az.length h.ac,.slice (some ⟨k,o,none⟩) s h.rc] 31)).setCell ⟨x.heap.size,7,none⟩ (.slice (some ⟨k,o,none⟩) 1 1)) h S y H x.heap.size fb n 1 fd (some ⟨k,o,none⟩) 1 1):=by
  have l1:y<x.heap.size:=(Array.getElem?_eq_some_iff.1 H2.out.2.1).1;have l2:H<x.heap.size:=(Array.getElem?_eq_some_iff.1 H2.out.2.2.1).1
  have l3:x.heap.size≠y:=by omega
  have l4:x.heap.size≠H:=by omega
  refine⟨(qd H2.out.1 U).setCell (p:=⟨x.heap.size,7,none⟩) H2.out.1.size _,(Below.heap_setCell _ _ _ _ l3.symm).trans (qf U H2.out.2.1),(Below.heap_setCell _ _ _ _ l4.symm).trans (qf U H2.out.2.2.1),?_,?_,⟨l3,l4⟩,H2.out.1.size,.inl ⟨z.out.symm,rfl,rfl,uby S fd⟩⟩
  ·have hw:=zw H2.out.2.2.2.1 U;exact qh hw (fun i hi=>Below.heap_setCell _ _ _ _ (qr (qx hw hi) ⟨_,M⟩ (by decide)))
  ·rw[setCell_eq_setRow _ _ 7 _ 31 (0,0) _ M];exact setRow_heap _ _ _ _ 31 _ M
 have x7:=qo c7 (.cells #[.int .i64 (S.tk:Int),.int .i64 (S.nt:Int),.int .i64 (S.st:Int),.int .i64 S.ex,.slice h.na S.nm.length h.nc,.slice h.la S.lv.length h.lc,.slice h.aa S.az.length h.ac,.slice (some ⟨k,o,none⟩) s h.rc] 31)
 have y7:(x.alloc (.cells #[.int .i64 (S.tk:Int),.int .i64 (S.nt:Int),.int .i64 (S.st:Int),.int .i64 S.ex,.slice h.na S.nm.length h.nc,.slice h.la S.lv.length h.lc,.slice h.aa S.az.length h.ac,.slice (some ⟨k,o,none⟩) s h.rc] 31)).cell? ⟨x.heap.size,7,none⟩=some (.slice (some ⟨k,o,none⟩) s h.rc):=by rw[qe M];rfl
 have f7:=qi M 7
 go_upto_region 3 with fail
 obtain⟨B,d6⟩:∃B,Hid (x.heap.size=B):=⟨_,rfl⟩
 rw[d6.out]at H4 y7 f7 ⊢;clear U M c0 c1 c2 c3 c4 c5 c6 c7;generalize x.alloc (.cells #[.int .i64 (S.tk:Int),.int .i64 (S.nt:Int),.int .i64 (S.st:Int),.int .i64 S.ex,.slice h.na S.nm.length h.nc,.slice h.la S.lv.length h.lc,.slice h.aa S.az.length h.ac,.slice (some ⟨k,o,none⟩) s h.rc] 31)=W3 at H4 x7 y7 f7 ⊢
 go_upto_region 4 with fail
 obtain⟨W4,b3⟩:∃W4,Hid (W3.setCell ⟨B,7,none⟩ (.slice (some ⟨k,o,none⟩) 1 1)=W4):=⟨_,rfl⟩
 rw[b3.out]at H4 ⊢;clear x7 y7 f7 b3;go_wp2_with fail
 go_loopg [5] s (fun kx s5 wr=>∃(i:Nat) (Q:Option Addr) (m R:Nat),s5=.int .i64 i/\1<=i/\i<=s/\s - i<=kx/\m<=i/\Hid (RX8 w wr h S y H B fb n i fd Q m R))
 case atStart=>exact⟨1,_,1,1,rfl,Nat.le_refl _,c9,by omega,Nat.le_refl _,H4⟩
 case round =>
  clear H4;obtain⟨i,Q,m,R,rfl,g0,hi,hg,hm,J⟩:=hrel;obtain⟨-,-,-,-,-,-,-,c7⟩:=sbox J.out.bs;rw[z.out,t.out]at c7
  by_cases d7:i<s
  ·have b8:(i:Int)<(s:Int):=by omega
   obtain⟨r,hr⟩:∃r,S.rs[i]?=some r:=⟨S.rs[i]'(by rw[t.out];exact d7),List.getElem?_eq_getElem _⟩
   obtain⟨g3,g4,xa,xc,N,d0,d1,d2,d3,X⟩:=HX.out.2.2.1.rl.at hr;rw[z.out]at N
   cases N
   obtain⟨xl,P,g2,d4⟩:=HX.out.1.rl i r (by omega) hr;rw[<-HX.out.2.2.2]at d4;rw[P]at d0
   have f9:(xl:Int)<(n:Int):=by omega
   have Y:Hid (∀V,Below w.heap.size w V->V.heap[y]?=some (.cells (sC h S) 31 (0,0))->V.cell? ⟨y,7,none⟩=some (.slice (some ⟨k,o,none⟩) s h.rc)/\V.cell? ⟨k,o+i * 4,none⟩=some (.int .i64 (xl:Int))/\V.cell? ⟨k,o+i * 4+1,none⟩=some (.slice xa r.r.length xc)/\V.cell? ⟨k,o+i * 4+2,none⟩=some (.int .i64 r.lv)/\V.cell? ⟨k,o+i * 4+3,none⟩=some (.int .i64 r.a)):=fun V hV hb=>by
    obtain⟨-,-,-,-,-,-,-,e7⟩:=sbox hb;rw[z.out,t.out]at e7;exact⟨e7,qj hV d0,qj hV d1,qj hV d2,qj hV d3⟩
   have d0:=qj J.out.bel d0;have d1:=qj J.out.bel d1;have d2:=qj J.out.bel d2;have d3:=qj J.out.bel d3;have q:=qrm J.out.fl d4
   have a6:r.l.toNat=xl:=by rw[P];rfl
   have HR:Hid (S.rs[i]?=some r/\Row w 1 xa r.r.length xc (natC r.r)/\r.l=(xl:Int)):=⟨hr,X,P⟩
   cases L:isF fd xl
   ·rw[L]at q;have HF:Hid (RX8 w wr h S y H B fb n (i+1) fd Q m R):=J.out.skip (by omega) hr (by rw[a6];exact L)
    clear J L P hr X a6 Y HR;go_wp2_with fail;go_roundg (s - (i+1))
    case measure=>omega
    case rel=>exact⟨i+1,Q,m,R,by simp,by omega,by omega,Nat.le_refl _,by omega,HF⟩
   ·rw[L]at q;obtain⟨g,c,W',A,k1,k2,k3,y5⟩:=J.out.add HX.out.2.2.1 (by omega) (by omega) hr X (by rw[a6];exact L)
    unfold rq at A;simp only at A;rw[P]at A
    have z7:wr.cell? ⟨B,7,none⟩=some (.slice Q m R):=by rw[qe J.out.bo];rfl
    have g5:=qo z7 (.cells #[.int .i64 (xl:Int),.slice xa r.r.length xc,.int .i64 r.lv,.int .i64 r.a] 47)
    have u7:W'.cell? ⟨B,7,none⟩=some (.slice Q m R):=by rw[qe k2];rfl
    have fu:=qi k2 7;have g1:=ze X
    have a0:Hid (Below w.heap.size w wr.drew/\wr.drew.heap[y]?=some (.cells (sC h S) 31 (0,0))):=⟨qd J.out.bel (qk wr),J.out.bs⟩
    have I:Hid (Below w.heap.size w (wr.alloc (.cells #[.int .i64 (xl:Int),.slice xa r.r.length xc,.int .i64 r.lv,.int .i64 r.a] 47)).drew/\(wr.alloc (.cells #[.int .i64 (xl:Int),.slice xa r.r.length xc,.int .i64 r.lv,.int .i64 r.a] 47)).drew.heap[y]?=some (.cells (sC h S) 31 (0,0))):=⟨qd J.out.bel (qd (qb _ _) (qk _)),qf (qd (qb _ _) (qk _)) J.out.bs⟩
    have a1:Hid (Below w.heap.size w W'/\W'.heap[y]?=some (.cells (sC h S) 31 (0,0))):=⟨k3,k1⟩
    have a2:Hid (Below w.heap.size w (W'.setCell ⟨B,7,none⟩ (.slice (some ⟨g,0,none⟩) (m+1) c))/\(W'.setCell ⟨B,7,none⟩ (.slice (some ⟨g,0,none⟩) (m+1) c)).heap[y]?=some (.cells (sC h S) 31 (0,0))):=⟨y5.bel,y5.bs⟩
    have HF:Hid (RX8 w (W'.setCell ⟨B,7,none⟩ (.slice (some ⟨g,0,none⟩) (m+1) c)) h S y H B fb n (i+1) fd (some ⟨g,0,none⟩) (m+1) c):=y5;clear y5 k1 k2 k3 J L hr X a6 HR P
    go_upto_region 8 with fail
    refine wp_region_held_drew (S:=fun Z=>Z.cell? ⟨y,7,none⟩=some (.slice (some ⟨k,o,none⟩) s h.rc)/\Z.cell? ⟨k,o+i * 4,none⟩=some (.int .i64 (xl:Int))/\Z.cell? ⟨k,o+i * 4+1,none⟩=some (.slice xa r.r.length xc)/\Z.cell? ⟨k,o+i * 4+2,none⟩=some (.int .i64 r.lv)/\Z.cell? ⟨k,o+i * 4+3,none⟩=some (.int .i64 r.a)) (by kernel_rfl) (Y.out _ a0.out.1 a0.out.2) (fun d=>?_);refine wpAnyH_take (i:=0) (v:=.pointer (some ⟨B,7,none⟩)) rfl (by kernel_rfl) (by kernel_rfl) (by kernel_rfl) (fun _ _ _ h=>h) (Or.inl ⟨by rfl,fun w9 f=>?_⟩) d ?_
    ·(obtain⟨C,D,E,F,G⟩:=f;go_simp)
    simp only[Act.put];refine wpAnyH_take (i:=2) (v:=.pointer (some ⟨y,7,none⟩)) rfl (by kernel_rfl) (by kernel_rfl) (by kernel_rfl) (fun _ _ _ h=>h) (Or.inl ⟨by rfl,fun w9 f=>?_⟩) d ?_
    ·(obtain⟨C,D,E,F,G⟩:=f;go_simp)
    simp only[Act.put];refine wpAnyH_take (i:=3) (v:=.slice (some ⟨k,o,none⟩) s h.rc) rfl (by kernel_rfl) (by kernel_rfl) (by kernel_rfl) (fun _ _ _ h=>h) (Or.inl ⟨by rfl,fun w9 f=>?_⟩) d ?_
    ·(obtain⟨C,D,E,F,G⟩:=f;go_simp)
    simp only[Act.put];refine wpAnyH_take (i:=4) (v:=.int .i64 (i:Int)) rfl (by kernel_rfl) (by kernel_rfl) (by kernel_rfl) (fun _ _ _ h=>h) (Or.inl ⟨by rfl,fun w9 f=>?_⟩) d ?_
    ·(obtain⟨C,D,E,F,G⟩:=f;go_simp)
    simp only[Act.put];refine wpAnyH_take (i:=5) (v:=.pointer (some ⟨k,o+i * 4,none⟩)) rfl (by kernel_rfl) (by kernel_rfl) (by kernel_rfl) (fun _ _ _ h=>h) (Or.inl ⟨by rfl,fun w9 f=>?_⟩) d ?_
    ·(obtain⟨C,D,E,F,G⟩:=f;go_simp)
    simp only[Act.put];refine wpAnyH_take (i:=6) (v:=.agg #[.int .i64 (xl:Int),.slice xa r.r.length xc,.int .i64 r.lv,.int .i64 r.a]) rfl (by kernel_rfl) (by kernel_rfl) (by kernel_rfl) (fun _ _ _ h=>h) (Or.inl ⟨by rfl,fun w9 f=>?_⟩) d ?_
    ·(obtain⟨C,D,E,F,G⟩:=f;go_simp)
    simp only[Act.put];refine wpAnyH_ready (rs:=[1,7]) (by kernel_rfl) (by simp) ?_;refine AllReadyH.cons rfl (fun K u=>?_) (AllReadyH.cons rfl (fun K u=>?_) AllReadyH.nil)
    ·go_simp
     refine u.out _ _ (Y.out _ a0.out.1 a0.out.2) (fun d=>?_);clear u K;refine wpAnyH_ready (rs:=[7]) (by kernel_rfl) (by simp) ?_;refine AllReadyH.cons rfl (fun K u=>?_) AllReadyH.nil
     go_simp
     refine u.out _ _ (Y.out _ I.out.1 I.out.2) (fun d=>?_);clear u K;refine wpAnyH_ready (rs:=[8]) (by kernel_rfl) (by simp) ?_;refine AllReadyH.cons rfl (fun K u=>?_) AllReadyH.nil;refine zc rfl (.tmp 30) (.tmp 36) rfl rfl (by simp[Act.eval]) (by simp[Act.eval]) A (u.out _ _ (Y.out _ a1.out.1 a1.out.2) (fun d=>?_));clear u K;simp only[Act.put];refine wpAnyH_take (i:=9) (v:=.pointer (some ⟨B,7,none⟩)) rfl (by kernel_rfl) (by kernel_rfl) (by kernel_rfl) (fun _ _ _ h=>h) (Or.inl ⟨by rfl,fun w9 f=>?_⟩) d ?_
     ·(obtain⟨C,D,E,F,G⟩:=f;go_simp)
     simp only[Act.put];refine wpAnyH_ready (rs:=[10]) (by kernel_rfl) (by simp) ?_;refine AllReadyH.cons rfl (fun K u=>?_) AllReadyH.nil
     go_simp
     refine u.out _ _ (Y.out _ a2.out.1 a2.out.2) (fun d=>?_);clear u K d;refine wpAnyH_done (by kernel_rfl) ?_ _;go_wp2_with fail;go_roundg (s - (i+1))
     case measure=>omega
     case rel=>exact⟨i+1,_,_,_,by simp,by omega,by omega,Nat.le_refl _,by omega,HF⟩
    ·go_simp
     refine u.out _ _ (Y.out _ I.out.1 I.out.2) (fun d=>?_);clear u K;refine wpAnyH_ready (rs:=[1]) (by kernel_rfl) (by simp) ?_;refine AllReadyH.cons rfl (fun K u=>?_) AllReadyH.nil
     go_simp
     refine u.out _ _ (Y.out _ I.out.1 I.out.2) (fun d=>?_);clear u K;refine wpAnyH_ready (rs:=[8]) (by kernel_rfl) (by simp) ?_;refine AllReadyH.cons rfl (fun K u=>?_) AllReadyH.nil;refine zc rfl (.tmp 30) (.tmp 36) rfl rfl (by simp[Act.eval]) (by simp[Act.eval]) A (u.out _ _ (Y.out _ a1.out.1 a1.out.2) (fun d=>?_));clear u K;simp only[Act.put];refine wpAnyH_take (i:=9) (v:=.pointer (some ⟨B,7,none⟩)) rfl (by kernel_rfl) (by kernel_rfl) (by kernel_rfl) (fun _ _ _ h=>h) (Or.inl ⟨by rfl,fun w9 f=>?_⟩) d ?_
     ·(obtain⟨C,D,E,F,G⟩:=f;go_simp)
     simp only[Act.put];refine wpAnyH_ready (rs:=[10]) (by kernel_rfl) (by simp) ?_;refine AllReadyH.cons rfl (fun K u=>?_) AllReadyH.nil
     go_simp
     refine u.out _ _ (Y.out _ a2.out.1 a2.out.2) (fun d=>?_);clear u K d;refine wpAnyH_done (by kernel_rfl) ?_ _;go_wp2_with fail;go_roundg (s - (i+1))
     case measure=>omega
     case rel=>exact⟨i+1,_,_,_,by simp,by omega,by omega,Nat.le_refl _,by omega,HF⟩
  ·have b8:¬(i:Int)<(s:Int):=by omega
   have b7:i=S.rs.length:=by rw[t.out];omega
   have HJ:Hid (RX8 w wr h S y H B fb n S.rs.length fd Q m R):=by rw[<-b7];exact J.out
   clear b7;obtain⟨z0,z1,z2,z3,z4,z5,z6,z7⟩:=box8 J.out.rx;obtain⟨f0,f1,f2,f3,f4,f5,f6,f7⟩:=qa4 J.out.rx;obtain⟨c0,c1,c2,c3,c4,c5,c6,c8⟩:=box8 J.out.bo
   have HE:Hid (#[.int .i64 (S.tk:Int),.int .i64 (S.nt:Int),.int .i64 (S.st:Int),.int .i64 S.ex,.slice h.na S.nm.length h.nc,.slice h.la S.lv.length h.lc,.slice h.aa S.az.length h.ac,.slice Q m R]=sC ⟨h.na,h.nc,h.la,h.lc,h.aa,h.ac,Q,R⟩ (uae S fd)):=by
    have:=HJ.out.len (by rw[t.out];omega)
    show _=_;unfold sC uae;simp only;rw[<-this]
   have HF:Hid (∀v0 v1 v2 v3 v4 v5 v6 v7,IsSp (set8 wr H v0 v1 v2 v3 v4 v5 v6 v7) ⟨h.na,h.nc,h.la,h.lc,h.aa,h.ac,Q,R⟩ (uae S fd)/\Below w.heap.size w (set8 wr H v0 v1 v2 v3 v4 v5 v6 v7)):=fun v0 v1 v2 v3 v4 v5 v6 v7=>by
    have hb:=jd (v0:=v0) (v1:=v1) (v2:=v2) (v3:=v3) (v4:=v4) (v5:=v5) (v6:=v6) (v7:=v7) HJ.out.bel (b:=H) (by rw[a9.out];omega)
    exact⟨HJ.out.isp HX.out.2.2.1 (by rw[t.out];omega) hb (fun j T hl hT=>by
     have d8:=qr hl ⟨_,HJ.out.rx⟩ hT;obtain⟨cc,hc⟩:=hl
     exact(ucc hc d8).trans hc.symm),hb⟩
   clear J HJ;go_wp2_with fail;refine bodyPost_ret (v:=.agg #[.int .i64 (S.tk:Int),.int .i64 (S.nt:Int),.int .i64 (S.st:Int),.int .i64 S.ex,.slice h.na S.nm.length h.nc,.slice h.la S.lv.length h.lc,.slice h.aa S.az.length h.ac,.slice Q m R]) (by simp[results,Tryz.results13,go_sem, *]) rfl ?_;exact⟨⟨h.na,h.nc,h.la,h.lc,h.aa,h.ac,Q,R⟩,fd,congrArg (fun c=>Ending.returned (.agg c)) HE.out,HF.out _ _ _ _ _ _ _ _⟩
theorem ubj(F:List Nat)(x v:Nat):u6C (F.set x v)=(u6C F).set x (.int .u64 (v:Int)):=by unfold u6C;rw[List.map_set]
theorem RT8.setF{W:World}{B c:Nat}{p:RP8}{h:SHd}{S:Sp}{n:Nat}{E:List Bool}{F G:List Nat}(r:RT8 W B c p h S n E F G)(x v:Nat):RT8 (W.setCell ⟨p.fb,x,none⟩ (.int .u64 (v:Int))) B c p h S n E (F.set x v) G:=by
 have d:=qw r.fst (b:=p.fb) rfl;refine⟨(Below.heap_setCell _ _ _ _ (show c≠p.fb from qr ⟨_,r.box⟩ d.2.2 (by decide))).trans r.box,r.new,?_,?_,?_,r.ne⟩
 ·exact qh r.emp (fun i a=>Below.heap_setCell _ _ _ _ (qr (qx r.emp a) d.2.2 (by decide)))
 ·rw[ubj];exact(r.fst.stored x _).1
 ·exact qh r.fol (fun i a=>Below.heap_setCell _ _ _ _ (by
   cases a
   exact fun e=>r.ne e.symm))
theorem RT8.setG{W:World}{B c:Nat}{p:RP8}{h:SHd}{S:Sp}{n:Nat}{E:List Bool}{F G:List Nat}(r:RT8 W B c p h S n E F G)(x v:Nat):RT8 (W.setCell ⟨p.gb,x,none⟩ (.int .u64 (v:Int))) B c p h S n E F (G.set x v):=by
 have d:=qw r.fol (b:=p.gb) rfl;refine⟨(Below.heap_setCell _ _ _ _ (show c≠p.gb from qr ⟨_,r.box⟩ d.2.2 (by decide))).trans r.box,r.new,?_,?_,?_,r.ne⟩
 ·exact qh r.emp (fun i a=>Below.heap_setCell _ _ _ _ (qr (qx r.emp a) d.2.2 (by decide)))
 ·exact qh r.fst (fun i a=>Below.heap_setCell _ _ _ _ (by
   cases a
   exact r.ne))
 ·rw[ubj];exact(r.fol.stored x _).1
theorem RT8.setE{W:World}{B d:Nat}{p:RP8}{h:SHd}{S:Sp}{n:Nat}{E:List Bool}{F G:List Nat}(r:RT8 W B d p h S n E F G)(x:Nat)(b:Bool):RT8 (W.setCell ⟨p.eb,x,none⟩ (.bool b)) B d p h S n (E.set x b) F G:=by
 have c:=qw r.emp (b:=p.eb) rfl;refine⟨(Below.heap_setCell _ _ _ _ (show d≠p.eb from qr ⟨_,r.box⟩ c.2.2 (by decide))).trans r.box,r.new,?_,?_,?_,r.ne⟩
 ·rw[qdd];exact(r.emp.stored x _).1
 ·exact qh r.fst (fun i a=>Below.heap_setCell _ _ _ _ (qr (qx r.fst a) c.2.2 (by decide)))
 ·exact qh r.fol (fun i a=>Below.heap_setCell _ _ _ _ (qr (qx r.fol a) c.2.2 (by decide)))
structure NW (w W:World) (h:SHd) (S:Sp) (b1 rb:Nat) (p:RP8) (n:Nat) (E:List Bool) (F G:List Nat):Prop where
 bel:Below w.heap.size w W
 bs:W.heap[b1]?=some (.cells (sC h S) 31 (0,0))
 rt:RT8 W w.heap.size rb p h S n E F G
theorem NW.step{w W b:World}{h:SHd}{S:Sp}{c d:Nat}{p:RP8}{n:Nat}{E:List Bool}{F G:List Nat}(y:NW w W h S c d p n E F G)(a:Below W.heap.size W b):NW w b h S c d p n E F G:=⟨qd y.bel a,qf a y.bs,y.rt.below a⟩
theorem NW.setF{w W:World}{h:SHd}{S:Sp}{a d:Nat}{p:RP8}{n:Nat}{E:List Bool}{F G:List Nat}(y:NW w W h S a d p n E F G)(x v:Nat):NW w (W.setCell ⟨p.fb,x,none⟩ (.int .u64 (v:Int))) h S a d p n E (F.set x v) G:=by
 have c:=qw y.rt.fst (b:=p.fb) rfl;exact⟨y.bel.setCell (p:=⟨p.fb,x,none⟩) c.1 _,(Below.heap_setCell _ _ _ _ (show a≠p.fb from qr ⟨_,y.bs⟩ c.2.2 (by decide))).trans y.bs,y.rt.setF x v⟩
theorem NW.setG{w W:World}{h:SHd}{S:Sp}{a d:Nat}{p:RP8}{n:Nat}{E:List Bool}{F G:List Nat}(y:NW w W h S a d p n E F G)(x v:Nat):NW w (W.setCell ⟨p.gb,x,none⟩ (.int .u64 (v:Int))) h S a d p n E F (G.set x v):=by
 have c:=qw y.rt.fol (b:=p.gb) rfl;exact⟨y.bel.setCell (p:=⟨p.gb,x,none⟩) c.1 _,(Below.heap_setCell _ _ _ _ (show a≠p.gb from qr ⟨_,y.bs⟩ c.2.2 (by decide))).trans y.bs,y.rt.setG x v⟩
theorem NW.setE{w W:World}{h:SHd}{S:Sp}{a d:Nat}{p:RP8}{n:Nat}{E:List Bool}{F G:List Nat}(y:NW w W h S a d p n E F G)(x:Nat)(b:Bool):NW w (W.setCell ⟨p.eb,x,none⟩ (.bool b)) h S a d p n (E.set x b) F G:=by
 have c:=qw y.rt.emp (b:=p.eb) rfl;exact⟨y.bel.setCell (p:=⟨p.eb,x,none⟩) c.1 _,(Below.heap_setCell _ _ _ _ (show a≠p.eb from qr ⟨_,y.bs⟩ c.2.2 (by decide))).trans y.bs,y.rt.setE x b⟩
theorem NW.apart{w W:World}{h:SHd}{S:Sp}{a c:Nat}{p:RP8}{n:Nat}{E:List Bool}{F G:List Nat}(y:NW w W h S a c p n E F G):p.eb≠c/\p.fb≠c/\p.gb≠c/\p.eb≠a/\p.fb≠a/\p.gb≠a:=by
 have d:=(qw y.rt.emp (b:=p.eb) rfl).2.2;have f:=(qw y.rt.fst (b:=p.fb) rfl).2.2;have g:=(qw y.rt.fol (b:=p.gb) rfl).2.2;exact⟨qr d ⟨_,y.rt.box⟩ (by decide),qr f ⟨_,y.rt.box⟩ (by decide),qr g ⟨_,y.rt.box⟩ (by decide),qr d ⟨_,y.bs⟩ (by decide),qr f ⟨_,y.bs⟩ (by decide),qr g ⟨_,y.bs⟩ (by decide)⟩
def bz (n:Nat):Array Value:=madeCells (Value.bool false).cells (n * 1)
def uz (n:Nat):Array Value:=madeCells (Value.int .u64 0).cells (n * 1)
theorem u70:Tryz.prog.underlying 70=some (.slice 74):=by kernel_rfl
theorem i74:(Tryz.prog.info? 74).map (fun i=>(i.zero,i.size,i.bytes))=some (some (.int .u64 0),1,8):=by kernel_rfl
theorem ucl(n:Nat):(uz n).toList=u6C (List.replicate n 0):=by
 have e:(Value.int .u64 0).cells=#[Value.int .u64 0]:=rfl;unfold uz;rw[Nat.mul_one,e,toList_madeCells_one];unfold u6C;rw[List.map_replicate];rfl
theorem ub1(n:Nat)(g:n<=1000)(V:World):(Instr.makeSlice 41 (.int .i64 (n:Int)) (.int .i64 (n:Int))).run Tryz.prog V=.ok (.slice (some ⟨V.heap.size,0,none⟩) n n) (V.alloc (.cells (bz n) 4)):=by
 obtain⟨f,d,a,b,c⟩:=info_parts i4;have h:=run_make (P:=Tryz.prog) V 41 4 f _ u51 d a .i64 .i64 (n:Int) (n:Int) (by omega) (by omega) (by rw[c];omega) (by omega)
 rw[Int.toNat_natCast,b]at h;exact h
theorem ub2(n:Nat)(g:n<=1000)(V:World):(Instr.makeSlice 70 (.int .i64 (n:Int)) (.int .i64 (n:Int))).run Tryz.prog V=.ok (.slice (some ⟨V.heap.size,0,none⟩) n n) (V.alloc (.cells (uz n) 74)):=by
 obtain⟨f,d,a,b,c⟩:=info_parts i74;have h:=run_make (P:=Tryz.prog) V 70 74 f _ u70 d a .i64 .i64 (n:Int) (n:Int) (by omega) (by omega) (by rw[c];omega) (by omega)
 rw[Int.toNat_natCast,b]at h;exact h
theorem ua0(n:Nat)(b:n<=1000)(V:World)(B:Nat)(d:B<=V.heap.size):(V.alloc (.cells (bz n) 4)).ownsRow B 4 1 (.slice (some ⟨V.heap.size,0,none⟩) n n) n (booC (List.replicate n false)):=by
 obtain⟨f,a,c,-⟩:=qgr V B n b d;rw[ub1 n b V]at a
 cases a
 exact c
theorem uad(n:Nat)(i:n<=1000)(V:World)(B:Nat)(g:B<=V.heap.size):(V.alloc (.cells (uz n) 74)).ownsRow B 74 1 (.slice (some ⟨V.heap.size,0,none⟩) n n) n (u6C (List.replicate n 0)):=by
 obtain⟨j,h,a,b,c⟩:=info_parts i74;obtain⟨k,d,f,-⟩:=run_make_full (P:=Tryz.prog) V B 70 74 j _ 1 u70 h a b .i64 .i64 n (by rw[c];omega) (by unfold maxLen;omega) g
 rw[ub2 n i V]at d
 cases d
 rw[<-ucl];exact f
theorem uak{w V:World}{h:SHd}{S:Sp}{n f c a b:Nat}(g:Below w.heap.size w V)(i:V.heap[f]?=some (.cells (sC h S) 31 (0,0)))(j:V.ownsRow w.heap.size 4 1 (.slice (some ⟨c,0,none⟩) n n) n (booC (List.replicate n false)))(k:V.ownsRow w.heap.size 74 1 (.slice (some ⟨a,0,none⟩) n n) n (u6C (List.replicate n 0)))(l:V.ownsRow w.heap.size 74 1 (.slice (some ⟨b,0,none⟩) n n) n (u6C (List.replicate n 0)))(d:a≠b):
  NW w (V.alloc (.cells #[.int .i64 (S.tk:Int),.int .i64 (S.nt:Int),.int .i64 (S.st:Int),.int .i64 S.ex,.slice h.na S.nm.length h.nc,.slice h.la S.lv.length h.lc,.slice h.aa S.az.length h.ac,.slice h.ra S.rs.length h.rc,.slice (some ⟨c,0,none⟩) n n,.slice (some ⟨a,0,none⟩) n n,.slice (some ⟨b,0,none⟩) n n] 72)) h S f V.heap.size ⟨c,a,b⟩ n (List.replicate n false) (List.replicate n 0) (List.replicate n 0):=by
 refine⟨qd g (qb _ _),qf (qb _ _) i,⟨heap_alloc_new _ _,g.size,zw j (qb _ _),zw k (qb _ _),zw l (qb _ _),d⟩⟩
theorem ucu{w V:World}{n:Nat}(b:n<=1000)(f:Below w.heap.size w V):Below V.heap.size V (((V.alloc (.cells (bz n) 4)).alloc (.cells (uz n) 74)).alloc (.cells (uz n) 74))/\(((V.alloc (.cells (bz n) 4)).alloc (.cells (uz n) 74)).alloc (.cells (uz n) 74)).ownsRow w.heap.size 4 1 (.slice (some ⟨V.heap.size,0,none⟩) n n) n (booC (List.replicate n false))/\(((V.alloc (.cells (bz n) 4)).alloc (.cells (uz n) 74)).alloc (.cells (uz n) 74)).ownsRow w.heap.size 74 1 (.slice (some ⟨V.heap.size+1,0,none⟩) n n) n (u6C (List.replicate n 0))/\(((V.alloc (.cells (bz n) 4)).alloc (.cells (uz n) 74)).alloc (.cells (uz n) 74)).ownsRow w.heap.size 74 1 (.slice (some ⟨V.heap.size+1+1,0,none⟩) n n) n (u6C (List.replicate n 0))/\(((V.alloc (.cells (bz n) 4)).alloc (.cells (uz n) 74)).alloc (.cells (uz n) 74)).heap.size=V.heap.size+1+1+1:=by
 have s0:=f.size;have c:=ua0 n b V w.heap.size s0;have a:=uad n b (V.alloc (.cells (bz n) 4)) w.heap.size (by rw[qt];omega)
 have d:=uad n b ((V.alloc (.cells (bz n) 4)).alloc (.cells (uz n) 74)) w.heap.size (by rw[qt,qt];omega)
 have c:=zw (zw c (qb _ (.cells (uz n) 74))) (qb _ (.cells (uz n) 74));have a:=zw a (qb _ (.cells (uz n) 74));rw[qt]at a;rw[qt,qt]at d;exact⟨qd (qd (qb _ _) (qb _ _)) (qb _ _),c,a,d,by rw[qt,qt,qt]⟩
theorem ucv{w V:World}{n:Nat}(b:n<=1000)(f:Below w.heap.size w V):Below V.heap.size V (((V.alloc (.cells (uz n) 74)).alloc (.cells (bz n) 4)).alloc (.cells (uz n) 74))/\(((V.alloc (.cells (uz n) 74)).alloc (.cells (bz n) 4)).alloc (.cells (uz n) 74)).ownsRow w.heap.size 4 1 (.slice (some ⟨V.heap.size+1,0,none⟩) n n) n (booC (List.replicate n false))/\(((V.alloc (.cells (uz n) 74)).alloc (.cells (bz n) 4)).alloc (.cells (uz n) 74)).ownsRow w.heap.size 74 1 (.slice (some ⟨V.heap.size,0,none⟩) n n) n (u6C (List.replicate n 0))/\(((V.alloc (.cells (uz n) 74)).alloc (.cells (bz n) 4)).alloc (.cells (uz n) 74)).ownsRow w.heap.size 74 1 (.slice (some ⟨V.heap.size+1+1,0,none⟩) n n) n (u6C (List.replicate n 0))/\(((V.alloc (.cells (uz n) 74)).alloc (.cells (bz n) 4)).alloc (.cells (uz n) 74)).heap.size=V.heap.size+1+1+1:=by
 have s0:=f.size;have c:=uad n b V w.heap.size s0;have a:=ua0 n b (V.alloc (.cells (uz n) 74)) w.heap.size (by rw[qt];omega)
 have d:=uad n b ((V.alloc (.cells (uz n) 74)).alloc (.cells (bz n) 4)) w.heap.size (by rw[qt,qt];omega)
 have c:=zw (zw c (qb _ (.cells (bz n) 4))) (qb _ (.cells (uz n) 74));have a:=zw a (qb _ (.cells (uz n) 74));rw[qt]at a;rw[qt,qt]at d;exact⟨qd (qd (qb _ _) (qb _ _)) (qb _ _),a,c,d,by rw[qt,qt,qt]⟩
theorem ucw{w V:World}{n:Nat}(b:n<=1000)(f:Below w.heap.size w V):Below V.heap.size V (((V.alloc (.cells (uz n) 74)).alloc (.cells (uz n) 74)).alloc (.cells (bz n) 4))/\(((V.alloc (.cells (uz n) 74)).alloc (.cells (uz n) 74)).alloc (.cells (bz n) 4)).ownsRow w.heap.size 4 1 (.slice (some ⟨V.heap.size+1+1,0,none⟩) n n) n (booC (List.replicate n false))/\(((V.alloc (.cells (uz n) 74)).alloc (.cells (uz n) 74)).alloc (.cells (bz n) 4)).ownsRow w.heap.size 74 1 (.slice (some ⟨V.heap.size,0,none⟩) n n) n (u6C (List.replicate n 0))/\(((V.alloc (.cells (uz n) 74)).alloc (.cells (uz n) 74)).alloc (.cells (bz n) 4)).ownsRow w.heap.size 74 1 (.slice (some ⟨V.heap.size+1,0,none⟩) n n) n (u6C (List.replicate n 0))/\(((V.alloc (.cells (uz n) 74)).alloc (.cells (uz n) 74)).alloc (.cells (bz n) 4)).heap.size=V.heap.size+1+1+1:=by
 have s0:=f.size;have c:=uad n b V w.heap.size s0;have a:=uad n b (V.alloc (.cells (uz n) 74)) w.heap.size (by rw[qt];omega)
 have d:=ua0 n b ((V.alloc (.cells (uz n) 74)).alloc (.cells (uz n) 74)) w.heap.size (by rw[qt,qt];omega)
 have c:=zw (zw c (qb _ (.cells (uz n) 74))) (qb _ (.cells (bz n) 4));have a:=zw a (qb _ (.cells (bz n) 4));rw[qt]at a;rw[qt,qt]at d;exact⟨qd (qd (qb _ _) (qb _ _)) (qb _ _),d,c,a,by rw[qt,qt,qt]⟩
def F0 (n k:Nat):List Nat:=(List.range n).map (fun x=>if x<k then 2 ^ x else 0)
theorem uaf(n k:Nat):(F0 n k).length=n:=by unfold F0;rw[List.length_map,List.length_range]
theorem uau{n k x:Nat}(a:x<n):(F0 n k)[x]?=some (if x<k then 2 ^ x else 0):=by
 unfold F0;rw[List.getElem?_map,List.getElem?_range a];rfl
theorem ucm(n:Nat):F0 n 0=List.replicate n 0:=by
 apply List.ext_getElem?
 intro i
 by_cases a:i<n
 ·rw[uau a,List.getElem?_replicate,if_pos a,if_neg (Nat.not_lt_zero i)]
 ·rw[List.getElem?_eq_none (by rw[uaf];omega),List.getElem?_eq_none (by rw[List.length_replicate];omega)]
theorem ucr{n k:Nat}(c:k<n):(F0 n k).set k (2 ^ k)=F0 n (k+1):=by
 apply List.ext_getElem?
 intro i;rw[List.getElem?_set]
 by_cases b:i<n
 ·rw[uau b]
  by_cases a:k=i
  ·subst a;rw[if_pos rfl,if_pos (by rw[uaf];exact c),uau c,if_pos (Nat.lt_succ_self k)]
  ·rw[if_neg a,uau b]
   by_cases d:i<k
   ·rw[if_pos d,if_pos (by omega)]
   ·rw[if_neg d,if_neg (by omega)]
 ·rw[if_neg (by omega),List.getElem?_eq_none (by rw[uaf];omega),List.getElem?_eq_none (by rw[uaf];omega)]
theorem TF.begin{S:Sp}{n:Nat}(h:S.tk<n)(f:S.tk<64):TF S n (List.replicate n false) (F0 n S.tk):=by
 have d:∀x,wd (F0 n S.tk) x=if x<S.tk then 2 ^ x else 0:=by
  intro x;unfold wd
  by_cases a:x<n
  ·rw[uau a];rfl
  ·rw[List.getElem?_eq_none (by rw[uaf];omega),if_neg (by omega)];rfl
 refine⟨List.length_replicate,uaf _ _,fun w g=>?_,fun x a=>(by rw[qhp]at a;cases a),fun x t b=>?_,fun x a=>?_⟩
 ·obtain⟨x,a⟩:=List.getElem?_of_mem g
  have c:x<n:=by have:=(List.getElem?_eq_some_iff.1 a).1;rwa [uaf]at this
  rw[uau c]at a
  cases a
  split
  ·exact Nat.pow_lt_pow_right (by decide) (by omega)
  ·exact Nat.two_pow_pos 64
 ·unfold tb at b;rw[d]at b
  split at b
  ·rename_i hl;rw[Nat.testBit_two_pow]at b
   have:x=t:=by simpa using b
   subst this;exact FstP.tok x hl
  ·rw[Nat.zero_testBit]at b
   cases b
 ·unfold tb;rw[d,if_pos a,Nat.testBit_two_pow_self]
theorem TG.begin{S:Sp}{n:Nat}(c:S.st<n)(b:S.tk<64):TG S n ((List.replicate n 0).set S.st (2 ^ S.tk)):=by
 have d:S.st<(List.replicate n 0).length:=by rw[List.length_replicate];exact c
 have g:∀x,wd (List.replicate n 0) x=0:=by
  intro x;unfold wd;rw[List.getElem?_replicate]
  split <;> rfl
 refine⟨by rw[List.length_set,List.length_replicate],fun w f=>?_,fun x t a=>?_,?_⟩
 ·rcases List.mem_or_eq_of_mem_set f with h1 | rfl
  ·rw[List.mem_replicate]at h1;rw[h1.2];exact Nat.two_pow_pos 64
  ·exact Nat.pow_lt_pow_right (by decide) b
 ·unfold tb at a;rw[ua6 d]at a
  split at a
  ·rename_i he;subst he;rw[Nat.testBit_two_pow]at a
   have:S.tk=t:=by simpa using a
   subst this;exact FolP.start
  ·rw[g,Nat.zero_testBit]at a
   cases a
 ·unfold tb;rw[ua6 d,if_pos rfl,Nat.testBit_two_pow_self]
theorem ub3{w:World}{b o n a k:Nat}{l:List Nat}(h:Row w 1 (some ⟨b,o,none⟩) n a (natC l))(m:k<=n):Row w 1 (some ⟨b,o+k,none⟩) (n - k) (a - k) (natC (l.drop k)):=by
 have d:=h.len;have g:=h.le;have i:=h.max
 have f:l.length=n:=by unfold natC at d;rw[List.length_map]at d;omega
 refine⟨by unfold natC;rw[List.length_map,List.length_drop];omega,by omega,by omega,.inr ⟨b,o+k,rfl,fun j u c=>?_⟩⟩
 rcases h.lies with ⟨e,-⟩ | ⟨b',o',e,hc⟩
 ·cases e
 ·cases e
  rw[Nat.add_assoc];refine hc (k+j) u ?_;unfold natC at c ⊢;rw[List.getElem?_map]at c ⊢;rw[List.getElem?_drop]at c;exact c
structure Told8 (S:Sp) (n:Nat) (E:List Bool) (F G:List Nat):Prop where
 el:E.length=n
 fl:F.length=n
 gl:G.length=n
 flt:∀w∈F,w<2 ^ 64
 glt:∀w∈G,w<2 ^ 64
 ef:(∀x,isF E x=true↔Nul S x)/\∀x t,tb F x t=true↔FstP S x t
 fol:∀x t,tb G x t=true↔FolP S x t
def RN1 (w W:World) (h:SHd) (S:Sp) (b1 rb:Nat) (p:RP8) (n:Nat) (E:List Bool) (F:List Nat):Prop:=NW w W h S b1 rb p n E F (List.replicate n 0)/\TF S n E F
def uag (S:Sp) (E:List Bool) (F:List Nat) (i:Nat):Prop:=∀j,0<j->j<i->Cl1 S E F j
theorem ub4{S:Sp}{n i x:Nat}{r:SR}{E:List Bool}{F:List Nat}{m:Nat}{b g:Bool}(h:TF S n E F)(A:0<i)(t:S.rs[i]?=some r)(u:r.l=(x:Int))(c:x<n)(d:b=false->uag S E F i/\zE E+zbs F<=m)(p:b=true->zE E+zbs F+1<=m)(f:g=false->wd F x ||| (ofW E F r.r).1=wd F x/\((ofW E F r.r).2=true->isF E x=true))(q:g=true->wd F x ||| (ofW E F r.r).1≠wd F x\/((ofW E F r.r).2=true/\isF E x=false)):
  TF S n (yp E x (ofW E F r.r).2) (vu F x (ofW E F r.r).1)/\((b || g)=false->uag S (yp E x (ofW E F r.r).2) (vu F x (ofW E F r.r).1) (i+1)/\zE (yp E x (ofW E F r.r).2)+zbs (vu F x (ofW E F r.r).1)<=m)/\((b || g)=true->zE (yp E x (ofW E F r.r).2)+zbs (vu F x (ofW E F r.r).1)+1<=m):=by
 refine⟨h.add A t u c,fun a=>?_,fun a=>?_⟩
 ·rw[Bool.or_eq_false_iff]at a;obtain⟨v,y,z⟩:=h.same t u c (f a.2).1 (f a.2).2;rw[v,y];refine⟨fun j s B=>?_,(d a.1).2⟩
  rcases Nat.lt_or_ge j i with k | k
  ·exact(d a.1).1 j s k
  ·have:j=i:=by omega
   subst this;exact z
 ·cases o:b
  ·rw[o]at a;have k:=h.less c (q (by simpa using a));have:=(d o).2;omega
  ·have k:=h.le (r:=r) c;have:=p o;omega
def RN2 (w W:World) (h:SHd) (S:Sp) (b1 rb:Nat) (p:RP8) (n:Nat) (E:List Bool) (F G:List Nat):Prop:=NW w W h S b1 rb p n E F G/\TG S n G
def uar (S:Sp) (E:List Bool) (F G:List Nat) (i:Nat):Prop:=∀(j k:Nat) (r:SR),0<j->j<i->S.rs[j]?=some r->k<r.r.length->Cl2 S E F G j k
def K2 (S:Sp) (E:List Bool) (F G:List Nat) (i k m:Nat) (b:Bool):Prop:=(b=false->uar S E F G i/\(∀k',k'<k->Cl2 S E F G i k')/\zbs G<=m)/\(b=true->zbs G+1<=m)
theorem K2.same{S:Sp}{E:List Bool}{F G:List Nat}{i k m:Nat}{b:Bool}(h:K2 S E F G i k m b)(c:Cl2 S E F G i k):K2 S E F G i (k+1) m b:=by
 refine⟨fun e=>⟨(h.1 e).1,fun a d=>?_,(h.1 e).2.2⟩,h.2⟩
 rcases Nat.lt_or_ge a k with h1 | h1
 ·exact(h.1 e).2.1 a h1
 ·have:a=k:=by omega
  subst this;exact c
theorem K2.more{S:Sp}{E:List Bool}{F G a:List Nat}{i k m:Nat}{b:Bool}(h:K2 S E F G i k m b)(c:zbs a<zbs G):K2 S E F a i (k+1) m true:=by
 refine⟨fun e=>(by cases e),fun _=>?_⟩
 cases b
 ·have:=(h.1 rfl).2.2;omega
 ·have:=h.2 rfl;omega
theorem K2.done{S:Sp}{E:List Bool}{F G:List Nat}{i k m:Nat}{b:Bool}{r:SR}(h:K2 S E F G i k m b)(g:S.rs[i]?=some r)(n:r.r.length<=k):(b=false->uar S E F G (i+1)/\zbs G<=m)/\(b=true->zbs G+1<=m):=by
 refine⟨fun e=>⟨fun j d q f l c a=>?_,(h.1 e).2.2⟩,h.2⟩
 rcases Nat.lt_or_ge j i with h2 | h2
 ·exact(h.1 e).1 j d q f h2 c a
 ·have:j=i:=by omega
  subst this;rw[g]at c
  cases c
  exact(h.1 e).2.1 d (by omega)
theorem ucf{w:World}{b o j m:Nat}{l:List Nat}(h:l.length<=j)(a:m=0):Row w 1 (some ⟨b,o,none⟩) m 0 (natC (l.drop j)):=by
 rw[List.drop_eq_nil_of_le h,a];exact⟨rfl,Nat.le_refl _,Nat.zero_le _,.inr ⟨b,o,rfl,fun j u c=>by cases c⟩⟩
theorem ubm(w:World)(h:SHd)(S:Sp)(n:Nat)(hs:NSp S n)(o4:S.tk<64)(h7:IsSp w h S):
  Calls Tryz.prog 35 #[sv h S] w fun e O=>∃A s p E F G,e=.returned (.pointer (some ⟨s,0,none⟩))/\NW w O h S A s p n E F G/\Told8 S n E F G:=by
 have HX:Hid (NSp S n/\IsSp w h S/\S.tk<64):=⟨hs,h7,o4⟩
 have o9:=hs.wf.tk
 have hn:n<=301:=by have:=hs.nn;have:=hs.wf.nt;omega
 have m6:S.rs.length<=40:=hs.nr
 have h5:1<=S.rs.length:=by have:=(List.getElem?_eq_some_iff.1 hs.wf.hd).1;omega
 have k0:Below w.heap.size w (w.alloc (.cells (sC h S) 31)):=qb _ _;have g3:(w.alloc (.cells (sC h S) 31)).heap[w.heap.size]?=some (.cells (sC h S) 31 (0,0)):=heap_alloc_new _ _;obtain⟨n9,ro,-,-,b3,-⟩:=h7.rl.at hs.wf.hd;have f2:Hid (h.ra=some ⟨n9,ro,none⟩):=b3;have m5:=j6 h7.rl
 have l1:Hid ((n:Int)=(S.tk:Int)+1+(S.nt:Int)):=by have:=hs.nn;show _=_;omega
 have i2:S.tk<n:=by have:=hs.nn;omega
 have k4:S.st<n:=by have:=hs.wf.st.2;have:=hs.nn;omega
 have o8:=hs.wf.nt;clear hs h7;unfold sv sC;rw[b3];clear b3
 obtain⟨Y,a4⟩:∃Y,Hid (S.rs.length=Y):=⟨_,rfl⟩
 rw[a4.out]at m6 h5 m5 ⊢;go_enter Tryz.func35,Tryz.ntmps35
 go_upto_region 1 with fail
 have e0:w.alloc (.cells #[.int .i64 (S.tk:Int),.int .i64 (S.nt:Int),.int .i64 (S.st:Int),.int .i64 S.ex,.slice h.na S.nm.length h.nc,.slice h.la S.lv.length h.lc,.slice h.aa S.az.length h.ac,.slice (some ⟨n9,ro,none⟩) Y h.rc] 31)=w.alloc (.cells (sC h S) 31):=by unfold sC;rw[f2.out,a4.out]
 rw[e0];generalize w.alloc (.cells (sC h S) 31)=W0 at k0 g3 ⊢
 obtain⟨A,k7⟩:∃A,Hid (A=w.heap.size):=⟨_,rfl⟩
 rw[<-k7.out]at g3 ⊢;obtain⟨c0,c1,c2,c3,c4,c5,c6,c7⟩:=sbox g3;clear e0
 have H0:Hid (Below w.heap.size w W0/\W0.heap[A]?=some (.cells (sC h S) 31 (0,0))):=⟨k0,g3⟩
 clear k0 g3
 go_upto_region 2 with fail
 rw[<-l1.out];have o6:=ub1 n (by omega);have o7:=ub2 n (by omega);have mx:=qay
 go_cut [4] (fun s4 wd=>∃s C B D:Nat,s4=.pointer (some ⟨s,0,none⟩)/\Hid (NW w wd h S A s ⟨C,B,D⟩ n (List.replicate n false) (List.replicate n 0) (List.replicate n 0)))
 case first =>
  have a0:Hid (∀V,Below W0.heap.size W0 V->V.cell? ⟨A,0,none⟩=some (.int .i64 (S.tk:Int))/\V.cell? ⟨A,1,none⟩=some (.int .i64 (S.nt:Int))/\V.cell? ⟨A,2,none⟩=some (.int .i64 (S.st:Int))/\V.cell? ⟨A,3,none⟩=some (.int .i64 S.ex)/\V.cell? ⟨A,4,none⟩=some (.slice h.na S.nm.length h.nc)/\V.cell? ⟨A,5,none⟩=some (.slice h.la S.lv.length h.lc)/\V.cell? ⟨A,6,none⟩=some (.slice h.aa S.az.length h.ac)/\V.cell? ⟨A,7,none⟩=some (.slice h.ra S.rs.length h.rc)):=fun V hV=>sbox (qf hV H0.out.2)
  obtain⟨x1,x2,x3,x4,x5⟩:=ucu (by omega:n<=1000) H0.out.1;have g6:=uak (S:=S) (h:=h) (qd H0.out.1 x1) (qf x1 H0.out.2) x2 x3 x4 (by omega);have g7:=uak (S:=S) (h:=h) (qd H0.out.1 x1) (qf x1 H0.out.2) x2 x4 x3 (by omega);rw[x5]at g6 g7;have g6:Hid _:=g6.step (qk _);have g7:Hid _:=g7.step (qk _);clear x1 x2 x3 x4 x5;obtain⟨x1,x2,x3,x4,x5⟩:=ucv (by omega:n<=1000) H0.out.1;have g8:=uak (S:=S) (h:=h) (qd H0.out.1 x1) (qf x1 H0.out.2) x2 x3 x4 (by omega);have g9:=uak (S:=S) (h:=h) (qd H0.out.1 x1) (qf x1 H0.out.2) x2 x4 x3 (by omega);rw[x5]at g8 g9;have g8:Hid _:=g8.step (qk _);have g9:Hid _:=g9.step (qk _);clear x1 x2 x3 x4 x5;obtain⟨x1,x2,x3,x4,x5⟩:=ucw (by omega:n<=1000) H0.out.1;have h2:=uak (S:=S) (h:=h) (qd H0.out.1 x1) (qf x1 H0.out.2) x2 x3 x4 (by omega);have h3:=uak (S:=S) (h:=h) (qd H0.out.1 x1) (qf x1 H0.out.2) x2 x4 x3 (by omega);rw[x5]at h2 h3;have h2:Hid _:=h2.step (qk _);have h3:Hid _:=h3.step (qk _);clear x1 x2 x3 x4 x5
  go_region_held (fun O=>O.cell? ⟨A,0,none⟩=some (.int .i64 (S.tk:Int))/\O.cell? ⟨A,1,none⟩=some (.int .i64 (S.nt:Int))/\O.cell? ⟨A,2,none⟩=some (.int .i64 (S.st:Int))/\O.cell? ⟨A,3,none⟩=some (.int .i64 S.ex)/\O.cell? ⟨A,4,none⟩=some (.slice h.na S.nm.length h.nc)/\O.cell? ⟨A,5,none⟩=some (.slice h.la S.lv.length h.lc)/\O.cell? ⟨A,6,none⟩=some (.slice h.aa S.az.length h.ac)/\O.cell? ⟨A,7,none⟩=some (.slice h.ra S.rs.length h.rc)) (first | exact a0.out _ (qk _) | exact a0.out _ (qd (qb _ _) (qk _)) | exact a0.out _ (qd (qd (qb _ _) (qb _ _)) (qk _)) | exact a0.out _ (qd (qd (qd (qb _ _) (qb _ _)) (qb _ _)) (qk _)) | exact a0.out _ (qd (qd (qd (qd (qb _ _) (qb _ _)) (qb _ _)) (qb _ _)) (qk _))) (fail)
  all_goals
   go_wp2_with fail;go_meet
   first
    | exact⟨_,_,_,_,rfl,g6⟩
    | exact⟨_,_,_,_,rfl,g7⟩
    | exact⟨_,_,_,_,rfl,g8⟩
    | exact⟨_,_,_,_,rfl,g9⟩
    | exact⟨_,_,_,_,rfl,h2⟩
    | exact⟨_,_,_,_,rfl,h3⟩
 case rest =>
  obtain⟨s,C,B,D,rfl,H1⟩:=hcut
  obtain⟨w1,q3⟩:∃w1,w1=wc:=⟨_,rfl⟩
  subst wc;clear c0 c1 c2 c3 c4 c5 c6 c7 H0 o6 o7
  go_upto_block 0 with fail
  go_cut [5] (fun s5 wd=>Hid (RN1 w wd h S A s ⟨C,B,D⟩ n (List.replicate n false) (F0 n S.tk)))
  case first =>
   go_wp2_with fail
   go_loopg [5] S.tk (fun kx s5 wr=>∃k:Nat,s5=.int .i64 k/\k<=S.tk/\S.tk - k<=kx/\Hid (NW w wr h S A s ⟨C,B,D⟩ n (List.replicate n false) (F0 n k) (List.replicate n 0)))
   case atStart=>exact⟨0,rfl,Nat.zero_le _,by omega,by rw[ucm];exact H1⟩
   case round =>
    clear H1;obtain⟨k,rfl,hk,hg,J⟩:=hrel;obtain⟨c0,-⟩:=sbox J.out.bs
    by_cases d7:k<S.tk
    ·have a7:(k:Int)<(S.tk:Int):=by omega
     have m2:k<n:=by omega
     have p5:(k:Int)<(n:Int):=by omega
     obtain⟨-,a9,-⟩:=J.out.rt.cells;obtain⟨-,n2,-⟩:=J.out.apart;have f9:wr.frozen? ⟨B,k,none⟩=false:=J.out.rt.fst.frozenAt k
     obtain⟨u9,v9⟩:∃u,wr.cell? ⟨B,k,none⟩=some u:=⟨_,uab J.out.rt.fst m2⟩
     have HO:Hid (∀V,Calls Tryz.prog 55 #[.int .i64 (k:Int)] V fun e O=>e=.returned (.int .u64 ((2 ^ k:Nat):Int))/\O=V):=fun V=>uaq V k (by have:=HX.out.2.2;omega)
     have HF:Hid (NW w (wr.drew.setCell ⟨B,k,none⟩ (.int .u64 ((2 ^ k:Nat):Int))) h S A s ⟨C,B,D⟩ n (List.replicate n false) (F0 n (k+1)) (List.replicate n 0)):=by
      have:=(J.out.step (qk wr)).setF k (2 ^ k);rw[ucr m2]at this;exact this
     generalize 2 ^ k=pw at HO HF;clear J
     go_upto_region 6 with fail
     have r1:(wr.drew).cell? ⟨B,k,none⟩=some u9:=v9;have p7:(wr.drew).frozen? ⟨B,k,none⟩=false:=f9;have i8:wr.drew.cell? ⟨s,9,none⟩=some (.slice (some ⟨B,0,none⟩) n n):=a9;refine wp_region_held_drew (S:=fun O=>O.cell? ⟨s,9,none⟩=some (.slice (some ⟨B,0,none⟩) n n)) (by kernel_rfl) i8 (fun d=>?_);refine wpAnyH_take (i:=0) (v:=.pointer (some ⟨s,0,none⟩)) rfl (by kernel_rfl) (by kernel_rfl) (by kernel_rfl) (fun _ _ _ h=>h) (Or.inl ⟨by rfl,fun H f=>?_⟩) d ?_
     ·(have m:=f;go_simp)
     simp only[Act.put];refine wpAnyH_take (i:=1) (v:=.pointer (some ⟨s,0,none⟩)) rfl (by kernel_rfl) (by kernel_rfl) (by kernel_rfl) (fun _ _ _ h=>h) (Or.inl ⟨by rfl,fun H f=>?_⟩) d ?_
     ·(have m:=f;go_simp)
     simp only[Act.put];refine wpAnyH_take (i:=2) (v:=.pointer (some ⟨s,9,none⟩)) rfl (by kernel_rfl) (by kernel_rfl) (by kernel_rfl) (fun _ _ _ h=>h) (Or.inl ⟨by rfl,fun H f=>?_⟩) d ?_
     ·(have m:=f;go_simp)
     simp only[Act.put];refine wpAnyH_take (i:=3) (v:=.slice (some ⟨B,0,none⟩) n n) rfl (by kernel_rfl) (by kernel_rfl) (by kernel_rfl) (fun _ _ _ h=>h) (Or.inl ⟨by rfl,fun H f=>?_⟩) d ?_
     ·(have m:=f;go_simp)
     simp only[Act.put];refine wpAnyH_take (i:=4) (v:=.int .i64 (k:Int)) rfl (by kernel_rfl) (by kernel_rfl) (by kernel_rfl) (fun _ _ _ h=>h) (Or.inl ⟨by rfl,fun H f=>?_⟩) d ?_
     ·(have m:=f;go_simp)
     simp only[Act.put];refine wpAnyH_take (i:=5) (v:=.int .i64 (k:Int)) rfl (by kernel_rfl) (by kernel_rfl) (by kernel_rfl) (fun _ _ _ h=>h) (Or.inl ⟨by rfl,fun H f=>?_⟩) d ?_
     ·(have m:=f;go_simp)
     simp only[Act.put];refine wpAnyH_ready (rs:=[6]) (by kernel_rfl) (by simp) ?_;refine AllReadyH.cons rfl (fun K X=>?_) AllReadyH.nil;refine qcz rfl 55 #[.int .i64 (k:Int)] (.int .u64 (pw:Int)) (by simp[Act.eval,go_sem]) (HO.out _) (X.out _ _ i8 (fun d=>?_));clear X K;simp only[Act.put];refine wpAnyH_take (i:=7) (v:=.pointer (some ⟨B,k,none⟩)) rfl (by kernel_rfl) (by kernel_rfl) (by kernel_rfl) (fun _ _ _ h=>h) (Or.inl ⟨by rfl,fun H f=>?_⟩) d ?_
     ·(have m:=f;go_simp)
     simp only[Act.put];refine wpAnyH_ready (rs:=[8]) (by kernel_rfl) (by simp) ?_;refine AllReadyH.cons rfl (fun K X=>?_) AllReadyH.nil
     go_simp
     refine X.out _ _ (qz i8 n2.symm) (fun d=>?_);clear X K d;refine wpAnyH_done (by kernel_rfl) ?_ _;go_wp2_with fail;go_roundg (S.tk - (k+1))
     case measure=>omega
     case rel=>exact⟨k+1,by simp,by omega,Nat.le_refl _,HF⟩
    ·have a7:¬(k:Int)<(S.tk:Int):=by omega
     have HF:Hid (RN1 w wr h S A s ⟨C,B,D⟩ n (List.replicate n false) (F0 n S.tk)):=by
      have:k=S.tk:=by omega
      subst this;exact⟨J.out,TF.begin i2 HX.out.2.2⟩
     clear J;go_wp2_with fail;go_meet;exact HF
  case rest =>
   obtain⟨w2,q4⟩:∃w2,w2=wc:=⟨_,rfl⟩
   subst wc;have H2:Hid (RN1 w w2 h S A s ⟨C,B,D⟩ n (List.replicate n false) (F0 n S.tk)):=hcut;clear hcut H1
   obtain⟨M,HM⟩:∃M,Hid (zE (List.replicate n false)+zbs (F0 n S.tk)+1=M):=⟨_,rfl⟩
   go_upto_block 2 with fail
   go_cut [6] (fun s6 wd=>Hid (∃E F,RN1 w wd h S A s ⟨C,B,D⟩ n E F/\uag S E F Y))
   case first =>
    go_wp2_with fail
    go_loopg [6] M (fun kx s6 wr=>∃b:Bool,s6=.bool b/\Hid (∃E F,RN1 w wr h S A s ⟨C,B,D⟩ n E F/\(b=false->uag S E F Y)/\(b=true->zE E+zbs F+1<=kx)))
    case atStart=>exact⟨true,rfl,(⟨_,_,H2.out,(fun e=>by cases e),fun _=>Nat.le_of_eq HM.out⟩:∃E F,RN1 w w2 h S A s ⟨C,B,D⟩ n E F/\(true=false->uag S E F Y)/\(true=true->zE E+zbs F+1<=M))⟩
    case round =>
     clear H2;obtain⟨b,rfl,J⟩:=hrel;obtain⟨E0,F1,y0,c8,d5⟩:=J.out
     cases b
     ·have HF:Hid (∃E F,RN1 w wr h S A s ⟨C,B,D⟩ n E F/\uag S E F Y):=⟨E0,F1,y0,c8 rfl⟩
      clear y0 c8 d5 J;go_wp2_with fail;go_meet;exact HF
     ·obtain⟨R,a0⟩:∃R,Hid (zE E0+zbs F1=R):=⟨_,rfl⟩
      have l5:R+1<=gk:=by rw[<-a0.out];exact d5 rfl
      have g1:Hid (RN1 w wr h S A s ⟨C,B,D⟩ n E0 F1):=y0;clear y0 c8 d5 J
      obtain⟨wo,p0⟩:∃wo,wo=wr:=⟨_,rfl⟩
      subst wr;go_wp2_with fail
      go_loopg [6,7] Y (fun kx s6 s7 wr=>∃(b:Bool) (i:Nat),s6=.bool b/\s7=.int .i64 i/\1<=i/\i<=Y/\Y - i<=kx/\Hid (∃E F,RN1 w wr h S A s ⟨C,B,D⟩ n E F/\(b=false->uag S E F i/\zE E+zbs F<=R)/\(b=true->zE E+zbs F+1<=R)))
      case atStart=>exact⟨false,1,rfl,rfl,Nat.le_refl _,h5,by omega,(⟨E0,F1,g1.out,fun _=>⟨fun j h0 h1=>by omega,by rw[a0.out];exact Nat.le_refl _⟩,(fun e=>by cases e)⟩:∃E F,RN1 w wo h S A s ⟨C,B,D⟩ n E F/\(false=false->uag S E F 1/\zE E+zbs F<=R)/\(false=true->zE E+zbs F+1<=R))⟩
      case round =>
       clear g1;obtain⟨b,i,rfl,rfl,m1,hi,l9,J⟩:=hrel;obtain⟨E,F,y,a5,b2⟩:=J.out;obtain⟨-,-,-,-,-,-,-,c7⟩:=sbox y.1.bs;rw[f2.out,a4.out]at c7
       by_cases d7:i<Y
       ·have a7:(i:Int)<(Y:Int):=by omega
        obtain⟨r,hr⟩:∃r,S.rs[i]?=some r:=⟨S.rs[i]'(by rw[a4.out];exact d7),List.getElem?_eq_getElem _⟩
        obtain⟨p3,p4,xa,L,b3,d0,d1,d2,d3,d9⟩:=HX.out.2.1.rl.at hr;rw[f2.out]at b3
        cases b3
        have d0:=qj y.1.bel d0;have d1:=qj y.1.bel d1;have d2:=qj y.1.bel d2;have d3:=qj y.1.bel d3;have h8:=ze d9;have h6:r.r.length<=20:=HX.out.1.ln r (List.mem_of_getElem? hr);obtain⟨I,g4,m9,d4⟩:=HX.out.1.wf.rl i r (by omega) hr;rw[<-HX.out.1.nn]at d4;have hv:Below wr.heap.size wr (wr.alloc (.cells #[.int .i64 r.l,.slice xa r.r.length L,.int .i64 r.lv,.int .i64 r.a] 47)):=qb _ _
        have HV:Hid (RN1 w (wr.alloc (.cells #[.int .i64 r.l,.slice xa r.r.length L,.int .i64 r.lv,.int .i64 r.a] 47)) h S A s ⟨C,B,D⟩ n E F/\(wr.alloc (.cells #[.int .i64 r.l,.slice xa r.r.length L,.int .i64 r.lv,.int .i64 r.a] 47)).heap[wr.heap.size]?=some (.cells #[.int .i64 r.l,.slice xa r.r.length L,.int .i64 r.lv,.int .i64 r.a] 47 (0,0))):=⟨⟨y.1.step hv,y.2⟩,heap_alloc_new _ _⟩
        have HR:Hid (S.rs[i]?=some r/\Row w 1 xa r.r.length L (natC r.r)/\r.l=(I:Int)):=⟨hr,d9,g4⟩
        have HB:Hid ((b=false->uag S E F i/\zE E+zbs F<=R)/\(b=true->zE E+zbs F+1<=R)):=⟨a5,b2⟩
        clear y a5 b2 J hr d9 hv g4
        obtain⟨N,Z⟩:∃N,Hid (r.r.length=N):=⟨_,rfl⟩
        rw[Z.out]at d1 h6 h8 HV
        go_upto_region 14 with fail
        obtain⟨Q,f6⟩:∃Q,Hid (Q=wr.heap.size):=⟨_,rfl⟩
        rw[<-f6.out]at HV ⊢;generalize wr.alloc (.cells #[.int .i64 r.l,.slice xa N L,.int .i64 r.lv,.int .i64 r.a] 47)=V at HV ⊢;clear f6 d0 d1 d2 d3 c7
        have e1:V.cell? ⟨Q,1,none⟩=some (.slice xa N L):=by rw[qe HV.out.2];rfl
        have b6:Hid (Calls Tryz.prog 56 #[.pointer (some ⟨s,0,none⟩),.slice xa N L] V fun e O=>e=.returned (.tuple #[.int .u64 ((ofW E F r.r).1:Int),.bool (ofW E F r.r).2])/\Below V.heap.size V O):=uai V w.heap.size s ⟨C,B,D⟩ h S n E F _ HV.out.1.1.rt HV.out.1.2.lt r.r xa N L Z.out (by omega) (by have q:=HR.out.2.1.below HV.out.1.1.bel;rw[Z.out]at q;exact q) (fun z hz=>(HX.out.1.sy r (List.mem_of_getElem? HR.out.1) z hz).1)
        have b4:=uap (yr E HV.out.1.2.lt r.r);go_wp2_with fail;refine b6.out.mono ?_;rintro e V2 ⟨rfl,T⟩;clear e1 b6
        obtain⟨v,b9⟩:∃v,Hid ((ofW E F r.r).1=v):=⟨_,rfl⟩
        obtain⟨bb,b0⟩:∃bb,Hid ((ofW E F r.r).2=bb):=⟨_,rfl⟩
        rw[b9.out]at b4 ⊢;rw[b0.out];have d6:=qf T HV.out.2
        have b8:Hid (RN1 w V2 h S A s ⟨C,B,D⟩ n E F/\V2.heap[Q]?=some (.cells #[.int .i64 r.l,.slice xa N L,.int .i64 r.lv,.int .i64 r.a] 47 (0,0))):=⟨⟨HV.out.1.1.step T,HV.out.1.2⟩,d6⟩
        clear HV T d6
        obtain⟨a,P⟩:∃a,Hid (wd F I=a):=⟨_,rfl⟩
        obtain⟨ov,U⟩:∃ov,Hid (a ||| v=ov):=⟨_,rfl⟩
        obtain⟨ee,f0⟩:∃ee,Hid (isF E I=ee):=⟨_,rfl⟩
        have f4:a<18446744073709551616:=by rw[<-P.out];exact uap (uaa b8.out.1.2.lt I)
        have k3:=bits_or_u64_nat a v f4 b4;rw[U.out]at k3
        have i1:ov<18446744073709551616:=by rw[<-U.out];exact ual f4 b4
        have m8:(I:Int)<(n:Int):=by omega
        have HC:Hid (∀W,Below V2.heap.size V2 W->W.cell? ⟨s,8,none⟩=some (.slice (some ⟨C,0,none⟩) n n)/\W.cell? ⟨s,9,none⟩=some (.slice (some ⟨B,0,none⟩) n n)/\W.cell? ⟨Q,0,none⟩=some (.int .i64 (I:Int))/\W.cell? ⟨B,I,none⟩=some (.int .u64 (a:Int))/\W.cell? ⟨C,I,none⟩=some (.bool ee)):=fun W hW=>by
         have z:=b8.out.1.1.step hW;obtain⟨L2,L4,-⟩:=z.rt.cells;have z4:=uab z.rt.fst d4;have z5:=qrm z.rt.emp d4;rw[P.out]at z4;rw[f0.out]at z5;exact⟨L2,L4,by rw[qe (qf hW b8.out.2),HR.out.2.2];rfl,z4,z5⟩
        go_upto_region 15 with fail
        obtain⟨a8,a9,e7,e9,e8⟩:=HC.out V2 (Below.refl _ _)
        have g0:Hid (∀q,Below V2.heap.size V2 (V2.drewN q)):=fun q=>yh (Below.refl _ _) q
        go_cut [99] from 48 to 128 (fun s99 wd=>∃c:Bool,s99=.bool c/\Hid (Below V2.heap.size V2 wd/\(c=false->ov=a/\(bb=true->ee=true))/\(c=true->ov≠a\/(bb=true/\ee=false))))
        case first =>
         as_aux_lemma =>
          clear HX Z HR HB b8 HC b9 b0 P U f0 f2 a4 a0 HM l1 k7 hn m6 h5 m5 i2 k4 o8 o9 m1 hi l9 l5 h6 h8 m9 d7 a7 f4 b4 i1
          by_cases d8:ov=a
          ·subst d8
           cases bb
           ·
            go_quiet (fail);go_wp2_with fail;go_meet;exact⟨false,rfl,g0.out _,by simp,by simp⟩
           ·go_quiet (fail);go_wp2_with fail;go_meet;exact⟨!ee,rfl,g0.out _,by simp,by simp⟩
          ·have o1:Hid (ov≠a):=d8
           have l8:((ov:Int) != (a:Int))=true:=by rw[bne_iff_ne];omega
           clear d8;go_quiet (fail);go_wp2_with fail;go_meet;exact⟨true,rfl,g0.out _,(fun e=>by cases e),fun _=>.inl o1.out⟩
        case rest =>
         obtain⟨c,rfl,f8⟩:=hcut
         obtain⟨w4,q6⟩:∃w4,w4=wc:=⟨_,rfl⟩
         subst wc;clear a8 a9 e7 e9 e8
         go_upto_if 99 with fail
         go_cut [6] from 48 to 128 (fun s6 wd=>s6=.bool (b || c)/\Hid (wd=w4))
         case first =>
          cases c
          ·go_wp2_with fail;go_meet;exact⟨by simp,rfl⟩
          ·go_wp2_with fail;go_meet;exact⟨by simp,rfl⟩
         case rest =>
          obtain⟨rfl,k6⟩:=hcut;have k6:=k6.out;subst k6
          obtain⟨bc,l0⟩:∃bc,Hid ((b || c)=bc):=⟨_,rfl⟩
          rw[l0.out];obtain⟨q8,L3,q7,p9,p8⟩:=HC.out _ (qd f8.out.1 (qk wc));have f3:Hid (NW w wc.drew h S A s ⟨C,B,D⟩ n E F (List.replicate n 0)):=(b8.out.1.1.step f8.out.1).step (qk wc);have o3:wc.drew.frozen? ⟨B,I,none⟩=false:=f3.out.rt.fst.frozenAt I;obtain⟨n1,n2,-⟩:=f3.out.apart;have l7:wc.drew.heap[Q]?=some (.cells #[.int .i64 r.l,.slice xa N L,.int .i64 r.lv,.int .i64 r.a] 47 (0,0)):=qf (qd f8.out.1 (qk wc)) b8.out.2;have n7:B≠Q:=qr (qw f3.out.rt.fst (b:=B) rfl).2.2 ⟨_,l7⟩ (by decide);have n8:C≠Q:=qr (qw f3.out.rt.emp (b:=C) rfl).2.2 ⟨_,l7⟩ (by decide);have r9:=qz (u:=.int .u64 (ov:Int)) (p:=⟨B,I,none⟩) L3 n2.symm;have r8:=qz (u:=.int .u64 (ov:Int)) (p:=⟨B,I,none⟩) q8 n2.symm;have r7:=qz (u:=.int .u64 (ov:Int)) (p:=⟨B,I,none⟩) q7 n7.symm
          go_upto_region 17 with fail
          refine wp_region_held_drew (S:=fun O=>O.cell? ⟨s,9,none⟩=some (.slice (some ⟨B,0,none⟩) n n)/\O.cell? ⟨Q,0,none⟩=some (.int .i64 (I:Int))) (by kernel_rfl) ⟨L3,q7⟩ (fun d=>?_);refine wpAnyH_take (i:=0) (v:=.pointer (some ⟨s,0,none⟩)) rfl (by kernel_rfl) (by kernel_rfl) (by kernel_rfl) (fun _ _ _ h=>h) (Or.inl ⟨by rfl,fun H f=>?_⟩) d ?_
          ·(obtain⟨m,o⟩:=f;go_simp)
          simp only[Act.put];refine wpAnyH_take (i:=1) (v:=.pointer (some ⟨s,0,none⟩)) rfl (by kernel_rfl) (by kernel_rfl) (by kernel_rfl) (fun _ _ _ h=>h) (Or.inl ⟨by rfl,fun H f=>?_⟩) d ?_
          ·(obtain⟨m,o⟩:=f;go_simp)
          simp only[Act.put];refine wpAnyH_take (i:=2) (v:=.pointer (some ⟨s,9,none⟩)) rfl (by kernel_rfl) (by kernel_rfl) (by kernel_rfl) (fun _ _ _ h=>h) (Or.inl ⟨by rfl,fun H f=>?_⟩) d ?_
          ·(obtain⟨m,o⟩:=f;go_simp)
          simp only[Act.put];refine wpAnyH_take (i:=3) (v:=.slice (some ⟨B,0,none⟩) n n) rfl (by kernel_rfl) (by kernel_rfl) (by kernel_rfl) (fun _ _ _ h=>h) (Or.inl ⟨by rfl,fun H f=>?_⟩) d ?_
          ·(obtain⟨m,o⟩:=f;go_simp)
          simp only[Act.put];refine wpAnyH_take (i:=4) (v:=.pointer (some ⟨Q,0,none⟩)) rfl (by kernel_rfl) (by kernel_rfl) (by kernel_rfl) (fun _ _ _ h=>h) (Or.inl ⟨by rfl,fun H f=>?_⟩) d ?_
          ·(obtain⟨m,o⟩:=f;go_simp)
          simp only[Act.put];refine wpAnyH_take (i:=5) (v:=.int .i64 (I:Int)) rfl (by kernel_rfl) (by kernel_rfl) (by kernel_rfl) (fun _ _ _ h=>h) (Or.inl ⟨by rfl,fun H f=>?_⟩) d ?_
          ·(obtain⟨m,o⟩:=f;go_simp)
          simp only[Act.put];refine wpAnyH_take (i:=6) (v:=.pointer (some ⟨B,I,none⟩)) rfl (by kernel_rfl) (by kernel_rfl) (by kernel_rfl) (fun _ _ _ h=>h) (Or.inl ⟨by rfl,fun H f=>?_⟩) d ?_
          ·(obtain⟨m,o⟩:=f;go_simp)
          simp only[Act.put];refine wpAnyH_take (i:=8) (v:=.int .u64 (v:Int)) rfl (by kernel_rfl) (by kernel_rfl) (by kernel_rfl) (fun _ _ _ h=>h) (Or.inl ⟨by rfl,fun H f=>?_⟩) d ?_
          ·(obtain⟨m,o⟩:=f;go_simp)
          simp only[Act.put];refine wpAnyH_ready (rs:=[7]) (by kernel_rfl) (by simp) ?_;refine AllReadyH.cons rfl (fun K X=>?_) AllReadyH.nil
          go_simp
          refine X.out _ _ ⟨L3,q7⟩ (fun d=>?_);clear X K;refine wpAnyH_take (i:=9) (v:=.int .u64 (ov:Int)) rfl (by kernel_rfl) (by kernel_rfl) (by kernel_rfl) (fun _ _ _ h=>h) (Or.inl ⟨by rfl,fun H f=>?_⟩) d ?_
          ·(obtain⟨m,o⟩:=f;go_simp)
          simp only[Act.put];refine wpAnyH_take (i:=10) (v:=.pointer (some ⟨B,I,none⟩)) rfl (by kernel_rfl) (by kernel_rfl) (by kernel_rfl) (fun _ _ _ h=>h) (Or.inl ⟨by rfl,fun H f=>?_⟩) d ?_
          ·(obtain⟨m,o⟩:=f;go_simp)
          simp only[Act.put];refine wpAnyH_ready (rs:=[11]) (by kernel_rfl) (by simp) ?_;refine AllReadyH.cons rfl (fun K X=>?_) AllReadyH.nil
          go_simp
          refine X.out _ _ ⟨r9,r7⟩ (fun d=>?_);clear X K d;refine wpAnyH_done (by kernel_rfl) ?_ _;clear r9 r8 r7 q8 L3 q7 p9 p8 o3
          obtain⟨W5,i7⟩:∃W5,Hid ((wc.setCell ⟨B,I,none⟩ (.int .u64 (ov:Int))).drew=W5):=⟨_,rfl⟩
          rw[i7.out]
          have g2:Hid (NW w W5.drew h S A s ⟨C,B,D⟩ n E (vu F I v) (List.replicate n 0)/\W5.drew.heap[Q]?=some (.cells #[.int .i64 r.l,.slice xa N L,.int .i64 r.lv,.int .i64 r.a] 47 (0,0))):=by
           have z:=f3.out.setF I ov;rw[<-U.out,<-P.out]at z
           have z2:wc.drew.setCell ⟨B,I,none⟩ (.int .u64 ((wd F I ||| v:Nat):Int))=W5:=by rw[P.out,U.out];exact i7.out
           rw[z2]at z;refine⟨z.step (qk W5),?_⟩;show W5.heap[Q]?=_;rw[<-i7.out];show(wc.setCell ⟨B,I,none⟩ (.int .u64 (ov:Int))).heap[Q]?=_;rw[Below.heap_setCell _ _ _ _ n7.symm];exact l7
          obtain⟨t8,-,-⟩:=g2.out.1.rt.cells
          have t7:W5.drew.cell? ⟨Q,0,none⟩=some (.int .i64 (I:Int)):=by rw[qe g2.out.2,HR.out.2.2];rfl
          have te:=qrm g2.out.1.rt.emp d4;have q0:W5.drew.frozen? ⟨C,I,none⟩=false:=g2.out.1.rt.emp.frozenAt I;rw[f0.out]at te;have u8:=qz (u:=.bool (ee || bb)) (p:=⟨C,I,none⟩) t8 n1.symm;have u7:=qz (u:=.bool (ee || bb)) (p:=⟨C,I,none⟩) t7 n8.symm
          have HF:Hid (∃E F,RN1 w (W5.drew.setCell ⟨C,I,none⟩ (.bool (ee || bb))) h S A s ⟨C,B,D⟩ n E F/\(bc=false->uag S E F (i+1)/\zE E+zbs F<=R)/\(bc=true->zE E+zbs F+1<=R)):=by
           have z:=g2.out.1.setE I (ee || bb);rw[<-f0.out,<-b0.out,<-b9.out]at z;rw[<-f0.out,<-b0.out,<-l0.out];have k1:=f8.out.2;rw[<-U.out,<-P.out,<-b9.out,<-b0.out,<-f0.out]at k1;obtain⟨z1,z2,z3⟩:=ub4 b8.out.1.2 (by omega) HR.out.1 HR.out.2.2 d4 HB.out.1 HB.out.2 k1.1 k1.2;exact⟨_,_,⟨z,z1⟩,z2,z3⟩
          clear f8 f3 b8 HC HB HX i1 f4 b4 n1 n2 n7 n8 l7
          cases ee
          ·rw[Bool.false_or]at u8 u7 HF
           go_upto_region 18 with fail
           refine wp_region_held_drew (S:=fun O=>O.cell? ⟨s,8,none⟩=some (.slice (some ⟨C,0,none⟩) n n)/\O.cell? ⟨Q,0,none⟩=some (.int .i64 (I:Int))) (by kernel_rfl) ⟨t8,t7⟩ (fun d=>?_);refine wpAnyH_take (i:=0) (v:=.pointer (some ⟨s,0,none⟩)) rfl (by kernel_rfl) (by kernel_rfl) (by kernel_rfl) (fun _ _ _ h=>h) (Or.inl ⟨by rfl,fun H f=>?_⟩) d ?_
           ·(obtain⟨m,o⟩:=f;go_simp)
           simp only[Act.put];refine wpAnyH_take (i:=1) (v:=.pointer (some ⟨s,0,none⟩)) rfl (by kernel_rfl) (by kernel_rfl) (by kernel_rfl) (fun _ _ _ h=>h) (Or.inl ⟨by rfl,fun H f=>?_⟩) d ?_
           ·(obtain⟨m,o⟩:=f;go_simp)
           simp only[Act.put];refine wpAnyH_take (i:=2) (v:=.pointer (some ⟨s,8,none⟩)) rfl (by kernel_rfl) (by kernel_rfl) (by kernel_rfl) (fun _ _ _ h=>h) (Or.inl ⟨by rfl,fun H f=>?_⟩) d ?_
           ·(obtain⟨m,o⟩:=f;go_simp)
           simp only[Act.put];refine wpAnyH_take (i:=3) (v:=.slice (some ⟨C,0,none⟩) n n) rfl (by kernel_rfl) (by kernel_rfl) (by kernel_rfl) (fun _ _ _ h=>h) (Or.inl ⟨by rfl,fun H f=>?_⟩) d ?_
           ·(obtain⟨m,o⟩:=f;go_simp)
           simp only[Act.put];refine wpAnyH_take (i:=4) (v:=.pointer (some ⟨Q,0,none⟩)) rfl (by kernel_rfl) (by kernel_rfl) (by kernel_rfl) (fun _ _ _ h=>h) (Or.inl ⟨by rfl,fun H f=>?_⟩) d ?_
           ·(obtain⟨m,o⟩:=f;go_simp)
           simp only[Act.put];refine wpAnyH_take (i:=5) (v:=.int .i64 (I:Int)) rfl (by kernel_rfl) (by kernel_rfl) (by kernel_rfl) (fun _ _ _ h=>h) (Or.inl ⟨by rfl,fun H f=>?_⟩) d ?_
           ·(obtain⟨m,o⟩:=f;go_simp)
           simp only[Act.put];refine wpAnyH_take (i:=6) (v:=.pointer (some ⟨s,0,none⟩)) rfl (by kernel_rfl) (by kernel_rfl) (by kernel_rfl) (fun _ _ _ h=>h) (Or.inl ⟨by rfl,fun H f=>?_⟩) d ?_
           ·(obtain⟨m,o⟩:=f;go_simp)
           simp only[Act.put];refine wpAnyH_take (i:=7) (v:=.pointer (some ⟨s,0,none⟩)) rfl (by kernel_rfl) (by kernel_rfl) (by kernel_rfl) (fun _ _ _ h=>h) (Or.inl ⟨by rfl,fun H f=>?_⟩) d ?_
           ·(obtain⟨m,o⟩:=f;go_simp)
           simp only[Act.put];refine wpAnyH_take (i:=8) (v:=.pointer (some ⟨s,8,none⟩)) rfl (by kernel_rfl) (by kernel_rfl) (by kernel_rfl) (fun _ _ _ h=>h) (Or.inl ⟨by rfl,fun H f=>?_⟩) d ?_
           ·(obtain⟨m,o⟩:=f;go_simp)
           simp only[Act.put];refine wpAnyH_take (i:=9) (v:=.slice (some ⟨C,0,none⟩) n n) rfl (by kernel_rfl) (by kernel_rfl) (by kernel_rfl) (fun _ _ _ h=>h) (Or.inl ⟨by rfl,fun H f=>?_⟩) d ?_
           ·(obtain⟨m,o⟩:=f;go_simp)
           simp only[Act.put];refine wpAnyH_take (i:=10) (v:=.pointer (some ⟨Q,0,none⟩)) rfl (by kernel_rfl) (by kernel_rfl) (by kernel_rfl) (fun _ _ _ h=>h) (Or.inl ⟨by rfl,fun H f=>?_⟩) d ?_
           ·(obtain⟨m,o⟩:=f;go_simp)
           simp only[Act.put];refine wpAnyH_take (i:=11) (v:=.int .i64 (I:Int)) rfl (by kernel_rfl) (by kernel_rfl) (by kernel_rfl) (fun _ _ _ h=>h) (Or.inl ⟨by rfl,fun H f=>?_⟩) d ?_
           ·(obtain⟨m,o⟩:=f;go_simp)
           simp only[Act.put];refine wpAnyH_take (i:=12) (v:=.pointer (some ⟨C,I,none⟩)) rfl (by kernel_rfl) (by kernel_rfl) (by kernel_rfl) (fun _ _ _ h=>h) (Or.inl ⟨by rfl,fun H f=>?_⟩) d ?_
           ·(obtain⟨m,o⟩:=f;go_simp)
           simp only[Act.put];refine wpAnyH_ready (rs:=[13]) (by kernel_rfl) (by simp) ?_;refine AllReadyH.cons rfl (fun K X=>?_) AllReadyH.nil
           go_simp
           refine X.out _ _ ⟨t8,t7⟩ (fun d=>?_);clear X K;refine wpAnyH_take (i:=14) (v:=.bool false) rfl (by kernel_rfl) (by kernel_rfl) (by kernel_rfl) (fun _ _ _ h=>h) (Or.inl ⟨by rfl,fun H f=>?_⟩) d ?_
           ·(obtain⟨m,o⟩:=f;go_simp)
           simp only[Act.put];refine wpAnyH_take (i:=15) (v:=.bool bb) rfl (by kernel_rfl) (by kernel_rfl) (by kernel_rfl) (fun _ _ _ h=>h) (Or.inl ⟨by rfl,fun H f=>?_⟩) d ?_
           ·(obtain⟨m,o⟩:=f;go_simp)
           simp only[Act.put];refine wpAnyH_take (i:=16) (v:=.bool bb) rfl (by kernel_rfl) (by kernel_rfl) (by kernel_rfl) (fun _ _ _ h=>h) (Or.inl ⟨by rfl,fun H f=>?_⟩) d ?_
           ·(obtain⟨m,o⟩:=f;go_simp)
           simp only[Act.put];refine wpAnyH_take (i:=17) (v:=.pointer (some ⟨C,I,none⟩)) rfl (by kernel_rfl) (by kernel_rfl) (by kernel_rfl) (fun _ _ _ h=>h) (Or.inl ⟨by rfl,fun H f=>?_⟩) d ?_
           ·(obtain⟨m,o⟩:=f;go_simp)
           simp only[Act.put];refine wpAnyH_ready (rs:=[18]) (by kernel_rfl) (by simp) ?_;refine AllReadyH.cons rfl (fun K X=>?_) AllReadyH.nil
           go_simp
           refine X.out _ _ ⟨u8,u7⟩ (fun d=>?_);clear X K d;refine wpAnyH_done (by kernel_rfl) ?_ _;go_wp2_with fail;go_roundg (Y - (i+1))
           case measure=>omega
           case rel=>exact⟨bc,i+1,rfl,by simp,by omega,by omega,Nat.le_refl _,HF⟩
          ·rw[Bool.true_or]at u8 u7 HF
           go_upto_region 18 with fail
           refine wp_region_held_drew (S:=fun O=>O.cell? ⟨s,8,none⟩=some (.slice (some ⟨C,0,none⟩) n n)/\O.cell? ⟨Q,0,none⟩=some (.int .i64 (I:Int))) (by kernel_rfl) ⟨t8,t7⟩ (fun d=>?_);refine wpAnyH_take (i:=0) (v:=.pointer (some ⟨s,0,none⟩)) rfl (by kernel_rfl) (by kernel_rfl) (by kernel_rfl) (fun _ _ _ h=>h) (Or.inl ⟨by rfl,fun H f=>?_⟩) d ?_
           ·(obtain⟨m,o⟩:=f;go_simp)
           simp only[Act.put];refine wpAnyH_take (i:=1) (v:=.pointer (some ⟨s,0,none⟩)) rfl (by kernel_rfl) (by kernel_rfl) (by kernel_rfl) (fun _ _ _ h=>h) (Or.inl ⟨by rfl,fun H f=>?_⟩) d ?_
           ·(obtain⟨m,o⟩:=f;go_simp)
           simp only[Act.put];refine wpAnyH_take (i:=2) (v:=.pointer (some ⟨s,8,none⟩)) rfl (by kernel_rfl) (by kernel_rfl) (by kernel_rfl) (fun _ _ _ h=>h) (Or.inl ⟨by rfl,fun H f=>?_⟩) d ?_
           ·(obtain⟨m,o⟩:=f;go_simp)
           simp only[Act.put];refine wpAnyH_take (i:=3) (v:=.slice (some ⟨C,0,none⟩) n n) rfl (by kernel_rfl) (by kernel_rfl) (by kernel_rfl) (fun _ _ _ h=>h) (Or.inl ⟨by rfl,fun H f=>?_⟩) d ?_
           ·(obtain⟨m,o⟩:=f;go_simp)
           simp only[Act.put];refine wpAnyH_take (i:=4) (v:=.pointer (some ⟨Q,0,none⟩)) rfl (by kernel_rfl) (by kernel_rfl) (by kernel_rfl) (fun _ _ _ h=>h) (Or.inl ⟨by rfl,fun H f=>?_⟩) d ?_
           ·(obtain⟨m,o⟩:=f;go_simp)
           simp only[Act.put];refine wpAnyH_take (i:=5) (v:=.int .i64 (I:Int)) rfl (by kernel_rfl) (by kernel_rfl) (by kernel_rfl) (fun _ _ _ h=>h) (Or.inl ⟨by rfl,fun H f=>?_⟩) d ?_
           ·(obtain⟨m,o⟩:=f;go_simp)
           simp only[Act.put];refine wpAnyH_take (i:=6) (v:=.pointer (some ⟨s,0,none⟩)) rfl (by kernel_rfl) (by kernel_rfl) (by kernel_rfl) (fun _ _ _ h=>h) (Or.inl ⟨by rfl,fun H f=>?_⟩) d ?_
           ·(obtain⟨m,o⟩:=f;go_simp)
           simp only[Act.put];refine wpAnyH_take (i:=7) (v:=.pointer (some ⟨s,0,none⟩)) rfl (by kernel_rfl) (by kernel_rfl) (by kernel_rfl) (fun _ _ _ h=>h) (Or.inl ⟨by rfl,fun H f=>?_⟩) d ?_
           ·(obtain⟨m,o⟩:=f;go_simp)
           simp only[Act.put];refine wpAnyH_take (i:=8) (v:=.pointer (some ⟨s,8,none⟩)) rfl (by kernel_rfl) (by kernel_rfl) (by kernel_rfl) (fun _ _ _ h=>h) (Or.inl ⟨by rfl,fun H f=>?_⟩) d ?_
           ·(obtain⟨m,o⟩:=f;go_simp)
           simp only[Act.put];refine wpAnyH_take (i:=9) (v:=.slice (some ⟨C,0,none⟩) n n) rfl (by kernel_rfl) (by kernel_rfl) (by kernel_rfl) (fun _ _ _ h=>h) (Or.inl ⟨by rfl,fun H f=>?_⟩) d ?_
           ·(obtain⟨m,o⟩:=f;go_simp)
           simp only[Act.put];refine wpAnyH_take (i:=10) (v:=.pointer (some ⟨Q,0,none⟩)) rfl (by kernel_rfl) (by kernel_rfl) (by kernel_rfl) (fun _ _ _ h=>h) (Or.inl ⟨by rfl,fun H f=>?_⟩) d ?_
           ·(obtain⟨m,o⟩:=f;go_simp)
           simp only[Act.put];refine wpAnyH_take (i:=11) (v:=.int .i64 (I:Int)) rfl (by kernel_rfl) (by kernel_rfl) (by kernel_rfl) (fun _ _ _ h=>h) (Or.inl ⟨by rfl,fun H f=>?_⟩) d ?_
           ·(obtain⟨m,o⟩:=f;go_simp)
           simp only[Act.put];refine wpAnyH_take (i:=12) (v:=.pointer (some ⟨C,I,none⟩)) rfl (by kernel_rfl) (by kernel_rfl) (by kernel_rfl) (fun _ _ _ h=>h) (Or.inl ⟨by rfl,fun H f=>?_⟩) d ?_
           ·(obtain⟨m,o⟩:=f;go_simp)
           simp only[Act.put];refine wpAnyH_ready (rs:=[13]) (by kernel_rfl) (by simp) ?_;refine AllReadyH.cons rfl (fun K X=>?_) AllReadyH.nil
           go_simp
           refine X.out _ _ ⟨t8,t7⟩ (fun d=>?_);clear X K;refine wpAnyH_take (i:=14) (v:=.bool true) rfl (by kernel_rfl) (by kernel_rfl) (by kernel_rfl) (fun _ _ _ h=>h) (Or.inl ⟨by rfl,fun H f=>?_⟩) d ?_
           ·(obtain⟨m,o⟩:=f;go_simp)
           simp only[Act.put];refine wpAnyH_take (i:=15) (v:=undef) rfl (by kernel_rfl) (by kernel_rfl) (by kernel_rfl) (fun _ _ _ h=>h) (Or.inr ⟨by rfl,rfl⟩) d ?_;simp only[Act.put];refine wpAnyH_take (i:=16) (v:=.bool true) rfl (by kernel_rfl) (by kernel_rfl) (by kernel_rfl) (fun _ _ _ h=>h) (Or.inl ⟨by rfl,fun H f=>?_⟩) d ?_
           ·(obtain⟨m,o⟩:=f;go_simp)
           simp only[Act.put];refine wpAnyH_take (i:=17) (v:=.pointer (some ⟨C,I,none⟩)) rfl (by kernel_rfl) (by kernel_rfl) (by kernel_rfl) (fun _ _ _ h=>h) (Or.inl ⟨by rfl,fun H f=>?_⟩) d ?_
           ·(obtain⟨m,o⟩:=f;go_simp)
           simp only[Act.put];refine wpAnyH_ready (rs:=[18]) (by kernel_rfl) (by simp) ?_;refine AllReadyH.cons rfl (fun K X=>?_) AllReadyH.nil
           go_simp
           refine X.out _ _ ⟨u8,u7⟩ (fun d=>?_);clear X K d;refine wpAnyH_done (by kernel_rfl) ?_ _;go_wp2_with fail;go_roundg (Y - (i+1))
           case measure=>omega
           case rel=>exact⟨bc,i+1,rfl,by simp,by omega,by omega,Nat.le_refl _,HF⟩
       ·have a7:¬(i:Int)<(Y:Int):=by omega
        have HF:Hid (∃E F,RN1 w wr h S A s ⟨C,B,D⟩ n E F/\(b=false->uag S E F Y)/\(b=true->zE E+zbs F+1<=R)):=by
         have:i=Y:=by omega
         subst this;exact⟨E,F,y,fun e=>(a5 e).1,b2⟩
        clear y a5 b2 J;go_wp2_with fail;go_roundg R
        case measure=>omega
        case rel=>exact⟨b,rfl,HF⟩
   case rest =>
    obtain⟨w3,q5⟩:∃w3,w3=wc:=⟨_,rfl⟩
    subst wc;clear H2 HM;obtain⟨E,F,y3,l6⟩:=hcut.out;have HT:Hid ((∀x,isF E x=true↔Nul S x)/\∀x t,tb F x t=true↔FstP S x t):=y3.2.done (fun j h0 h1=>l6 j h0 (by rw[<-a4.out];exact h1))
    have a2:Hid (TF S n E F):=y3.2;have H3:Hid (NW w w3 h S A s ⟨C,B,D⟩ n E F (List.replicate n 0)):=y3.1;clear hcut y3 l6;obtain⟨c0,-,c2,-⟩:=sbox (H3.out.step (qk w3)).bs;obtain⟨-,-,aa⟩:=(H3.out.step (qk w3)).rt.cells;obtain⟨-,-,n3,-,-,n6⟩:=H3.out.apart;have fa:w3.drew.frozen? ⟨D,S.st,none⟩=false:=(H3.out.step (qk w3)).rt.fol.frozenAt S.st
    obtain⟨ua,va⟩:∃u,w3.drew.cell? ⟨D,S.st,none⟩=some u:=⟨_,uab (H3.out.step (qk w3)).rt.fol k4⟩
    have m7:(S.st:Int)<(n:Int):=by omega
    have HO:Hid (∀V,Calls Tryz.prog 55 #[.int .i64 (S.tk:Int)] V fun e O=>e=.returned (.int .u64 ((2 ^ S.tk:Nat):Int))/\O=V):=fun V=>uaq V S.tk HX.out.2.2
    have H4:Hid (∃G,NW w (w3.drew.setCell ⟨D,S.st,none⟩ (.int .u64 ((2 ^ S.tk:Nat):Int))) h S A s ⟨C,B,D⟩ n E F G/\TG S n G):=⟨_,(H3.out.step (qk w3)).setG S.st (2 ^ S.tk),TG.begin k4 HX.out.2.2⟩
    generalize 2 ^ S.tk=pw at HO H4;clear H3
    go_upto_region 19 with fail
    have i5:Hid (w3.drew.cell? ⟨s,10,none⟩=some (.slice (some ⟨D,0,none⟩) n n)/\w3.drew.cell? ⟨A,0,none⟩=some (.int .i64 (S.tk:Int))/\w3.drew.cell? ⟨A,2,none⟩=some (.int .i64 (S.st:Int))):=⟨aa,c0,c2⟩
    refine wp_region_held_drew (S:=fun O=>O.cell? ⟨s,10,none⟩=some (.slice (some ⟨D,0,none⟩) n n)/\O.cell? ⟨A,0,none⟩=some (.int .i64 (S.tk:Int))/\O.cell? ⟨A,2,none⟩=some (.int .i64 (S.st:Int))) (by kernel_rfl) i5.out (fun d=>?_);refine wpAnyH_take (i:=0) (v:=.pointer (some ⟨s,0,none⟩)) rfl (by kernel_rfl) (by kernel_rfl) (by kernel_rfl) (fun _ _ _ h=>h) (Or.inl ⟨by rfl,fun H f=>?_⟩) d ?_
    ·(obtain⟨m,o,c9⟩:=f;go_simp)
    simp only[Act.put];refine wpAnyH_take (i:=1) (v:=.pointer (some ⟨s,0,none⟩)) rfl (by kernel_rfl) (by kernel_rfl) (by kernel_rfl) (fun _ _ _ h=>h) (Or.inl ⟨by rfl,fun H f=>?_⟩) d ?_
    ·(obtain⟨m,o,c9⟩:=f;go_simp)
    simp only[Act.put];refine wpAnyH_take (i:=2) (v:=.pointer (some ⟨s,10,none⟩)) rfl (by kernel_rfl) (by kernel_rfl) (by kernel_rfl) (fun _ _ _ h=>h) (Or.inl ⟨by rfl,fun H f=>?_⟩) d ?_
    ·(obtain⟨m,o,c9⟩:=f;go_simp)
    simp only[Act.put];refine wpAnyH_take (i:=3) (v:=.slice (some ⟨D,0,none⟩) n n) rfl (by kernel_rfl) (by kernel_rfl) (by kernel_rfl) (fun _ _ _ h=>h) (Or.inl ⟨by rfl,fun H f=>?_⟩) d ?_
    ·(obtain⟨m,o,c9⟩:=f;go_simp)
    simp only[Act.put];refine wpAnyH_take (i:=4) (v:=.pointer (some ⟨A,2,none⟩)) rfl (by kernel_rfl) (by kernel_rfl) (by kernel_rfl) (fun _ _ _ h=>h) (Or.inl ⟨by rfl,fun H f=>?_⟩) d ?_
    ·(obtain⟨m,o,c9⟩:=f;go_simp)
    simp only[Act.put];refine wpAnyH_take (i:=5) (v:=.int .i64 (S.st:Int)) rfl (by kernel_rfl) (by kernel_rfl) (by kernel_rfl) (fun _ _ _ h=>h) (Or.inl ⟨by rfl,fun H f=>?_⟩) d ?_
    ·(obtain⟨m,o,c9⟩:=f;go_simp)
    simp only[Act.put];refine wpAnyH_take (i:=6) (v:=.pointer (some ⟨A,0,none⟩)) rfl (by kernel_rfl) (by kernel_rfl) (by kernel_rfl) (fun _ _ _ h=>h) (Or.inl ⟨by rfl,fun H f=>?_⟩) d ?_
    ·(obtain⟨m,o,c9⟩:=f;go_simp)
    simp only[Act.put];refine wpAnyH_take (i:=7) (v:=.int .i64 (S.tk:Int)) rfl (by kernel_rfl) (by kernel_rfl) (by kernel_rfl) (fun _ _ _ h=>h) (Or.inl ⟨by rfl,fun H f=>?_⟩) d ?_
    ·(obtain⟨m,o,c9⟩:=f;go_simp)
    simp only[Act.put];refine wpAnyH_ready (rs:=[8]) (by kernel_rfl) (by simp) ?_;refine AllReadyH.cons rfl (fun K X=>?_) AllReadyH.nil;refine qcz rfl 55 #[.int .i64 (S.tk:Int)] (.int .u64 (pw:Int)) (by simp[Act.eval,go_sem]) (HO.out _) (X.out _ _ i5.out (fun d=>?_));clear X K;simp only[Act.put];refine wpAnyH_take (i:=9) (v:=.pointer (some ⟨D,S.st,none⟩)) rfl (by kernel_rfl) (by kernel_rfl) (by kernel_rfl) (fun _ _ _ h=>h) (Or.inl ⟨by rfl,fun H f=>?_⟩) d ?_
    ·(obtain⟨m,o,c9⟩:=f;go_simp)
    simp only[Act.put];refine wpAnyH_ready (rs:=[10]) (by kernel_rfl) (by simp) ?_;refine AllReadyH.cons rfl (fun K X=>?_) AllReadyH.nil
    go_simp
    refine X.out _ _ ⟨qz aa n3.symm,qz c0 n6.symm,qz c2 n6.symm⟩ (fun d=>?_);clear X K d;refine wpAnyH_done (by kernel_rfl) ?_ _
    obtain⟨w4,i6⟩:∃w4,Hid ((w3.setCell ⟨D,S.st,none⟩ (.int .u64 (pw:Int))).drew=w4):=⟨_,rfl⟩
    rw[i6.out]
    have H4:Hid (∃G,NW w w4 h S A s ⟨C,B,D⟩ n E F G/\TG S n G):=by
     obtain⟨G,z⟩:=H4.out;rw[<-i6.out];exact⟨G,z⟩
    clear c0 c2 aa n3 n6 fa ua va HO m7 i5 i6;obtain⟨G0,H5⟩:=H4.out;have H5:Hid (NW w w4 h S A s ⟨C,B,D⟩ n E F G0/\TG S n G0):=H5;clear H4
    obtain⟨M,HM⟩:∃M,Hid (zbs G0+1=M):=⟨_,rfl⟩
    as_aux_lemma =>
     go_wp2_with fail
     go_loopg [11] M (fun kx s11 wr=>∃b:Bool,s11=.bool b/\Hid (∃G,RN2 w wr h S A s ⟨C,B,D⟩ n E F G/\(b=false->uar S E F G Y)/\(b=true->zbs G+1<=kx)))
     case atStart=>exact⟨true,rfl,(⟨_,H5.out,(fun e=>by cases e),fun _=>Nat.le_of_eq HM.out⟩:∃G,RN2 w w4 h S A s ⟨C,B,D⟩ n E F G/\(true=false->uar S E F G Y)/\(true=true->zbs G+1<=M))⟩
     case round =>
      clear H5 HM;obtain⟨b,rfl,J⟩:=hrel;obtain⟨G1,y0,c8,d5⟩:=J.out
      cases b
      ·have HF:Hid (∃A s p E F G,Ending.returned (.pointer (some ⟨s,0,none⟩))=.returned (.pointer (some ⟨s,0,none⟩))/\NW w wr h S A s p n E F G/\Told8 S n E F G):=⟨A,s,_,E,F,G1,rfl,y0.1,a2.out.el,a2.out.fl,y0.2.gl,a2.out.lt,y0.2.lt,HT.out,y0.2.done HT.out (fun j k r h0 hr hk=>c8 rfl j k r h0 (by rw[<-a4.out];exact(List.getElem?_eq_some_iff.1 hr).1) hr hk)⟩
       have f1:Hid (∃o2 n5 p E F G,Ending.returned (.pointer (some ⟨s,0,none⟩))=.returned (.pointer (some ⟨n5,0,none⟩))/\NW w wr h S o2 n5 p n E F G/\Told8 S n E F G):=⟨A,s,_,E,F,G1,rfl,y0.1,a2.out.el,a2.out.fl,y0.2.gl,a2.out.lt,y0.2.lt,HT.out,y0.2.done HT.out (fun j k r h0 hr hk=>c8 rfl j k r h0 (by rw[<-a4.out];exact(List.getElem?_eq_some_iff.1 hr).1) hr hk)⟩
       clear y0 c8 d5 J HF;go_wp2_with fail;go_ret;exact f1.out
      ·obtain⟨R,a0⟩:∃R,Hid (zbs G1=R):=⟨_,rfl⟩
       have l5:R+1<=gk:=by rw[<-a0.out];exact d5 rfl
       have g1:Hid (RN2 w wr h S A s ⟨C,B,D⟩ n E F G1):=y0;clear y0 c8 d5 J
       obtain⟨wo,p0⟩:∃wo,wo=wr:=⟨_,rfl⟩
       subst wr;go_wp2_with fail
       go_loopg [11,12] Y (fun kx s11 s12 wr=>∃(b:Bool) (i:Nat),s11=.bool b/\s12=.int .i64 i/\1<=i/\i<=Y/\Y - i<=kx/\Hid (∃G,RN2 w wr h S A s ⟨C,B,D⟩ n E F G/\(b=false->uar S E F G i/\zbs G<=R)/\(b=true->zbs G+1<=R)))
       case atStart=>exact⟨false,1,rfl,rfl,Nat.le_refl _,h5,by omega,(⟨G1,g1.out,fun _=>⟨fun j k r h0 h1=>by omega,by rw[a0.out];exact Nat.le_refl _⟩,(fun e=>by cases e)⟩:∃G,RN2 w wo h S A s ⟨C,B,D⟩ n E F G/\(false=false->uar S E F G 1/\zbs G<=R)/\(false=true->zbs G+1<=R))⟩
       case round =>
        clear g1;obtain⟨b,i,rfl,rfl,m1,hi,l9,J⟩:=hrel;obtain⟨G2,y,a5,b2⟩:=J.out;obtain⟨-,-,-,-,-,-,-,c7⟩:=sbox y.1.bs;rw[f2.out,a4.out]at c7
        by_cases d7:i<Y
        ·have a7:(i:Int)<(Y:Int):=by omega
         obtain⟨r,hr⟩:∃r,S.rs[i]?=some r:=⟨S.rs[i]'(by rw[a4.out];exact d7),List.getElem?_eq_getElem _⟩
         obtain⟨p3,p4,xa,L,b3,d0,d1,d2,d3,d9⟩:=HX.out.2.1.rl.at hr;rw[f2.out]at b3
         cases b3
         have d0:=qj y.1.bel d0;have d1:=qj y.1.bel d1;have d2:=qj y.1.bel d2;have d3:=qj y.1.bel d3;have h8:=ze d9;have h6:r.r.length<=20:=HX.out.1.ln r (List.mem_of_getElem? hr);obtain⟨I,g4,m9,d4⟩:=HX.out.1.wf.rl i r (by omega) hr;rw[<-HX.out.1.nn]at d4;have hv:Below wr.heap.size wr (wr.alloc (.cells #[.int .i64 r.l,.slice xa r.r.length L,.int .i64 r.lv,.int .i64 r.a] 47)):=qb _ _
         have HR:Hid (S.rs[i]?=some r/\Row w 1 xa r.r.length L (natC r.r)/\r.l=(I:Int)):=⟨hr,d9,g4⟩
         obtain⟨N,Z⟩:∃N,Hid (r.r.length=N):=⟨_,rfl⟩
         have k5:(wr.alloc (.cells #[.int .i64 r.l,.slice xa r.r.length L,.int .i64 r.lv,.int .i64 r.a] 47)).heap[wr.heap.size]?=some (.cells #[.int .i64 r.l,.slice xa r.r.length L,.int .i64 r.lv,.int .i64 r.a] 47 (0,0)):=heap_alloc_new _ _;rw[Z.out]at d1 h6 h8 hv k5
         have HV:Hid ((∃G,RN2 w (wr.alloc (.cells #[.int .i64 r.l,.slice xa N L,.int .i64 r.lv,.int .i64 r.a] 47)) h S A s ⟨C,B,D⟩ n E F G/\K2 S E F G i 0 R b)/\(wr.alloc (.cells #[.int .i64 r.l,.slice xa N L,.int .i64 r.lv,.int .i64 r.a] 47)).heap[wr.heap.size]?=some (.cells #[.int .i64 r.l,.slice xa N L,.int .i64 r.lv,.int .i64 r.a] 47 (0,0))):=⟨⟨G2,⟨y.1.step hv,y.2⟩,fun e=>⟨(a5 e).1,fun k' o5=>absurd o5 (Nat.not_lt_zero _),(a5 e).2⟩,b2⟩,k5⟩
         clear y a5 b2 J hr d9 hv k5 g4 G2
         go_upto_region 27 with fail
         obtain⟨Q,f6⟩:∃Q,Hid (Q=wr.heap.size):=⟨_,rfl⟩
         rw[<-f6.out]at HV ⊢;generalize wr.alloc (.cells #[.int .i64 r.l,.slice xa N L,.int .i64 r.lv,.int .i64 r.a] 47)=V at HV ⊢;clear f6 d0 d1 d2 d3 c7;go_wp2_with fail
         go_loopg [11,14] N (fun kx s11 s14 wr=>∃(b:Bool) (k:Nat),s11=.bool b/\s14=.int .i64 k/\k<=N/\N - k<=kx/\Hid ((∃G,RN2 w wr h S A s ⟨C,B,D⟩ n E F G/\K2 S E F G i k R b)/\wr.heap[Q]?=some (.cells #[.int .i64 r.l,.slice xa N L,.int .i64 r.lv,.int .i64 r.a] 47 (0,0))))
         case atStart=>exact⟨b,0,rfl,rfl,Nat.zero_le _,by omega,HV⟩
         case round =>
          clear HV;obtain⟨b,k,rfl,rfl,hk,q2,J⟩:=hrel;obtain⟨⟨G,y,h4⟩,d6⟩:=J.out
          have e1:wr.cell? ⟨Q,1,none⟩=some (.slice xa N L):=by rw[qe d6];rfl
          by_cases m3:k<N
          ·have k2:(k:Int)<(N:Int):=by omega
           obtain⟨z,hz⟩:∃z,r.r[k]?=some z:=⟨r.r[k]'(by rw[Z.out];exact m3),List.getElem?_eq_getElem _⟩
           have a3:=HR.out.2.1;rw[Z.out]at a3;obtain⟨xb,xo,rfl,cz⟩:=vj (a3.below y.1.bel) hz;have i0:=(HX.out.1.sy r (List.mem_of_getElem? HR.out.1) z (List.mem_of_getElem? hz)).1;have b6:Hid (Calls Tryz.prog 56 #[.pointer (some ⟨s,0,none⟩),.slice (some ⟨xb,xo+(k+1),none⟩) (N - (k+1)) (L - (k+1))] wr fun e O=>e=.returned (.tuple #[.int .u64 ((ofW E F (r.r.drop (k+1))).1:Int),.bool (ofW E F (r.r.drop (k+1))).2])/\Below wr.heap.size wr O):=uai wr w.heap.size s ⟨C,B,D⟩ h S n E F _ y.1.rt a2.out.lt (r.r.drop (k+1)) _ _ _ (by rw[List.length_drop,Z.out]) (by omega) (ub3 (a3.below y.1.bel) (by omega)) (fun z hz=>(HX.out.1.sy r (List.mem_of_getElem? HR.out.1) z (List.mem_of_mem_drop hz)).1)
           have a6:L=k+1->Hid (Calls Tryz.prog 56 #[.pointer (some ⟨s,0,none⟩),.slice (some ⟨xb,xo,none⟩) (N - (k+1)) 0] wr fun e O=>e=.returned (.tuple #[.int .u64 ((ofW E F (r.r.drop (k+1))).1:Int),.bool (ofW E F (r.r.drop (k+1))).2])/\Below wr.heap.size wr O):=fun h9=>uai wr w.heap.size s ⟨C,B,D⟩ h S n E F _ y.1.rt a2.out.lt (r.r.drop (k+1)) _ _ _ (by rw[List.length_drop,Z.out]) (by omega) (ucf (by rw[Z.out];omega) (by omega)) (fun z hz=>(HX.out.1.sy r (List.mem_of_getElem? HR.out.1) z (List.mem_of_mem_drop hz)).1)
           have HZ:Hid (r.r[k]?=some z):=hz
           have HJ:Hid (RN2 w wr h S A s ⟨C,B,D⟩ n E F G/\K2 S E F G i k R b/\wr.heap[Q]?=some (.cells #[.int .i64 r.l,.slice (some ⟨xb,xo,none⟩) N L,.int .i64 r.lv,.int .i64 r.a] 47 (0,0))):=⟨y,h4,d6⟩
           have b4:=uap (yr E a2.out.lt (r.r.drop (k+1)));clear y h4 d6 J a3 hz cz
           obtain⟨v,b9⟩:∃v,Hid ((ofW E F (r.r.drop (k+1))).1=v):=⟨_,rfl⟩
           obtain⟨bb,b0⟩:∃bb,Hid ((ofW E F (r.r.drop (k+1))).2=bb):=⟨_,rfl⟩
           rw[b9.out]at b4 b6 a6;rw[b0.out]at b6 a6
           go_upto_region 30 with fail
           go_cut [15,16] from 152 to 217 (fun s15 s16 wd=>s15=.int .u64 (v:Int)/\s16=.bool bb/\Hid (Below wr.heap.size wr wd))
           case first =>
            as_aux_lemma =>
             by_cases h9:L=k+1
             ·have o0:=a6 h9
              have p1:L - (k+1)=0:=by omega
              have p2:((L - (k+1):Nat):Int)=0:=by omega
              clear b6 a6 h9;go_wp2_with fail;refine o0.out.mono ?_;rintro e V2 ⟨rfl,T⟩;have T:Hid (Below wr.heap.size wr V2):=T;go_wp2_with fail;go_meet;exact⟨rfl,rfl,T⟩
             ·have p1:¬L - (k+1)=0:=by omega
              have p2:0<L - (k+1):=by omega
              clear a6 h9;go_wp2_with fail;refine b6.out.mono ?_;rintro e V2 ⟨rfl,T⟩;have T:Hid (Below wr.heap.size wr V2):=T;go_wp2_with fail;go_meet;exact⟨rfl,rfl,T⟩
           case rest =>
           obtain⟨rfl,rfl,T⟩:=hcut
           obtain⟨V2,q1⟩:∃V2,V2=wc:=⟨_,rfl⟩
           subst wc;clear e1 b6 a6
           have a1:Hid (RN2 w V2 h S A s ⟨C,B,D⟩ n E F G/\K2 S E F G i k R b/\V2.heap[Q]?=some (.cells #[.int .i64 r.l,.slice (some ⟨xb,xo,none⟩) N L,.int .i64 r.lv,.int .i64 r.a] 47 (0,0))):=⟨⟨HJ.out.1.1.step T.out,HJ.out.1.2⟩,HJ.out.2.1,qf T.out HJ.out.2.2⟩
           clear HJ T
           obtain⟨a,P⟩:∃a,Hid (wd G z=a):=⟨_,rfl⟩
           obtain⟨g,g5⟩:∃g,Hid (wd G I=g):=⟨_,rfl⟩
           obtain⟨bw,b5⟩:∃bw,Hid (uan E F G I (r.r.drop (k+1))=bw):=⟨_,rfl⟩
           obtain⟨ov,U⟩:∃ov,Hid (a ||| bw=ov):=⟨_,rfl⟩
           have f4:a<18446744073709551616:=by rw[<-P.out];exact uap (uaa a1.out.1.2.lt z)
           have m0:g<18446744073709551616:=by rw[<-g5.out];exact uap (uaa a1.out.1.2.lt I)
           have l4:bw<18446744073709551616:=by rw[<-b5.out];exact uap (uay a2.out.lt a1.out.1.2.lt _ _)
           have k3:=bits_or_u64_nat a bw f4 l4;have m4:=bits_or_u64_nat v g b4 m0;rw[U.out]at k3
           have f7:Hid ((if bb then v ||| g else v)=bw):=by
            rw[<-b5.out,<-b0.out,<-b9.out,<-g5.out];rfl
           have m8:(I:Int)<(n:Int):=by omega
           have p6:(z:Int)<(n:Int):=by omega
           have HC:Hid (∀W,Below V2.heap.size V2 W->W.cell? ⟨s,10,none⟩=some (.slice (some ⟨D,0,none⟩) n n)/\W.cell? ⟨Q,0,none⟩=some (.int .i64 (I:Int))/\W.cell? ⟨Q,1,none⟩=some (.slice (some ⟨xb,xo,none⟩) N L)/\W.cell? ⟨xb,xo+k,none⟩=some (.int .i64 (z:Int))/\W.cell? ⟨A,0,none⟩=some (.int .i64 (S.tk:Int))/\W.cell? ⟨D,I,none⟩=some (.int .u64 (g:Int))/\W.cell? ⟨D,z,none⟩=some (.int .u64 (a:Int))/\W.frozen? ⟨D,z,none⟩=false):=fun W hW=>by
            have y:=a1.out.1.1.step hW;obtain⟨-,-,L1⟩:=y.rt.cells;have z4:=uab y.rt.fol d4;have z5:=uab y.rt.fol i0;rw[g5.out]at z4;rw[P.out]at z5;have hb:=qf hW a1.out.2.2;have a3:=HR.out.2.1;rw[Z.out]at a3;obtain⟨r2,r3,he,cz⟩:=vj (a3.below y.bel) HZ.out
            cases he
            exact⟨L1,by rw[qe hb,HR.out.2.2];rfl,by rw[qe hb];rfl,cz,(sbox y.bs).1,z4,z5,y.rt.fol.frozenAt z⟩
           have mx:=qay
           go_upto_if 169 with fail
           go_cut [15] from 152 to 217 (fun s15 wd=>s15=.int .u64 (bw:Int)/\Hid (Below V2.heap.size V2 wd))
           case first =>
            as_aux_lemma =>
             cases bb
             ·have f5:=f7.out;rw[if_neg (by decide)]at f5;subst f5;go_wp2_with fail;go_meet;exact⟨rfl,Below.refl _ _⟩
             ·have f5:=f7.out;rw[if_pos rfl]at f5;rw[f5]at m4;clear f5;obtain⟨aa,e0,-,-,-,e5,-,-⟩:=HC.out V2 (Below.refl _ _)
              have g0:Hid (∀q,Below V2.heap.size V2 (V2.drewN q)):=fun q=>yh (Below.refl _ _) q
              go_upto_region 32 with fail
              go_quiet (fail);go_wp2_with fail;go_meet;exact⟨rfl,g0.out _⟩
           case rest =>
            as_aux_lemma =>
             obtain⟨rfl,l3⟩:=hcut
             obtain⟨w6,r0⟩:∃w6,w6=wc:=⟨_,rfl⟩
             subst wc;obtain⟨aa,e0,e1,cz,c0,-,e6,-⟩:=HC.out w6 l3.out
             have HQ:Hid (∀q,(RN2 w (w6.drewN q) h S A s ⟨C,B,D⟩ n E F G/\K2 S E F G i k R b)/\(w6.drewN q).heap[Q]?=some (.cells #[.int .i64 r.l,.slice (some ⟨xb,xo,none⟩) N L,.int .i64 r.lv,.int .i64 r.a] 47 (0,0))):=fun q=>by
              have hb:=qd l3.out (yh (Below.refl _ w6) q);exact⟨⟨⟨a1.out.1.1.step hb,a1.out.1.2⟩,a1.out.2.1⟩,qf hb a1.out.2.2⟩
             clear m4 f7 HC m0 g5 b9 b0 b4
             by_cases n0:S.tk<z
             ·have n4:(S.tk:Int)<(z:Int):=by omega
              by_cases d8:ov=a
              ·subst d8
               have HF:Hid (∀q,(∃G,RN2 w (w6.drewN q) h S A s ⟨C,B,D⟩ n E F G/\K2 S E F G i (k+1) R b)/\(w6.drewN q).heap[Q]?=some (.cells #[.int .i64 r.l,.slice (some ⟨xb,xo,none⟩) N L,.int .i64 r.lv,.int .i64 r.a] 47 (0,0))):=fun q=>⟨⟨G,(HQ.out q).1.1,(HQ.out q).1.2.same (ubb HR.out.1 HR.out.2.2 HZ.out (fun _=>by rw[b5.out,P.out];exact U.out))⟩,(HQ.out q).2⟩
               clear HQ a1 U P b5
               go_upto_region 34 with fail
               go_quiet (fail);go_wp2_with fail;go_roundg (N - (k+1))
               case measure=>omega
               case rel=>exact⟨b,k+1,rfl,by simp,by omega,Nat.le_refl _,HF.out _⟩
              ·have l8:((ov:Int) != (a:Int))=true:=by rw[bne_iff_ne];omega
               have HF:Hid (∀q,(∃G,RN2 w ((w6.drewN q).setCell ⟨D,z,none⟩ (.int .u64 (ov:Int))) h S A s ⟨C,B,D⟩ n E F G/\K2 S E F G i (k+1) R true)/\((w6.drewN q).setCell ⟨D,z,none⟩ (.int .u64 (ov:Int))).heap[Q]?=some (.cells #[.int .i64 r.l,.slice (some ⟨xb,xo,none⟩) N L,.int .i64 r.lv,.int .i64 r.a] 47 (0,0))):=fun q=>by
                have y:=(HQ.out q).1.1
                have d7:wd G z ||| uan E F G I (r.r.drop (k+1))≠wd G z:=by rw[b5.out,P.out,U.out];exact d8
                have y2:=y.1.setG z ov;rw[<-U.out,<-P.out,<-b5.out]at y2 ⊢;refine⟨⟨_,⟨y2,y.2.add a2.out.lt HT.out (by omega) HR.out.1 HR.out.2.2 HZ.out n0 i0⟩,(HQ.out q).1.2.more (y.2.less i0 (uay a2.out.lt y.2.lt _ _) d7)⟩,?_⟩;rw[Below.heap_setCell _ _ _ _ (qr ⟨_,(HQ.out q).2⟩ (qw y.1.rt.fol (b:=D) rfl).2.2 (by decide))];exact(HQ.out q).2
               have l2:Hid (∀q,(w6.drewN q).cell? ⟨s,10,none⟩=some (.slice (some ⟨D,0,none⟩) n n)/\(w6.drewN q).cell? ⟨D,z,none⟩=some (.int .u64 (a:Int))/\(w6.drewN q).frozen? ⟨D,z,none⟩=false):=fun q=>by
                have y:=(HQ.out q).1.1.1;obtain⟨-,-,L1⟩:=y.rt.cells;have z5:=uab y.rt.fol i0;rw[P.out]at z5;exact⟨L1,z5,y.rt.fol.frozenAt z⟩
               clear HQ a1 U P b5 d8
               go_upto_region 34 with fail
               go_quiet (fail);obtain⟨y1,y2,y3⟩:=l2.out nq;have f1:=HF.out nq;clear HF l2 aa e0 e1 cz c0 e6 l8;generalize w6.drewN nq=w7 at f1 y1 y2 y3 ⊢;have f1:Hid _:=f1;go_wp2_with fail;go_roundg (N - (k+1))
               case measure=>omega
               case rel=>exact⟨true,k+1,rfl,by simp,by omega,Nat.le_refl _,f1⟩
             ·have n4:¬(S.tk:Int)<(z:Int):=by omega
              have HF:Hid (∀q,(∃G,RN2 w (w6.drewN q) h S A s ⟨C,B,D⟩ n E F G/\K2 S E F G i (k+1) R b)/\(w6.drewN q).heap[Q]?=some (.cells #[.int .i64 r.l,.slice (some ⟨xb,xo,none⟩) N L,.int .i64 r.lv,.int .i64 r.a] 47 (0,0))):=fun q=>⟨⟨G,(HQ.out q).1.1,(HQ.out q).1.2.same (ubb HR.out.1 HR.out.2.2 HZ.out (fun e=>absurd e n0))⟩,(HQ.out q).2⟩
              clear HQ a1 U P b5
              go_upto_region 34 with fail
              go_quiet (fail);go_wp2_with fail;go_roundg (N - (k+1))
              case measure=>omega
              case rel=>exact⟨b,k+1,rfl,by simp,by omega,Nat.le_refl _,HF.out _⟩
          ·have k2:¬(k:Int)<(N:Int):=by omega
           have HF:Hid (∃G,RN2 w wr h S A s ⟨C,B,D⟩ n E F G/\(b=false->uar S E F G (i+1)/\zbs G<=R)/\(b=true->zbs G+1<=R)):=⟨G,y,h4.done HR.out.1 (by rw[Z.out];omega)⟩
           clear y h4 d6 J;go_wp2_with fail;go_roundg (Y - (i+1))
           case measure=>omega
           case rel=>exact⟨b,i+1,rfl,by simp,by omega,by omega,Nat.le_refl _,HF⟩
        ·have a7:¬(i:Int)<(Y:Int):=by omega
         have HF:Hid (∃G,RN2 w wr h S A s ⟨C,B,D⟩ n E F G/\(b=false->uar S E F G Y)/\(b=true->zbs G+1<=R)):=by
          have:i=Y:=by omega
          subst this;exact⟨G2,y,fun e=>(a5 e).1,b2⟩
         clear y a5 b2 J;go_wp2_with fail;go_roundg R
         case measure=>omega
         case rel=>exact⟨b,rfl,HF⟩
theorem ub5{H:Type}{enc:TypeId × Value->H}{W:World}{j:Option Addr}{n a:Nat}{d:DataW H}{r:List MemPlace}(h:DataW.Trod enc Tryz.prog W 0 (fun _=>true) true 26 (.slice j n a) d r):∃zs,RawI W j n a zs:=by
 obtain⟨fuel,p⟩:=h
 rcases ChangeShapes.open_ints Tryz.underlying26 Tryz.underlying3 (by kernel_rfl) p with ⟨hcs,_⟩ | ⟨x,l,c,zs,hcs,_,hl,hm,hz,_,hcell,hwz⟩
 ·simp[Value.cells]at hcs;obtain⟨rfl,rfl,rfl⟩:=hcs;exact⟨[],⟨Nat.le_refl _,by omega⟩,fun i m=>absurd m (Nat.not_lt_zero _)⟩
 ·simp[Value.cells]at hcs;obtain⟨rfl,rfl,rfl⟩:=hcs
  have q:zs.length=a:=by simpa using hz
  refine⟨zs,⟨hl,by unfold maxLen at hm;omega⟩,fun i m=>?_⟩
  have k:=hcell i (by omega);have o:=hcell 0 (by omega);obtain⟨b,off,g⟩:=x
  have f:g=none:=by simpa [Addr.add] using World.cell?_spot o
  subst f;rw[Addr.add_lit]at k;exact⟨b,off,rfl,k⟩
theorem ucs{m:Nat}{Q:Nat->Prop}{l:List Nat}(h:IsL m Q l):l.length<=m:=by
 obtain⟨b,a,rfl⟩:=h;have:=List.length_filter_le b (List.range m);rw[List.length_range]at this;exact this
theorem ua4{b:Nat->Bool}{m:Nat}(h:∀t,m<=t->b t=false):∀d,upTo b (m+d)=upTo b m
 | 0=>rfl
 | d+1=>by
  rw[<-Nat.add_assoc,qnr,h (m+d) (by omega),if_neg (by decide)];exact ua4 h d
theorem uas{u m:Nat}{Q:Nat->Prop}(c:m<=64)(h:∀t,u.testBit t=true↔Q t)(b:∀t,Q t->t<m):IsL m Q (upTo (fun t=>u.testBit t) 64):=by
 have e:64=m+(64 - m):=by omega
 rw[e,ua4 (fun t d=>by
  cases a:u.testBit t
  ·rfl
  ·have:=b t ((h t).1 a);omega)]
 exact⟨_,fun t _=>h t,rfl⟩
theorem yl{V:World}{m:Nat}{Q:Nat->Prop}{l k:List Nat}{a b:Option Addr}{c d:Nat}(h:m<=1000)(f:IsL m Q l)(g:IsL m Q k)(i:Row V 1 a l.length c (natC l))(j:Row V 1 b k.length d (natC k)):Calls Tryz.prog 27 #[.slice a l.length c,.slice b k.length d] V fun e n=>e=.returned (.bool true)/\Below V.heap.size V n:=by
 have:=f.uni g;subst this;exact qbr l a b l.length c d V i j rfl (Nat.le_trans (ucs f) h)
def Q1 (S:Sp) (n:Nat) (i:Int) (t:Nat):Prop:=∃x:Nat,i=(x:Int)/\x<n/\FstP S x t
def Q2 (S:Sp) (n:Nat) (i:Int) (t:Nat):Prop:=∃x:Nat,i=(x:Int)/\S.tk<x/\x<n/\FolP S x t
theorem ubn{S:Sp}{n x t:Nat}(a:x<n):Q1 S n (x:Int) t↔FstP S x t:=⟨fun⟨y,b,_,h⟩=>by
 have:x=y:=by omega
 subst this
 exact h,fun h=>⟨x,rfl,a,h⟩⟩
theorem ubo{S:Sp}{n x t:Nat}(b:x<n)(a:S.tk<x):Q2 S n (x:Int) t↔FolP S x t:=⟨fun⟨y,c,_,_,h⟩=>by
 have:x=y:=by omega
 subst this
 exact h,fun h=>⟨x,rfl,a,b,h⟩⟩
theorem ub6(V:World)(B a n:Nat)(p:FP)(E:List Bool)(S:Sp)(c:List (List Nat))(h:FS V B a p n S E c)(i:Int):Calls Tryz.prog 20 #[.pointer (some ⟨a,0,none⟩),.int .i64 i] V fun e b=>Told V b (S.tk+1) (Q1 S n i) e:=by
 by_cases g:i≠(S.tk:Int)/\0<=i/\i<(n:Int)
 ·obtain⟨x,rfl⟩:∃x:Nat,i=(x:Int):=⟨i.toNat,by omega⟩
  exact(qgt V B a n p E S c h x (by omega) (by omega)).mono (fun e b d=>d.congr (fun t _=>(ubn (by omega)).symm))
 ·refine(ubl V B a n p E S c h i g).mono (fun e b d=>d.congr (fun t _=>⟨False.elim,?_⟩));rintro⟨x,rfl,l,j⟩
  have f:x=S.tk:=by
   apply Classical.byContradiction
   intro k;exact g ⟨by omega,by omega,by omega⟩
  subst f;have:=(qg9 h.wf (Nat.le_refl _) j).1;omega
theorem ubp(V:World)(B a n:Nat)(p:FP)(E:List Bool)(S:Sp)(c:List (List Nat))(h:FS V B a p n S E c)(i:Int):Calls Tryz.prog 21 #[.pointer (some ⟨a,0,none⟩),.int .i64 i] V fun e b=>Told V b (S.tk+1) (Q2 S n i) e:=by
 by_cases d:(S.tk:Int)<i/\i<(n:Int)
 ·obtain⟨x,rfl⟩:∃x:Nat,i=(x:Int):=⟨i.toNat,by omega⟩
  exact(qdx V B a n p E S c h x (by omega) (by omega)).mono (fun e b g=>g.congr (fun t _=>(ubo (by omega) (by omega)).symm))
 ·refine(ubc V B a n p E S c h i d).mono (fun e b ⟨f,j⟩=>?_);subst f j;refine ubv _ _ (fun t _=>?_) (Below.refl _ _);rintro⟨x,rfl,k,l,-⟩;exact d ⟨by omega,by omega⟩
def RGT (w W:World) (h:SHd) (S:Sp) (n b1 fb rb:Nat):Prop:=Below w.heap.size w W/\W.heap[b1]?=some (.cells (sC h S) 31 (0,0))/\(∃B p E WL,FS W B fb p n S E WL)/\∃B p E F G,RT8 W B rb p h S n E F G/\Told8 S n E F G
theorem RGT.step{w W b:World}{h:SHd}{S:Sp}{n c d f:Nat}(r:RGT w W h S n c d f)(a:Below W.heap.size W b):RGT w b h S n c d f:=by
 obtain⟨l,m,⟨B,p,E,j,o⟩,g,k,i,F,G,q,s⟩:=r;exact⟨qd l a,qf a m,⟨B,p,E,j,o.below a⟩,g,k,i,F,G,q.below a,s⟩
structure AQ8 (V wr:World) (S:Sp) (n i:Nat) (sa:Option Addr) (sc:Nat) (zs:List Nat):Prop where
 bel:Below V.heap.size V wr
 own:wr.ownsRow V.heap.size 3 1 (.slice sa i sc) i (natC zs)
 len:zs.length=i
 rng:∀z∈zs,z<n/\z≠S.tk
theorem AQ8.more{V wr d:World}{S:Sp}{n i:Nat}{k b:Option Addr}{l c:Nat}{zs:List Nat}(h:AQ8 V wr S n i k l zs)(y:Nat)(f:Below V.heap.size wr d)(g:d.ownsRow V.heap.size 3 1 (.slice b (i+1) c) (i+1) (natC (zs++[y])))(j:y<n/\y≠S.tk):AQ8 V d S n (i+1) b c (zs++[y]):=by
 refine⟨h.bel.trans f,g,by rw[List.length_append,h.len];rfl,fun z a=>?_⟩
 rcases List.mem_append.1 a with a | a
 ·exact h.rng z a
 ·rw[List.mem_singleton]at a;subst a;exact j
theorem ucn{S:Sp}{n:Nat}{E:List Bool}{F G:List Nat}(h:Told8 S n E F G)(l:List Nat)(b t:Nat):(if (ofW E F l).2 then (ofW E F l).1 ||| 2 ^ b else (ofW E F l).1).testBit t=true↔FstL S l t\/((∀z∈l,Nul S z)/\(t:Int)=(b:Int)):=by
 obtain⟨c,d⟩:=ua9 h.ef l
 cases a:(ofW E F l).2
 ·rw[if_neg (by decide),d];refine⟨.inl,fun k=>k.elim id (fun k=>?_)⟩;rw[c.2 k.1]at a
  cases a
 ·rw[if_pos rfl,Nat.testBit_or,Bool.or_eq_true,d,Nat.testBit_two_pow];have:=c.1 a;refine or_congr Iff.rfl ⟨fun k=>⟨this,?_⟩,fun k=>?_⟩
  ·have:b=t:=by simpa using k
   omega
  ·have:b=t:=by have:=k.2;omega
   simp[this]
theorem ucx{E:List Bool}{F:List Nat}(h:∀w∈F,w<2 ^ 64)(l:List Nat){b:Nat}(a:b<64):(if (ofW E F l).2 then (ofW E F l).1 ||| 2 ^ b else (ofW E F l).1)<2 ^ 64:=by
 split
 ·exact ual (yr E h l) (Nat.pow_lt_pow_right (by decide) a)
 ·exact yr E h l
theorem uah(W:World):Row W 1 none 0 0 (natC []):=Row.of_own (World.ownsRow_nil W 0 3 1)
theorem ubf(w:World)(h:SHd)(S:Sp)(n:Nat)(hs:NSp S n)(i6:S.tk<64)(h6:IsSp w h S)(A:Option Addr)(ln lc:Nat)(L:List Int)(hL:RawI w A ln lc L)(bh:Int):
  Calls Tryz.prog 12 #[sv h S,.slice A ln lc,.int .i64 bh] w fun e H=>e=.returned (.bool true)/\Below w.heap.size w H:=by
 have HX:Hid (NSp S n/\S.tk<64/\RawI w A ln lc L/\IsSp w h S):=⟨hs,i6,hL,h6⟩
 have m1:=hs.wf.tk;have l9:=hs.wf.nt
 have hn:n<=301:=by have:=hs.nn;have:=hs.wf.nt;omega
 have l4:S.tk<n:=by have:=hs.nn;omega
 have i1:Hid ((n:Int)=(S.tk:Int)+1+(S.nt:Int)):=by have:=hs.nn;show _=_;omega
 have f2:Below w.heap.size w (w.alloc (.cells (sC h S) 31)):=qb _ _;have b6:(w.alloc (.cells (sC h S) 31)).heap[w.heap.size]?=some (.cells (sC h S) 31 (0,0)):=heap_alloc_new _ _;clear hs h6 hL;unfold sv sC;go_enter Tryz.func12,Tryz.ntmps12
 go_upto_region 1 with fail
 have e0:w.alloc (.cells #[.int .i64 (S.tk:Int),.int .i64 (S.nt:Int),.int .i64 (S.st:Int),.int .i64 S.ex,.slice h.na S.nm.length h.nc,.slice h.la S.lv.length h.lc,.slice h.aa S.az.length h.ac,.slice h.ra S.rs.length h.rc] 31)=w.alloc (.cells (sC h S) 31):=rfl;rw[e0];generalize w.alloc (.cells (sC h S) 31)=W0 at f2 b6 ⊢
 obtain⟨s,i0⟩:∃s,Hid (s=w.heap.size):=⟨_,rfl⟩
 rw[<-i0.out]at b6 ⊢;obtain⟨c0,c1,c2,c3,c4,c5,c6,c7⟩:=sbox b6
 have H0:Hid (Below w.heap.size w W0/\W0.heap[s]?=some (.cells (sC h S) 31 (0,0))):=⟨f2,b6⟩
 clear e0 f2 b6
 have b7:Hid (∀V,Below W0.heap.size W0 V->V.cell? ⟨s,0,none⟩=some (.int .i64 (S.tk:Int))/\V.cell? ⟨s,1,none⟩=some (.int .i64 (S.nt:Int))/\V.cell? ⟨s,2,none⟩=some (.int .i64 (S.st:Int))/\V.cell? ⟨s,3,none⟩=some (.int .i64 S.ex)/\V.cell? ⟨s,4,none⟩=some (.slice h.na S.nm.length h.nc)/\V.cell? ⟨s,5,none⟩=some (.slice h.la S.lv.length h.lc)/\V.cell? ⟨s,6,none⟩=some (.slice h.aa S.az.length h.ac)/\V.cell? ⟨s,7,none⟩=some (.slice h.ra S.rs.length h.rc)):=fun V Q=>sbox (qf Q H0.out.2)
 have d5:Hid (∀V:World,Below W0.heap.size W0 V->Calls Tryz.prog 17 #[.agg #[.int .i64 (S.tk:Int),.int .i64 (S.nt:Int),.int .i64 (S.st:Int),.int .i64 S.ex,.slice h.na S.nm.length h.nc,.slice h.la S.lv.length h.lc,.slice h.aa S.az.length h.ac,.slice h.ra S.rs.length h.rc]] V fun e H=>∃I p E WL,e=.returned (.pointer (some ⟨I,0,none⟩))/\FS H V.heap.size I p n S E WL/\Below V.heap.size V H):=fun V Q=>qgs V h S n HX.out.1 (HX.out.2.2.2.below (qd H0.out.1 Q))
 have d9:Hid (∀V:World,Below W0.heap.size W0 V->Calls Tryz.prog 35 #[.agg #[.int .i64 (S.tk:Int),.int .i64 (S.nt:Int),.int .i64 (S.st:Int),.int .i64 S.ex,.slice h.na S.nm.length h.nc,.slice h.la S.lv.length h.lc,.slice h.aa S.az.length h.ac,.slice h.ra S.rs.length h.rc]] V fun e H=>∃s O p E F G,e=.returned (.pointer (some ⟨O,0,none⟩))/\NW V H h S s O p n E F G/\Told8 S n E F G):=fun V Q=>ubm V h S n HX.out.1 HX.out.2.1 (HX.out.2.2.2.below (qd H0.out.1 Q))
 go_cut [7,8] (fun s7 s8 wd=>∃I O:Nat,s7=.pointer (some ⟨I,0,none⟩)/\s8=.pointer (some ⟨O,0,none⟩)/\Hid (RGT w wd h S n s I O))
 case first =>
  go_region_held (fun H=>H.cell? ⟨s,0,none⟩=some (.int .i64 (S.tk:Int))/\H.cell? ⟨s,1,none⟩=some (.int .i64 (S.nt:Int))/\H.cell? ⟨s,2,none⟩=some (.int .i64 (S.st:Int))/\H.cell? ⟨s,3,none⟩=some (.int .i64 S.ex)/\H.cell? ⟨s,4,none⟩=some (.slice h.na S.nm.length h.nc)/\H.cell? ⟨s,5,none⟩=some (.slice h.la S.lv.length h.lc)/\H.cell? ⟨s,6,none⟩=some (.slice h.aa S.az.length h.ac)/\H.cell? ⟨s,7,none⟩=some (.slice h.ra S.rs.length h.rc)) (first | exact b7.out _ (qk _) | exact b7.out _ b4.out | exact b7.out _ b5.out) (first
   | (go_at_call 17;refine(d5.out _ (by first | exact b5.out | exact qk _)).mono ?_;clear d5;rintro e U ⟨I,p,E1,WL,rfl,N,j⟩;have b4:Hid (Below W0.heap.size W0 U):=(by first | exact qd b5.out j | exact qd (qk _) j))
   | (go_at_call 35;refine(d9.out _ (by first | exact b4.out | exact qk _)).mono ?_;clear d9;rintro e VB ⟨l6,O,q,E,F,G,rfl,f4,h7⟩;have f:=f4.bel;have b5:Hid (Below W0.heap.size W0 VB):=(by first | exact qd b4.out f | exact qd (qk _) f)))
  all_goals
   go_wp2_with fail;go_meet
   first
    | exact⟨I,O,rfl,rfl,qd H0.out.1 b5.out,qf b5.out H0.out.2,⟨_,p,E1,WL,N.below f⟩,_,q,E,F,G,f4.rt,h7⟩
    | exact⟨I,O,rfl,rfl,qd H0.out.1 b4.out,qf b4.out H0.out.2,⟨_,p,E1,WL,N⟩,_,q,E,F,G,f4.rt.below j,h7⟩
 case rest =>
  obtain⟨I,O,rfl,rfl,J0⟩:=hcut
  obtain⟨w1,m2⟩:∃w1,w1=wc:=⟨_,rfl⟩
  subst wc;have H1:Hid (RGT w w1 h S n s I O):=J0;clear J0 c0 c1 c2 c3 c4 c5 c6 c7 b7 d5 d9 H0;obtain⟨c0,c1,-⟩:=sbox H1.out.2.1
  go_upto_region 3 with fail
  rw[<-i1.out];clear c0 c1
  go_upto_block 0 with fail
  go_cut [10] (fun s10 wd=>Hid (RGT w wd h S n s I O))
  case first =>
   go_wp2_with fail
   go_loopg [10] (n+2) (fun kx s10 wr=>∃i:Int,s10=.int .i64 i/\-1<=i/\i<=(n:Int)+1/\((n:Int)+1 - i).toNat<=kx/\Hid (RGT w wr h S n s I O))
   case atStart=>exact⟨-1,rfl,by omega,by omega,by omega,H1⟩
   case round =>
    clear H1;obtain⟨i,rfl,k1,k2,hg,J⟩:=hrel
    by_cases g6:i<=(n:Int)
    ·obtain⟨em,a0⟩:∃em:Bool,Hid (∀V,Below wr.heap.size wr V->Calls Tryz.prog 23 #[.pointer (some ⟨I,0,none⟩),.int .i64 i] V fun e H=>e=.returned (.bool em)/\H=V)/\Hid (∀x:Nat,i=(x:Int)->x<n->(em=true↔Nul S x))/\Hid (¬(0<=i/\i<(n:Int))->em=false):=by
      obtain⟨-,-,⟨B,p,E,WL,N⟩,-⟩:=J.out
      by_cases X:0<=i/\i<(n:Int)
      ·obtain⟨x,rfl⟩:∃x:Nat,i=(x:Int):=⟨i.toNat,by omega⟩
       refine⟨isF E x,fun V Q=>qc0 V I p.eb n n x _ (N.below Q).fm.c1 (by omega) ((N.below Q).fm.ce (by omega)),fun y hy _=>?_,fun k3=>absurd X k3⟩
       have:x=y:=by omega
       subst this;exact N.emp x
      ·exact⟨false,fun V Q=>uav V I n n _ i (N.below Q).fm.c1 X,fun x hx Z=>absurd ⟨by omega,by omega⟩ X,fun _=>rfl⟩
     obtain⟨a0,d3,d4⟩:=a0
     have a1:Hid (∀V:World,Below wr.heap.size wr V->Calls Tryz.prog 20 #[.pointer (some ⟨I,0,none⟩),.int .i64 i] V fun e W'=>Told V W' (S.tk+1) (Q1 S n i) e):=fun V Q=>by
      obtain⟨-,-,⟨B,p,E,WL,N⟩,-⟩:=J.out;exact ub6 V B I n p E S WL (N.below Q) i
     have a2:Hid (∀V:World,Below wr.heap.size wr V->Calls Tryz.prog 21 #[.pointer (some ⟨I,0,none⟩),.int .i64 i] V fun e W'=>Told V W' (S.tk+1) (Q2 S n i) e):=fun V Q=>by
      obtain⟨-,-,⟨B,p,E,WL,N⟩,-⟩:=J.out;exact ubp V B I n p E S WL (N.below Q) i
     by_cases X:0<=i/\i<(n:Int)
     ·obtain⟨x,hx⟩:∃x:Nat,i=(x:Int):=⟨i.toNat,by omega⟩
      have Z:x<n:=by omega
      obtain⟨eb,ff,gg,u1,u2,HT,HU⟩:∃eb ff gg u1 u2:Nat,Hid (∀V,Below wr.heap.size wr V->V.cell? ⟨s,0,none⟩=some (.int .i64 (S.tk:Int))/\V.cell? ⟨O,8,none⟩=some (.slice (some ⟨eb,0,none⟩) n n)/\V.cell? ⟨O,9,none⟩=some (.slice (some ⟨ff,0,none⟩) n n)/\V.cell? ⟨O,10,none⟩=some (.slice (some ⟨gg,0,none⟩) n n)/\V.cell? ⟨eb,x,none⟩=some (.bool em)/\V.cell? ⟨ff,x,none⟩=some (.int .u64 (u1:Int))/\V.cell? ⟨gg,x,none⟩=some (.int .u64 (u2:Int)))/\Hid (u1<2 ^ 64/\u2<2 ^ 64/\IsL (S.tk+1) (Q1 S n i) (upTo (fun t=>u1.testBit t) 64)/\(S.tk<x->IsL (S.tk+1) (Q2 S n i) (upTo (fun t=>u2.testBit t) 64))):=by
       obtain⟨-,a4,-,B,p,E,F,G,hr,ht⟩:=J.out;refine⟨p.eb,p.fb,p.gb,wd F x,wd G x,fun V Q=>?_,?_⟩
       ·obtain⟨L3,L1,ka⟩:=(hr.below Q).cells;have z:=qrm (hr.below Q).emp Z
        have L2:isF E x=em:=by
         have h1:=d3.out x hx Z;have h2:=ht.ef.1 x
         cases em
         ·cases l:isF E x
          ·rfl
          ·have:=h1.2 (h2.1 l);cases this
         ·exact h2.2 (h1.1 rfl)
        rw[L2]at z;exact⟨(sbox (qf Q a4)).1,L3,L1,ka,z,uab (hr.below Q).fst Z,uab (hr.below Q).fol Z⟩
       ·rw[hx];refine⟨uaa ht.flt x,uaa ht.glt x,uas (by have:=HX.out.2.1;omega) (fun t=>(ht.ef.2 x t).trans (ubn Z).symm) (fun t l=>?_),fun h8=>uas (by have:=HX.out.2.1;omega) (fun t=>(ht.fol x t).trans (ubo Z h8).symm) (fun t l=>?_)⟩
        ·have:=((ubn Z).1 l).lt;omega
        ·have:=((ubo Z h8).1 l).le;omega
      subst hx
      have l5:(x:Int)<(n:Int):=by omega
      have m5:(0:Int)<=(x:Int):=by omega
      obtain⟨l1,d6⟩:∃l1,Hid (upTo (fun t=>u1.testBit t) 64=l1):=⟨_,rfl⟩
      obtain⟨l2,d7⟩:∃l2,Hid (upTo (fun t=>u2.testBit t) 64=l2):=⟨_,rfl⟩
      have g0:Hid (∀V:World,Calls Tryz.prog 36 #[.int .u64 (u1:Int)] V fun e H=>∃la lc,e=.returned (.slice la l1.length lc)/\H.ownsRow V.heap.size 3 1 (.slice la l1.length lc) l1.length (natC l1)/\Below V.heap.size V H):=fun V=>by rw[<-d6.out];exact uao V u1 HU.out.1
      have f0:Hid (∀V:World,Calls Tryz.prog 36 #[.int .u64 (u2:Int)] V fun e H=>∃la lc,e=.returned (.slice la l2.length lc)/\H.ownsRow V.heap.size 3 1 (.slice la l2.length lc) l2.length (natC l2)/\Below V.heap.size V H):=fun V=>by rw[<-d7.out];exact uao V u2 HU.out.2.1
      have f1:Hid (IsL (S.tk+1) (Q1 S n (x:Int)) l1/\(S.tk<x->IsL (S.tk+1) (Q2 S n (x:Int)) l2)):=by rw[<-d6.out,<-d7.out];exact HU.out.2.2
      clear HU d6 d7 d3 d4 X;obtain⟨c0,a8,a9,aa,t8,t9,ta⟩:=HT.out wr (Below.refl _ _);go_wp2_with fail;refine(a0.out wr (Below.refl _ _)).mono ?_;rintro e w2 ⟨rfl,rfl⟩;clear a0;go_wp2_with fail;refine(g0.out _).mono ?_;rintro e w3 ⟨la,b9,rfl,a6,a4⟩
      have H3:Hid (Below w2.heap.size w2 w3/\Row w3 1 la l1.length b9 (natC l1)):=⟨a4,Row.of_own a6⟩
      have k4:=z8 a6;clear a6 a4 g0 c0 a8 a9 aa t8 t9 ta;obtain⟨c0,a8,a9,aa,t8,t9,ta⟩:=HT.out w3 H3.out.1
      by_cases k6:S.tk<x
      ·have h9:(S.tk:Int)<(x:Int):=by omega
       go_wp2_with fail;refine(f0.out _).mono ?_;rintro e w4 ⟨lb,k7,rfl,a7,f3⟩
       have H4:Hid (Below w2.heap.size w2 w4/\Row w4 1 la l1.length b9 (natC l1)/\Row w4 1 lb l2.length k7 (natC l2)):=⟨qd H3.out.1 f3,H3.out.2.below f3,Row.of_own a7⟩
       have m0:=z8 a7;clear a7 f3 f0 c0 a8 a9 aa t8 t9 ta H3;go_wp2_with fail;refine(a1.out _ H4.out.1).mono ?_;rintro e U ⟨T,pA,qA,rfl,M,k,j⟩
       have v:Hid (IsL (S.tk+1) (Q1 S n (x:Int)) T/\Row U 1 pA T.length qA (natC T)/\Below w4.heap.size w4 U/\Below w2.heap.size w2 U):=⟨M,Row.of_own k,j,qd H4.out.1 j⟩
       have a5:=z8 k;clear M k j a1;go_wp2_with fail;refine(yl (by omega) v.out.1 f1.out.1 v.out.2.1 ((H4.out.2.1).below v.out.2.2.1)).mono ?_;rintro e VB ⟨rfl,f⟩
       have P:Hid (Below w4.heap.size w4 VB/\Below w2.heap.size w2 VB):=⟨qd v.out.2.2.1 f,qd v.out.2.2.2 f⟩
       clear f v a5;go_wp2_with fail;refine(a2.out _ P.out.2).mono ?_;rintro e Y ⟨lC,pC,qC,rfl,R,D,C⟩
       have a:Hid (IsL (S.tk+1) (Q2 S n (x:Int)) lC/\Row Y 1 pC lC.length qC (natC lC)/\Below w4.heap.size w4 Y/\Below w2.heap.size w2 Y):=⟨R,Row.of_own D,qd P.out.1 C,qd P.out.2 C⟩
       have f5:=z8 D;clear R D C a2 P;go_wp2_with fail;refine(yl (by omega) a.out.1 (f1.out.2 k6) a.out.2.1 ((H4.out.2.2).below a.out.2.2.1)).mono ?_;rintro e VD ⟨rfl,K⟩;have HF:Hid (RGT w VD h S n s I O):=J.out.step (qd a.out.2.2.2 K);clear K a J;go_wp2_with fail;go_roundg ((n:Int)+1 - ((x:Int)+1)).toNat
       case measure=>omega
       case rel=>exact⟨(x:Int)+1,by simp,by omega,by omega,Nat.le_refl _,HF⟩
      ·have h9:¬(S.tk:Int)<(x:Int):=by omega
       clear f0 a8 a9 aa t8 t9 ta;go_wp2_with fail;refine(a1.out _ H3.out.1).mono ?_;rintro e U ⟨T,pA,qA,rfl,M,k,j⟩
       have v:Hid (IsL (S.tk+1) (Q1 S n (x:Int)) T/\Row U 1 pA T.length qA (natC T)/\Below w3.heap.size w3 U/\Below w2.heap.size w2 U):=⟨M,Row.of_own k,j,qd H3.out.1 j⟩
       have a5:=z8 k;clear M k j a1;go_wp2_with fail;refine(yl (by omega) v.out.1 f1.out.1 v.out.2.1 ((H3.out.2).below v.out.2.2.1)).mono ?_;rintro e VB ⟨rfl,f⟩
       have P:Hid (Below w3.heap.size w3 VB/\Below w2.heap.size w2 VB):=⟨qd v.out.2.2.1 f,qd v.out.2.2.2 f⟩
       clear f v a5;go_wp2_with fail;refine(a2.out _ P.out.2).mono ?_;rintro e Y ⟨lC,pC,qC,rfl,R,D,C⟩
       have a:Hid (IsL (S.tk+1) (Q2 S n (x:Int)) lC/\Row Y 1 pC lC.length qC (natC lC)/\Below w3.heap.size w3 Y/\Below w2.heap.size w2 Y):=⟨R,Row.of_own D,qd P.out.1 C,qd P.out.2 C⟩
       have f5:=z8 D;clear R D C a2 P;go_wp2_with fail;refine(yl (by omega) a.out.1 (uac (fun t _ l=>by obtain⟨y,h1,h2,-⟩:=l;omega):IsL (S.tk+1) (Q2 S n (x:Int)) []) a.out.2.1 ((uah w3).below a.out.2.2.1)).mono ?_
       rintro e VD ⟨rfl,K⟩;have HF:Hid (RGT w VD h S n s I O):=J.out.step (qd a.out.2.2.2 K);clear K a J;go_wp2_with fail;go_roundg ((n:Int)+1 - ((x:Int)+1)).toNat
       case measure=>omega
       case rel=>exact⟨(x:Int)+1,by simp,by omega,by omega,Nat.le_refl _,HF⟩
     ·have i8:=d4.out X;subst i8;have b0:Hid (¬(0<=i/\i<(n:Int))):=X;clear d3 d4
      by_cases k0:0<=i
      ·have l3:¬i<(n:Int):=fun e=>X ⟨k0,e⟩
       clear X;go_wp2_with fail;refine(a0.out wr (Below.refl _ _)).mono ?_;rintro e w2 ⟨rfl,rfl⟩;clear a0;go_wp2_with fail;refine(a1.out _ (Below.refl _ _)).mono ?_;rintro e U ⟨T,pA,qA,rfl,M,k,j⟩
       have v:Hid (IsL (S.tk+1) (Q1 S n i) T/\Row U 1 pA T.length qA (natC T)/\Below w2.heap.size w2 U/\Below w2.heap.size w2 U):=⟨M,Row.of_own k,j,qd (Below.refl _ _) j⟩
       have a5:=z8 k;clear M k j a1;go_wp2_with fail;refine(yl (by omega) v.out.1 (uac (fun t _ l=>by obtain⟨y,h1,h2,-⟩:=l;exact b0.out ⟨by omega,by omega⟩):IsL (S.tk+1) (Q1 S n i) []) v.out.2.1 ((uah w2).below v.out.2.2.1)).mono ?_
       rintro e VB ⟨rfl,f⟩
       have P:Hid (Below w2.heap.size w2 VB/\Below w2.heap.size w2 VB):=⟨qd v.out.2.2.1 f,qd v.out.2.2.2 f⟩
       clear f v a5;go_wp2_with fail;refine(a2.out _ P.out.2).mono ?_;rintro e Y ⟨lC,pC,qC,rfl,R,D,C⟩
       have a:Hid (IsL (S.tk+1) (Q2 S n i) lC/\Row Y 1 pC lC.length qC (natC lC)/\Below w2.heap.size w2 Y/\Below w2.heap.size w2 Y):=⟨R,Row.of_own D,qd P.out.1 C,qd P.out.2 C⟩
       have f5:=z8 D;clear R D C a2 P;go_wp2_with fail;refine(yl (by omega) a.out.1 (uac (fun t _ l=>by obtain⟨y,h1,h2,h3,-⟩:=l;exact b0.out ⟨by omega,by omega⟩):IsL (S.tk+1) (Q2 S n i) []) a.out.2.1 ((uah w2).below a.out.2.2.1)).mono ?_
       rintro e VD ⟨rfl,K⟩;have HF:Hid (RGT w VD h S n s I O):=J.out.step (qd a.out.2.2.2 K);clear K a J;go_wp2_with fail;go_roundg ((n:Int)+1 - (i+1)).toNat
       case measure=>omega
       case rel=>exact⟨i+1,by simp,by omega,by omega,Nat.le_refl _,HF⟩
      ·clear X;go_wp2_with fail;refine(a0.out wr (Below.refl _ _)).mono ?_;rintro e w2 ⟨rfl,rfl⟩;clear a0;go_wp2_with fail;refine(a1.out _ (Below.refl _ _)).mono ?_;rintro e U ⟨T,pA,qA,rfl,M,k,j⟩
       have v:Hid (IsL (S.tk+1) (Q1 S n i) T/\Row U 1 pA T.length qA (natC T)/\Below w2.heap.size w2 U/\Below w2.heap.size w2 U):=⟨M,Row.of_own k,j,qd (Below.refl _ _) j⟩
       have a5:=z8 k;clear M k j a1;go_wp2_with fail;refine(yl (by omega) v.out.1 (uac (fun t _ l=>by obtain⟨y,h1,h2,-⟩:=l;exact b0.out ⟨by omega,by omega⟩):IsL (S.tk+1) (Q1 S n i) []) v.out.2.1 ((uah w2).below v.out.2.2.1)).mono ?_
       rintro e VB ⟨rfl,f⟩
       have P:Hid (Below w2.heap.size w2 VB/\Below w2.heap.size w2 VB):=⟨qd v.out.2.2.1 f,qd v.out.2.2.2 f⟩
       clear f v a5;go_wp2_with fail;refine(a2.out _ P.out.2).mono ?_;rintro e Y ⟨lC,pC,qC,rfl,R,D,C⟩
       have a:Hid (IsL (S.tk+1) (Q2 S n i) lC/\Row Y 1 pC lC.length qC (natC lC)/\Below w2.heap.size w2 Y/\Below w2.heap.size w2 Y):=⟨R,Row.of_own D,qd P.out.1 C,qd P.out.2 C⟩
       have f5:=z8 D;clear R D C a2 P;go_wp2_with fail;refine(yl (by omega) a.out.1 (uac (fun t _ l=>by obtain⟨y,h1,h2,h3,-⟩:=l;exact b0.out ⟨by omega,by omega⟩):IsL (S.tk+1) (Q2 S n i) []) a.out.2.1 ((uah w2).below a.out.2.2.1)).mono ?_
       rintro e VD ⟨rfl,K⟩;have HF:Hid (RGT w VD h S n s I O):=J.out.step (qd a.out.2.2.2 K);clear K a J;go_wp2_with fail;go_roundg ((n:Int)+1 - (i+1)).toNat
       case measure=>omega
       case rel=>exact⟨i+1,by simp,by omega,by omega,Nat.le_refl _,HF⟩
    ·have HF:Hid (RGT w wr h S n s I O):=J
     have c9:(n:Int)<i:=by omega
     clear J k1 k2 hg;go_wp2_with fail;go_meet;exact HF
  case rest =>
   obtain⟨w5,m3⟩:∃w5,w5=wc:=⟨_,rfl⟩
   subst wc;have H5:Hid (RGT w w5 h S n s I O):=hcut;clear hcut H1
   have d2:Hid (∃zs,AQ8 w5 w5 S n 0 none 0 zs):=⟨[],Below.refl _ _,World.ownsRow_nil _ _ _ _,rfl,fun z hz=>(by cases hz)⟩
   go_upto_block 2 with fail
   go_cut [14] (fun s14 wd=>∃(i:Nat) (sa:Option Addr) (sc:Nat),s14=.slice sa i sc/\i<=5/\Hid (∃zs,AQ8 w5 wd S n i sa sc zs))
   case first =>
    go_wp2_with fail
    go_loopg [14,15] 5 (fun kx s14 s15 wr=>∃(i:Nat) (sa:Option Addr) (sc:Nat),s14=.slice sa i sc/\s15=.int .i64 i/\i<=5/\5 - i<=kx/\Hid (∃zs,AQ8 w5 wr S n i sa sc zs))
    case atStart=>exact⟨0,none,0,rfl,rfl,by omega,by omega,d2⟩
    case round =>
     obtain⟨i,sa,sc,rfl,rfl,hi,hg,J⟩:=hrel;clear d2
     by_cases g6:i<ln
     ·have c9:(i:Int)<(ln:Int):=by omega
      by_cases h5:i<5
      ·have i5:(i:Int)<5:=by omega
       obtain⟨zs,l⟩:=J.out;obtain⟨b,o,rfl,cz⟩:=(HX.out.2.2.1.below (qd H5.out.1 l.bel)).get i g6;generalize L.getD i 0=z at cz
       obtain⟨d,hd⟩:∃d:Nat,(n:Int) - 1=(d:Int):=⟨n - 1,by omega⟩
       have b3:(0:Int)<(d:Int):=by have:=HX.out.1.wf.st;have:=HX.out.1.nn;omega
       have c8:((d:Int) == 0)=false:=by rw[beq_eq_false_iff_ne];omega
       have hr:=vk z (d:Int) b3
       obtain⟨r,b8⟩:∃r,z.tmod (d:Int)=r:=⟨_,rfl⟩
       rw[b8]at hr
       obtain⟨e1,g2⟩:∃e1,r+(n:Int) - 1=e1:=⟨_,rfl⟩
       have f6:0<=e1.tmod (d:Int):=Int.tmod_nonneg _ (by omega);have a7:=vk e1 (d:Int) b3
       obtain⟨q,g7⟩:∃q:Nat,e1.tmod (d:Int)=(q:Int):=⟨(e1.tmod (d:Int)).toNat,by omega⟩
       have k5:q<d:=by omega
       obtain⟨h0,h4⟩:=hr
       have l7:d<=300:=by omega
       have l8:q+1<n:=by omega
       have i7:-700<=e1/\e1<=700:=by omega
       obtain⟨g3,g4⟩:=i7
       have d0:-301<=r:=by omega
       have d1:r<=301:=by omega
       clear a7 f6;obtain⟨c0,-⟩:=sbox (qf l.bel H5.out.2.1);have g5:=z8 l.own
       by_cases g8:q<S.tk
       ·have g9:¬(S.tk:Int)<=(q:Int):=by omega
        obtain⟨g,c,W',b2,ho,-,hb⟩:=ql7 l.own l.bel.size (by omega) q
        have HF:Hid (∃zs,AQ8 w5 W' S n (i+1) (some ⟨g,0,none⟩) c zs):=⟨_,l.more q hb ho ⟨by omega,by omega⟩⟩
        clear ho hb l J g8;go_wp2_with(at_builtin;refine Lib.wpList_append_run _ rfl _ _ _ _ rfl _ _ rfl rfl _ _ b2 ?_)
        go_roundg (5 - (i+1))
        case measure=>omega
        case rel=>exact⟨i+1,_,_,rfl,by simp,by omega,Nat.le_refl _,HF⟩
       ·have g9:(S.tk:Int)<=(q:Int):=by omega
        obtain⟨g,c,W',b2,ho,-,hb⟩:=ql7 l.own l.bel.size (by omega) (q+1)
        have ey:((q+1:Nat):Int)=(q:Int)+1:=by omega
        rw[ey]at b2
        have HF:Hid (∃zs,AQ8 w5 W' S n (i+1) (some ⟨g,0,none⟩) c zs):=⟨_,l.more (q+1) hb ho ⟨by omega,by omega⟩⟩
        clear ho hb l J g8 ey;go_wp2_with(at_builtin;refine Lib.wpList_append_run _ rfl _ _ _ _ rfl _ _ rfl rfl _ _ b2 ?_)
        go_roundg (5 - (i+1))
        case measure=>omega
        case rel=>exact⟨i+1,_,_,rfl,by simp,by omega,Nat.le_refl _,HF⟩
      ·have i5:¬(i:Int)<5:=by omega
       go_wp2_with fail;go_meet;exact⟨i,sa,sc,rfl,hi,J⟩
     ·have c9:¬(i:Int)<(ln:Int):=by omega
      go_wp2_with fail;go_meet;exact⟨i,sa,sc,rfl,hi,J⟩
   case rest =>
    obtain⟨m,sa,sc,rfl,hm,J⟩:=hcut
    obtain⟨w6,m4⟩:∃w6,w6=wc:=⟨_,rfl⟩
    subst wc;clear d2;obtain⟨zs,l⟩:=J.out;have g5:=z8 l.own;have HQ:Hid (AQ8 w5 w6 S n m sa sc zs):=l;clear l J
    obtain⟨r,b8⟩:∃r,bh.tmod ((S.tk:Int)+1)=r:=⟨_,rfl⟩
    have b3:(0:Int)<(S.tk:Int)+1:=by omega
    have c8:(((S.tk:Int)+1) == 0)=false:=by rw[beq_eq_false_iff_ne];omega
    have hr:=vk bh ((S.tk:Int)+1) b3;rw[b8]at hr;obtain⟨h0,h4⟩:=hr
    obtain⟨e1,g2⟩:∃e1,r+(S.tk:Int)+1=e1:=⟨_,rfl⟩
    have f6:0<=e1.tmod ((S.tk:Int)+1):=Int.tmod_nonneg _ (by omega);have a7:=vk e1 ((S.tk:Int)+1) b3
    obtain⟨q,g7⟩:∃q:Nat,e1.tmod ((S.tk:Int)+1)=(q:Int):=⟨(e1.tmod ((S.tk:Int)+1)).toNat,by omega⟩
    have k5:q<=S.tk:=by omega
    have g3:-700<=e1:=by omega
    have g4:e1<=700:=by omega
    have d0:-301<=r:=by omega
    have d1:r<=301:=by omega
    clear a7 f6
    have f9:Hid (∀q,RGT w (w6.drewN q) h S n s I O/\Row (w6.drewN q) 1 sa m sc (natC zs)):=fun q=>⟨(H5.out.step HQ.out.bel).step (yh (Below.refl _ _) q),(Row.of_own HQ.out.own).below (yh (Below.refl _ _) q)⟩
    obtain⟨c0,-⟩:=sbox (H5.out.step HQ.out.bel).2.1;have mx:=qay
    go_upto_region 24 with fail
    go_quiet (fail);have a3:=f9.out nq;clear f9 c0 g2 b8 g7 h0 h4 g3 g4 d0 d1 b3 c8;generalize w6.drewN nq=w7 at a3 ⊢;have a3:Hid (RGT w w7 h S n s I O/\Row w7 1 sa m sc (natC zs)):=a3
    have HZ:Hid (zs.length=m/\∀z∈zs,z<n/\z≠S.tk):=⟨HQ.out.len,HQ.out.rng⟩
    have f8:Hid (Calls Tryz.prog 19 #[.pointer (some ⟨I,0,none⟩),.slice sa m sc,.int .i64 (q:Int)] w7 fun e W'=>Told w7 W' (S.tk+1) (fun t=>FstL S zs t\/((∀z∈zs,Nul S z)/\(t:Int)=(q:Int))) e):=by
     obtain⟨-,-,⟨B,p,E,WL,N⟩,-⟩:=a3.out.1;exact qck w7 B I n p E S WL N zs sa m sc HZ.out.1 (by omega) a3.out.2 HZ.out.2 (q:Int) (.inr ⟨by omega,by omega⟩)
    obtain⟨u,HU⟩:∃u:Nat,Hid ((∀V:World,Below w7.heap.size w7 V->Calls Tryz.prog 37 #[.pointer (some ⟨O,0,none⟩),.slice sa m sc,.int .i64 (q:Int)] V fun e H=>e=.returned (.int .u64 (u:Int))/\Below V.heap.size V H)/\u<2 ^ 64/\IsL (S.tk+1) (fun t=>FstL S zs t\/((∀z∈zs,Nul S z)/\(t:Int)=(q:Int))) (upTo (fun t=>u.testBit t) 64)):=by
     obtain⟨-,-,-,B,p,E,F,G,hr,ht⟩:=a3.out.1;have l0:=HX.out.2.1;refine⟨_,fun V Q=>ubu V B O p h S n E F G (hr.below Q) ht.flt zs sa m sc HZ.out.1 (by omega) (a3.out.2.below Q) (fun z hz=>(HZ.out.2 z hz).1) q (by omega),ucx ht.flt zs (by omega),uas (by omega) (ucn ht zs q) (fun t l=>?_)⟩
     rcases l with l | ⟨-,l⟩
     ·have:=l.lt;omega
     ·omega
    obtain⟨lu,d8⟩:∃lu,Hid (upTo (fun t=>u.testBit t) 64=lu):=⟨_,rfl⟩
    have f7:Hid (∀V:World,Calls Tryz.prog 36 #[.int .u64 (u:Int)] V fun e H=>∃la lc,e=.returned (.slice la lu.length lc)/\H.ownsRow V.heap.size 3 1 (.slice la lu.length lc) lu.length (natC lu)/\Below V.heap.size V H):=fun V=>by rw[<-d8.out];exact uao V u HU.out.2.1
    have i2:Hid (IsL (S.tk+1) (fun t=>FstL S zs t\/((∀z∈zs,Nul S z)/\(t:Int)=(q:Int))) lu):=by rw[<-d8.out];exact HU.out.2.2
    have g1:Hid (∀V:World,Below w7.heap.size w7 V->Calls Tryz.prog 37 #[.pointer (some ⟨O,0,none⟩),.slice sa m sc,.int .i64 (q:Int)] V fun e H=>e=.returned (.int .u64 (u:Int))/\Below V.heap.size V H):=HU.out.1;clear HU d8;go_wp2_with fail;refine f8.out.mono ?_;rintro e U ⟨T,pA,qA,rfl,M,k,j⟩
    have v:Hid (IsL (S.tk+1) (fun t=>FstL S zs t\/((∀z∈zs,Nul S z)/\(t:Int)=(q:Int))) T/\Row U 1 pA T.length qA (natC T)/\Below w7.heap.size w7 U):=⟨M,Row.of_own k,j⟩
    have a5:=z8 k;clear M k j f8;go_wp2_with fail;refine(g1.out U v.out.2.2).mono ?_;rintro e VB ⟨rfl,f⟩
    have P:Hid (Row VB 1 pA T.length qA (natC T)/\Below w7.heap.size w7 VB):=⟨v.out.2.1.below f,qd v.out.2.2 f⟩
    clear f g1;go_wp2_with fail;refine(f7.out VB).mono ?_;rintro e Y ⟨la,b9,rfl,a6,a4⟩
    have HC:Hid (Row Y 1 pA T.length qA (natC T)/\Row Y 1 la lu.length b9 (natC lu)/\Below w7.heap.size w7 Y):=⟨P.out.1.below a4,Row.of_own a6,qd P.out.2 a4⟩
    have k4:=z8 a6;clear a6 a4 f7 P;go_wp2_with fail;refine(yl (by omega) v.out.1 i2.out HC.out.1 HC.out.2.1).mono ?_;rintro e VD ⟨rfl,K⟩;have HF:Hid (Below w.heap.size w VD):=qd (qd a3.out.1.1 HC.out.2.2) K;clear K HC v;go_wp2_with fail;go_ret;exact⟨rfl,HF.out⟩
end Go.Proofs.YtngclmglmhiljaaGreatDoor
namespace Go.Proofs.YtngclmglmhiljaaGreatDoor.Rules
open Go.RowKit
def TT (w W:World) (h:SHd) (S:Sp) (n b1 fy fr:Nat):Prop:=Below w.heap.size w W/\W.heap[b1]?=some (.cells (sC h S) 31 (0,0))/\IsSp W h S/\∃dy dr:List Bool,dy.length=n/\dr.length=n/\W.ownsRow 0 4 1 (.slice (some ⟨fy,0,none⟩) n n) n (booC dy)/\W.ownsRow 0 4 1 (.slice (some ⟨fr,0,none⟩) n n) n (booC dr)/\ko (Rch S) dr
theorem walk(a0 a1:Int)(M:Option Addr)(n2 k2:Nat)(N:Option Addr)(n3 k3:Nat)(z3:List Int)(a4:Int)(w:World)(hp:Pow w)(hM:RawM w M n2 k2)(hL:RawI w N n3 k3 z3):Calls Tryz.prog 4 #[.int .i64 a0,.int .i64 a1,.slice M n2 k2,.slice N n3 k3,.int .i64 a4] w fun e a=>e=.returned (.bool true)/\Below w.heap.size w a:=by
 have HI:Hid (RawM w M n2 k2/\RawI w N n3 k3 z3):=⟨hM,hL⟩
 clear hM hL;go_enter Tryz.func4,Tryz.ntmps4;go_wp2_with fail;refine(qku w hp).mono ?_;rintro e R ⟨rfl,F⟩;have Q:Hid (Calls Tryz.prog 14 #[.int .i64 a0,.int .i64 a1,.slice M n2 k2] R fun e a=>∃h S,e=.returned (.agg (sC h S))/\(WF S/\Few S)/\IsSp a h S/\Below R.heap.size R a):=ubd a0 a1 M n2 k2 R (HI.out.1.below F);have O:Hid (Below w.heap.size w R):=F;clear F hp;go_wp2_with fail;refine Q.out.mono ?_;rintro e T ⟨h0,z,rfl,⟨K,k⟩,p,Y⟩;have g:Hid (Calls Tryz.prog 13 #[.agg (sC h0 z)] T fun e a=>∃h' fd,e=.returned (.agg (sC h' (uae z fd)))/\IsSp a h' (uae z fd)/\Below T.heap.size T a):=ube T h0 z _ rfl K k p
 have H2:Hid (Below w.heap.size w T/\WF z/\Few z):=⟨qd O.out Y,K,k⟩
 clear Y Q O K k p;generalize sC h0 z=g0 at g ⊢;go_wp2_with fail;refine g.out.mono ?_;rintro e j ⟨h,fd,rfl,p,Y⟩
 obtain⟨S,hS⟩:∃S,uae z fd=S:=⟨_,rfl⟩
 have v:Hid (Below w.heap.size w j/\WF S/\Few S/\IsSp j h S):=by
  rw[<-hS];exact⟨qd H2.out.1 Y,ucj H2.out.2.1 fd,ucd H2.out.2.2 fd,p⟩
 rw[hS];clear Y p hS g H2
 obtain⟨n,a5⟩:∃n,n=S.tk+1+S.nt:=⟨_,rfl⟩
 have HN:Hid (n=S.tk+1+S.nt):=a5;have b4:S.tk<=6:=v.out.2.2.1.1;have b3:S.nt<=200:=v.out.2.1.nt
 have b5:S.tk<n:=by omega
 have hn:n<=301:=by omega
 clear a5;have hv:Below j.heap.size j (j.alloc (.cells #[.int .i64 (S.tk:Int),.int .i64 (S.nt:Int),.int .i64 (S.st:Int),.int .i64 S.ex,.slice h.na S.nm.length h.nc,.slice h.la S.lv.length h.lc,.slice h.aa S.az.length h.ac,.slice h.ra S.rs.length h.rc] 31)):=qb _ _;have hw:(j.alloc (.cells #[.int .i64 (S.tk:Int),.int .i64 (S.nt:Int),.int .i64 (S.st:Int),.int .i64 S.ex,.slice h.na S.nm.length h.nc,.slice h.la S.lv.length h.lc,.slice h.aa S.az.length h.ac,.slice h.ra S.rs.length h.rc] 31)).heap[j.heap.size]?=some (.cells (sC h S) 31 (0,0)):=heap_alloc_new _ _
 have c:Hid (Below w.heap.size w (j.alloc (.cells #[.int .i64 (S.tk:Int),.int .i64 (S.nt:Int),.int .i64 (S.st:Int),.int .i64 S.ex,.slice h.na S.nm.length h.nc,.slice h.la S.lv.length h.lc,.slice h.aa S.az.length h.ac,.slice h.ra S.rs.length h.rc] 31))/\(j.alloc (.cells #[.int .i64 (S.tk:Int),.int .i64 (S.nt:Int),.int .i64 (S.st:Int),.int .i64 S.ex,.slice h.na S.nm.length h.nc,.slice h.la S.lv.length h.lc,.slice h.aa S.az.length h.ac,.slice h.ra S.rs.length h.rc] 31)).heap[j.heap.size]?=some (.cells (sC h S) 31 (0,0))/\IsSp (j.alloc (.cells #[.int .i64 (S.tk:Int),.int .i64 (S.nt:Int),.int .i64 (S.st:Int),.int .i64 S.ex,.slice h.na S.nm.length h.nc,.slice h.la S.lv.length h.lc,.slice h.aa S.az.length h.ac,.slice h.ra S.rs.length h.rc] 31)) h S):=⟨qd v.out.1 hv,hw,v.out.2.2.2.below hv⟩
 clear hv hw;unfold sC
 go_upto_region 5 with fail
 generalize j.alloc (.cells #[.int .i64 (S.tk:Int),.int .i64 (S.nt:Int),.int .i64 (S.st:Int),.int .i64 S.ex,.slice h.na S.nm.length h.nc,.slice h.la S.lv.length h.lc,.slice h.aa S.az.length h.ac,.slice h.ra S.rs.length h.rc] 31)=s at c ⊢;generalize j.heap.size=b at c ⊢;obtain⟨c0,c1,c2,c3,c4,c5,c6,c7⟩:=sbox c.out.2.1
 have t:Hid (∀V,Below s.heap.size s V->V.cell? ⟨b,0,none⟩=some (.int .i64 (S.tk:Int))/\V.cell? ⟨b,1,none⟩=some (.int .i64 (S.nt:Int))/\V.cell? ⟨b,2,none⟩=some (.int .i64 (S.st:Int))/\V.cell? ⟨b,3,none⟩=some (.int .i64 S.ex)/\V.cell? ⟨b,4,none⟩=some (.slice h.na S.nm.length h.nc)/\V.cell? ⟨b,5,none⟩=some (.slice h.la S.lv.length h.lc)/\V.cell? ⟨b,6,none⟩=some (.slice h.aa S.az.length h.ac)/\V.cell? ⟨b,7,none⟩=some (.slice h.ra S.rs.length h.rc)):=fun V X=>sbox (qf X c.out.2.1)
 have C:Hid (∀V:World,Below s.heap.size s V->Calls Tryz.prog 15 #[.agg #[.int .i64 (S.tk:Int),.int .i64 (S.nt:Int),.int .i64 (S.st:Int),.int .i64 S.ex,.slice h.na S.nm.length h.nc,.slice h.la S.lv.length h.lc,.slice h.aa S.az.length h.ac,.slice h.ra S.rs.length h.rc]] V fun e a=>BRes V a n (Der S) e):=fun V X=>qi5 V h S n HN.out v.out.2.1 (c.out.2.2.below X)
 have B:Hid (∀V:World,Below s.heap.size s V->Calls Tryz.prog 16 #[.agg #[.int .i64 (S.tk:Int),.int .i64 (S.nt:Int),.int .i64 (S.st:Int),.int .i64 S.ex,.slice h.na S.nm.length h.nc,.slice h.la S.lv.length h.lc,.slice h.aa S.az.length h.ac,.slice h.ra S.rs.length h.rc]] V fun e a=>BRes V a n (Rch S) e):=fun V X=>qhq V h S n HN.out v.out.2.1 (c.out.2.2.below X)
 go_cut [13,14] (fun s13 s14 wd=>∃E D:Nat,s13=.slice (some ⟨E,0,none⟩) n n/\s14=.slice (some ⟨D,0,none⟩) n n/\Hid (TT w wd h S n b E D))
 case first =>
  go_region_held (fun a=>a.cell? ⟨b,0,none⟩=some (.int .i64 (S.tk:Int))/\a.cell? ⟨b,1,none⟩=some (.int .i64 (S.nt:Int))/\a.cell? ⟨b,2,none⟩=some (.int .i64 (S.st:Int))/\a.cell? ⟨b,3,none⟩=some (.int .i64 S.ex)/\a.cell? ⟨b,4,none⟩=some (.slice h.na S.nm.length h.nc)/\a.cell? ⟨b,5,none⟩=some (.slice h.la S.lv.length h.lc)/\a.cell? ⟨b,6,none⟩=some (.slice h.aa S.az.length h.ac)/\a.cell? ⟨b,7,none⟩=some (.slice h.ra S.rs.length h.rc)) (first | exact t.out _ (qk _) | exact t.out _ d.out | exact t.out _ f.out) (first
   | (go_at_call 15;refine(C.out _ (by first | exact f.out | exact qk _)).mono ?_;clear C;rintro e VA ⟨E,dy,rfl,u,o,b6,G⟩;have d:Hid (Below s.heap.size s VA):=(by first | exact qd f.out G | exact qd (qk _) G))
   | (go_at_call 16;refine(B.out _ (by first | exact d.out | exact qk _)).mono ?_;clear B;rintro e VB ⟨D,U,rfl,l,m,q,H⟩;have f:Hid (Below s.heap.size s VB):=(by first | exact qd d.out H | exact qd (qk _) H)))
  all_goals
   go_wp2_with fail;go_meet
   first
    | exact⟨E,D,rfl,rfl,qd c.out.1 f.out,qf f.out c.out.2.1,c.out.2.2.below f.out,dy,U,u,l,zd (zw o H) (Nat.zero_le _),zd m (Nat.zero_le _),q⟩
    | exact⟨E,D,rfl,rfl,qd c.out.1 d.out,qf d.out c.out.2.1,c.out.2.2.below d.out,dy,U,u,l,zd o (Nat.zero_le _),zd (zw m G) (Nat.zero_le _),q⟩
 case rest =>
  obtain⟨E,D,rfl,rfl,J0⟩:=hcut
  obtain⟨w1,b7⟩:∃w1,w1=wc:=⟨_,rfl⟩
  subst wc;have L:Hid (TT w w1 h S n b E D):=J0;clear J0 c0 c1 c2 c3 c4 c5 c6 c7 t C B c;obtain⟨c0,c1,c2,c3,c4,c5,c6,c7⟩:=sbox L.out.2.1
  have P:Hid (∀x,S.tk<x->x<S.tk+1->Rch S x):=fun x h1 h2=>by omega
  go_wp2_with fail
  go_loopg [15] n (fun kx s15 wr=>∃i:Nat,s15=.int .i64 i/\S.tk+1<=i/\i<=n/\n - i<=kx/\Hid (wr=w1/\∀x,S.tk<x->x<i->Rch S x))
  case atStart=>exact⟨S.tk+1,by simp,Nat.le_refl _,by omega,by omega,(⟨rfl,P.out⟩:w1=w1/\_)⟩
  case round =>
   obtain⟨i,rfl,b0,b2,hg,J⟩:=hrel;obtain⟨a9,a6⟩:=J.out;subst a9;have g:Hid (∀x,S.tk<x->x<i->Rch S x):=a6;clear J a6 P
   by_cases I:i<n
   ·have a3:(i:Int)<(n:Int):=by omega
    obtain⟨-,-,-,dy,U,u,l,o,m,q⟩:=L.out;have L2:=qrm o I;have L1:=qrm m I
    have A:Hid (isF U i=true->∀x,S.tk<x->x<i+1->Rch S x):=fun hf x h1 h2=>by
     rcases Nat.lt_or_ge x i with h3 | h3
     ·exact g.out x h1 h3
     ·have:x=i:=by omega
      subst this;exact(q x true (by rw[vm (by rw[l];exact I),hf])).1 rfl
    have HF:Hid (Below w.heap.size w wr):=L.out.1;generalize isF dy i=y at L2;generalize isF U i=r at L1 A;clear o m q u l
    cases y
    ·go_wp2_with fail;go_ret;exact⟨rfl,HF.out⟩
    ·cases r
     ·go_wp2_with fail;go_ret;exact⟨rfl,HF.out⟩
     ·have HX:=A.out rfl;clear A;have HX:Hid (∀x,S.tk<x->x<i+1->Rch S x):=HX;go_wp2_with fail;go_roundg (n - (i+1))
      case measure=>omega
      case rel=>exact⟨i+1,by simp,by omega,by omega,Nat.le_refl _,(⟨rfl,HX.out⟩:wr=wr/\_)⟩
   ·have a3:¬(i:Int)<(n:Int):=by omega
    have a2:i=n:=by omega
    have a7:Hid (NSp S n):=uck v.out.2.1 v.out.2.2.1 HN.out (fun x h1 h2=>g.out x h1 (by rw[a2];exact h2))
    clear a2;have a8:Hid (Calls Tryz.prog 12 #[.agg #[.int .i64 (S.tk:Int),.int .i64 (S.nt:Int),.int .i64 (S.st:Int),.int .i64 S.ex,.slice h.na S.nm.length h.nc,.slice h.la S.lv.length h.lc,.slice h.aa S.az.length h.ac,.slice h.ra S.rs.length h.rc],.slice N n3 k3,.int .i64 a4] wr fun e a=>e=.returned (.bool true)/\Below wr.heap.size wr a):=ubf wr h S n a7.out (by omega) L.out.2.2.1 N n3 k3 z3 (HI.out.2.below L.out.1) a4;go_wp2_with fail;refine a8.out.mono ?_;rintro e V6 ⟨rfl,Z⟩;have HF:Hid (Below w.heap.size w V6):=qd L.out.1 Z;clear Z;go_wp2_with fail;go_ret;exact⟨rfl,HF.out⟩
end Go.Proofs.YtngclmglmhiljaaGreatDoor.Rules
namespace Go.Proofs.YtngclmglmhiljaaGreatDoor.Rules
open Go.ChangeShapes Go.WideShapes Go.ChangeAt Go.RowKit
open Go.ChangeMaps (open_string shut_string)

theorem lifted(os : Os)(c : os.Started)(H : Type)(enc : TypeId × Value -> H):
    ReturnsInHanded {} Tryz.checked os 4 .any (fun w args => (Rows.firstRulesSpec.pre enc Tryz.prog Tryz.f4 [] false w args /\ laidMetH Tryz.prog qg3 w) /\ sizedMet enc Tryz.prog Tryz.f4 (OpenSpec.ofChange Rows.firstRulesSpec) false w args) (Rows.firstRulesSpec.post enc Tryz.prog Tryz.f4 false true false false) := by
  refine returnsInHanded_of_change_and (C := Tryz.checked) (X := fun w _ => laidMetH Tryz.prog qg3 w) (fun _ _ _ Y h => h.of_heap Y) own c (by kernel_rfl) Tryz.func4
    (ChangeSpec.witness_shaped (enc := enc) (C := Tryz.checked) (os := os) (X := fun w _ => laidMetH Tryz.prog qg3 w) false (World.doorLaid Tryz.prog 136 os) #[.int .i64 0, .int .i64 0, .slice none 0 0, .slice none 0 0, .int .i64 0] 8 rfl (World.shaped_of_RefB (by kernel_rfl) (by kernel_rfl)) (by kernel_rfl) (by kernel_rfl) (by kernel_rfl) (qqv os _)) ?_
  intro W d args K gs l b z _ _ T _;have a : ∀(j : Nat) t v, Tryz.f4.params[j]? = some t -> args[j]? = some v -> Value.okWide Tryz.prog W .any d t v := b;have g := z;obtain⟨p, q, f, U, rfl, _, _⟩ := z;have y : DataW.TrodAll enc Tryz.prog W 0 (fun _ => true) true Tryz.f4.params.toList args.toList K p := f;rw[Tryz.params4]at y a;obtain⟨v0, a2, d0, L, p0, q0, _, rfl, rfl, Q, r0⟩ := trodAll_cons y;obtain⟨v1, a3, d1, M, p1, q1, rfl, rfl, rfl, R, r1⟩ := trodAll_cons r0;obtain⟨v2, a5, d2, N, p2, q2, rfl, rfl, rfl, s, r2⟩ := trodAll_cons r1;obtain⟨v3, a6, d3, O, p3, q3, rfl, rfl, rfl, u, r3⟩ := trodAll_cons r2;obtain⟨v4, a7, d4, P, p4, q4, rfl, rfl, rfl, S, r4⟩ := trodAll_cons r3;obtain⟨rfl, rfl, rfl⟩ := trodAll_nil r4
  obtain rfl : args = #[v0, v1, v2, v3, v4] := by cases args; simp_all
  obtain⟨rfl, rfl⟩ := trodVars_none U;obtain⟨F, rfl, rfl, rfl, w0⟩ := open_int Tryz.underlying3 (a 0 3 v0 rfl rfl) Q;obtain⟨G, rfl, rfl, rfl, w1⟩ := open_int Tryz.underlying3 (a 1 3 v1 rfl rfl) R;have A := s
  have o : ∀x ∈ p2, x.block < W.heap.size := by obtain⟨m, n⟩ := A; exact DataW.trod_lt m _ _ _ n
  obtain⟨D, Z, c2, rfl⟩ := okWide_slice Tryz.underlying38 (a 2 38 v2 rfl rfl);obtain⟨-, i⟩ := ubx s;have B := u
  have r : ∀x ∈ p3, x.block < W.heap.size := by obtain⟨m, n⟩ := B; exact DataW.trod_lt m _ _ _ n
  obtain⟨E, n3, J, rfl⟩ := okWide_slice Tryz.underlying26 (a 3 26 v3 rfl rfl);obtain⟨z3, k⟩ := ub5 u;obtain⟨I, rfl, rfl, rfl, w4⟩ := open_int Tryz.underlying3 (a 4 3 v4 rfl rfl) S;clear f b;simp only[List.append_nil]at g
  refine(walk F G D Z c2 E n3 J z3 I W (qlu T) i k ).mono fun e W' ⟨V, bel⟩ => ?_
  subst V;exact⟨_, rfl, _, _, _, [], _, [], g, trodAll_mk1 (shut_bool Tryz.underlying4 _), (trodAll_cons_mk (shut_int Tryz.underlying3 w0) (trodAll_cons_mk (shut_int Tryz.underlying3 w1) (trodAll_cons_mk (Below.trod qo7 (by kernel_rfl) (of_decide_eq_true (by kernel_rfl)) A bel o) (trodAll_cons_mk (Below.trod qo7 (by kernel_rfl) (of_decide_eq_true (by kernel_rfl)) B bel r) (trodAll_cons_mk (shut_int Tryz.underlying3 w4) trodAll_mk0))))), rfl, bel.frame _, fun h => by cases h⟩

theorem over: Rows.firstRulesRow.holds Tryz.pinned (OpenSpec.ofChange Rows.firstRulesSpec) :=
  OpenClaim.holds_of_wide 4 Tryz.f4 rfl rfl rfl rfl rfl rfl rfl ⟨rfl, rfl, rfl, rfl, rfl⟩ rfl rfl rfl rfl rfl (by kernel_rfl) Tryz.func4 (by kernel_rfl)
    (of_decide_eq_true (by kernel_rfl)) (by unfold Func.isWrapper; first | (rw[if_pos (by decide +kernel)]; kernel_rfl) | (rw[if_neg (by decide +kernel)]; exact⟨rfl, rfl⟩))
    (fun os a H enc _ => lifted os a H enc)

theorem card: Claim7.holds Tryz.pinned (.plain (OpenSpec.ofChange Rows.firstRulesSpec)) Rows.firstRulesCard :=
  Claim7.holds_tied_plain_at .later [] [.data, .data, .data, .sentinel, .sentinel] true (true, "452abb9618eebf26fc9e01cab527c591e73f20c162a4812a8340780f19967501") true
    over (fun _ h => by cases h) (by kernel_rfl) (fun _ h => by cases h) firstRules_row_tie rfl ⟨rfl, rfl⟩ (by kernel_rfl) rfl
    (fun f d g b => by
      obtain rfl : f = 4 := Option.some.inj ((show Tryz.prog.funcNamed "donatus/donatuslaw8.FirstRules" = some 4 by kernel_rfl).symm.trans g) |>.symm
      obtain rfl : d = Tryz.f4 := (Option.some.inj (Tryz.func4.symm.trans b)).symm
      exact⟨by kernel_rfl, fun j t c => by
        rw[Tryz.params4]at c
        have i : t ∈ ([3, 3, 38, 26, 3] : List TypeId) := by simpa using Array.mem_of_getElem? c
        have a : (([3, 3, 38, 26, 3] : List TypeId).all fun u => !Tryz.prog.wantsStandIn u) = true := by kernel_rfl
        exact(show Tryz.prog.wantsStandIn t = false by simpa using List.all_eq_true.1 a t i)⟩)
    (by kernel_rfl)

end Go.Proofs.YtngclmglmhiljaaGreatDoor.Rules
namespace Go.Proofs.YtngclmglmhiljaaGreatDoor
theorem firstRules_holds: Rows.FirstRulesCardSaid := Rules.card
#print axioms firstRules_holds
end Go.Proofs.YtngclmglmhiljaaGreatDoor
