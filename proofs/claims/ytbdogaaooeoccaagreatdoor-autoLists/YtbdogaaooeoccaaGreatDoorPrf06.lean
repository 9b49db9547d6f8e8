/- Texts that the proofs of the Auto statements stand on, part Prf06. -/
import Derived.Deep.SlicePairs
import Derived.Deep.Strs
import Derived.Deep.RegionHeld
import Derived.Deep.RegionLaw
import Derived.Test.YtbdogaaooeoccaaGreatDoorPrf05
set_option maxHeartbeats 16000000
set_option maxRecDepth 100000
namespace Go.Proofs.YtbdogaaooeoccaaGreatDoor
open Go.RowKit
structure Szs (S:Sp) (n:Nat):Prop where
 nm:S.nm.length=n
 nn:n=S.tk+1+S.nt
 tk:S.tk<=100
 nt:S.nt<=200
theorem WF.szs{S:Sp}(h:WF S):Szs S (S.tk+1+S.nt):=⟨h.nm,rfl,h.tk,h.nt⟩
theorem qcu(h:SHd)(S:Sp)(w:World)(n:Nat)(c:Szs S n):
  Calls Tryz.prog 63 #[sv h S] w fun e i=>e=.returned (.int .i64 (n:Int))/\Below w.heap.size w i:=by
 obtain⟨a,rfl,r,q⟩:=c;obtain⟨g,f,C,m,y,d,b,rs⟩:=S;obtain⟨v,x,s,t,j,k,z,A⟩:=h;unfold sv sC
 simp only at *
 rw[a];generalize d.length=u;generalize b.length=l;generalize rs.length=B;clear a
 have o:¬(g:Int)<0:=by omega
 have p:¬(f:Int)<0:=by omega
 go_enter Tryz.func63,Tryz.ntmps63;go_wp2_with fail;go_ret;exact⟨by simp,qb _ _⟩
theorem qcn(h:SHd)(S:Sp)(w:World)(n x:Nat)(g:Szs S n)(i:x<n):
  Calls Tryz.prog 65 #[sv h S,.int .i64 (x:Int)] w fun e a=>e=.returned (.bool true)/\Below w.heap.size w a:=by
 have b:Hid (∀W:World,Calls Tryz.prog 63 #[sv h S] W fun e a=>e=.returned (.int .i64 (n:Int))/\Below W.heap.size W a):=fun W=>qcu h S W n g
 unfold sv sC at *
 have d:(x:Int)<(n:Int):=by omega
 have f:(0:Int)<=(x:Int):=by omega
 go_enter Tryz.func65,Tryz.ntmps65;go_wp2_with fail;refine(b.out _).mono ?_;rintro e w1 ⟨rfl,c⟩;go_wp2_with fail;go_ret;exact⟨rfl,qd (qb _ _) c⟩
theorem qh9(h:SHd)(S:Sp)(w:World)(n x:Nat)(g:Szs S n)(f:x<n)(i:S.tk<x):
  Calls Tryz.prog 64 #[sv h S,.int .i64 (x:Int)] w fun e a=>e=.returned (.bool true)/\Below w.heap.size w a:=by
 have b:Hid (∀W:World,Calls Tryz.prog 65 #[sv h S,.int .i64 (x:Int)] W fun e a=>e=.returned (.bool true)/\Below W.heap.size W a):=fun W=>qcn h S W n x g f
 unfold sv sC at *
 have d:(S.tk:Int)<(x:Int):=by omega
 go_enter Tryz.func64,Tryz.ntmps64;go_wp2_with fail;refine(b.out _).mono ?_;rintro e w1 ⟨rfl,c⟩;go_wp2_with fail;go_ret;exact⟨rfl,qd (qb _ _) c⟩
theorem qfe(h:SHd)(S:Sp)(w:World):
  Calls Tryz.prog 64 #[sv h S,.int .i64 (-1)] w fun e b=>e=.returned (.bool false)/\Below w.heap.size w b:=by
 unfold sv sC at *
 have a:¬(S.tk:Int) < -1:=by omega
 go_enter Tryz.func64,Tryz.ntmps64;go_wp2_with fail;go_ret;exact⟨rfl,qb _ _⟩
theorem qfu(n:Nat):(madeCells (Value.bool false).cells (n * 1)).toList=booC (List.replicate n false):=by
 have e:(Value.bool false).cells=#[.bool false]:=rfl;rw[Nat.mul_one,e,toList_madeCells_one];unfold booC;rw[List.map_replicate]
theorem qc3(w:World)(n:Nat)(q:n<=1000):
  Calls Tryz.prog 62 #[.int .i64 (n:Int)] w fun e j=>∃i m,e=.returned (.pointer (some ⟨i,0,none⟩))/\Mrk j w.heap.size i m none 0 (List.replicate n false) []/\Below w.heap.size w j:=by
 obtain⟨p,h,a,b,c⟩:=info_parts i4;obtain⟨w1,r,d,g⟩:=run_make_full (P:=Tryz.prog) w w.heap.size 51 4 p _ 1 u51 h a b .i64 .i64 n (by rw[c];omega) (by unfold maxLen;omega) (Nat.le_refl _)
 rw[qfu]at d
 have l:Hid (Mrk (w1.alloc (.cells #[.slice (some ⟨w.heap.size,0,none⟩) n n,.slice none 0 0] 109)) w.heap.size w1.heap.size w.heap.size none 0 (List.replicate n false) []/\Below w.heap.size w (w1.alloc (.cells #[.slice (some ⟨w.heap.size,0,none⟩) n n,.slice none 0 0] 109))):=by
  have f:=(Below.refl w.heap.size w).grown g (Nat.le_refl _) (fun k o=>by cases o);refine⟨⟨?_,?_,World.ownsRow_nil _ _ _ _,f.size⟩,qd f (qb _ _)⟩
  ·rw[List.length_replicate];exact heap_alloc_new _ _
  ·rw[List.length_replicate];exact d.alloc _
 clear d g h a b c;go_enter Tryz.func62,Tryz.ntmps62;go_wp2_with fail;go_ret;exact⟨_,_,rfl,l.out⟩
def popW (W:World) (mb:Nat) (va:Option Addr) (m vc:Nat):World:=W.setCell ⟨mb,1,none⟩ (.slice va m vc)
theorem qia{α:Type}(l:List α)(h:l≠[]):∃a x,l=a++[x]:=⟨l.dropLast,l.getLast h,(List.dropLast_concat_getLast h).symm⟩
theorem qek(F:FuncId)(v:Array Value)(hE:∀(args:Array Value) (W:World),(callFunc F args).run Tryz.prog W=.ok (.enter F args) W)(u A n:Nat)(hn:n<=1000)(I:World->Option Addr->Nat->List Bool->List Nat->Prop)(Q:∀W l o fd i,I W l o fd i->MK n fd i/\∃P,Mrk W u A P l o fd i)(R:∀W l o fd i x,I W l o fd (i++[x])->Calls Tryz.prog F (#[.int .i64 (x:Int)]++v) (popW W A l i.length o) fun e t=>e=.returned (.tuple #[])/\∃d f a b,I t d f a b/\lft n a b<lft n fd (i++[x]))(W:World)(l:Option Addr)(o:Nat)(fd:List Bool)(i:List Nat)(h:I W l o fd i):
  Calls Tryz.prog 67 #[.pointer (some ⟨A,0,none⟩),.func (.func F) #[] v] W fun e t=>e=.returned (.tuple #[])/\∃d f a,I t d f a []:=by
 have U:=hid R;have T:=hid Q;have N:=hid h;clear R Q h;go_enter Tryz.func67,Tryz.ntmps67;go_wp2_with fail
 go_loopg [] (lft n fd i) (fun kx wr=>Hid (∃d f a b,I wr d f a b/\lft n a b<=kx))
 case atStart=>exact(⟨l,o,fd,i,N.out,Nat.le_refl _⟩:∃d f a b,I W d f a b/\lft n a b<=lft n fd i)
 case round =>
  clear N;obtain⟨r,B,V,p,y,K⟩:=hrel.out;obtain⟨q,P,s⟩:=T.out _ _ _ _ _ y
  have G:wr.cell? ⟨A,1,none⟩=some (.slice r p.length B):=by rw[qe s.box];rfl
  have Z:=qj s.box 1;have L:=q.le;have z:=zq s.frs
  by_cases J:p=[]
  ·subst J
   have E:Hid (∃d f a,I wr d f a []):=⟨_,_,_,y⟩
   have G:wr.cell? ⟨A,1,none⟩=some (.slice r 0 B):=G;clear s q y K hrel;go_wp2_with fail;go_end0;exact⟨rfl,E.out⟩
  ·obtain⟨j,x,rfl⟩:=qia p J
   have H:(j++[x]).length=j.length+1:=by simp
   rw[H]at G L z;have k:=s.frs;rw[H]at k
   obtain⟨g,rfl⟩:∃g,r=some ⟨g,0,none⟩:=by
    obtain⟨Y,c,e,-,-,C⟩:=zo k
    cases e
    rcases C with ⟨-,C,-⟩ | C
    ·omega
    ·exact C
   have c1:wr.cell? ⟨g,j.length,none⟩=some (.int .i64 (x:Int)):=by
    rw[k.cellAt j.length (by omega),jk,List.getElem?_append_right (by rw[j3];exact Nat.le_refl _),j3,Nat.sub_self]
    rfl
   have D:=hid (U.out _ _ _ _ _ _ y);have O:=hid K;unfold popW at D
   generalize j.length=m at *
   clear s q y K hrel k H J
   have m1:(0:Int)<(m:Int)+1:=by omega
   go_wp2_with fail;refine D.out.mono ?_;rintro e t ⟨rfl,d,f,a,b,S,M⟩
   have E:Hid (∃d f a b,I t d f a b/\lft n a b<=gk - 1):=⟨d,f,a,b,S,by have:=O.out;omega⟩
   have X:1<=gk:=by have:=O.out;omega
   clear S M D;go_wp2_with fail;go_roundg (gk - 1)
   case measure=>omega
   case rel=>exact E
def grC (vs:List (Option Addr × Nat)) (wt:List (List Nat)):List Value:=(vs.zip wt).map fun q=>.slice q.1.1 q.2.length q.1.2
structure Grd (W:World) (base wb:Nat) (vs:List (Option Addr × Nat)) (wt:List (List Nat)):Prop where
 len:vs.length=wt.length
 bod:W.ownsRow base 28 1 (.slice (some ⟨wb,0,none⟩) wt.length wt.length) wt.length (grC vs wt)
 row:∀(x:Nat) (p:Option Addr × Nat) (l:List Nat),vs[x]?=some p->wt[x]?=some l->W.ownsRow base 3 1 (.slice p.1 l.length p.2) l.length (natC l)
 dis:∀(x y:Nat) (p q:Option Addr × Nat) (k:Nat),x≠y->vs[x]?=some p->vs[y]?=some q->blk p.1=some k->blk q.1≠some k
def GR (vs:List (Option Addr × Nat)) (k:Nat):Prop:=∃(x:Nat) (p:Option Addr × Nat),vs[x]?=some p/\blk p.1=some k
theorem qho{W:World}{a E k n c:Nat}{d:Option Addr}{cs:List Value}(h:W.ownsRow a E k (.slice d n c) n cs){b:Nat}(f:blk d=some b):(Value.slice d n c).ownBlock=some b:=by
 rcases h.2 with ⟨hv,-⟩ | ⟨g,cap,cur,hv,-⟩
 ·cases hv;cases f
 ·cases hv;exact f
theorem qw{W:World}{a E k n c:Nat}{f:Option Addr}{cs:List Value}(h:W.ownsRow a E k (.slice f n c) n cs){b:Nat}(d:blk f=some b):a<=b/\b<W.heap.size/\Loc W b E :=
 ⟨(World.ownsRow.lt h b (qho h d)).1,(World.ownsRow.lt h b (qho h d)).2,za h (qho h d)⟩
theorem Grd.lt{W:World}{a j:Nat}{d:List (Option Addr × Nat)}{b:List (List Nat)}(h:Grd W a j d b){k:Nat}(g:GR d k):a<=k/\k<W.heap.size/\Loc W k 3:=by
 obtain⟨x,p,c,f⟩:=g
 have i:x<b.length:=by rw[<-h.len];exact(List.getElem?_eq_some_iff.1 c).1
 exact qw (h.row x p b[x] c (List.getElem?_eq_getElem i)) f
theorem Grd.loc{W:World}{a b:Nat}{c:List (Option Addr × Nat)}{d:List (List Nat)}(h:Grd W a b c d):a<=b/\b<W.heap.size/\Loc W b 28:=qw h.bod rfl
theorem Grd.keep{W c:World}{a b:Nat}{f:List (Option Addr × Nat)}{j:List (List Nat)}(h:Grd W a b f j)(m:c.heap[b]?=W.heap[b]?)(n:∀k,GR f k->c.heap[k]?=W.heap[k]?):Grd c a b f j:=by
 refine⟨h.len,?_,fun x p l g o=>?_,h.dis⟩
 ·exact qh h.bod (fun i d=>by cases d;exact m)
 ·exact qh (h.row x p l g o) (fun i d=>n i ⟨x,p,g,ze d⟩)
theorem Grd.kept{W d:World}{F:Nat->Prop}{a b:Nat}{c:List (Option Addr × Nat)}{g:List (List Nat)}(h:Grd W a b c g)(k:Kept F W d)(i:¬F b)(l:∀j,GR c j->¬F j):Grd d a b c g :=
 h.keep (k.block b h.loc.2.1 i) (fun j f=>k.block j (h.lt f).2.1 (l j f))
theorem Grd.below{W c:World}{a b:Nat}{d:List (Option Addr × Nat)}{f:List (List Nat)}(h:Grd W a b d f)(k:Below W.heap.size W c):Grd c a b d f :=
 h.keep (k.block b h.loc.2.1) (fun j g=>k.block j (h.lt g).2.1)
theorem Grd.at{W:World}{b c:Nat}{a:List (Option Addr × Nat)}{d:List (List Nat)}(h:Grd W b c a d){x:Nat}{l:List Nat}(f:d[x]?=some l):∃p,a[x]?=some p/\W.cell? ⟨c,x,none⟩=some (.slice p.1 l.length p.2)/\W.frozen? ⟨c,x,none⟩=false:=by
 have i:=(List.getElem?_eq_some_iff.1 f).1;have g:a[x]?=some (a[x]'(by rw[h.len];exact i)):=List.getElem?_eq_getElem _
 refine⟨_,g,?_,h.bod.frozenAt x⟩;rw[h.bod.cellAt x (by omega)];unfold grC
 have j:(a.zip d)[x]?=some (a[x]'(by rw[h.len];exact i),l):=by rw[List.getElem?_zip_eq_some];exact⟨g,f⟩
 rw[List.getElem?_map,j];rfl
theorem qdk{α β:Type}:∀{l:List α} {m:List β} {i:Nat} {x:α} {y:β},(l.set i x).zip (m.set i y)=(l.zip m).set i (x,y)
 | [],m,i,x,y=>by simp
 | a :: l,[],i,x,y=>by simp
 | a :: l,b :: m,0,x,y=>rfl
 | a :: l,b :: m,i+1,x,y=>by
  simp only[List.set_cons_succ,List.zip_cons_cons];rw[qdk]
theorem Kept.weaken{F G:Nat->Prop}{W a:World}(h:Kept F W a)(d:∀k,F k->G k):Kept G W a:=⟨h.os,h.tape,h.output,h.size,fun k b c=>h.block k b (fun e=>c (d k e))⟩
theorem Grd.add{W:World}{d a:Nat}{A:List (Option Addr × Nat)}{L:List (List Nat)}(h:Grd W d a A L)(Y:d<=W.heap.size){x i:Nat}{l:List Nat}{p:Option Addr × Nat}(M:L[x]?=some l)(H:A[x]?=some p)(hn:l.length<100000):
  ∃g c f,(Builtin.append_ #[28,28] 28 #[.slice p.1 l.length p.2,.slice (some ⟨W.heap.size,0,none⟩) 1 1]).run Tryz.prog (W.alloc (.cells #[.int .i64 (i:Int)] 3))=.ok (.slice (some ⟨g,0,none⟩) (l.length+1) c) f /\
   f.cell? ⟨a,x,none⟩=some (.slice p.1 l.length p.2)/\f.frozen? ⟨a,x,none⟩=false/\Kept (fun k=>blk p.1=some k) W f /\
   Grd (f.setCell ⟨a,x,none⟩ (.slice (some ⟨g,0,none⟩) (l.length+1) c)) d a (A.set x (some ⟨g,0,none⟩,c)) (L.set x (l++[i]))/\Kept (fun k=>k=a\/blk p.1=some k) W (f.setCell ⟨a,x,none⟩ (.slice (some ⟨g,0,none⟩) (l.length+1) c))/\(blk p.1=some g\/W.heap.size<=g):=by
 obtain⟨g,c,f,n,T,hk,Z⟩:=xy (us:=[.int .i64 (i:Int)]) u29 i3 rfl (by decide) (by decide) rfl (fun u V=>by rw[List.mem_singleton]at V;subst V;rfl) (h.row x p l H M) Y hn
 have X:=(List.getElem?_eq_some_iff.1 M).1
 have t:x<A.length:=by rw[h.len];exact X
 have K:=((Kept.refl _ W).alloc _).trans hk (fun k _ e=>ze e);have E:=Z.imp ze id
 have J:¬blk p.1=some a:=fun e=>qu (qw (h.row x p l H M) e).2.2 h.loc.2.2 (by decide) rfl
 have N:=qh h.bod (fun j C=>by cases C;exact K.block a h.loc.2.1 J)
 have P:g≠a:=fun e=>qu (za T rfl) (za N rfl) (by decide) e
 obtain⟨p',I,c1,-⟩:=h.at M;rw[H]at I
 cases I
 have c2:f.cell? ⟨a,x,none⟩=some (.slice p.1 l.length p.2):=by
  have:f.heap[a]?=W.heap[a]?:=K.block a h.loc.2.1 J;unfold World.cell? at c1 ⊢;rw[this];exact c1
 refine⟨g,c,f,n,c2,N.frozenAt x,K,⟨?_,?_,?_,?_⟩,?_,E⟩
 ·rw[List.length_set,List.length_set];exact h.len
 ·have s1:=(N.stored x (.slice (some ⟨g,0,none⟩) (l.length+1) c)).1;rw[List.length_set]
  have e:grC (A.set x (some ⟨g,0,none⟩,c)) (L.set x (l++[i]))=(grC A L).set x (.slice (some ⟨g,0,none⟩) (l.length+1) c):=by
   unfold grC;rw[qdk,List.map_set];simp
  rw[e];exact s1
 ·intro y q m b G;rw[List.getElem?_set]at b G
  by_cases R:x=y
  ·subst R;rw[if_pos rfl,if_pos t]at b;rw[if_pos rfl,if_pos X]at G
   cases b
   cases G
   rw[jk,List.length_append];exact qh T (fun j C=>by cases C;exact Below.heap_setCell _ _ _ _ P)
  ·rw[if_neg R]at b G;have o:=h.row y q m b G;refine qh o (fun j C=>?_);have F:=ze C;rw[Below.heap_setCell _ _ _ _ (qu (za o C) h.loc.2.2 (by decide)),K.block j (qw o F).2.1 (fun e=>h.dis x y p q j R H b e F)]
 ·intro y z q r k v b n O;rw[List.getElem?_set]at b n
  have old:∀(u:Nat) (s:Option Addr × Nat),A[u]?=some s->x≠u->blk s.1=some g->False:=by
   intro u s U Q D
   rcases E with B | B
   ·exact h.dis x u p s g Q H U B D
   ·have:=(h.lt ⟨u,s,U,D⟩).2.1;omega
  by_cases B:x=y
  ·subst B;rw[if_pos rfl,if_pos t]at b;rw[if_neg v]at n
   cases b
   cases O
   exact fun e=>old z r n v e
  ·rw[if_neg B]at b
   by_cases S:x=z
   ·subst S;rw[if_pos rfl,if_pos t]at n
    cases n
    intro e
    cases e
    exact old y q b B O
   ·rw[if_neg S]at n;exact h.dis y z q r k v b n O
 ·refine Kept.setCell (K.weaken (fun k e=>.inr e)) _ _ (fun _=>.inl rfl)
theorem qke{W:World}{B E g n c:Nat}{cs:List Value}{u:Value}(h:W.ownsRow B E 1 (.slice (some ⟨g,0,none⟩) (n+1) c) (n+1) (cs++[u])):W.ownsRow B E 1 (.slice (some ⟨g,0,none⟩) n c) n cs:=by
 have b:cs.length=n:=by have:=h.1;rw[List.length_append]at this;simpa using this
 rcases h.2 with ⟨hv,-⟩ | ⟨g',c',cur,hv,hb,hh,h1,h2,h3,h4⟩
 ·cases hv
 ·cases hv
  refine⟨by omega,.inr ⟨g,c,cur,rfl,hb,hh,by omega,h2,h3,?_⟩⟩;have a:=congrArg (List.take n) h4;rw[List.take_take,List.take_append_of_le_length (Nat.le_of_eq b.symm),List.take_of_length_le (Nat.le_of_eq b)]at a;rw[Nat.mul_one]at a ⊢;rw[Nat.min_eq_left (by omega)]at a;exact a
theorem Mrk.loc{W:World}{a f d j:Nat}{g:Option Addr}{fd:List Bool}{i:List Nat}(h:Mrk W a f d g j fd i){k:Nat}(c:MF f d g k):a<=k/\k<W.heap.size/\(Loc W k 109\/Loc W k 4\/Loc W k 3):=by
 rcases c with rfl | rfl | c
 ·exact⟨h.new,(Array.getElem?_eq_some_iff.1 h.box).1,.inl ⟨_,h.box⟩⟩
 ·have:=qw h.fnd (b:=k) rfl;exact⟨this.1,this.2.1,.inr (.inl this.2.2)⟩
 ·have:=qw h.frs c;exact⟨this.1,this.2.1,.inr (.inr this.2.2)⟩
theorem Mrk.notMF{W:World}{a d c n:Nat}{f:Option Addr}{fd:List Bool}{g:List Nat}(h:Mrk W a d c f n fd g){k T:Nat}(b:Loc W k T)(i:T≠109)(j:T≠4)(l:T≠3):¬MF d c f k:=by
 intro m
 rcases (h.loc m).2.2 with e | e | e
 ·exact qu b e i rfl
 ·exact qu b e j rfl
 ·exact qu b e l rfl
theorem Mrk.pop{W:World}{a b j m x:Nat}{d:Option Addr}{fd:List Bool}{k:List Nat}(h:Mrk W a b j d m fd (k++[x])):Mrk (popW W b d k.length m) a b j d m fd k/\MMv W b j d (popW W b d k.length m) d:=by
 have l:=h.frs;rw[List.length_append,jk]at l
 obtain⟨g,rfl⟩:∃g,d=some ⟨g,0,none⟩:=by
  obtain⟨r,c,e,-,-,f⟩:=zo l
  cases e
  rcases f with ⟨-,f,-⟩ | f
  ·exact absurd f (by simp)
  ·exact f
 have n:=qke l;have p:b≠j:=qu ⟨_,h.box⟩ (za h.fnd rfl) (by decide);have q:b≠g:=qu ⟨_,h.box⟩ (za l rfl) (by decide);refine⟨⟨?_,?_,?_,h.new⟩,(Kept.refl _ _).setCell _ _ (fun _=>.inl rfl),fun _ e=>.inl e⟩
 ·unfold popW;rw[setCell_eq_setRow W b 1 _ 109 (0,0) _ h.box];exact setRow_heap _ _ _ _ 109 _ h.box
 ·exact qh h.fnd (fun i o=>by cases o;exact Below.heap_setCell _ _ _ _ (Ne.symm p))
 ·exact qh n (fun i o=>by cases o;exact Below.heap_setCell _ _ _ _ (Ne.symm q))
theorem Mrk.keep{W j:World}{a c b m:Nat}{g:Option Addr}{fd:List Bool}{l:List Nat}(h:Mrk W a c b g m fd l)(f:∀k,MF c b g k->j.heap[k]?=W.heap[k]?):Mrk j a c b g m fd l :=
 ⟨by rw[f c (.inl rfl)];exact h.box,qh h.fnd (fun i d=>by cases d;exact f b (.inr (.inl rfl))),qh h.frs (fun i d=>f i (.inr (.inr (ze d)))),h.new⟩
structure YP where
 b1:Nat
 b3:Nat
 b5:Nat
 mb:Nat
 fb:Nat
 wb:Nat
structure YB (w W:World) (h:SHd) (S:Sp) (p:YP) (va:Option Addr) (vc:Nat) (vs:List (Option Addr × Nat)) (fd:List Bool) (fr:List Nat) (wt:List (List Nat)):Prop where
 bel:Below w.heap.size w W
 bs:W.heap[p.b1]?=some (.cells (sC h S) 31 (0,0))
 bm:W.heap[p.b3]?=some (.cells #[.pointer (some ⟨p.mb,0,none⟩)] 105 (0,0))
 bw:W.heap[p.b5]?=some (.cells #[.slice (some ⟨p.wb,0,none⟩) wt.length wt.length] 92 (0,0))
 mrk:Mrk W w.heap.size p.mb p.fb va vc fd fr
 grd:Grd W w.heap.size p.wb vs wt
 dis:∀k,GR vs k->blk va≠some k
theorem YB.mark{w W i:World}{h:SHd}{S:Sp}{p:YP}{t a:Option Addr}{C g:Nat}{u:List (Option Addr × Nat)}{fd d:List Bool}{x f:List Nat}{v:List (List Nat)}(y:YB w W h S p t C u fd x v)(B:Mrk i w.heap.size p.mb p.fb a g d f)(m:MMv W p.mb p.fb t i a):YB w i h S p a g u d f v:=by
 have n:∀{b T:Nat} {c:Array Value},W.heap[b]?=some (.cells c T (0,0))->T≠109->T≠4->T≠3->i.heap[b]?=some (.cells c T (0,0)):=fun o l z A=>by
  rw[m.1.block _ (Array.getElem?_eq_some_iff.1 o).1 (y.mrk.notMF ⟨_,o⟩ l z A)];exact o
 refine⟨y.bel.trans (m.1.below y.bel.size (fun k q e=>by have:=(y.mrk.loc e).1;omega)),n y.bs (by decide) (by decide) (by decide),n y.bm (by decide) (by decide) (by decide),n y.bw (by decide) (by decide) (by decide),B,?_,?_⟩
 ·refine y.grd.kept m.1 (y.mrk.notMF y.grd.loc.2.2 (by decide) (by decide) (by decide)) (fun j r e=>?_);have s:=(y.grd.lt r).2.2
  rcases e with rfl | rfl | e
  ·exact qu s ⟨_,y.mrk.box⟩ (by decide) rfl
  ·exact qu s (za y.mrk.fnd rfl) (by decide) rfl
  ·exact y.dis j r e
 ·intro k q e
  rcases m.2 k e with l | l
  ·exact y.dis k q l
  ·have:=(y.grd.lt q).2.1;omega
theorem YB.below{w W b:World}{h:SHd}{S:Sp}{p:YP}{d:Option Addr}{f:Nat}{g:List (Option Addr × Nat)}{fd:List Bool}{c:List Nat}{i:List (List Nat)}(y:YB w W h S p d f g fd c i)(a:Below W.heap.size W b):YB w b h S p d f g fd c i :=
 ⟨qd y.bel a,qf a y.bs,qf a y.bm,qf a y.bw,y.mrk.keep (fun k j=>a.block k (y.mrk.loc j).2.1),y.grd.below a,y.dis⟩
theorem YB.pop{w W:World}{h:SHd}{S:Sp}{p:YP}{b:Option Addr}{c x:Nat}{d:List (Option Addr × Nat)}{fd:List Bool}{a:List Nat}{f:List (List Nat)}(y:YB w W h S p b c d fd (a++[x]) f):YB w (popW W p.mb b a.length c) h S p b c d fd a f :=
 y.mark y.mrk.pop.1 y.mrk.pop.2
theorem YB.push{w W:World}{h:SHd}{S:Sp}{p:YP}{H:Option Addr}{I x i:Nat}{C:List (Option Addr × Nat)}{fd:List Bool}{D:List Nat}{f:List (List Nat)}{l:List Nat}{q:Option Addr × Nat}(y:YB w W h S p H I C fd D f)(u:f[x]?=some l)(o:C[x]?=some q)(M:l.length<100000):
  ∃g c a,(Builtin.append_ #[28,28] 28 #[.slice q.1 l.length q.2,.slice (some ⟨W.heap.size,0,none⟩) 1 1]).run Tryz.prog (W.alloc (.cells #[.int .i64 (i:Int)] 3))=.ok (.slice (some ⟨g,0,none⟩) (l.length+1) c) a /\
   a.cell? ⟨p.wb,x,none⟩=some (.slice q.1 l.length q.2)/\a.frozen? ⟨p.wb,x,none⟩=false/\a.cell? ⟨p.b5,0,none⟩=some (.slice (some ⟨p.wb,0,none⟩) f.length f.length) /\
   YB w (a.setCell ⟨p.wb,x,none⟩ (.slice (some ⟨g,0,none⟩) (l.length+1) c)) h S p H I (C.set x (some ⟨g,0,none⟩,c)) fd D (f.set x (l++[i]))/\Kept (fun k=>k=p.wb\/blk q.1=some k) W (a.setCell ⟨p.wb,x,none⟩ (.slice (some ⟨g,0,none⟩) (l.length+1) c))/\(blk q.1=some g\/W.heap.size<=g):=by
 obtain⟨g,c,a,N,c1,K,O,L,t,E⟩:=y.grd.add (i:=i) y.bel.size u o M
 have d:∀k,blk q.1=some k->Loc W k 3/\w.heap.size<=k:=fun k e=>⟨(y.grd.lt ⟨x,q,o,e⟩).2.2,(y.grd.lt ⟨x,q,o,e⟩).1⟩
 have G:∀{k T:Nat},Loc W k T->T≠28->T≠3->¬(k=p.wb\/blk q.1=some k):=fun u j A e=>by
  rcases e with rfl | e
  ·exact qu u y.grd.loc.2.2 j rfl
  ·exact qu u (d _ e).1 A rfl
 have v:∀{b T:Nat} {c':Array Value},W.heap[b]?=some (.cells c' T (0,0))->T≠28->T≠3->(a.setCell ⟨p.wb,x,none⟩ (.slice (some ⟨g,0,none⟩) (l.length+1) c)).heap[b]?=some (.cells c' T (0,0)):=fun m j A=>by
  rw[t.block _ (Array.getElem?_eq_some_iff.1 m).1 (G ⟨_,m⟩ j A)];exact m
 have J:a.heap[p.b5]?=some (.cells #[.slice (some ⟨p.wb,0,none⟩) f.length f.length] 92 (0,0)):=by
  rw[O.block _ (Array.getElem?_eq_some_iff.1 y.bw).1 (fun e=>G ⟨_,y.bw⟩ (by decide) (by decide) (.inr e))];exact y.bw
 refine⟨g,c,a,N,c1,K,by rw[qe J];rfl,⟨?_,v y.bs (by decide) (by decide),v y.bm (by decide) (by decide),?_,?_,L,?_⟩,t,E⟩
 ·refine y.bel.trans (t.below y.bel.size (fun k n e=>?_))
  rcases e with rfl | e
  ·have:=y.grd.loc.1;omega
  ·have:=(d k e).2;omega
 ·rw[List.length_set];exact v y.bw (by decide) (by decide)
 ·refine y.mrk.keep (fun k n=>t.block k (y.mrk.loc n).2.1 (fun e=>?_))
  rcases e with rfl | e
  ·exact y.mrk.notMF y.grd.loc.2.2 (by decide) (by decide) (by decide) n
  ·rcases n with rfl | rfl | n
   ·exact qu ⟨_,y.mrk.box⟩ (d _ e).1 (by decide) rfl
   ·exact qu (za y.mrk.fnd rfl) (d _ e).1 (by decide) rfl
   ·exact y.dis k ⟨x,q,o,e⟩ n
 ·rintro k ⟨z,s,r,m⟩ e;rw[List.getElem?_set]at r;have B:=(List.getElem?_eq_some_iff.1 o).1
  by_cases F:x=z
  ·subst F;rw[if_pos rfl,if_pos B]at r
   cases r
   cases m
   rcases E with j | j
   ·exact y.dis g ⟨x,q,o,j⟩ e
   ·have:=(qw y.mrk.frs e).2.1;simp only at this;omega
  ·rw[if_neg F]at r;exact y.dis k ⟨z,s,r,m⟩ e
structure YM (w W:World) (h:SHd) (S:Sp) (p:YP) (b4 gm:Nat) (va:Option Addr) (vc:Nat) (vs:List (Option Addr × Nat)) (fd:List Bool) (fr:List Nat) (ms:List Int) (wt:List (List Nat)):Prop where
 yb:YB w W h S p va vc vs fd fr wt
 bi:W.heap[b4]?=some (.cells #[.slice (some ⟨gm,0,none⟩) ms.length ms.length] 28 (0,0))
 mis:W.ownsRow w.heap.size 3 1 (.slice (some ⟨gm,0,none⟩) ms.length ms.length) ms.length (intC ms)
 d1:blk va≠some gm
 d2:∀k,GR vs k->k≠gm
 d3:b4≠p.wb
theorem YM.below{w W b:World}{h:SHd}{S:Sp}{p:YP}{c f:Nat}{j:Option Addr}{k:Nat}{l:List (Option Addr × Nat)}{fd:List Bool}{d:List Nat}{g:List Int}{m:List (List Nat)}(y:YM w W h S p c f j k l fd d g m)(a:Below W.heap.size W b):YM w b h S p c f j k l fd d g m :=
 ⟨y.yb.below a,qf a y.bi,qh y.mis (fun i n=>a.block i (World.ownsRow.lt y.mis i n).2),y.d1,y.d2,y.d3⟩
theorem YM.mark{w W l:World}{h:SHd}{S:Sp}{p:YP}{m g:Nat}{o c:Option Addr}{v j:Nat}{q:List (Option Addr × Nat)}{fd d:List Bool}{s f:List Nat}{n:List Int}{r:List (List Nat)}(y:YM w W h S p m g o v q fd s n r)(u:Mrk l w.heap.size p.mb p.fb c j d f)(k:MMv W p.mb p.fb o l c):YM w l h S p m g c j q d f n r:=by
 have a:=qw y.mis (b:=g) rfl;refine⟨y.yb.mark u k,?_,?_,?_,y.d2,y.d3⟩
 ·rw[k.1.block _ (Array.getElem?_eq_some_iff.1 y.bi).1 (y.yb.mrk.notMF ⟨_,y.bi⟩ (by decide) (by decide) (by decide))];exact y.bi
 ·refine qh y.mis (fun i t=>?_)
  cases t
  refine k.1.block g a.2.1 (fun e=>?_)
  rcases e with e | e | e
  ·exact qu a.2.2 ⟨_,y.yb.mrk.box⟩ (by decide) e
  ·exact qu a.2.2 (za y.yb.mrk.fnd rfl) (by decide) e
  ·exact y.d1 e
 ·intro e
  rcases k.2 g e with h1 | h1
  ·exact y.d1 h1
  ·omega
theorem YM.pop{w W:World}{h:SHd}{S:Sp}{p:YP}{d f:Nat}{b:Option Addr}{c x:Nat}{i:List (Option Addr × Nat)}{fd:List Bool}{a:List Nat}{g:List Int}{j:List (List Nat)}(y:YM w W h S p d f b c i fd (a++[x]) g j):YM w (popW W p.mb b a.length c) h S p d f b c i fd a g j :=
 y.mark y.yb.mrk.pop.1 y.yb.mrk.pop.2
theorem YM.put{w W:World}{h:SHd}{S:Sp}{p:YP}{g c:Nat}{m:Option Addr}{n i:Nat}{o:List (Option Addr × Nat)}{fd:List Bool}{j:List Nat}{l:List Int}{q:List (List Nat)}{z:Int}(y:YM w W h S p g c m n o fd j l q):YM w (W.setCell ⟨c,i,none⟩ (.int .i64 z)) h S p g c m n o fd j (l.set i z) q:=by
 have d:=qw y.mis (b:=c) rfl
 have a:∀{b T:Nat},Loc W b T->T≠3->(W.setCell ⟨c,i,none⟩ (.int .i64 z)).heap[b]?=W.heap[b]?:=fun s r=>Below.heap_setCell _ _ _ _ (qu s d.2.2 r)
 refine⟨⟨y.yb.bel.setCell (p:=⟨c,i,none⟩) d.1 _,?_,?_,?_,?_,?_,y.yb.dis⟩,?_,?_,y.d1,y.d2,y.d3⟩
 ·rw[a ⟨_,y.yb.bs⟩ (by decide)];exact y.yb.bs
 ·rw[a ⟨_,y.yb.bm⟩ (by decide)];exact y.yb.bm
 ·rw[a ⟨_,y.yb.bw⟩ (by decide)];exact y.yb.bw
 ·refine y.yb.mrk.keep (fun k f=>?_)
  rcases f with rfl | rfl | f
  ·exact a ⟨_,y.yb.mrk.box⟩ (by decide)
  ·exact a (za y.yb.mrk.fnd rfl) (by decide)
  ·exact Below.heap_setCell _ _ _ _ (fun e=>y.d1 (by simp only at e;rw[<-e];exact f))
 ·exact y.yb.grd.keep (a y.yb.grd.loc.2.2 (by decide)) (fun k f=>Below.heap_setCell _ _ _ _ (y.d2 k f))
 ·rw[a ⟨_,y.bi⟩ (by decide),List.length_set];exact y.bi
 ·have:=(y.mis.stored i (.int .i64 z)).1;rw[List.length_set];unfold intC at this ⊢;rw[List.map_set];exact this
theorem YM.push{w W n:World}{h:SHd}{S:Sp}{p:YP}{A a g:Nat}{u:Option Addr}{v x c:Nat}{m:List (Option Addr × Nat)}{fd:List Bool}{o:List Nat}{E:List Int}{H j:List (List Nat)}{q:Option Addr × Nat}(y:YM w W h S p A a u v m fd o E H)(l:m[x]?=some q)(I:YB w n h S p u v (m.set x (some ⟨g,0,none⟩,c)) fd o j)(B:Kept (fun k=>k=p.wb\/blk q.1=some k) W n)(F:blk q.1=some g\/W.heap.size<=g):YM w n h S p A a u v (m.set x (some ⟨g,0,none⟩,c)) fd o E j:=by
 have d:=qw y.mis (b:=a) rfl
 have r:∀k,blk q.1=some k->Loc W k 3:=fun k e=>(y.yb.grd.lt ⟨x,q,l,e⟩).2.2
 refine⟨I,?_,?_,y.d1,?_,y.d3⟩
 ·rw[B.block _ (Array.getElem?_eq_some_iff.1 y.bi).1 (fun e=>?_)]
  ·exact y.bi
  ·rcases e with e | e
   ·exact y.d3 e
   ·exact qu ⟨_,y.bi⟩ (r _ e) (by decide) rfl
 ·refine qh y.mis (fun i G=>?_)
  cases G
  refine B.block a d.2.1 (fun e=>?_)
  rcases e with e | e
  ·exact qu d.2.2 y.yb.grd.loc.2.2 (by decide) e
  ·exact y.d2 a ⟨x,q,l,e⟩ rfl
 ·rintro k ⟨z,s,f,C⟩ e;rw[List.getElem?_set]at f;have t:=(List.getElem?_eq_some_iff.1 l).1
  by_cases D:x=z
  ·subst D;rw[if_pos rfl,if_pos t]at f
   cases f
   cases C
   rcases F with h1 | h1
   ·exact y.d2 g ⟨x,q,l,h1⟩ e
   ·simp only at e;omega
  ·rw[if_neg D]at f;exact y.d2 k ⟨z,s,f,C⟩ e
end Go.Proofs.YtbdogaaooeoccaaGreatDoor
namespace Go.Proofs.YtbdogaaooeoccaaGreatDoor
open Go.RowKit Go.ChangeShapes Go.WideShapes
structure RawS (w:World) (ao:Option Addr) (n cap:Nat) (l:List ByteArray):Prop where
 len:n=l.length
 le:n<=cap/\cap<=9223372036854775807
 get:∀(i:Nat) (s:ByteArray),l[i]?=some s->∃b o,ao=some ⟨b,o,none⟩/\w.cell? ⟨b,o+i,none⟩=some (.string s)
structure RawG (w:World) (h:Hd) (G:Gm):Prop where
 tl:G.ts.length<=h.tc/\h.tc<=9223372036854775807
 rl:G.rs.length<=h.rc/\h.rc<=9223372036854775807
 tok:∀(i:Nat) (t:Tk),G.ts[i]?=some t->∃b o,h.ta=some ⟨b,o,none⟩/\w.cell? ⟨b,o+i * 3,none⟩=some (.string t.n)/\w.cell? ⟨b,o+i * 3+1,none⟩=some (.int .i64 t.l)/\w.cell? ⟨b,o+i * 3+2,none⟩=some (.int .i64 t.a)
 rul:∀(i:Nat) (r:Ru),G.rs[i]?=some r->∃b o xa xc,h.ra=some ⟨b,o,none⟩/\w.cell? ⟨b,o+i * 3,none⟩=some (.string r.l)/\w.cell? ⟨b,o+i * 3+1,none⟩=some (.slice xa r.r.length xc)/\w.cell? ⟨b,o+i * 3+2,none⟩=some (.string r.p)/\RawS w xa r.r.length xc r.r
theorem RawS.below{w f:World}{d:Option Addr}{n a:Nat}{l:List ByteArray}(h:RawS w d n a l)(g:Below w.heap.size w f):RawS f d n a l :=
 ⟨h.len,h.le,fun i s j=>by obtain⟨b,o,e,c⟩:=h.get i s j;exact⟨b,o,e,qt g c⟩⟩
theorem RawG.below{w c:World}{h:Hd}{G:Gm}(g:RawG w h G)(a:Below w.heap.size w c):RawG c h G :=
 ⟨g.tl,g.rl,fun i t j=>by obtain⟨b,o,e,c0,c1,c2⟩:=g.tok i t j;exact⟨b,o,e,qt a c0,qt a c1,qt a c2⟩,
  fun i r f=>by obtain⟨b,o,k,l,e,c0,c1,c2,d⟩:=g.rul i r f;exact⟨b,o,k,l,e,qt a c0,qt a c1,qt a c2,d.below a⟩⟩
end Go.Proofs.YtbdogaaooeoccaaGreatDoor
namespace Go.Proofs.YtbdogaaooeoccaaGreatDoor
open Go.RowKit
def cutT (t:Tk):Tk:=⟨cutS t.n 15,t.l,t.a⟩
def cutR (r:Ru):Ru:=⟨cutS r.l 15,(r.r.take 22).map (fun x=>cutS x 15),cutS r.p 15⟩
def cutG (G:Gm):Gm:=⟨(G.ts.take 42).map cutT,cutS G.s 15,G.e,(G.rs.take 105).map cutR⟩
structure RC (w wr:World) (L P:ByteArray) (l:List ByteArray) (xa:Option Addr) (m xc:Nat):Prop where
 box:wr.heap[w.heap.size]?=some (.cells #[.string L,.slice xa m xc,.string P] 42 (0,0))
 own:OwnS wr (w.heap.size+1) (.slice xa m xc) l
 len:m=l.length
 bel:Below w.heap.size w wr
theorem RC.new(w:World)(L P:ByteArray):RC w (w.alloc (.cells #[.string L,.slice none 0 0,.string P] 42)) L P [] none 0 0 :=
 ⟨heap_alloc_new _ _,World.ownsRow_nil _ _ _ _,rfl,qb _ _⟩
theorem RC.step{w wr a:World}{L P:ByteArray}{l:List ByteArray}{c:Option Addr}{m d:Nat}(h:RC w wr L P l c m d)(b:Below wr.heap.size wr a):RC w a L P l c m d :=
 ⟨qf b h.box,h.own.below b,h.len,qd h.bel b⟩
theorem RC.add{w wr:World}{L P:ByteArray}{l:List ByteArray}{f:Option Addr}{m g:Nat}(h:RC w wr L P l f m g)(v:l.length<=1000)(s:ByteArray):
  ∃d n c b,(Builtin.append_ #[27,27] 27 #[.slice f m g,.slice (some ⟨wr.heap.size,0,none⟩) 1 1]).run Tryz.prog (wr.alloc (.cells #[.string s] 9))=.ok (.slice d n c) b/\b.heap[w.heap.size]?=some (.cells #[.string L,.slice f m g,.string P] 42 (0,0))/\RC w (b.setCell ⟨w.heap.size,1,none⟩ (.slice d n c)) L P (l++[s]) d n c:=by
 have j:=(Array.getElem?_eq_some_iff.1 h.box).1;obtain⟨d,n,c,b,u,t,o,k⟩:=(h.own.below (qb wr (.cells #[.string s] 9))).addRow (qaw wr [s] (by simp)) (by simp;omega) (by simp;omega) rfl
 have a:b.heap[w.heap.size]?=some (.cells #[.string L,.slice f m g,.string P] 42 (0,0)):=by
  rw[k.block _ (by omega),Below.heap_alloc _ _ _ j];exact h.box
 refine⟨d,n,c,b,u,a,?_,?_,t,?_⟩
 ·rw[setCell_eq_setRow b w.heap.size 1 _ 42 (0,0) _ a];exact setRow_heap _ _ _ _ 42 _ a
 ·refine qh o (fun i r=>Below.heap_setCell _ _ _ _ (fun e=>?_));simp only at e;have:=(World.ownsRow.lt o i r).1;omega
 ·have q:=(qd h.bel (qb wr _)).trans (k.mono (by omega));exact q.setCell (p:=⟨w.heap.size,1,none⟩) (Nat.le_refl _) _
theorem zb{b:Array Oper}{o:Oper}{a:Act}{w d:World}{K:Act->World->Prop}{Q:Exit->Act->World->Prop}{E:Prop}{u v r:Value}{t:TypeId}(f:o.guard=none)(s x:Operand)(c:o.op=Op.call { callee:=Callee.builtin Builtin.append,args:=#[s,x],argTypes:=#[t,t] })(ht:o.type=t)(hs:a.eval s=u)(hx:a.eval x=v)(hrun:(Builtin.append_ #[t,t] t #[u,v]).run Tryz.prog w=.ok r d)(hK:K (a.put o.dst r) d):
  if Region.wanted o (yielded b a.tmps)=true then Oper.wp Tryz.prog o a w K Q else E:=by
 have g:Region.wanted o (yielded b a.tmps)=true:=by simp[Region.wanted,f]
 rw[if_pos g];unfold Oper.wp;simp[execOp,c,resolve,invoke,builtin,hs,hx,ht,hrun,Result.andThen];exact hK
theorem qc4{c:Array Oper}{o:Oper}{a:Act}{w:World}{K:Act->World->Prop}{Q:Exit->Act->World->Prop}{E:Prop}(h:o.guard=none)(f:FuncId)(args:Array Value)(v:Value)(b:(execOp a.eval o).run Tryz.prog w=.ok (.enter f args) w)(g:Calls Tryz.prog f args w fun e k=>e=.returned v/\k=w)(d:K (a.put o.dst v) w):
  if Region.wanted o (yielded c a.tmps)=true then Oper.wp Tryz.prog o a w K Q else E:=by
 have j:Region.wanted o (yielded c a.tmps)=true:=by simp[Region.wanted,h]
 rw[if_pos j];unfold Oper.wp;rw[b,Oper.upon_enter]
 refine g.mono fun e l i=>?_
 obtain⟨rfl,rfl⟩:=i;exact d
theorem qo(w:World):Below w.heap.size w w.drew:=⟨rfl,rfl,rfl,Nat.le_refl _,fun _ _=>rfl⟩
theorem quu(G:Gm)(h:Hd)(w:World)(z:RawG w h G):Calls Tryz.prog 10 #[gv h G] w fun e P=>∃h' qs,e=.returned (gv h' (cutG G))/\OwnG P w.heap.size h' (cutG G) qs/\Below w.heap.size w P:=by
 obtain⟨ts,a,d,rs⟩:=G;obtain⟨ta,tc,ra,U⟩:=h;unfold gv;simp only;have HG:=hid z;clear z;have HR:Hid (RawG ((w.alloc (.cells #[.slice ta ts.length tc,.string a,.int .i64 d,.slice ra rs.length U] 25)).alloc (.cells #[.slice none 0 0,.string ⟨#[]⟩,.int .i64 0,.slice none 0 0] 25)) ⟨ta,tc,ra,U⟩ ⟨ts,a,d,rs⟩):=HG.out.below (qd (qb _ _) (qb _ _));have HB:Hid (Below w.heap.size w ((w.alloc (.cells #[.slice ta ts.length tc,.string a,.int .i64 d,.slice ra rs.length U] 25)).alloc (.cells #[.slice none 0 0,.string ⟨#[]⟩,.int .i64 0,.slice none 0 0] 25))):=qd (qb _ _) (qb _ _);have S:((w.alloc (.cells #[.slice ta ts.length tc,.string a,.int .i64 d,.slice ra rs.length U] 25)).alloc (.cells #[.slice none 0 0,.string ⟨#[]⟩,.int .i64 0,.slice none 0 0] 25)).heap[w.heap.size]?=some (.cells #[.slice ta ts.length tc,.string a,.int .i64 d,.slice ra rs.length U] 25 (0,0)):=qf (qb _ _) (heap_alloc_new _ _)
 have A:((w.alloc (.cells #[.slice ta ts.length tc,.string a,.int .i64 d,.slice ra rs.length U] 25)).alloc (.cells #[.slice none 0 0,.string ⟨#[]⟩,.int .i64 0,.slice none 0 0] 25)).heap[w.heap.size+1]?=some (.cells #[.slice none 0 0,.string ⟨#[]⟩,.int .i64 0,.slice none 0 0] 25 (0,0)):=by
  have:=heap_alloc_new (w.alloc (.cells #[.slice ta ts.length tc,.string a,.int .i64 d,.slice ra rs.length U] 25)) (.cells #[.slice none 0 0,.string ⟨#[]⟩,.int .i64 0,.slice none 0 0] 25)
  rwa [qz]at this
 have b8:((w.alloc (.cells #[.slice ta ts.length tc,.string a,.int .i64 d,.slice ra rs.length U] 25)).alloc (.cells #[.slice none 0 0,.string ⟨#[]⟩,.int .i64 0,.slice none 0 0] 25)).heap.size=w.heap.size+1+1:=by rw[qz,qz]
 have HL:Hid (ts.length<=tc/\tc<=9223372036854775807/\rs.length<=U/\U<=9223372036854775807):=⟨HG.out.tl.1,HG.out.tl.2,HG.out.rl.1,HG.out.rl.2⟩
 clear HG
 generalize c7:ts.length=tn at *
 generalize c6:rs.length=rn at *
 have HT:=hid2 c7 c6;clear c7 c6;go_enter Tryz.func10,Tryz.ntmps10
 go_upto_region 1 with fail
 generalize (w.alloc (.cells #[.slice ta tn tc,.string a,.int .i64 d,.slice ra rn U] 25)).alloc (.cells #[.slice none 0 0,.string ⟨#[]⟩,.int .i64 0,.slice none 0 0] 25)=W at HR HB S A b8 ⊢
 obtain⟨g,a5⟩:∃g,g=w.heap.size:=⟨_,rfl⟩
 have HN:Hid (g=w.heap.size/\W.heap.size=g+1+1):=⟨a5,by rw[a5];exact b8⟩
 rw[<-a5]at S A ⊢;clear b8;have HX:=hid2 S A
 have x1:W.cell? ⟨g,1,none⟩=some (.string a):=by rw[qe S];rfl
 have x2:W.cell? ⟨g,2,none⟩=some (.int .i64 d):=by rw[qe S];rfl
 clear S A a5
 obtain⟨D,a4⟩:∃D,D=W.heap.size:=⟨_,rfl⟩
 have g6:=hid a4
 go_cut [3] (fun s wd=>s=.pointer (some ⟨D,0,none⟩)/\Hid (GB W wd D ⟨none,0,none,0⟩ ⟨[],cutS a 15,d,[]⟩ []))
 case first =>
  go_region_held (fun P=>P.cell? ⟨g,1,none⟩=some (.string a)/\P.cell? ⟨g,2,none⟩=some (.int .i64 d)) (go_keep) (first | (go_at_call 28;refine(qba a 15 _).mono ?_;rintro e P ⟨rfl,rfl⟩))
  all_goals
   go_wp2_with fail;go_meet;refine⟨by rw[a4],?_⟩;rw[a4];exact(qtv W W (cutS a 15) d (Below.refl _ _)).step (qo _)
 case rest =>
  obtain⟨rfl,J0⟩:=hcut
  obtain⟨w3,i0⟩:∃w3,w3=wc:=⟨_,rfl⟩
  subst wc;clear a4 x1 x2;have h6:=HL.out.1;have h7:=HL.out.2.1;have h8:=HL.out.2.2.1;have h9:=HL.out.2.2.2
  go_upto_block 0 with fail
  go_cut [4] (fun s4 wd=>Hid (∃h,GB W wd D h ⟨(ts.take 42).map cutT,cutS a 15,d,[]⟩ []))
  case first =>
   go_wp2_with fail
   go_loopg [4] tn (fun kx s4 wr=>∃i:Nat,s4=.int .i64 i/\i<=tn/\i<=42/\tn - i<=kx/\Hid (∃h,GB W wr D h ⟨(ts.take i).map cutT,cutS a 15,d,[]⟩ []))
   case atStart=>exact⟨0,rfl,Nat.zero_le _,Nat.zero_le _,by omega,(⟨_,J0.out⟩:∃h,GB W w3 D h ⟨(ts.take 0).map cutT,cutS a 15,d,[]⟩ [])⟩
   case round =>
    obtain⟨i,rfl,hi,g4,hg,J⟩:=hrel;clear J0;obtain⟨⟨Y,Z,R,T⟩,z⟩:=J.out;have x0:wr.cell? ⟨g,0,none⟩=some (.slice ta tn tc):=qt z.bel (by rw[qe HX.out.1];rfl)
    have m:((ts.take i).map cutT).length=i:=by rw[List.length_map,List.length_take,HT.out.1];omega
    by_cases L:i<tn
    ·by_cases h3:i<42
     ·have M:(i:Int)<(tn:Int):=by omega
      have d2:(i:Int)<42:=by omega
      obtain⟨t,ht⟩:∃t,ts[i]?=some t:=⟨ts[i]'(by rw[HT.out.1];exact L),List.getElem?_eq_getElem _⟩
      obtain⟨b,o,f2,c0,c1,c2⟩:=(HR.out.below z.bel).tok i t ht;simp only at f2;subst f2;obtain⟨V,tl,tA⟩:=t;simp only at c0 c1 c2;have d4:=z.step (qb wr (.cells #[.string (cutS V 15),.int .i64 tl,.int .i64 tA] 40));obtain⟨e0,-,-,-,-⟩:=z.cells;simp only[m]at e0;have g7:=qp e0 (.cells #[.string (cutS V 15),.int .i64 tl,.int .i64 tA] 40);obtain⟨ao,n,c,w5,l,hn,f,d5⟩:=d4.addTok (by simp only;rw[m];omega) ⟨cutS V 15,tl,tA⟩
      simp only[m,qz]at l
      have d0:w5.cell? ⟨D,0,none⟩=some (.slice Y i Z):=by rw[qe f];show some (Value.slice Y ((ts.take i).map cutT).length Z)=_;rw[m]
      have f0:=qj f 0
      have y:Hid (∃h,GB W (w5.setCell ⟨D,0,none⟩ (.slice ao n c)) D h ⟨(ts.take (i+1)).map cutT,cutS a 15,d,[]⟩ []):=by
       have e:(ts.take (i+1)).map cutT=(ts.take i).map cutT++[cutT ⟨V,tl,tA⟩]:=by rw[zw ht,List.map_append];rfl
       rw[e];exact⟨_,d5⟩
      clear z d4 d5 f J hn m ht;go_wp2_with fail;refine(qba V 15 _).mono ?_;rintro e P ⟨rfl,rfl⟩
      generalize cutS V 15=nm at *
      go_wp2_with(at_builtin;refine Lib.wpList_append_run _ rfl _ _ _ _ rfl _ _ rfl rfl _ _ l ?_)
      go_roundg (tn - (i+1))
      case measure=>omega
      case rel=>exact⟨i+1,by simp,by omega,by omega,Nat.le_refl _,y⟩
     ·have M:(i:Int)<(tn:Int):=by omega
      have d2:¬(i:Int)<42:=by omega
      have y:Hid (∃h,GB W wr D h ⟨(ts.take 42).map cutT,cutS a 15,d,[]⟩ []):=by
       have:i=42:=by omega
       subst this;exact J.out
      clear z J m;go_wp2_with fail;go_meet;exact y
    ·have M:¬(i:Int)<(tn:Int):=by omega
     have y:Hid (∃h,GB W wr D h ⟨(ts.take 42).map cutT,cutS a 15,d,[]⟩ []):=by
      have e:ts.take 42=ts.take i:=by rw[List.take_of_length_le (by rw[HT.out.1];omega),List.take_of_length_le (by rw[HT.out.1];omega)]
      rw[e];exact J.out
     clear z J m;go_wp2_with fail;go_meet;exact y
  case rest =>
   obtain⟨w4,i1⟩:∃w4,w4=wc:=⟨_,rfl⟩
   subst wc;obtain⟨h4,d6⟩:=hcut.out
   have b0:Hid (∃h qs,GB W w4 D h ⟨(ts.take 42).map cutT,cutS a 15,d,[]⟩ qs):=⟨h4,[],d6⟩
   clear hcut d6 J0
   go_upto_block 2 with fail
   go_cut [6] (fun s6 wd=>Hid (∃h qs,GB W wd D h (cutG ⟨ts,a,d,rs⟩) qs))
   case first =>
    go_wp2_with fail
    go_loopg [6] rn (fun kx s6 wr=>∃i:Nat,s6=.int .i64 i/\i<=rn/\i<=105/\rn - i<=kx/\Hid (∃h qs,GB W wr D h ⟨(ts.take 42).map cutT,cutS a 15,d,(rs.take i).map cutR⟩ qs))
    case atStart=>exact⟨0,rfl,Nat.zero_le _,Nat.zero_le _,by omega,b0⟩
    case round =>
     obtain⟨i,rfl,hi,g1,hg,J⟩:=hrel;clear b0;obtain⟨⟨Y,Z,R,T⟩,qs,z⟩:=J.out;have x3:wr.cell? ⟨g,3,none⟩=some (.slice ra rn U):=qt z.bel (by rw[qe HX.out.1];rfl)
     by_cases L:i<rn
     ·by_cases g3:i<105
      ·have M:(i:Int)<(rn:Int):=by omega
       have b3:(i:Int)<105:=by omega
       obtain⟨r,hr⟩:∃r,rs[i]?=some r:=⟨rs[i]'(by rw[HT.out.2];exact L),List.getElem?_eq_getElem _⟩
       obtain⟨b,o,xa,xc,d9,c0,c1,c2,a6⟩:=(HR.out.below z.bel).rul i r hr;simp only at d9;subst d9;obtain⟨F,I,H⟩:=r;simp only at c0 c1 c2 a6
       obtain⟨X,i7⟩:∃X,X=wr:=⟨_,rfl⟩
       subst wr;have f5:=hid a6;have f4:=hid hr;have c3:=hid z;have b9:=hid2 x3 c1;have i8:=a6.le;clear a6 hr z J c1
       generalize c8:I.length=Q at *
       have a3:=hid c8;clear c8
       go_upto_region 11 with fail
       go_cut [7] from 41 to 102 (fun s wd=>s=.pointer (some ⟨X.heap.size,0,none⟩)/\Hid (RC X wd (cutS F 15) (cutS H 15) [] none 0 0))
       case first =>
        go_region_held (fun P=>P.cell? ⟨g,3,none⟩=some (.slice (some ⟨b,o,none⟩) rn U)/\P.cell? ⟨b,o+i * 3,none⟩=some (.string F)/\P.cell? ⟨b,o+i * 3+2,none⟩=some (.string H)) (go_keep)
         (first | (go_at_call_of 28 (Value.string F);refine(qba F 15 _).mono ?_;rintro e P ⟨rfl,rfl⟩) | (go_at_call_of 28 (Value.string H);refine(qba H 15 _).mono ?_;rintro e P ⟨rfl,rfl⟩))
        all_goals
         go_wp2_with fail;go_meet;exact⟨rfl,(RC.new X (cutS F 15) (cutS H 15)).step (qo _)⟩
       case rest =>
        obtain⟨rfl,R0⟩:=hcut
        obtain⟨w5,i2⟩:∃w5,w5=wc:=⟨_,rfl⟩
        subst wc;clear c0 c2 x3
        obtain⟨rb,b7⟩:∃rb,rb=X.heap.size:=⟨_,rfl⟩
        have O:=hid b7;rw[<-b7];clear b7
        go_upto_block 4 with fail
        go_cut [8] from 41 to 102 (fun s8 wd=>Hid (∃B C,RC X wd (cutS F 15) (cutS H 15) ((I.take 22).map (fun x=>cutS x 15)) B (min Q 22) C))
        case first =>
         go_wp2_with fail
         go_loopg [8] Q (fun kx s8 wr=>∃k:Nat,s8=.int .i64 k/\k<=Q/\k<=22/\Q - k<=kx/\Hid (∃B C,RC X wr (cutS F 15) (cutS H 15) ((I.take k).map (fun x=>cutS x 15)) B k C))
         case atStart=>exact⟨0,rfl,Nat.zero_le _,Nat.zero_le _,by omega,(⟨_,_,R0.out⟩:∃B C,RC X w5 (cutS F 15) (cutS H 15) ((I.take 0).map (fun x=>cutS x 15)) B 0 C)⟩
         case round =>
          obtain⟨k,rfl,hk,g5,h5,K⟩:=hrel;clear R0;obtain⟨B,C,N⟩:=K.out;have q3:=qt N.bel b9.out.1;have q1:=qt N.bel b9.out.2
          by_cases d8:k<Q
          ·by_cases h2:k<22
           ·have a0:(k:Int)<(Q:Int):=by omega
            have c9:(k:Int)<22:=by omega
            obtain⟨s,hs⟩:∃s,I[k]?=some s:=⟨I[k]'(by rw[a3.out];exact d8),List.getElem?_eq_getElem _⟩
            obtain⟨b2,o2,g2,k0⟩:=(f5.out.below N.bel).get k s hs;subst g2
            have p1:wr.cell? ⟨rb,1,none⟩=some (.slice B k C):=by rw[O.out,qe N.box];rfl
            have b1:((I.take k).map (fun x=>cutS x 15)).length=k:=by rw[List.length_map,List.length_take,a3.out];omega
            obtain⟨ao,n,c,w6,l,f,b5⟩:=(N.step (qo wr)).add (by rw[b1];omega) (cutS s 15)
            have E:(Builtin.append_ #[27,27] 27 #[.slice B k C,.slice (some ⟨wr.heap.size,0,none⟩) 1 1]).run Tryz.prog (wr.alloc (.cells #[.string (cutS s 15)] 9)).drew=.ok (.slice ao n c) w6:=l
            have d1:w6.cell? ⟨rb,1,none⟩=some (.slice B k C):=by rw[O.out,qe f];rfl
            have f1:w6.frozen? ⟨rb,1,none⟩=false:=by rw[O.out];exact qj f 1
            have y:Hid (∃B C,RC X (w6.setCell ⟨rb,1,none⟩ (.slice ao n c)) (cutS F 15) (cutS H 15) ((I.take (k+1)).map (fun x=>cutS x 15)) B (k+1) C):=by
             have e:(I.take (k+1)).map (fun x=>cutS x 15)=(I.take k).map (fun x=>cutS x 15)++[cutS s 15]:=by rw[zw hs,List.map_append];rfl
             have hn:n=k+1:=by have:=b5.len;rw[List.length_append,b1]at this;exact this
             subst hn;rw[e,O.out];exact⟨ao,c,b5⟩
            clear N f b5 l K b1 hs
            go_upto_block 5 with fail
            go_cut [95] from 67 to 96 (fun s95 wd=>Hid (∃B C,RC X wd (cutS F 15) (cutS H 15) ((I.take (k+1)).map (fun x=>cutS x 15)) B (k+1) C))
            case first =>
             go_wp2_with fail
             have CC:Hid (∀W:World,Calls Tryz.prog 28 #[.string s,.int .i64 15] W fun e P=>e=.returned (.string (cutS s 15))/\P=W):=fun W=>qba s 15 W
             generalize cutS s 15=cs at E CC;have j0:=qp p1 (.cells #[.string cs] 9)
             go_region_law(first | (refine zb rfl (.tmp 83) (.tmp 94) rfl rfl (by simp[Act.eval]) (by simp[Act.eval]) E ?_) | (refine qc4 rfl 28 #[.string s,.int .i64 15] (.string cs) (by simp[Act.eval,go_sem]) (CC.out _) ?_))
             all_goals (go_wp2_with fail;go_meet;exact y)
            case rest =>
             go_wp2_with fail;go_roundg (Q - (k+1))
             case measure=>omega
             case rel=>exact⟨k+1,by simp,by omega,by omega,Nat.le_refl _,hcut⟩
           ·have a0:(k:Int)<(Q:Int):=by omega
            have c9:¬(k:Int)<22:=by omega
            have y:Hid (∃B C,RC X wr (cutS F 15) (cutS H 15) ((I.take 22).map (fun x=>cutS x 15)) B (min Q 22) C):=by
             have:k=22:=by omega
             subst this
             have e:min Q 22=22:=by omega
             rw[e];exact K.out
            clear N K;go_wp2_with fail;go_meet;exact y
          ·have a0:¬(k:Int)<(Q:Int):=by omega
           have y:Hid (∃B C,RC X wr (cutS F 15) (cutS H 15) ((I.take 22).map (fun x=>cutS x 15)) B (min Q 22) C):=by
            have e1:I.take 22=I.take k:=by rw[List.take_of_length_le (by rw[a3.out];omega),List.take_of_length_le (by rw[a3.out];omega)]
            have e:min Q 22=k:=by omega
            rw[e1,e];exact K.out
           clear N K;go_wp2_with fail;go_meet;exact y
        case rest =>
         obtain⟨w7,i5⟩:∃w7,w7=wc:=⟨_,rfl⟩
         subst wc;obtain⟨B,C,N⟩:=hcut.out;have b4:=c3.out.step N.bel
         have m:((rs.take i).map cutR).length=i:=by rw[List.length_map,List.length_take,HT.out.2];omega
         obtain⟨-,-,-,y3,-⟩:=b4.cells;simp only[m]at y3
         generalize g0:min Q 22=mn at *
         have p0:w7.cell? ⟨rb,0,none⟩=some (.string (cutS F 15)):=by rw[O.out,qe N.box];rfl
         have p1:w7.cell? ⟨rb,1,none⟩=some (.slice B mn C):=by rw[O.out,qe N.box];rfl
         have p2:w7.cell? ⟨rb,2,none⟩=some (.string (cutS H 15)):=by rw[O.out,qe N.box];rfl
         have a9:OwnS w7 W.heap.size (.slice B mn C) (cutR ⟨F,I,H⟩).r:=zc N.own (by have:=c3.out.bel.size;omega)
         obtain⟨ao,n,c,w8,l,hn,f,d7⟩:=b4.addRule (by simp only;rw[m];omega) (cutR ⟨F,I,H⟩) B C mn a9 N.len
         simp only[m]at l;have E:(Builtin.append_ #[23,23] 23 #[.slice R i T,.slice (some ⟨w7.heap.size,0,none⟩) 1 1]).run Tryz.prog (w7.alloc (.cells #[.string (cutS F 15),.slice B mn C,.string (cutS H 15)] 42))=.ok (.slice ao n c) w8:=l
         have d3:w8.cell? ⟨D,3,none⟩=some (.slice R i T):=by rw[qe f];show some (Value.slice R ((rs.take i).map cutR).length T)=_;rw[m]
         have f3:=qj f 3
         have y:Hid (∃h qs,GB W (w8.setCell ⟨D,3,none⟩ (.slice ao n c)) D h ⟨(ts.take 42).map cutT,cutS a 15,d,(rs.take (i+1)).map cutR⟩ qs):=by
          have e:(rs.take (i+1)).map cutR=(rs.take i).map cutR++[cutR ⟨F,I,H⟩]:=by rw[zw f4.out,List.map_append];rfl
          rw[e];exact⟨_,_,d7⟩
         clear b4 d7 f hn N hcut R0 a9 l m g0
         generalize cutS F 15=cl at *
         generalize cutS H 15=cp at *
         go_wp2_with(at_builtin;refine Lib.wpList_append_run _ rfl _ _ _ _ rfl _ _ rfl rfl _ _ E ?_)
         go_roundg (rn - (i+1))
         case measure=>omega
         case rel=>exact⟨i+1,by simp,by omega,by omega,Nat.le_refl _,y⟩
      ·have M:(i:Int)<(rn:Int):=by omega
       have b3:¬(i:Int)<105:=by omega
       have y:Hid (∃h qs,GB W wr D h (cutG ⟨ts,a,d,rs⟩) qs):=by
        have:i=105:=by omega
        subst this;exact J.out
       clear z J;go_wp2_with fail;go_meet;exact y
     ·have M:¬(i:Int)<(rn:Int):=by omega
      have y:Hid (∃h qs,GB W wr D h (cutG ⟨ts,a,d,rs⟩) qs):=by
       have e:rs.take 105=rs.take i:=by rw[List.take_of_length_le (by rw[HT.out.2];omega),List.take_of_length_le (by rw[HT.out.2];omega)]
       unfold cutG;simp only;rw[e];exact J.out
      clear z J;go_wp2_with fail;go_meet;exact y
   case rest =>
    obtain⟨w9,i6⟩:∃w9,w9=wc:=⟨_,rfl⟩
    subst wc;obtain⟨⟨Y,Z,R,T⟩,qs,z⟩:=hcut.out;obtain⟨y0,y1,y2,y3,-⟩:=z.cells;have A:=qf z.bel HX.out.2
    have z0:w9.cell? ⟨g+1,0,none⟩=some (.slice none 0 0):=by rw[qe A];rfl
    have z1:w9.cell? ⟨g+1,1,none⟩=some (.string ⟨#[]⟩):=by rw[qe A];rfl
    have z2:w9.cell? ⟨g+1,2,none⟩=some (.int .i64 0):=by rw[qe A];rfl
    have z3:w9.cell? ⟨g+1,3,none⟩=some (.slice none 0 0):=by rw[qe A];rfl
    have fz:=qj A;have g8:=fz 0;have g9:=fz 1;have h0:=fz 2;have h1:=fz 3;clear fz
    have y:Hid (OwnG ((((w9.setCell ⟨g+1,0,none⟩ (.slice Y (cutG ⟨ts,a,d,rs⟩).ts.length Z)).setCell ⟨g+1,1,none⟩ (.string (cutG ⟨ts,a,d,rs⟩).s)).setCell ⟨g+1,2,none⟩ (.int .i64 (cutG ⟨ts,a,d,rs⟩).e)).setCell ⟨g+1,3,none⟩ (.slice R (cutG ⟨ts,a,d,rs⟩).rs.length T)) w.heap.size ⟨Y,Z,R,T⟩ (cutG ⟨ts,a,d,rs⟩) qs/\Below w.heap.size w ((((w9.setCell ⟨g+1,0,none⟩ (.slice Y (cutG ⟨ts,a,d,rs⟩).ts.length Z)).setCell ⟨g+1,1,none⟩ (.string (cutG ⟨ts,a,d,rs⟩).s)).setCell ⟨g+1,2,none⟩ (.int .i64 (cutG ⟨ts,a,d,rs⟩).e)).setCell ⟨g+1,3,none⟩ (.slice R (cutG ⟨ts,a,d,rs⟩).rs.length T))):=by
     have L:w.heap.size<=g+1:=by rw[HN.out.1];omega
     have hW:g+1<W.heap.size:=by have:=HN.out.2;omega
     have far:∀{W':World} {u:Value} {j:Nat},OwnG W' W.heap.size ⟨Y,Z,R,T⟩ (cutG ⟨ts,a,d,rs⟩) qs->OwnG (W'.setCell ⟨g+1,j,none⟩ u) W.heap.size ⟨Y,Z,R,T⟩ (cutG ⟨ts,a,d,rs⟩) qs:=by
      intro W' u j o;refine⟨?_,?_,o.map,fun q hq=>?_⟩
      ·exact qh o.tok (fun i hi=>Below.heap_setCell _ _ _ _ (fun e=>by simp only at e;have:=(World.ownsRow.lt o.tok i hi).1;omega))
      ·exact qh o.rul (fun i hi=>Below.heap_setCell _ _ _ _ (fun e=>by simp only at e;have:=(World.ownsRow.lt o.rul i hi).1;omega))
      ·exact qh (o.row q hq) (fun i hi=>Below.heap_setCell _ _ _ _ (fun e=>by simp only at e;have:=(World.ownsRow.lt (o.row q hq) i hi).1;omega))
     have o9:=far (u:=.slice R (cutG ⟨ts,a,d,rs⟩).rs.length T) (j:=3) (far (u:=.int .i64 (cutG ⟨ts,a,d,rs⟩).e) (j:=2) (far (u:=.string (cutG ⟨ts,a,d,rs⟩).s) (j:=1) (far (u:=.slice Y (cutG ⟨ts,a,d,rs⟩).ts.length Z) (j:=0) z.own)));have b6:=HB.out.size;refine⟨⟨zc o9.tok b6,zc o9.rul b6,o9.map,fun q hq=>zc (o9.row q hq) b6⟩,?_⟩;exact((((qd HB.out z.bel).setCell (p:=⟨g+1,0,none⟩) L _).setCell (p:=⟨g+1,1,none⟩) L _).setCell (p:=⟨g+1,2,none⟩) L _).setCell (p:=⟨g+1,3,none⟩) L _
    clear z hcut A b0;generalize a8:(cutG ⟨ts,a,d,rs⟩).ts.length=f9 at y0 y;generalize a7:(cutG ⟨ts,a,d,rs⟩).rs.length=f7 at y3 y;generalize c5:(cutG ⟨ts,a,d,rs⟩).s=f8 at y1 y;generalize c4:(cutG ⟨ts,a,d,rs⟩).e=f6 at y2 y;have HE:=hid4 a8 a7 c5 c4;clear a8 a7 c5 c4;go_wp2_with fail;refine bodyPost_ret (v:=.agg #[.slice Y f9 Z,.string f8,.int .i64 f6,.slice R f7 T]) (by simp[results,Tryz.results10,go_sem, *]) rfl ?_;obtain⟨e1,e2,e3,e4⟩:=HE.out;refine⟨⟨Y,Z,R,T⟩,?_,⟨qs,y.out.1⟩,y.out.2⟩;simp only[e1,e2,e3,e4]
theorem qqn{S:Sp}{c:List Int}{fd:List Bool}{i:Nat}{z:Int}(h:Zero S c fd)(k:z≠0):Zero S (c.set i z) fd:=by
 intro j r x d g f a;rw[List.getElem?_set]at a
 by_cases b:i=j
 ·subst b;rw[if_pos rfl]at a
  split at a
  ·cases a;exact absurd rfl k
  ·cases a
 ·rw[if_neg b]at a;exact h j r x d g f a
theorem qo2{S:Sp}{g:List Int}{fd a:List Bool}{i:Nat}{z:Int}{r:SR}{x:Nat}(h:Zero S g fd)(n:S.rs[i]?=some r)(m:r.l=(x:Int))(o:isF a x=true)(up:∀y,isF fd y=true->isF a y=true):Zero S (g.set i z) a:=by
 intro j q y k d c f
 by_cases b:i=j
 ·subst b;rw[n]at d
  cases d
  rw[m]at c
  have:x=y:=by omega
  subst this;exact o
 ·rw[List.getElem?_set,if_neg b]at f;exact up y (h j q y k d c f)
theorem qqo{S:Sp}{f:List Int}{fd:List Bool}{a:List Nat}{i:Nat}{r:SR}{x:Nat}{g:Nat->Nat}(k:Miss S f (prc fd a) g)(n:f[i]?=some 0)(b:0<i)(d:S.rs[i]?=some r)(j:r.l=(x:Int))(hd:qbb S fd):Der S x:=by
 have c:=k i r b d;rw[n]at c;simp only[Option.some.injEq]at c
 have h:nU (prc fd a) r.r=0:=by omega
 refine Der.rule i r x b d j (fun y m=>hd y ?_);have:=qmj.1 h y m;unfold prc at this;simp only[Bool.and_eq_true]at this;exact this.1
def LK (w W:World) (h:SHd) (S:Sp) (p:YP) (b4 gm:Nat) (vs:List (Option Addr × Nat)) (wt:List (List Nat)) (n:Nat) (fd:List Bool) (fr:List Nat) (l:List Nat) (k:Nat):Prop :=
 ∃va vc fd' fr' ms',YM w W h S p b4 gm va vc vs fd' fr' ms' wt/\ms'.length=S.rs.length/\Adds n fd fr fd' fr'/\Miss S ms' (prc fd fr) (fun j=>(l.drop k).count j)/\Zero S ms' fd'/\qbb S fd'
theorem qlz(w W:World)(h:SHd)(S:Sp)(p:YP)(t a:Nat)(C:List (Option Addr × Nat))(s:List (List Nat))(n x:Nat)(fd:List Bool)(E:List Nat)(l:List Nat)(y:LK w W h S p t a C s n fd E l 0)(I:WF S)(a4:IsSp w h S)(a0:n=S.tk+1+S.nt)(X:s[x]?=some l)(hw:∀i∈l,0<i/\i<S.rs.length)(hd:qbb S fd)(a7:l.length<=100000):
  Calls Tryz.prog 129 #[.int .i64 (x:Int),.pointer (some ⟨p.b5,0,none⟩),.pointer (some ⟨t,0,none⟩),.pointer (some ⟨p.b3,0,none⟩),.pointer (some ⟨p.b1,0,none⟩)] W fun e W'=>e=.returned (.tuple #[])/\LK w W' h S p t a C s n fd E l l.length:=by
 have HY:=hid y;have b:=hid5 I a4 a0 hd X;have HW:=hid hw;obtain⟨d9,f0,c7,c8,d6,y0,-⟩:=y;obtain⟨q,hq,c1,-⟩:=y0.yb.grd.at X
 have c0:W.cell? ⟨p.b5,0,none⟩=some (.slice (some ⟨p.wb,0,none⟩) s.length s.length):=by rw[qe y0.yb.bw];rfl
 have hx:=(List.getElem?_eq_some_iff.1 X).1;have HQ:=hid hq;obtain⟨qa,qc⟩:=q;simp only at c1;have Y:=zq (y0.yb.grd.row x _ l hq X);simp only at Y;have b0:=I.nr;clear y0 hq X hd a4 I hw a0;generalize s.length=wn at c0 hx
 obtain⟨m,HM⟩:∃m,Hid (l.length=m):=⟨_,rfl⟩
 rw[HM.out]at c1 a7 Y ⊢;go_enter Tryz.func129,Tryz.ntmps129;go_wp2_with fail
 go_loopg [13] m (fun kx s13 wr=>∃k:Nat,s13=.int .i64 k/\k<=m/\m - k<=kx/\Hid (LK w wr h S p t a C s n fd E l k))
 case atStart=>exact⟨0,rfl,Nat.zero_le _,by omega,HY⟩
 case round =>
  clear c0 c1 HY;obtain⟨k,rfl,hk,hg,J⟩:=hrel
  by_cases a8:k<m
  ·obtain⟨K,L,g,o,B,y,A,Q,hM,hZ,hD⟩:=J.out
   obtain⟨i,T⟩:∃i,l[k]?=some i:=⟨l[k]'(by rw[HM.out];exact a8),List.getElem?_eq_getElem _⟩
   obtain⟨F,U⟩:=HW.out i (List.mem_of_getElem? T)
   obtain⟨r,G⟩:∃r,S.rs[i]?=some r:=⟨S.rs[i],List.getElem?_eq_getElem U⟩
   obtain⟨xl,D,d0,b7⟩:=b.out.1.rl i r F G;obtain⟨z,hz,d4,b9,u⟩:=qom T F G hM;have c9:=(b.out.1.rr r (List.mem_of_getElem? G)).1;have d:=y.yb.grd.row x _ l HQ.out b.out.2.2.2.2;simp only at d;rw[HM.out]at d b9
   obtain⟨qg,rfl⟩:∃qg,qa=some ⟨qg,0,none⟩:=by
    obtain⟨ao,c,e,-,-,h6⟩:=zo d
    cases e
    rcases h6 with ⟨-,h6,-⟩ | h6
    ·omega
    ·exact h6
   have d1:wr.cell? ⟨qg,k,none⟩=some (.int .i64 (i:Int)):=by
    rw[d.cellAt k (by omega)];unfold natC;rw[List.getElem?_map,T];rfl
   have d2:wr.cell? ⟨t,0,none⟩=some (.slice (some ⟨a,0,none⟩) B.length B.length):=by rw[qe y.bi];rfl
   have d3:wr.cell? ⟨a,i,none⟩=some (.int .i64 z):=by
    rw[y.mis.cellAt i (by omega)];unfold intC;rw[List.getElem?_map,hz];rfl
   have f3:=y.mis.frozenAt i
   have Z:i<B.length:=by omega
   have M:∀v:Int,(wr.setCell ⟨a,i,none⟩ (.int .i64 v)).cell? ⟨t,0,none⟩=some (.slice (some ⟨a,0,none⟩) B.length B.length):=fun v=>by
    have f:YM w (wr.setCell ⟨a,i,none⟩ (.int .i64 v)) h S p t a K L C g o (B.set i v) s:=y.put;rw[qe f.bi,List.length_set];rfl
   have E3:∀v:Int,(wr.setCell ⟨a,i,none⟩ (.int .i64 v)).cell? ⟨a,i,none⟩=some (.int .i64 v):=fun v=>by
    have f:YM w (wr.setCell ⟨a,i,none⟩ (.int .i64 v)) h S p t a K L C g o (B.set i v) s:=y.put;rw[f.mis.cellAt i (by rw[List.length_set];omega)]
    unfold intC;rw[List.getElem?_map,List.getElem?_set_self Z];rfl
   rw[A]at d2 M
   have V:(i:Int)<(S.rs.length:Int):=by omega
   have c5:(k:Int)<(m:Int):=by omega
   by_cases b8:z=1
   ·subst b8;have e2:=M 0;have e3:=E3 0;have f:YM w (wr.setCell ⟨a,i,none⟩ (.int .i64 0)) h S p t a K L C g o (B.set i 0) s:=y.put;have u:Miss S (B.set i 0) (prc fd E) (fun j=>(l.drop (k+1)).count j):=u;obtain⟨rb,ro,d7,d8,H,g0,-,-,-,-⟩:=(b.out.2.1.rl.below f.yb.bel).at G;obtain⟨-,-,-,-,-,-,-,g7⟩:=sbox f.yb.bs;rw[H]at g7;rw[D]at g0
    have g3:(wr.setCell ⟨a,i,none⟩ (.int .i64 0)).cell? ⟨p.b3,0,none⟩=some (.pointer (some ⟨p.mb,0,none⟩)):=by rw[qe f.yb.bm];rfl
    have b2:=vn b.out.2.1.rl;have P:=hid f
    have O:Hid (xl<n/\n<=1000/\MK n g o/\r.l=(xl:Int)/\S.rs[i]?=some r/\(B.set i 0)[i]?=some 0):=⟨by rw[b.out.2.2.1];exact b7,by rw[b.out.2.2.1];have:=b.out.1.tk;have:=b.out.1.nt;omega,Q.ok,D,G,by rw[List.getElem?_set_self Z]⟩
    have HS:=hid6 A Q u hZ hD F;have c6:=hid H;clear y f A Q hM u hZ hD d T G D hz J H M E3
    obtain⟨rn,a5⟩:∃rn,Hid (S.rs.length=rn):=⟨_,rfl⟩
    rw[a5.out]at b0 U d2 V e2 g7 b2
    generalize h.rc=rc at *
    go_upto_region 5 with fail
    generalize wr.setCell ⟨a,i,none⟩ (.int .i64 0)=W1 at *
    clear e2 e3 d1 d2 d3 f3
    have HC:Hid (Calls Tryz.prog 66 #[.pointer (some ⟨p.mb,0,none⟩),.int .i64 (xl:Int)] W1.drew fun e W'=>e=.returned (.tuple #[])/\LK w W' h S p t a C s n fd E l (k+1)):=by
     have f:=P.out.below (qo W1);refine(qaq _ w.heap.size p.mb p.fb L n xl K g o f.yb.mrk O.out.2.2.1 O.out.1 O.out.2.1 f.yb.bel.size).mono ?_;rintro e W2 ⟨rfl,c3,c4,a9,b6⟩;obtain⟨s1,s2,s3,s4,s5,s6⟩:=HS.out;obtain⟨t1,t2,t3,t4,t5,t6⟩:=O.out;obtain⟨a1,a2,a3⟩:=qch t3 t1;have a6:=qqo s3 t6 s6 t5 t4 b.out.2.2.2.1;refine⟨rfl,c3,c4,_,_,_,f.mark a9 b6,by rw[List.length_set];exact s1,s2.trans a1,s3,qo2 s4 t5 t4 a2 a1.up,fun z hz=>?_⟩
     rcases a3 z hz with e | e
     ·exact s5 z e
     ·subst e;exact a6
    clear P O HS
    go_region_with(go_at_call 66;refine HC.out.mono ?_;rintro e W2 ⟨rfl,R⟩)
    all_goals
     have N:=hid R;clear R;go_wp2_with fail;go_roundg (m - (k+1))
     case measure=>omega
     case rel=>exact⟨k+1,by simp,by omega,Nat.le_refl _,N⟩
   ·have e2:=M (z - 1);have e3:=E3 (z - 1);have f:YM w (wr.setCell ⟨a,i,none⟩ (.int .i64 (z - 1))) h S p t a K L C g o (B.set i (z - 1)) s:=y.put
    have N:Hid (LK w (wr.setCell ⟨a,i,none⟩ (.int .i64 (z - 1))) h S p t a C s n fd E l (k+1)):=⟨K,L,g,o,_,f,by rw[List.length_set];exact A,Q,u,qqn hZ (by omega),hD⟩
    have d5:(z - 1 == 0)=false:=by
     have:z - 1≠0:=by omega
     simpa using this
    clear y f A Q hM u hZ hD d T G D hz J M E3
    generalize S.rs.length=rn at *
    go_wp2_with fail;go_roundg (m - (k+1))
    case measure=>omega
    case rel=>exact⟨k+1,by simp,by omega,Nat.le_refl _,N⟩
  ·have N:Hid (LK w wr h S p t a C s n fd E l m):=by
    have:k=m:=by omega
    subst this;exact J.out
   clear J;go_wp2_with fail;go_end0;exact⟨rfl,N.out⟩
theorem Grd.new{W:World}{a g n:Nat}(h:W.ownsRow a 28 1 (.slice (some ⟨g,0,none⟩) n n) n (List.replicate n (.slice none 0 0))):Grd W a g (List.replicate n (none,0)) (List.replicate n []):=by
 refine⟨by simp,?_,?_,?_⟩
 ·rw[List.length_replicate]
  have e:grC (List.replicate n (none,0)) (List.replicate n [])=List.replicate n (.slice none 0 0):=by
   unfold grC;rw[List.zip_replicate,List.map_replicate,Nat.min_self];rfl
  rw[e];exact h
 ·intro x p l c i;have b:=List.mem_of_getElem? c;have d:=List.mem_of_getElem? i;rw[List.mem_replicate]at b d;rw[b.2,d.2];exact World.ownsRow_nil _ _ _ _
 ·intro x y p q k _ c _ f;have b:=List.mem_of_getElem? c;rw[List.mem_replicate]at b;rw[b.2]at f
  cases f
theorem qkf{n k:Nat}(h:GR (List.replicate n (none,0)) k):False:=by
 obtain⟨x,p,c,b⟩:=h;have a:=List.mem_of_getElem? c;rw[List.mem_replicate]at a;rw[a.2]at b
 cases b
theorem Mrk.mono{W:World}{b a g d j:Nat}{i:Option Addr}{fd:List Bool}{f:List Nat}(h:Mrk W b g d i j fd f)(c:a<=b):Mrk W a g d i j fd f :=
 ⟨h.box,zc h.fnd c,zc h.frs c,Nat.le_trans c h.new⟩
theorem qo3(V:World)(a n:Nat)(p:n<=1000)(h:a<=V.heap.size):∃b,(Instr.makeSlice 28 (.int .i64 (n:Int)) (.int .i64 (n:Int))).run Tryz.prog V=.ok (.slice (some ⟨V.heap.size,0,none⟩) n n) b/\b.ownsRow a 3 1 (.slice (some ⟨V.heap.size,0,none⟩) n n) n (intC (List.replicate n 0))/\Below V.heap.size V b:=by
 obtain⟨o,j,c,d,f⟩:=info_parts i3;obtain⟨w1,m,g,i⟩:=run_make_full (P:=Tryz.prog) V a 28 3 o _ 1 u29 j c d .i64 .i64 n (by rw[f];omega) (by unfold maxLen;omega) h
 have e:(madeCells (Value.int .i64 0).cells (n * 1)).toList=intC (List.replicate n 0):=by
  have e:(Value.int .i64 0).cells=#[.int .i64 0]:=rfl;rw[Nat.mul_one,e,toList_madeCells_one];unfold intC;rw[List.map_replicate]
 rw[e]at g;exact⟨w1,m,g,(Below.refl V.heap.size V).grown i (Nat.le_refl _) (fun k l=>by cases l)⟩
theorem qco(V:World)(a n:Nat)(p:n<=1000)(h:a<=V.heap.size):∃b,(Instr.makeSlice 92 (.int .i64 (n:Int)) (.int .i64 (n:Int))).run Tryz.prog V=.ok (.slice (some ⟨V.heap.size,0,none⟩) n n) b/\Grd b a V.heap.size (List.replicate n (none,0)) (List.replicate n [])/\Below V.heap.size V b:=by
 obtain⟨o,j,c,d,f⟩:=info_parts i29;obtain⟨w1,m,g,i⟩:=run_make_full (P:=Tryz.prog) V a 92 28 o _ 1 u39 j c d .i64 .i64 n (by rw[f];omega) (by unfold maxLen;omega) h
 have e:(madeCells (Value.slice none 0 0).cells (n * 1)).toList=List.replicate n (.slice none 0 0):=by
  have e:(Value.slice none 0 0).cells=#[.slice none 0 0]:=rfl;rw[Nat.mul_one,e,toList_madeCells_one]
 rw[e]at g;exact⟨w1,m,Grd.new g,(Below.refl V.heap.size V).grown i (Nat.le_refl _) (fun k l=>by cases l)⟩
def rgt (S:Sp) (j:Nat):List Nat:=((S.rs[j]?).map (·.r)).getD []
theorem qkg{S:Sp}{j:Nat}{r:SR}(h:S.rs[j]?=some r):rgt S j=r.r:=by unfold rgt;rw[h];rfl
def cnt (S:Sp) (i k j x:Nat):Nat:=if 0<j/\j<i then (rgt S j).count x else if 0<j/\j=i then ((rgt S j).take k).count x else 0
def WtsK (S:Sp) (i k:Nat) (wt:List (List Nat)):Prop:=∀(x:Nat) (l:List Nat),wt[x]?=some l->∀j,l.count j=cnt S i k j x
theorem qo4(S:Sp)(n k:Nat):WtsK S 0 k (List.replicate n []):=by
 intro x l b j;have a:=List.mem_of_getElem? b;rw[List.mem_replicate]at a;rw[a.2];unfold cnt;rw[if_neg (by omega),if_neg (by omega)];rfl
theorem qo5{S:Sp}{a:List (List Nat)}(h:WtsK S 0 0 a):WtsK S 1 0 a:=by
 intro x l b j;rw[h x l b j];unfold cnt;rw[if_neg (by omega),if_neg (by omega),if_neg (by omega)]
 split
 ·simp
 ·rfl
theorem qo6{S:Sp}{i k:Nat}{b:List (List Nat)}(h:WtsK S i k b)(f:(rgt S i).length<=k):WtsK S (i+1) 0 b:=by
 intro x l g j;rw[h x l g j];unfold cnt
 by_cases a:0<j
 ·by_cases c:j<i
  ·rw[if_pos ⟨a,c⟩,if_pos ⟨a,by omega⟩]
  ·rw[if_neg (by omega)]
   by_cases d:j=i
   ·subst d;rw[if_pos ⟨a,rfl⟩,if_pos ⟨a,by omega⟩,List.take_of_length_le f]
   ·rw[if_neg (by omega),if_neg (by omega)]
    split
    ·simp
    ·rfl
 ·rw[if_neg (by omega),if_neg (by omega),if_neg (by omega),if_neg (by omega)]
theorem qo7{S:Sp}{i k x:Nat}{n:List (List Nat)}{l:List Nat}(h:WtsK S i k n)(r:0<i)(q:(rgt S i)[k]?=some x)(p:n[x]?=some l):WtsK S i (k+1) (n.set x (l++[i])):=by
 intro y m b j;rw[List.getElem?_set]at b;have f:=(List.getElem?_eq_some_iff.1 p).1
 have step:∀y,cnt S i (k+1) j y=cnt S i k j y+if j=i/\x=y then 1 else 0:=by
  intro y;unfold cnt
  by_cases c:0<j/\j<i
  ·rw[if_pos c,if_pos c,if_neg (by omega),Nat.add_zero]
  ·rw[if_neg c,if_neg c]
   by_cases a:0<j/\j=i
   ·rw[if_pos a,if_pos a];obtain⟨-,rfl⟩:=a;rw[zw q,List.count_append]
    by_cases o:x=y
    ·subst o;simp
    ·simp[o]
   ·rw[if_neg a,if_neg a,if_neg (by omega)]
 rw[step y]
 by_cases g:x=y
 ·subst g;rw[if_pos rfl,if_pos f]at b
  cases b
  rw[List.count_append,h x l p j]
  by_cases d:j=i
  ·subst d;simp
  ·have:¬i=j:=fun e=>d e.symm
   simp[d,this]
 ·rw[if_neg g]at b;rw[h y m b j];simp[g]
theorem qqp{S:Sp}{d:List (List Nat)}(h:WtsK S S.rs.length 0 d):Wts S S.rs.length d:=by
 intro x l f j;rw[h x l f j];unfold cnt
 cases a:S.rs[j]? with
 | none =>
  have:¬j<S.rs.length:=by rw[List.getElem?_eq_none_iff]at a;omega
  rw[if_neg (by omega)]
  split
  ·simp
  ·rfl
 | some r =>
  simp only;rw[qkg a];have c:=(List.getElem?_eq_some_iff.1 a).1
  by_cases b:0<j
  ·rw[if_pos ⟨b,c⟩,if_pos ⟨b,c⟩]
  ·rw[if_neg (by omega),if_neg (by omega),if_neg (by omega)]
theorem qsi{S:Sp}{c:List (List Nat)}{x:Nat}{l:List Nat}(h:Wts S S.rs.length c)(f:c[x]?=some l):∀i∈l,0<i/\i<S.rs.length:=by
 intro i d;have a:=List.count_pos_iff.2 d;rw[h x l f i]at a
 cases b:S.rs[i]? with
 | none=>rw[b]at a;simp at a
 | some r =>
  rw[b]at a;simp only at a
  split at a
  ·assumption
  ·omega
def Emp (S:Sp) (i:Nat) (ms:List Int) (fd:List Bool):Prop:=∀(j:Nat) (r:SR),0<j->j<i->S.rs[j]?=some r->ms[j]?=some ((r.r.length:Nat):Int)/\∀xl:Nat,r.r=[]->r.l=(xl:Int)->isF fd xl=true
structure Y1 (w W:World) (h:SHd) (S:Sp) (p:YP) (b4 gm n:Nat) (i i2 k:Nat) (va:Option Addr) (vc:Nat) (vs:List (Option Addr × Nat)) (fd:List Bool) (fr:List Nat) (ms:List Int) (wt:List (List Nat)):Prop where
 ym:YM w W h S p b4 gm va vc vs fd fr ms wt
 ml:ms.length=S.rs.length
 wl:wt.length=n
 ok:MK n fd fr
 np:∀x,isF fd x=true->x∈fr
 der:qbb S fd
 emp:Emp S i2 ms fd
 wts:WtsK S i k wt
 rows:∀(x:Nat) (l:List Nat),wt[x]?=some l->l.length<=i * 100+k
theorem Y1.below{w W a:World}{h:SHd}{S:Sp}{p:YP}{b d n i f k:Nat}{j:Option Addr}{l:Nat}{m:List (Option Addr × Nat)}{fd:List Bool}{c:List Nat}{g:List Int}{o:List (List Nat)}(y:Y1 w W h S p b d n i f k j l m fd c g o)(q:Below W.heap.size W a):Y1 w a h S p b d n i f k j l m fd c g o :=
 ⟨y.ym.below q,y.ml,y.wl,y.ok,y.np,y.der,y.emp,y.wts,y.rows⟩
theorem qsj{fd:List Bool}{b:List Nat}{x:Nat}(h:∀z,isF fd z=true->z∈b)(d:x<fd.length):∀z,isF (mkd fd b x).1 z=true->z∈(mkd fd b x).2:=by
 intro z a;unfold mkd at a ⊢
 cases c:isF fd x
 ·rw[c]at a;simp only[Bool.false_eq_true,if_false]at a ⊢;rw[ky d]at a
  split at a
  ·rename_i e;subst e;simp
  ·exact List.mem_append_left _ (h z a)
 ·rw[c]at a;exact h z a
theorem qtw{S:Sp}{i:Nat}{f:List Int}{fd a:List Bool}(h:Emp S i f fd)(up:∀z,isF fd z=true->isF a z=true):Emp S i f a :=
 fun j r b c d=>⟨(h j r b c d).1,fun g e k=>up g ((h j r b c d).2 g e k)⟩
theorem Y1.mark{w W d:World}{h:SHd}{S:Sp}{p:YP}{g j n i m k x:Nat}{q b:Option Addr}{C c:Nat}{r:List (Option Addr × Nat)}{fd:List Bool}{a:List Nat}{o:List Int}{s:List (List Nat)}(y:Y1 w W h S p g j n i m k q C r fd a o s)(l:x<n)(hd:Der S x)(v:Mrk d w.heap.size p.mb p.fb b c (mkd fd a x).1 (mkd fd a x).2)(A:MMv W p.mb p.fb q d b):
  Y1 w d h S p g j n i m k b c r (mkd fd a x).1 (mkd fd a x).2 o s/\isF (mkd fd a x).1 x=true/\∀z,isF fd z=true->isF (mkd fd a x).1 z=true:=by
 obtain⟨f,t,u⟩:=qch y.ok l;refine⟨⟨y.ym.mark v A,y.ml,y.wl,f.ok,qsj y.np (by rw[y.ok.len];exact l),fun z B=>?_,qtw y.emp f.up,y.wts,y.rows⟩,t,f.up⟩
 rcases u z B with e | e
 ·exact y.der z e
 ·subst e;exact hd
theorem Y1.put{w W:World}{h:SHd}{S:Sp}{p:YP}{b a n i k:Nat}{m:Option Addr}{o:Nat}{q:List (Option Addr × Nat)}{fd:List Bool}{c:List Nat}{l:List Int}{s:List (List Nat)}{z:Int}(y:Y1 w W h S p b a n i i k m o q fd c l s):Y1 w (W.setCell ⟨a,i,none⟩ (.int .i64 z)) h S p b a n i i k m o q fd c (l.set i z) s :=
 ⟨y.ym.put,by rw[List.length_set];exact y.ml,y.wl,y.ok,y.np,y.der,fun j r d f g=>⟨by rw[List.getElem?_set,if_neg (by omega)];exact(y.emp j r d f g).1,(y.emp j r d f g).2⟩,y.wts,y.rows⟩
theorem Y1.told{w W:World}{h:SHd}{S:Sp}{p:YP}{c f n i k:Nat}{g:Option Addr}{m:Nat}{o:List (Option Addr × Nat)}{fd:List Bool}{d:List Nat}{b:List Int}{s:List (List Nat)}{r:SR}(y:Y1 w W h S p c f n i i k g m o fd d b s)(z:S.rs[i]?=some r)(x:b[i]?=some ((r.r.length:Nat):Int))(v:∀t:Nat,r.r=[]->r.l=(t:Int)->isF fd t=true):Y1 w W h S p c f n i (i+1) k g m o fd d b s:=by
 refine⟨y.ym,y.ml,y.wl,y.ok,y.np,y.der,fun j q u A a=>?_,y.wts,y.rows⟩
 rcases Nat.lt_or_ge j i with hlt | hge
 ·exact y.emp j q u hlt a
 ·have:j=i:=by omega
  subst this;rw[z]at a
  cases a
  exact⟨x,v⟩
theorem Y1.next{w W:World}{h:SHd}{S:Sp}{p:YP}{a c n i k:Nat}{f:Option Addr}{g:Nat}{j:List (Option Addr × Nat)}{fd:List Bool}{b:List Nat}{d:List Int}{m:List (List Nat)}(y:Y1 w W h S p a c n i (i+1) k f g j fd b d m)(o:(rgt S i).length<=k)(q:k<=100):Y1 w W h S p a c n (i+1) (i+1) 0 f g j fd b d m :=
 ⟨y.ym,y.ml,y.wl,y.ok,y.np,y.der,y.emp,qo6 y.wts o,fun x l r=>by have:=y.rows x l r;omega⟩
theorem Y1.skip{w W:World}{h:SHd}{S:Sp}{p:YP}{a c n:Nat}{f:Option Addr}{g:Nat}{i:List (Option Addr × Nat)}{fd:List Bool}{b:List Nat}{d:List Int}{k:List (List Nat)}(y:Y1 w W h S p a c n 0 0 0 f g i fd b d k):Y1 w W h S p a c n 1 1 0 f g i fd b d k :=
 ⟨y.ym,y.ml,y.wl,y.ok,y.np,y.der,fun j q o r s=>by omega,qo5 y.wts,fun x l m=>by have:=y.rows x l m;omega⟩
theorem Y1.push{w W:World}{h:SHd}{S:Sp}{p:YP}{B E n i k x:Nat}{H:Option Addr}{I:Nat}{Q:List (Option Addr × Nat)}{fd:List Bool}{D:List Nat}{G:List Int}{v:List (List Nat)}(y:Y1 w W h S p B E n i (i+1) k H I Q fd D G v)(N:0<i)(P:(rgt S i)[k]?=some x)(s:x<n)(T:i * 100+k<100000):
  ∃t d o g c a,W.cell? ⟨p.wb,x,none⟩=some (.slice t d o)/\d<=o/\o<=9223372036854775807/\(Builtin.append_ #[28,28] 28 #[.slice t d o,.slice (some ⟨W.heap.size,0,none⟩) 1 1]).run Tryz.prog (W.alloc (.cells #[.int .i64 (i:Int)] 3))=.ok (.slice (some ⟨g,0,none⟩) (d+1) c) a /\
   a.cell? ⟨p.wb,x,none⟩=some (.slice t d o)/\a.frozen? ⟨p.wb,x,none⟩=false/\a.cell? ⟨p.b5,0,none⟩=some (.slice (some ⟨p.wb,0,none⟩) n n) /\
   ∃u A,Y1 w (a.setCell ⟨p.wb,x,none⟩ (.slice (some ⟨g,0,none⟩) (d+1) c)) h S p B E n i (i+1) (k+1) H I u fd D G A:=by
 obtain⟨l,f⟩:∃l,v[x]?=some l:=⟨v[x]'(by rw[y.wl];exact s),List.getElem?_eq_getElem _⟩
 obtain⟨q,r,c1,-⟩:=y.ym.yb.grd.at f;have F:=y.rows x l f;obtain⟨g,c,a,O,J,K,C,R,L,M⟩:=y.ym.yb.push (i:=i) f r (by omega);have j:=zq (y.ym.yb.grd.row x q l r f);rw[y.wl]at C;refine⟨q.1,l.length,q.2,g,c,a,c1,j.1,j.2,O,J,K,C,_,_,y.ym.push r R L M,y.ml,by rw[List.length_set];exact y.wl,y.ok,y.np,y.der,y.emp,qo7 y.wts N P f,fun z m b=>?_⟩
 rw[List.getElem?_set]at b
 split at b
 ·split at b
  ·cases b
   rw[List.length_append];simp;omega
  ·cases b
 ·have:=y.rows z m b;omega
end Go.Proofs.YtbdogaaooeoccaaGreatDoor
