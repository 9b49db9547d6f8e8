/- Texts that the proofs of the First statements stand on, part Prf06. -/
import Derived.Deep.SlicePairs
import Derived.Deep.Strs
import Derived.Deep.RegionHeld
import Derived.Deep.RegionLaw
import Derived.Test.YtngclmglmhiljaaGreatDoorPrf05
set_option maxHeartbeats 16000000
set_option maxRecDepth 100000
namespace Go.Proofs.YtngclmglmhiljaaGreatDoor
open Go.RowKit
structure Szs (S:Sp) (n:Nat):Prop where
 nm:S.nm.length=n
 nn:n=S.tk+1+S.nt
 tk:S.tk<=100
 nt:S.nt<=200
theorem WF.szs{S:Sp}(h:WF S):Szs S (S.tk+1+S.nt):=⟨h.nm,rfl,h.tk,h.nt⟩
theorem qa0(h:SHd)(S:Sp)(w:World)(n:Nat)(c:Szs S n):
  Calls Tryz.prog 65 #[sv h S] w fun e i=>e=.returned (.int .i64 (n:Int))/\Below w.heap.size w i:=by
 obtain⟨a,rfl,r,q⟩:=c;obtain⟨g,f,C,m,y,d,b,rs⟩:=S;obtain⟨v,x,s,t,j,k,z,A⟩:=h;unfold sv sC
 simp only at *
 rw[a];generalize d.length=u;generalize b.length=l;generalize rs.length=B;clear a
 have o:¬(g:Int)<0:=by omega
 have p:¬(f:Int)<0:=by omega
 go_enter Tryz.func65,Tryz.ntmps65;go_wp2_with fail;go_ret;exact⟨by simp,qb _ _⟩
theorem qaa(h:SHd)(S:Sp)(w:World)(n x:Nat)(g:Szs S n)(i:x<n):
  Calls Tryz.prog 67 #[sv h S,.int .i64 (x:Int)] w fun e a=>e=.returned (.bool true)/\Below w.heap.size w a:=by
 have b:Hid (∀W:World,Calls Tryz.prog 65 #[sv h S] W fun e a=>e=.returned (.int .i64 (n:Int))/\Below W.heap.size W a):=fun W=>qa0 h S W n g
 unfold sv sC at *
 have d:(x:Int)<(n:Int):=by omega
 have f:(0:Int)<=(x:Int):=by omega
 go_enter Tryz.func67,Tryz.ntmps67;go_wp2_with fail;refine(b.out _).mono ?_;rintro e w1 ⟨rfl,c⟩;go_wp2_with fail;go_ret;exact⟨rfl,qd (qb _ _) c⟩
theorem qed(h:SHd)(S:Sp)(w:World)(n x:Nat)(g:Szs S n)(f:x<n)(i:S.tk<x):
  Calls Tryz.prog 66 #[sv h S,.int .i64 (x:Int)] w fun e a=>e=.returned (.bool true)/\Below w.heap.size w a:=by
 have b:Hid (∀W:World,Calls Tryz.prog 67 #[sv h S,.int .i64 (x:Int)] W fun e a=>e=.returned (.bool true)/\Below W.heap.size W a):=fun W=>qaa h S W n x g f
 unfold sv sC at *
 have d:(S.tk:Int)<(x:Int):=by omega
 go_enter Tryz.func66,Tryz.ntmps66;go_wp2_with fail;refine(b.out _).mono ?_;rintro e w1 ⟨rfl,c⟩;go_wp2_with fail;go_ret;exact⟨rfl,qd (qb _ _) c⟩
theorem qe3(h:SHd)(S:Sp)(w:World):
  Calls Tryz.prog 66 #[sv h S,.int .i64 (-1)] w fun e b=>e=.returned (.bool false)/\Below w.heap.size w b:=by
 unfold sv sC at *
 have a:¬(S.tk:Int) < -1:=by omega
 go_enter Tryz.func66,Tryz.ntmps66;go_wp2_with fail;go_ret;exact⟨rfl,qb _ _⟩
theorem qfn(n:Nat):(madeCells (Value.bool false).cells (n * 1)).toList=booC (List.replicate n false):=by
 have e:(Value.bool false).cells=#[.bool false]:=rfl;rw[Nat.mul_one,e,toList_madeCells_one];unfold booC;rw[List.map_replicate]
theorem qat(w:World)(n:Nat)(q:n<=1000):
  Calls Tryz.prog 64 #[.int .i64 (n:Int)] w fun e j=>∃i m,e=.returned (.pointer (some ⟨i,0,none⟩))/\Mrk j w.heap.size i m none 0 (List.replicate n false) []/\Below w.heap.size w j:=by
 obtain⟨p,h,a,b,c⟩:=info_parts i4;obtain⟨w1,r,d,g⟩:=run_make_full (P:=Tryz.prog) w w.heap.size 41 4 p _ 1 u51 h a b .i64 .i64 n (by rw[c];omega) (by unfold maxLen;omega) (Nat.le_refl _)
 rw[qfn]at d
 have l:Hid (Mrk (w1.alloc (.cells #[.slice (some ⟨w.heap.size,0,none⟩) n n,.slice none 0 0] 98)) w.heap.size w1.heap.size w.heap.size none 0 (List.replicate n false) []/\Below w.heap.size w (w1.alloc (.cells #[.slice (some ⟨w.heap.size,0,none⟩) n n,.slice none 0 0] 98))):=by
  have f:Below w.heap.size w w1:=(Below.refl w.heap.size w).grown g (Nat.le_refl _) (fun k o=>by cases o);refine⟨⟨?_,?_,World.ownsRow_nil _ _ _ _,f.size⟩,qd f (qb _ _)⟩
  ·rw[List.length_replicate];exact heap_alloc_new _ _
  ·rw[List.length_replicate];exact d.alloc _
 clear d g h a b c;go_enter Tryz.func64,Tryz.ntmps64;go_wp2_with fail;go_ret;exact⟨_,_,rfl,l.out⟩
def popW (W:World) (mb:Nat) (va:Option Addr) (m vc:Nat):World:=W.setCell ⟨mb,1,none⟩ (.slice va m vc)
theorem qh3{α:Type}(l:List α)(h:l≠[]):∃a x,l=a++[x]:=⟨l.dropLast,l.getLast h,(List.dropLast_concat_getLast h).symm⟩
theorem qb5(F:FuncId)(p:Array Value)(hE:∀(args:Array Value) (W:World),(callFunc F args).run Tryz.prog W=.ok (.enter F args) W)(s r n:Nat)(hn:n<=1000)(I:World->Option Addr->Nat->List Bool->List Nat->Prop)(R:∀W k l fd i,I W k l fd i->MK n fd i/\∃D,Mrk W s r D k l fd i)(S:∀W k l fd i x,I W k l fd (i++[x])->Calls Tryz.prog F (#[.int .i64 (x:Int)]++p) (popW W r k i.length l) fun e o=>e=.returned (.tuple #[])/\∃d f a b,I o d f a b/\lft n a b<lft n fd (i++[x]))(W:World)(k:Option Addr)(l:Nat)(fd:List Bool)(i:List Nat)(h:I W k l fd i):
  Calls Tryz.prog 69 #[.pointer (some ⟨r,0,none⟩),.func (.func F) #[] p] W fun e o=>e=.returned (.tuple #[])/\∃d f a,I o d f a []:=by
 have V:Hid (∀W k l fd i x,I W k l fd (i++[x])->Calls Tryz.prog F (#[.int .i64 (x:Int)]++p) (popW W r k i.length l) fun e o=>e=.returned (.tuple #[])/\∃d f a b,I o d f a b/\lft n a b<lft n fd (i++[x])):=S;have U:Hid (∀W k l fd i,I W k l fd i->MK n fd i/\∃D,Mrk W s r D k l fd i):=R;have P:Hid (I W k l fd i):=h;clear S R h;go_enter Tryz.func69,Tryz.ntmps69;go_wp2_with fail
 go_loopg [] (lft n fd i) (fun kx wr=>Hid (∃d f a b,I wr d f a b/\lft n a b<=kx))
 case atStart=>exact(⟨k,l,fd,i,P.out,Nat.le_refl _⟩:∃d f a b,I W d f a b/\lft n a b<=lft n fd i)
 case round =>
  clear P;obtain⟨v,y,A,t,B,M⟩:=hrel.out;obtain⟨u,D,z⟩:=U.out _ _ _ _ _ B
  have J:wr.cell? ⟨r,1,none⟩=some (.slice v t.length y):=by rw[qe z.box];rfl
  have Z:wr.frozen? ⟨r,1,none⟩=false:=qi z.box 1;have N:=u.le;have C:=z8 z.frs
  by_cases L:t=[]
  ·subst L
   have H:Hid (∃d f a,I wr d f a []):=⟨_,_,_,B⟩
   have J:wr.cell? ⟨r,1,none⟩=some (.slice v 0 y):=J;clear z u B M hrel;go_wp2_with fail;go_end0;exact⟨rfl,H.out⟩
  ·obtain⟨j,x,rfl⟩:=qh3 t L
   have K:(j++[x]).length=j.length+1:=by simp
   rw[K]at J N C;have q:=z.frs;rw[K]at q
   obtain⟨g,rfl⟩:∃g,v=some ⟨g,0,none⟩:=by
    obtain⟨Y,c,e,-,-,E⟩:=zh q
    cases e
    rcases E with ⟨-,E,-⟩ | E
    ·omega
    ·exact E
   have c1:wr.cell? ⟨g,j.length,none⟩=some (.int .i64 (x:Int)):=by
    rw[q.cellAt j.length (by omega),jf,List.getElem?_append_right (by rw[js];exact Nat.le_refl _),js,Nat.sub_self]
    rfl
   have G:Hid (Calls Tryz.prog F (#[.int .i64 (x:Int)]++p) (popW wr r (some ⟨g,0,none⟩) j.length y) fun e o=>e=.returned (.tuple #[])/\∃d f a b,I o d f a b/\lft n a b<lft n A (j++[x])):=V.out _ _ _ _ _ _ B;have Q:Hid (lft n A (j++[x])<=gk):=M;unfold popW at G
   generalize j.length=m at *
   clear z u B M hrel q K L
   have m1:(0:Int)<(m:Int)+1:=by omega
   go_wp2_with fail;refine G.out.mono ?_;rintro e o ⟨rfl,d,f,a,b,T,O⟩
   have H:Hid (∃d f a b,I o d f a b/\lft n a b<=gk - 1):=⟨d,f,a,b,T,by have:=Q.out;omega⟩
   have X:1<=gk:=by have:=Q.out;omega
   clear T O G;go_wp2_with fail;go_roundg (gk - 1)
   case measure=>omega
   case rel=>exact H
def grC (vs:List (Option Addr × Nat)) (wt:List (List Nat)):List Value:=(vs.zip wt).map fun q=>.slice q.1.1 q.2.length q.1.2
structure Grd (W:World) (base wb:Nat) (vs:List (Option Addr × Nat)) (wt:List (List Nat)):Prop where
 len:vs.length=wt.length
 bod:W.ownsRow base 26 1 (.slice (some ⟨wb,0,none⟩) wt.length wt.length) wt.length (grC vs wt)
 row:∀(x:Nat) (p:Option Addr × Nat) (l:List Nat),vs[x]?=some p->wt[x]?=some l->W.ownsRow base 3 1 (.slice p.1 l.length p.2) l.length (natC l)
 dis:∀(x y:Nat) (p q:Option Addr × Nat) (k:Nat),x≠y->vs[x]?=some p->vs[y]?=some q->blk p.1=some k->blk q.1≠some k
def GR (vs:List (Option Addr × Nat)) (k:Nat):Prop:=∃(x:Nat) (p:Option Addr × Nat),vs[x]?=some p/\blk p.1=some k
theorem qhj{W:World}{a E k n c:Nat}{d:Option Addr}{cs:List Value}(h:W.ownsRow a E k (.slice d n c) n cs){b:Nat}(f:blk d=some b):(Value.slice d n c).ownBlock=some b:=by
 rcases h.2 with ⟨hv,-⟩ | ⟨g,cap,cur,hv,-⟩
 ·cases hv;cases f
 ·cases hv;exact f
theorem qw{W:World}{a E k n c:Nat}{f:Option Addr}{cs:List Value}(h:W.ownsRow a E k (.slice f n c) n cs){b:Nat}(d:blk f=some b):a<=b/\b<W.heap.size/\Loc W b E :=
 ⟨(World.ownsRow.lt h b (qhj h d)).1,(World.ownsRow.lt h b (qhj h d)).2,qx h (qhj h d)⟩
theorem Grd.lt{W:World}{a j:Nat}{d:List (Option Addr × Nat)}{b:List (List Nat)}(h:Grd W a j d b){k:Nat}(g:GR d k):a<=k/\k<W.heap.size/\Loc W k 3:=by
 obtain⟨x,p,c,f⟩:=g
 have i:x<b.length:=by rw[<-h.len];exact(List.getElem?_eq_some_iff.1 c).1
 exact qw (h.row x p b[x] c (List.getElem?_eq_getElem i)) f
theorem Grd.loc{W:World}{a b:Nat}{c:List (Option Addr × Nat)}{d:List (List Nat)}(h:Grd W a b c d):a<=b/\b<W.heap.size/\Loc W b 26:=qw h.bod rfl
theorem Grd.keep{W c:World}{a b:Nat}{f:List (Option Addr × Nat)}{j:List (List Nat)}(h:Grd W a b f j)(m:c.heap[b]?=W.heap[b]?)(n:∀k,GR f k->c.heap[k]?=W.heap[k]?):Grd c a b f j:=by
 refine⟨h.len,?_,fun x p l g o=>?_,h.dis⟩
 ·exact qh h.bod (fun i d=>by cases d;exact m)
 ·exact qh (h.row x p l g o) (fun i d=>n i ⟨x,p,g,zi d⟩)
theorem Grd.kept{W d:World}{F:Nat->Prop}{a b:Nat}{c:List (Option Addr × Nat)}{g:List (List Nat)}(h:Grd W a b c g)(k:Kept F W d)(i:¬F b)(l:∀j,GR c j->¬F j):Grd d a b c g :=
 h.keep (k.block b h.loc.2.1 i) (fun j f=>k.block j (h.lt f).2.1 (l j f))
theorem Grd.below{W c:World}{a b:Nat}{d:List (Option Addr × Nat)}{f:List (List Nat)}(h:Grd W a b d f)(k:Below W.heap.size W c):Grd c a b d f :=
 h.keep (k.block b h.loc.2.1) (fun j g=>k.block j (h.lt g).2.1)
theorem Grd.at{W:World}{b d:Nat}{a:List (Option Addr × Nat)}{c:List (List Nat)}(h:Grd W b d a c){x:Nat}{l:List Nat}(f:c[x]?=some l):∃p,a[x]?=some p/\W.cell? ⟨d,x,none⟩=some (.slice p.1 l.length p.2)/\W.frozen? ⟨d,x,none⟩=false:=by
 have i:x<c.length:=(List.getElem?_eq_some_iff.1 f).1;have g:a[x]?=some (a[x]'(by rw[h.len];exact i)):=List.getElem?_eq_getElem _
 refine⟨_,g,?_,h.bod.frozenAt x⟩;rw[h.bod.cellAt x (by omega)];unfold grC
 have j:(a.zip c)[x]?=some (a[x]'(by rw[h.len];exact i),l):=by rw[List.getElem?_zip_eq_some];exact⟨g,f⟩
 rw[List.getElem?_map,j];rfl
theorem qde{α β:Type}:∀{l:List α} {m:List β} {i:Nat} {x:α} {y:β},(l.set i x).zip (m.set i y)=(l.zip m).set i (x,y)
 | [],m,i,x,y=>by simp
 | a :: l,[],i,x,y=>by simp
 | a :: l,b :: m,0,x,y=>rfl
 | a :: l,b :: m,i+1,x,y=>by
  simp only[List.set_cons_succ,List.zip_cons_cons];rw[qde]
theorem Kept.weaken{F G:Nat->Prop}{W a:World}(h:Kept F W a)(d:∀k,F k->G k):Kept G W a:=⟨h.os,h.tape,h.output,h.size,fun k b c=>h.block k b (fun e=>c (d k e))⟩
theorem Grd.add{W:World}{b a:Nat}{t:List (Option Addr × Nat)}{n:List (List Nat)}(h:Grd W b a t n)(Z:b<=W.heap.size){x i:Nat}{l:List Nat}{p:Option Addr × Nat}(N:n[x]?=some l)(I:t[x]?=some p)(hn:l.length<100000):
  ∃g c f,(Builtin.append_ #[26,26] 26 #[.slice p.1 l.length p.2,.slice (some ⟨W.heap.size,0,none⟩) 1 1]).run Tryz.prog (W.alloc (.cells #[.int .i64 (i:Int)] 3))=.ok (.slice (some ⟨g,0,none⟩) (l.length+1) c) f /\
   f.cell? ⟨a,x,none⟩=some (.slice p.1 l.length p.2)/\f.frozen? ⟨a,x,none⟩=false/\Kept (fun k=>blk p.1=some k) W f /\
   Grd (f.setCell ⟨a,x,none⟩ (.slice (some ⟨g,0,none⟩) (l.length+1) c)) b a (t.set x (some ⟨g,0,none⟩,c)) (n.set x (l++[i]))/\Kept (fun k=>k=a\/blk p.1=some k) W (f.setCell ⟨a,x,none⟩ (.slice (some ⟨g,0,none⟩) (l.length+1) c))/\(blk p.1=some g\/W.heap.size<=g):=by
 obtain⟨g,c,f,o,U,hk,hg⟩:=jc (us:=[.int .i64 (i:Int)]) u29 i3 rfl (by decide) (by decide) rfl (fun u X=>by rw[List.mem_singleton]at X;subst X;rfl) (h.row x p l I N) Z hn
 have Y:x<n.length:=(List.getElem?_eq_some_iff.1 N).1
 have A:x<t.length:=by rw[h.len];exact Y
 have L:Kept (fun k=>blk p.1=some k) W f:=((Kept.refl _ W).alloc _).trans hk (fun k _ e=>zi e);have F:blk p.1=some g\/W.heap.size<=g:=hg.imp zi id
 have K:¬blk p.1=some a:=fun e=>qr (qw (h.row x p l I N) e).2.2 h.loc.2.2 (by decide) rfl
 have O:f.ownsRow b 26 1 (.slice (some ⟨a,0,none⟩) n.length n.length) n.length (grC t n):=qh h.bod (fun j D=>by cases D;exact L.block a h.loc.2.1 K)
 have Q:g≠a:=fun e=>qr (qx U rfl) (qx O rfl) (by decide) e
 obtain⟨p',J,c1,-⟩:=h.at N;rw[I]at J
 cases J
 have c2:f.cell? ⟨a,x,none⟩=some (.slice p.1 l.length p.2):=by
  have:f.heap[a]?=W.heap[a]?:=L.block a h.loc.2.1 K;unfold World.cell? at c1 ⊢;rw[this];exact c1
 refine⟨g,c,f,o,c2,O.frozenAt x,L,⟨?_,?_,?_,?_⟩,?_,F⟩
 ·rw[List.length_set,List.length_set];exact h.len
 ·have s1:=(O.stored x (.slice (some ⟨g,0,none⟩) (l.length+1) c)).1;rw[List.length_set]
  have e:grC (t.set x (some ⟨g,0,none⟩,c)) (n.set x (l++[i]))=(grC t n).set x (.slice (some ⟨g,0,none⟩) (l.length+1) c):=by
   unfold grC;rw[qde,List.map_set];simp
  rw[e];exact s1
 ·intro y q m d H;rw[List.getElem?_set]at d H
  by_cases S:x=y
  ·subst S;rw[if_pos rfl,if_pos A]at d;rw[if_pos rfl,if_pos Y]at H
   cases d
   cases H
   rw[jf,List.length_append];exact qh U (fun j D=>by cases D;exact Below.heap_setCell _ _ _ _ Q)
  ·rw[if_neg S]at d H;have v:=h.row y q m d H;refine qh v (fun j D=>?_);have G:=zi D;rw[Below.heap_setCell _ _ _ _ (qr (qx v D) h.loc.2.2 (by decide)),L.block j (qw v G).2.1 (fun e=>h.dis x y p q j S I d e G)]
 ·intro y z q r k B d o P;rw[List.getElem?_set]at d o
  have M:∀(u:Nat) (s:Option Addr × Nat),t[u]?=some s->x≠u->blk s.1=some g->False:=by
   intro u s V R E
   rcases F with C | C
   ·exact h.dis x u p s g R I V C E
   ·have:=(h.lt ⟨u,s,V,E⟩).2.1;omega
  by_cases C:x=y
  ·subst C;rw[if_pos rfl,if_pos A]at d;rw[if_neg B]at o
   cases d
   cases P
   exact fun e=>M z r o B e
  ·rw[if_neg C]at d
   by_cases T:x=z
   ·subst T;rw[if_pos rfl,if_pos A]at o
    cases o
    intro e
    cases e
    exact M y q d C P
   ·rw[if_neg T]at o;exact h.dis y z q r k B d o P
 ·refine Kept.setCell (L.weaken (fun k e=>.inr e)) _ _ (fun _=>.inl rfl)
theorem qj3{W:World}{B E g n c:Nat}{cs:List Value}{u:Value}(h:W.ownsRow B E 1 (.slice (some ⟨g,0,none⟩) (n+1) c) (n+1) (cs++[u])):W.ownsRow B E 1 (.slice (some ⟨g,0,none⟩) n c) n cs:=by
 have b:cs.length=n:=by have:=h.1;rw[List.length_append]at this;simpa using this
 rcases h.2 with ⟨hv,-⟩ | ⟨g',c',cur,hv,hb,hh,h1,h2,h3,h4⟩
 ·cases hv
 ·cases hv
  refine⟨by omega,.inr ⟨g,c,cur,rfl,hb,hh,by omega,h2,h3,?_⟩⟩;have a:=congrArg (List.take n) h4;rw[List.take_take,List.take_append_of_le_length (Nat.le_of_eq b.symm),List.take_of_length_le (Nat.le_of_eq b)]at a;rw[Nat.mul_one]at a ⊢;rw[Nat.min_eq_left (by omega)]at a;exact a
theorem Mrk.loc{W:World}{a f d j:Nat}{g:Option Addr}{fd:List Bool}{i:List Nat}(h:Mrk W a f d g j fd i){k:Nat}(c:MF f d g k):a<=k/\k<W.heap.size/\(Loc W k 98\/Loc W k 4\/Loc W k 3):=by
 rcases c with rfl | rfl | c
 ·exact⟨h.new,(Array.getElem?_eq_some_iff.1 h.box).1,.inl ⟨_,h.box⟩⟩
 ·have:=qw h.fnd (b:=k) rfl;exact⟨this.1,this.2.1,.inr (.inl this.2.2)⟩
 ·have:=qw h.frs c;exact⟨this.1,this.2.1,.inr (.inr this.2.2)⟩
theorem Mrk.notMF{W:World}{a d c n:Nat}{f:Option Addr}{fd:List Bool}{g:List Nat}(h:Mrk W a d c f n fd g){k T:Nat}(b:Loc W k T)(i:T≠98)(j:T≠4)(l:T≠3):¬MF d c f k:=by
 intro m
 rcases (h.loc m).2.2 with e | e | e
 ·exact qr b e i rfl
 ·exact qr b e j rfl
 ·exact qr b e l rfl
theorem Mrk.pop{W:World}{a b j m x:Nat}{d:Option Addr}{fd:List Bool}{k:List Nat}(h:Mrk W a b j d m fd (k++[x])):Mrk (popW W b d k.length m) a b j d m fd k/\MMv W b j d (popW W b d k.length m) d:=by
 have l:=h.frs;rw[List.length_append,jf]at l
 obtain⟨g,rfl⟩:∃g,d=some ⟨g,0,none⟩:=by
  obtain⟨r,c,e,-,-,f⟩:=zh l
  cases e
  rcases f with ⟨-,f,-⟩ | f
  ·exact absurd f (by simp)
  ·exact f
 have n:=qj3 l;have p:b≠j:=qr ⟨_,h.box⟩ (qx h.fnd rfl) (by decide);have q:b≠g:=qr ⟨_,h.box⟩ (qx l rfl) (by decide);refine⟨⟨?_,?_,?_,h.new⟩,(Kept.refl _ _).setCell _ _ (fun _=>.inl rfl),fun _ e=>.inl e⟩
 ·unfold popW;rw[setCell_eq_setRow W b 1 _ 98 (0,0) _ h.box];exact setRow_heap _ _ _ _ 98 _ h.box
 ·exact qh h.fnd (fun i o=>by cases o;exact Below.heap_setCell _ _ _ _ (Ne.symm p))
 ·exact qh n (fun i o=>by cases o;exact Below.heap_setCell _ _ _ _ (Ne.symm q))
theorem Mrk.keep{W j:World}{a c b m:Nat}{g:Option Addr}{fd:List Bool}{l:List Nat}(h:Mrk W a c b g m fd l)(f:∀k,MF c b g k->j.heap[k]?=W.heap[k]?):Mrk j a c b g m fd l :=
 ⟨by rw[f c (.inl rfl)];exact h.box,qh h.fnd (fun i d=>by cases d;exact f b (.inr (.inl rfl))),qh h.frs (fun i d=>f i (.inr (.inr (zi d)))),h.new⟩
structure YP where
 b1:Nat
 b3:Nat
 b5:Nat
 mb:Nat
 fb:Nat
 wb:Nat
structure YB (w W:World) (h:SHd) (S:Sp) (p:YP) (va:Option Addr) (vc:Nat) (vs:List (Option Addr × Nat)) (fd:List Bool) (fr:List Nat) (wt:List (List Nat)):Prop where
 bel:Below w.heap.size w W
 bs:W.heap[p.b1]?=some (.cells (sC h S) 31 (0,0))
 bm:W.heap[p.b3]?=some (.cells #[.pointer (some ⟨p.mb,0,none⟩)] 94 (0,0))
 bw:W.heap[p.b5]?=some (.cells #[.slice (some ⟨p.wb,0,none⟩) wt.length wt.length] 38 (0,0))
 mrk:Mrk W w.heap.size p.mb p.fb va vc fd fr
 grd:Grd W w.heap.size p.wb vs wt
 dis:∀k,GR vs k->blk va≠some k
theorem YB.mark{w W i:World}{h:SHd}{S:Sp}{p:YP}{t a:Option Addr}{C g:Nat}{u:List (Option Addr × Nat)}{fd d:List Bool}{x f:List Nat}{v:List (List Nat)}(y:YB w W h S p t C u fd x v)(B:Mrk i w.heap.size p.mb p.fb a g d f)(m:MMv W p.mb p.fb t i a):YB w i h S p a g u d f v:=by
 have n:∀{b T:Nat} {c:Array Value},W.heap[b]?=some (.cells c T (0,0))->T≠98->T≠4->T≠3->i.heap[b]?=some (.cells c T (0,0)):=fun o l z A=>by
  rw[m.1.block _ (Array.getElem?_eq_some_iff.1 o).1 (y.mrk.notMF ⟨_,o⟩ l z A)];exact o
 refine⟨y.bel.trans (m.1.below y.bel.size (fun k q e=>by have:=(y.mrk.loc e).1;omega)),n y.bs (by decide) (by decide) (by decide),n y.bm (by decide) (by decide) (by decide),n y.bw (by decide) (by decide) (by decide),B,?_,?_⟩
 ·refine y.grd.kept m.1 (y.mrk.notMF y.grd.loc.2.2 (by decide) (by decide) (by decide)) (fun j r e=>?_);have s:=(y.grd.lt r).2.2
  rcases e with rfl | rfl | e
  ·exact qr s ⟨_,y.mrk.box⟩ (by decide) rfl
  ·exact qr s (qx y.mrk.fnd rfl) (by decide) rfl
  ·exact y.dis j r e
 ·intro k q e
  rcases m.2 k e with l | l
  ·exact y.dis k q l
  ·have:=(y.grd.lt q).2.1;omega
theorem YB.below{w W b:World}{h:SHd}{S:Sp}{p:YP}{d:Option Addr}{f:Nat}{g:List (Option Addr × Nat)}{fd:List Bool}{c:List Nat}{i:List (List Nat)}(y:YB w W h S p d f g fd c i)(a:Below W.heap.size W b):YB w b h S p d f g fd c i :=
 ⟨qd y.bel a,qf a y.bs,qf a y.bm,qf a y.bw,y.mrk.keep (fun k j=>a.block k (y.mrk.loc j).2.1),y.grd.below a,y.dis⟩
theorem YB.pop{w W:World}{h:SHd}{S:Sp}{p:YP}{b:Option Addr}{c x:Nat}{d:List (Option Addr × Nat)}{fd:List Bool}{a:List Nat}{f:List (List Nat)}(y:YB w W h S p b c d fd (a++[x]) f):YB w (popW W p.mb b a.length c) h S p b c d fd a f :=
 y.mark y.mrk.pop.1 y.mrk.pop.2
theorem YB.push{w W:World}{h:SHd}{S:Sp}{p:YP}{H:Option Addr}{I x i:Nat}{v:List (Option Addr × Nat)}{fd:List Bool}{D:List Nat}{f:List (List Nat)}{l:List Nat}{q:Option Addr × Nat}(y:YB w W h S p H I v fd D f)(u:f[x]?=some l)(o:v[x]?=some q)(M:l.length<100000):
  ∃g c a,(Builtin.append_ #[26,26] 26 #[.slice q.1 l.length q.2,.slice (some ⟨W.heap.size,0,none⟩) 1 1]).run Tryz.prog (W.alloc (.cells #[.int .i64 (i:Int)] 3))=.ok (.slice (some ⟨g,0,none⟩) (l.length+1) c) a /\
   a.cell? ⟨p.wb,x,none⟩=some (.slice q.1 l.length q.2)/\a.frozen? ⟨p.wb,x,none⟩=false/\a.cell? ⟨p.b5,0,none⟩=some (.slice (some ⟨p.wb,0,none⟩) f.length f.length) /\
   YB w (a.setCell ⟨p.wb,x,none⟩ (.slice (some ⟨g,0,none⟩) (l.length+1) c)) h S p H I (v.set x (some ⟨g,0,none⟩,c)) fd D (f.set x (l++[i]))/\Kept (fun k=>k=p.wb\/blk q.1=some k) W (a.setCell ⟨p.wb,x,none⟩ (.slice (some ⟨g,0,none⟩) (l.length+1) c))/\(blk q.1=some g\/W.heap.size<=g):=by
 obtain⟨g,c,a,N,c1,K,O,L,t,E⟩:=y.grd.add (i:=i) y.bel.size u o M
 have d:∀k,blk q.1=some k->Loc W k 3/\w.heap.size<=k:=fun k e=>⟨(y.grd.lt ⟨x,q,o,e⟩).2.2,(y.grd.lt ⟨x,q,o,e⟩).1⟩
 have G:∀{k T:Nat},Loc W k T->T≠26->T≠3->¬(k=p.wb\/blk q.1=some k):=fun u j B e=>by
  rcases e with rfl | e
  ·exact qr u y.grd.loc.2.2 j rfl
  ·exact qr u (d _ e).1 B rfl
 have A:∀{b T:Nat} {c':Array Value},W.heap[b]?=some (.cells c' T (0,0))->T≠26->T≠3->(a.setCell ⟨p.wb,x,none⟩ (.slice (some ⟨g,0,none⟩) (l.length+1) c)).heap[b]?=some (.cells c' T (0,0)):=fun m j B=>by
  rw[t.block _ (Array.getElem?_eq_some_iff.1 m).1 (G ⟨_,m⟩ j B)];exact m
 have J:a.heap[p.b5]?=some (.cells #[.slice (some ⟨p.wb,0,none⟩) f.length f.length] 38 (0,0)):=by
  rw[O.block _ (Array.getElem?_eq_some_iff.1 y.bw).1 (fun e=>G ⟨_,y.bw⟩ (by decide) (by decide) (.inr e))];exact y.bw
 refine⟨g,c,a,N,c1,K,by rw[qe J];rfl,⟨?_,A y.bs (by decide) (by decide),A y.bm (by decide) (by decide),?_,?_,L,?_⟩,t,E⟩
 ·refine y.bel.trans (t.below y.bel.size (fun k n e=>?_))
  rcases e with rfl | e
  ·have:=y.grd.loc.1;omega
  ·have:=(d k e).2;omega
 ·rw[List.length_set];exact A y.bw (by decide) (by decide)
 ·refine y.mrk.keep (fun k n=>t.block k (y.mrk.loc n).2.1 (fun e=>?_))
  rcases e with rfl | e
  ·exact y.mrk.notMF y.grd.loc.2.2 (by decide) (by decide) (by decide) n
  ·rcases n with rfl | rfl | n
   ·exact qr ⟨_,y.mrk.box⟩ (d _ e).1 (by decide) rfl
   ·exact qr (qx y.mrk.fnd rfl) (d _ e).1 (by decide) rfl
   ·exact y.dis k ⟨x,q,o,e⟩ n
 ·rintro k ⟨z,s,r,m⟩ e;rw[List.getElem?_set]at r;have C:x<v.length:=(List.getElem?_eq_some_iff.1 o).1
  by_cases F:x=z
  ·subst F;rw[if_pos rfl,if_pos C]at r
   cases r
   cases m
   rcases E with j | j
   ·exact y.dis g ⟨x,q,o,j⟩ e
   ·have:=(qw y.mrk.frs e).2.1;simp only at this;omega
  ·rw[if_neg F]at r;exact y.dis k ⟨z,s,r,m⟩ e
structure YM (w W:World) (h:SHd) (S:Sp) (p:YP) (b4 gm:Nat) (va:Option Addr) (vc:Nat) (vs:List (Option Addr × Nat)) (fd:List Bool) (fr:List Nat) (ms:List Int) (wt:List (List Nat)):Prop where
 yb:YB w W h S p va vc vs fd fr wt
 bi:W.heap[b4]?=some (.cells #[.slice (some ⟨gm,0,none⟩) ms.length ms.length] 26 (0,0))
 mis:W.ownsRow w.heap.size 3 1 (.slice (some ⟨gm,0,none⟩) ms.length ms.length) ms.length (intC ms)
 d1:blk va≠some gm
 d2:∀k,GR vs k->k≠gm
 d3:b4≠p.wb
theorem YM.below{w W b:World}{h:SHd}{S:Sp}{p:YP}{c f:Nat}{j:Option Addr}{k:Nat}{l:List (Option Addr × Nat)}{fd:List Bool}{d:List Nat}{g:List Int}{m:List (List Nat)}(y:YM w W h S p c f j k l fd d g m)(a:Below W.heap.size W b):YM w b h S p c f j k l fd d g m :=
 ⟨y.yb.below a,qf a y.bi,qh y.mis (fun i n=>a.block i (World.ownsRow.lt y.mis i n).2),y.d1,y.d2,y.d3⟩
theorem YM.mark{w W l:World}{h:SHd}{S:Sp}{p:YP}{m g:Nat}{o c:Option Addr}{v j:Nat}{q:List (Option Addr × Nat)}{fd d:List Bool}{s f:List Nat}{n:List Int}{r:List (List Nat)}(y:YM w W h S p m g o v q fd s n r)(u:Mrk l w.heap.size p.mb p.fb c j d f)(k:MMv W p.mb p.fb o l c):YM w l h S p m g c j q d f n r:=by
 have a:=qw y.mis (b:=g) rfl;refine⟨y.yb.mark u k,?_,?_,?_,y.d2,y.d3⟩
 ·rw[k.1.block _ (Array.getElem?_eq_some_iff.1 y.bi).1 (y.yb.mrk.notMF ⟨_,y.bi⟩ (by decide) (by decide) (by decide))];exact y.bi
 ·refine qh y.mis (fun i t=>?_)
  cases t
  refine k.1.block g a.2.1 (fun e=>?_)
  rcases e with e | e | e
  ·exact qr a.2.2 ⟨_,y.yb.mrk.box⟩ (by decide) e
  ·exact qr a.2.2 (qx y.yb.mrk.fnd rfl) (by decide) e
  ·exact y.d1 e
 ·intro e
  rcases k.2 g e with h1 | h1
  ·exact y.d1 h1
  ·omega
theorem YM.pop{w W:World}{h:SHd}{S:Sp}{p:YP}{d f:Nat}{b:Option Addr}{c x:Nat}{i:List (Option Addr × Nat)}{fd:List Bool}{a:List Nat}{g:List Int}{j:List (List Nat)}(y:YM w W h S p d f b c i fd (a++[x]) g j):YM w (popW W p.mb b a.length c) h S p d f b c i fd a g j :=
 y.mark y.yb.mrk.pop.1 y.yb.mrk.pop.2
theorem YM.put{w W:World}{h:SHd}{S:Sp}{p:YP}{g c:Nat}{m:Option Addr}{n i:Nat}{o:List (Option Addr × Nat)}{fd:List Bool}{j:List Nat}{l:List Int}{q:List (List Nat)}{z:Int}(y:YM w W h S p g c m n o fd j l q):YM w (W.setCell ⟨c,i,none⟩ (.int .i64 z)) h S p g c m n o fd j (l.set i z) q:=by
 have d:=qw y.mis (b:=c) rfl
 have a:∀{b T:Nat},Loc W b T->T≠3->(W.setCell ⟨c,i,none⟩ (.int .i64 z)).heap[b]?=W.heap[b]?:=fun s r=>Below.heap_setCell _ _ _ _ (qr s d.2.2 r)
 refine⟨⟨y.yb.bel.setCell (p:=⟨c,i,none⟩) d.1 _,?_,?_,?_,?_,?_,y.yb.dis⟩,?_,?_,y.d1,y.d2,y.d3⟩
 ·rw[a ⟨_,y.yb.bs⟩ (by decide)];exact y.yb.bs
 ·rw[a ⟨_,y.yb.bm⟩ (by decide)];exact y.yb.bm
 ·rw[a ⟨_,y.yb.bw⟩ (by decide)];exact y.yb.bw
 ·refine y.yb.mrk.keep (fun k f=>?_)
  rcases f with rfl | rfl | f
  ·exact a ⟨_,y.yb.mrk.box⟩ (by decide)
  ·exact a (qx y.yb.mrk.fnd rfl) (by decide)
  ·exact Below.heap_setCell _ _ _ _ (fun e=>y.d1 (by simp only at e;rw[<-e];exact f))
 ·exact y.yb.grd.keep (a y.yb.grd.loc.2.2 (by decide)) (fun k f=>Below.heap_setCell _ _ _ _ (y.d2 k f))
 ·rw[a ⟨_,y.bi⟩ (by decide),List.length_set];exact y.bi
 ·have:=(y.mis.stored i (.int .i64 z)).1;rw[List.length_set];unfold intC at this ⊢;rw[List.map_set];exact this
theorem YM.push{w W n:World}{h:SHd}{S:Sp}{p:YP}{A a g:Nat}{u:Option Addr}{v x c:Nat}{j:List (Option Addr × Nat)}{fd:List Bool}{o:List Nat}{E:List Int}{H l:List (List Nat)}{q:Option Addr × Nat}(y:YM w W h S p A a u v j fd o E H)(m:j[x]?=some q)(I:YB w n h S p u v (j.set x (some ⟨g,0,none⟩,c)) fd o l)(B:Kept (fun k=>k=p.wb\/blk q.1=some k) W n)(F:blk q.1=some g\/W.heap.size<=g):YM w n h S p A a u v (j.set x (some ⟨g,0,none⟩,c)) fd o E l:=by
 have d:=qw y.mis (b:=a) rfl
 have r:∀k,blk q.1=some k->Loc W k 3:=fun k e=>(y.yb.grd.lt ⟨x,q,m,e⟩).2.2
 refine⟨I,?_,?_,y.d1,?_,y.d3⟩
 ·rw[B.block _ (Array.getElem?_eq_some_iff.1 y.bi).1 (fun e=>?_)]
  ·exact y.bi
  ·rcases e with e | e
   ·exact y.d3 e
   ·exact qr ⟨_,y.bi⟩ (r _ e) (by decide) rfl
 ·refine qh y.mis (fun i G=>?_)
  cases G
  refine B.block a d.2.1 (fun e=>?_)
  rcases e with e | e
  ·exact qr d.2.2 y.yb.grd.loc.2.2 (by decide) e
  ·exact y.d2 a ⟨x,q,m,e⟩ rfl
 ·rintro k ⟨z,s,f,C⟩ e;rw[List.getElem?_set]at f;have t:x<j.length:=(List.getElem?_eq_some_iff.1 m).1
  by_cases D:x=z
  ·subst D;rw[if_pos rfl,if_pos t]at f
   cases f
   cases C
   rcases F with h1 | h1
   ·exact y.d2 g ⟨x,q,m,h1⟩ e
   ·simp only at e;omega
  ·rw[if_neg D]at f;exact y.d2 k ⟨z,s,f,C⟩ e
theorem zc{b:Array Oper}{o:Oper}{a:Act}{w d:World}{K:Act->World->Prop}{Q:Exit->Act->World->Prop}{E:Prop}{u v r:Value}{t:TypeId}(f:o.guard=none)(s x:Operand)(c:o.op=Op.call { callee:=Callee.builtin Builtin.append,args:=#[s,x],argTypes:=#[t,t] })(ht:o.type=t)(hs:a.eval s=u)(hx:a.eval x=v)(hrun:(Builtin.append_ #[t,t] t #[u,v]).run Tryz.prog w=.ok r d)(hK:K (a.put o.dst r) d):
  if Region.wanted o (yielded b a.tmps)=true then Oper.wp Tryz.prog o a w K Q else E:=by
 have g:Region.wanted o (yielded b a.tmps)=true:=by simp[Region.wanted,f]
 rw[if_pos g];unfold Oper.wp;simp[execOp,c,resolve,invoke,builtin,hs,hx,ht,hrun,Result.andThen];exact hK
theorem qcz{c:Array Oper}{o:Oper}{a:Act}{w:World}{K:Act->World->Prop}{Q:Exit->Act->World->Prop}{E:Prop}(h:o.guard=none)(f:FuncId)(args:Array Value)(v:Value)(b:(execOp a.eval o).run Tryz.prog w=.ok (.enter f args) w)(g:Calls Tryz.prog f args w fun e k=>e=.returned v/\k=w)(d:K (a.put o.dst v) w):
  if Region.wanted o (yielded c a.tmps)=true then Oper.wp Tryz.prog o a w K Q else E:=by
 have j:Region.wanted o (yielded c a.tmps)=true:=by simp[Region.wanted,h]
 rw[if_pos j];unfold Oper.wp;rw[b,Oper.upon_enter]
 refine g.mono fun e l i=>?_
 obtain⟨rfl,rfl⟩:=i;exact d
theorem qk(w:World):Below w.heap.size w w.drew:=⟨rfl,rfl,rfl,Nat.le_refl _,fun _ _=>rfl⟩
theorem qpn{S:Sp}{c:List Int}{fd:List Bool}{i:Nat}{z:Int}(h:Zero S c fd)(k:z≠0):Zero S (c.set i z) fd:=by
 intro j r x d g f a;rw[List.getElem?_set]at a
 by_cases b:i=j
 ·subst b;rw[if_pos rfl]at a
  split at a
  ·cases a;exact absurd rfl k
  ·cases a
 ·rw[if_neg b]at a;exact h j r x d g f a
theorem qn7{S:Sp}{g:List Int}{fd a:List Bool}{i:Nat}{z:Int}{r:SR}{x:Nat}(h:Zero S g fd)(n:S.rs[i]?=some r)(m:r.l=(x:Int))(o:isF a x=true)(up:∀y,isF fd y=true->isF a y=true):Zero S (g.set i z) a:=by
 intro j q y k d c f
 by_cases b:i=j
 ·subst b;rw[n]at d
  cases d
  rw[m]at c
  have:x=y:=by omega
  subst this;exact o
 ·rw[List.getElem?_set,if_neg b]at f;exact up y (h j q y k d c f)
theorem qpo{S:Sp}{f:List Int}{fd:List Bool}{a:List Nat}{i:Nat}{r:SR}{x:Nat}{g:Nat->Nat}(k:Miss S f (prc fd a) g)(n:f[i]?=some 0)(b:0<i)(d:S.rs[i]?=some r)(j:r.l=(x:Int))(hd:yo S fd):Der S x:=by
 have c:=k i r b d;rw[n]at c;simp only[Option.some.injEq]at c
 have h:nU (prc fd a) r.r=0:=by omega
 refine Der.rule i r x b d j (fun y m=>hd y ?_);have:=qly.1 h y m;unfold prc at this;simp only[Bool.and_eq_true]at this;exact this.1
def LK (w W:World) (h:SHd) (S:Sp) (p:YP) (b4 gm:Nat) (vs:List (Option Addr × Nat)) (wt:List (List Nat)) (n:Nat) (fd:List Bool) (fr:List Nat) (l:List Nat) (k:Nat):Prop :=
 ∃va vc fd' fr' ms',YM w W h S p b4 gm va vc vs fd' fr' ms' wt/\ms'.length=S.rs.length/\Adds n fd fr fd' fr'/\Miss S ms' (prc fd fr) (fun j=>(l.drop k).count j)/\Zero S ms' fd'/\yo S fd'
theorem qla(w W:World)(h:SHd)(S:Sp)(p:YP)(s a:Nat)(A:List (Option Addr × Nat))(o:List (List Nat))(n x:Nat)(fd:List Bool)(C:List Nat)(l:List Nat)(y:LK w W h S p s a A o n fd C l 0)(I:WF S)(a4:IsSp w h S)(a0:n=S.tk+1+S.nt)(X:o[x]?=some l)(hw:∀i∈l,0<i/\i<S.rs.length)(hd:yo S fd)(a7:l.length<=100000):
  Calls Tryz.prog 78 #[.int .i64 (x:Int),.pointer (some ⟨p.b5,0,none⟩),.pointer (some ⟨s,0,none⟩),.pointer (some ⟨p.b3,0,none⟩),.pointer (some ⟨p.b1,0,none⟩)] W fun e W'=>e=.returned (.tuple #[])/\LK w W' h S p s a A o n fd C l l.length:=by
 have HY:Hid (LK w W h S p s a A o n fd C l 0):=y
 have d:Hid (WF S/\IsSp w h S/\n=S.tk+1+S.nt/\yo S fd/\o[x]?=some l):=⟨I,a4,a0,hd,X⟩
 have HW:Hid (∀i∈l,0<i/\i<S.rs.length):=hw;obtain⟨d9,f0,c7,c8,d6,y0,-⟩:=y;obtain⟨q,hq,c1,-⟩:=y0.yb.grd.at X
 have c0:W.cell? ⟨p.b5,0,none⟩=some (.slice (some ⟨p.wb,0,none⟩) o.length o.length):=by rw[qe y0.yb.bw];rfl
 have hx:x<o.length:=(List.getElem?_eq_some_iff.1 X).1;have HQ:Hid (A[x]?=some q):=hq;obtain⟨qa,qc⟩:=q;simp only at c1;have Y:=z8 (y0.yb.grd.row x _ l hq X);simp only at Y;have b0:S.rs.length<=300:=I.nr;clear y0 hq X hd a4 I hw a0;generalize o.length=wn at c0 hx
 obtain⟨m,HM⟩:∃m,Hid (l.length=m):=⟨_,rfl⟩
 rw[HM.out]at c1 a7 Y ⊢;go_enter Tryz.func78,Tryz.ntmps78;go_wp2_with fail
 go_loopg [13] m (fun kx s13 wr=>∃k:Nat,s13=.int .i64 k/\k<=m/\m - k<=kx/\Hid (LK w wr h S p s a A o n fd C l k))
 case atStart=>exact⟨0,rfl,Nat.zero_le _,by omega,HY⟩
 case round =>
  clear c0 c1 HY;obtain⟨k,rfl,hk,hg,J⟩:=hrel
  by_cases a8:k<m
  ·obtain⟨K,L,b,g,u,y,D,Q,hM,hZ,hD⟩:=J.out
   obtain⟨i,T⟩:∃i,l[k]?=some i:=⟨l[k]'(by rw[HM.out];exact a8),List.getElem?_eq_getElem _⟩
   obtain⟨F,U⟩:=HW.out i (List.mem_of_getElem? T)
   obtain⟨r,G⟩:∃r,S.rs[i]?=some r:=⟨S.rs[i],List.getElem?_eq_getElem U⟩
   obtain⟨xl,E,d0,b7⟩:=d.out.1.rl i r F G;obtain⟨z,hz,d4,b9,B⟩:=qnp T F G hM;have c9:r.r.length<=100:=(d.out.1.rr r (List.mem_of_getElem? G)).1;have f:=y.yb.grd.row x _ l HQ.out d.out.2.2.2.2;simp only at f;rw[HM.out]at f b9
   obtain⟨qg,rfl⟩:∃qg,qa=some ⟨qg,0,none⟩:=by
    obtain⟨ao,c,e,-,-,h6⟩:=zh f
    cases e
    rcases h6 with ⟨-,h6,-⟩ | h6
    ·omega
    ·exact h6
   have d1:wr.cell? ⟨qg,k,none⟩=some (.int .i64 (i:Int)):=by
    rw[f.cellAt k (by omega)];unfold natC;rw[List.getElem?_map,T];rfl
   have d2:wr.cell? ⟨s,0,none⟩=some (.slice (some ⟨a,0,none⟩) u.length u.length):=by rw[qe y.bi];rfl
   have d3:wr.cell? ⟨a,i,none⟩=some (.int .i64 z):=by
    rw[y.mis.cellAt i (by omega)];unfold intC;rw[List.getElem?_map,hz];rfl
   have f3:wr.frozen? ⟨a,i,none⟩=false:=y.mis.frozenAt i
   have Z:i<u.length:=by omega
   have M:∀v:Int,(wr.setCell ⟨a,i,none⟩ (.int .i64 v)).cell? ⟨s,0,none⟩=some (.slice (some ⟨a,0,none⟩) u.length u.length):=fun v=>by
    have t:YM w (wr.setCell ⟨a,i,none⟩ (.int .i64 v)) h S p s a K L A b g (u.set i v) o:=y.put;rw[qe t.bi,List.length_set];rfl
   have E3:∀v:Int,(wr.setCell ⟨a,i,none⟩ (.int .i64 v)).cell? ⟨a,i,none⟩=some (.int .i64 v):=fun v=>by
    have t:YM w (wr.setCell ⟨a,i,none⟩ (.int .i64 v)) h S p s a K L A b g (u.set i v) o:=y.put;rw[t.mis.cellAt i (by rw[List.length_set];omega)]
    unfold intC;rw[List.getElem?_map,List.getElem?_set_self Z];rfl
   rw[D]at d2 M
   have V:(i:Int)<(S.rs.length:Int):=by omega
   have c5:(k:Int)<(m:Int):=by omega
   by_cases b8:z=1
   ·subst b8;have e2:=M 0;have e3:=E3 0;have t:YM w (wr.setCell ⟨a,i,none⟩ (.int .i64 0)) h S p s a K L A b g (u.set i 0) o:=y.put;have B:Miss S (u.set i 0) (prc fd C) (fun j=>(l.drop (k+1)).count j):=B;obtain⟨rb,ro,d7,d8,H,g0,-,-,-,-⟩:=(d.out.2.1.rl.below t.yb.bel).at G;obtain⟨-,-,-,-,-,-,-,g7⟩:=sbox t.yb.bs;rw[H]at g7;rw[E]at g0
    have g3:(wr.setCell ⟨a,i,none⟩ (.int .i64 0)).cell? ⟨p.b3,0,none⟩=some (.pointer (some ⟨p.mb,0,none⟩)):=by rw[qe t.yb.bm];rfl
    have b2:=j6 d.out.2.1.rl;have P:Hid (YM w (wr.setCell ⟨a,i,none⟩ (.int .i64 0)) h S p s a K L A b g (u.set i 0) o):=t
    have O:Hid (xl<n/\n<=1000/\MK n b g/\r.l=(xl:Int)/\S.rs[i]?=some r/\(u.set i 0)[i]?=some 0):=⟨by rw[d.out.2.2.1];exact b7,by rw[d.out.2.2.1];have:=d.out.1.tk;have:=d.out.1.nt;omega,Q.ok,E,G,by rw[List.getElem?_set_self Z]⟩
    have HS:Hid (u.length=S.rs.length/\Adds n fd C b g/\Miss S (u.set i 0) (prc fd C) (fun j=>(l.drop (k+1)).count j)/\Zero S u b/\yo S b/\0<i):=⟨D,Q,B,hZ,hD,F⟩
    have c6:Hid (h.ra=some ⟨rb,ro,none⟩):=H;clear y t D Q hM B hZ hD f T G E hz J H M E3
    obtain⟨rn,a5⟩:∃rn,Hid (S.rs.length=rn):=⟨_,rfl⟩
    rw[a5.out]at b0 U d2 V e2 g7 b2
    generalize h.rc=rc at *
    go_upto_region 5 with fail
    generalize wr.setCell ⟨a,i,none⟩ (.int .i64 0)=W1 at *
    clear e2 e3 d1 d2 d3 f3
    have HC:Hid (Calls Tryz.prog 68 #[.pointer (some ⟨p.mb,0,none⟩),.int .i64 (xl:Int)] W1.drew fun e W'=>e=.returned (.tuple #[])/\LK w W' h S p s a A o n fd C l (k+1)):=by
     have t:=P.out.below (qk W1);refine(j7 _ w.heap.size p.mb p.fb L n xl K b g t.yb.mrk O.out.2.2.1 O.out.1 O.out.2.1 t.yb.bel.size).mono ?_;rintro e W2 ⟨rfl,c3,c4,a9,b6⟩;obtain⟨s1,s2,s3,s4,s5,s6⟩:=HS.out;obtain⟨t1,t2,t3,t4,t5,t6⟩:=O.out;obtain⟨a1,a2,a3⟩:=y9 t3 t1;have a6:Der S xl:=qpo s3 t6 s6 t5 t4 d.out.2.2.2.1;refine⟨rfl,c3,c4,_,_,_,t.mark a9 b6,by rw[List.length_set];exact s1,s2.trans a1,s3,qn7 s4 t5 t4 a2 a1.up,fun z hz=>?_⟩
     rcases a3 z hz with e | e
     ·exact s5 z e
     ·subst e;exact a6
    clear P O HS
    go_region_with(go_at_call 68;refine HC.out.mono ?_;rintro e W2 ⟨rfl,R⟩)
    all_goals
     have N:Hid (LK w W2 h S p s a A o n fd C l (k+1)):=R;clear R;go_wp2_with fail;go_roundg (m - (k+1))
     case measure=>omega
     case rel=>exact⟨k+1,by simp,by omega,Nat.le_refl _,N⟩
   ·have e2:=M (z - 1);have e3:=E3 (z - 1);have t:YM w (wr.setCell ⟨a,i,none⟩ (.int .i64 (z - 1))) h S p s a K L A b g (u.set i (z - 1)) o:=y.put
    have N:Hid (LK w (wr.setCell ⟨a,i,none⟩ (.int .i64 (z - 1))) h S p s a A o n fd C l (k+1)):=⟨K,L,b,g,_,t,by rw[List.length_set];exact D,Q,B,qpn hZ (by omega),hD⟩
    have d5:(z - 1 == 0)=false:=by
     have:z - 1≠0:=by omega
     simpa using this
    clear y t D Q hM B hZ hD f T G E hz J M E3
    generalize S.rs.length=rn at *
    go_wp2_with fail;go_roundg (m - (k+1))
    case measure=>omega
    case rel=>exact⟨k+1,by simp,by omega,Nat.le_refl _,N⟩
  ·have N:Hid (LK w wr h S p s a A o n fd C l m):=by
    have:k=m:=by omega
    subst this;exact J.out
   clear J;go_wp2_with fail;go_end0;exact⟨rfl,N.out⟩
def LR (w W:World) (h:SHd) (S:Sp) (p:YP) (vs:List (Option Addr × Nat)) (wt:List (List Nat)) (n:Nat) (fd:List Bool) (fr:List Nat) (l:List Nat) (k:Nat):Prop :=
 ∃va vc fd' fr',YB w W h S p va vc vs fd' fr' wt/\Adds n fd fr fd' fr'/\qd7 S fd'/\∀(j i:Nat) (r:SR) (y:Nat),j<k->l[j]?=some i->S.rs[i]?=some r->y∈r.r->isF fd' y=true
def LR2 (w W:World) (h:SHd) (S:Sp) (p:YP) (vs:List (Option Addr × Nat)) (wt:List (List Nat)) (n:Nat) (fd:List Bool) (fr:List Nat) (l:List Nat) (k:Nat) (r:SR) (k2:Nat):Prop :=
 ∃va vc fd' fr',YB w W h S p va vc vs fd' fr' wt/\Adds n fd fr fd' fr'/\qd7 S fd'/\(∀(j i:Nat) (r:SR) (y:Nat),j<k->l[j]?=some i->S.rs[i]?=some r->y∈r.r->isF fd' y=true)/\∀(j y:Nat),j<k2->r.r[j]?=some y->isF fd' y=true
theorem LR.open{w W:World}{h:SHd}{S:Sp}{p:YP}{d:List (Option Addr × Nat)}{f:List (List Nat)}{n:Nat}{fd:List Bool}{c:List Nat}{l:List Nat}{k:Nat}(y:LR w W h S p d f n fd c l k)(r:SR):LR2 w W h S p d f n fd c l k r 0:=by
 obtain⟨s,t,a,b,g,i,m,o⟩:=y;exact⟨s,t,a,b,g,i,m,o,fun j y q=>absurd q (Nat.not_lt_zero _)⟩
theorem LR2.shut{w W:World}{h:SHd}{S:Sp}{p:YP}{q:List (Option Addr × Nat)}{s:List (List Nat)}{n:Nat}{fd:List Bool}{f:List Nat}{l:List Nat}{k i:Nat}{r:SR}(y:LR2 w W h S p q s n fd f l k r r.r.length)(A:l[k]?=some i)(B:S.rs[i]?=some r):LR w W h S p q s n fd f l (k+1):=by
 obtain⟨E,F,c,d,t,u,v,x,z⟩:=y;refine⟨E,F,c,d,t,u,v,fun j C D y G a b o=>?_⟩
 rcases Nat.lt_or_ge j k with h | h
 ·exact x j C D y h a b o
 ·have:j=k:=by omega
  subst this;rw[A]at a
  cases a
  rw[B]at b
  cases b
  obtain⟨m,g⟩:=List.getElem?_of_mem o;exact z m y (List.getElem?_eq_some_iff.1 g).1 g
theorem LR2.below{w W c:World}{h:SHd}{S:Sp}{p:YP}{g:List (Option Addr × Nat)}{i:List (List Nat)}{n:Nat}{fd:List Bool}{d:List Nat}{l:List Nat}{k f:Nat}{r:SR}(y:LR2 w W h S p g i n fd d l k r f)(o:Below W.heap.size W c):LR2 w c h S p g i n fd d l k r f:=by
 obtain⟨q,s,a,b,j,m⟩:=y;exact⟨q,s,a,b,j.below o,m⟩
theorem LR2.mark{w W:World}{h:SHd}{S:Sp}{p:YP}{B:List (Option Addr × Nat)}{C:List (List Nat)}{n:Nat}{fd:List Bool}{A:List Nat}{l:List Nat}{k b z:Nat}{r:SR}(y:LR2 w W h S p B C n fd A l k r b)(L:r.r[b]?=some z)(a:z<n)(J:n<=1000)(t:Rch S z):
  Calls Tryz.prog 68 #[.pointer (some ⟨p.mb,0,none⟩),.int .i64 (z:Int)] W fun e D=>e=.returned (.tuple #[])/\LR2 w D h S p B C n fd A l k r (b+1):=by
 obtain⟨Q,R,d,f,g,m,G,H,I⟩:=y;refine(j7 W w.heap.size p.mb p.fb R n z Q d f g.mrk m.ok a J g.bel.size).mono ?_;rintro e T ⟨rfl,v,x,o,q⟩;obtain⟨c,E,F⟩:=y9 m.ok a;refine⟨rfl,v,x,_,_,g.mark o q,m.trans c,fun u K=>?_,fun j i r y M N O P=>c.up y (H j i r y M N O P),fun j y U s=>?_⟩
 ·rcases F u K with e | e
  ·exact G u e
  ·subst e;exact t
 ·rcases Nat.lt_or_ge j b with h | h
  ·exact c.up y (I j y h s)
  ·have:j=b:=by omega
   subst this;rw[L]at s
   cases s
   exact E
theorem qlb(w W:World)(h:SHd)(S:Sp)(p:YP)(o:List (Option Addr × Nat))(b:List (List Nat))(n x:Nat)(fd:List Bool)(s:List Nat)(l:List Nat)(y:LR w W h S p o b n fd s l 0)(g:WF S)(Q:IsSp w h S)(B:n=S.tk+1+S.nt)(L:b[x]?=some l)(hw:∀i∈l,0<i/\∃r,S.rs[i]?=some r/\r.l=(x:Int))(hd:Rch S x)(a8:l.length<=100000):
  Calls Tryz.prog 70 #[.int .i64 (x:Int),.pointer (some ⟨p.b5,0,none⟩),.pointer (some ⟨p.b1,0,none⟩),.pointer (some ⟨p.b3,0,none⟩)] W fun e W'=>e=.returned (.tuple #[])/\LR w W' h S p o b n fd s l l.length:=by
 have HY:Hid (LR w W h S p o b n fd s l 0):=y
 have f:Hid (WF S/\IsSp w h S/\n=S.tk+1+S.nt/\Rch S x/\b[x]?=some l):=⟨g,Q,B,hd,L⟩
 have HW:Hid (∀i∈l,0<i/\∃r,S.rs[i]?=some r/\r.l=(x:Int)):=hw;obtain⟨d3,d6,c3,c6,Z,-⟩:=y;obtain⟨q,hq,c1,-⟩:=Z.grd.at L
 have c0:W.cell? ⟨p.b5,0,none⟩=some (.slice (some ⟨p.wb,0,none⟩) b.length b.length):=by rw[qe Z.bw];rfl
 have hx:x<b.length:=(List.getElem?_eq_some_iff.1 L).1;have HQ:Hid (o[x]?=some q):=hq;obtain⟨qa,qc⟩:=q;simp only at c1;have M:=z8 (Z.grd.row x _ l hq L);simp only at M;have b0:S.rs.length<=300:=g.nr
 have HN:Hid (n<=1000):=by
  have h1:=g.tk;have h2:=g.nt;show n<=1000;omega
 have a0:Hid (∀(V:World) (z:Nat),z<n->Calls Tryz.prog 67 #[.agg (sC h S),.int .i64 (z:Int)] V fun e w'=>e=.returned (.bool true)/\Below V.heap.size V w'):=fun V z u=>qaa h S V n z (by rw[B];exact g.szs) u
 clear Z hq L hd Q g hw B;generalize b.length=wn at c0 hx
 obtain⟨m,HM⟩:∃m,Hid (l.length=m):=⟨_,rfl⟩
 rw[HM.out]at c1 a8 M ⊢;go_enter Tryz.func70,Tryz.ntmps70;go_wp2_with fail
 go_loopg [14] m (fun kx s14 wr=>∃k:Nat,s14=.int .i64 k/\k<=m/\m - k<=kx/\Hid (LR w wr h S p o b n fd s l k))
 case atStart=>exact⟨0,rfl,Nat.zero_le _,by omega,HY⟩
 case round =>
  clear c0 c1 HY;obtain⟨k,rfl,hk,hg,J⟩:=hrel
  by_cases a9:k<m
  ·obtain⟨va,vc,a4,a5,y,-⟩:=J.out
   obtain⟨i,Y⟩:∃i,l[k]?=some i:=⟨l[k]'(by rw[HM.out];exact a9),List.getElem?_eq_getElem _⟩
   obtain⟨a6,r,C,P⟩:=HW.out i (List.mem_of_getElem? Y);have a7:i<S.rs.length:=(List.getElem?_eq_some_iff.1 C).1;have b4:r.r.length<=100:=(f.out.1.rr r (List.mem_of_getElem? C)).1;have a:=y.grd.row x _ l HQ.out f.out.2.2.2.2;simp only at a;rw[HM.out]at a
   obtain⟨qg,rfl⟩:∃qg,qa=some ⟨qg,0,none⟩:=by
    obtain⟨ao,c,e,-,-,X⟩:=zh a
    cases e
    rcases X with ⟨-,X,-⟩ | X
    ·omega
    ·exact X
   have d1:wr.cell? ⟨qg,k,none⟩=some (.int .i64 (i:Int)):=by
    rw[a.cellAt k (by omega)];unfold natC;rw[List.getElem?_map,Y];rfl
   obtain⟨rb,ro,xa,xc,D,-,G,-,-,E⟩:=f.out.2.1.rl.at C;have g1:=qj y.bel G;obtain⟨-,-,-,-,-,-,-,U⟩:=sbox y.bs;rw[D]at U;have O:=j6 f.out.2.1.rl;have b7:=ze E;have a2:Hid (Row w 1 xa r.r.length xc (natC r.r)):=E
   have HR:Hid (l[k]?=some i/\S.rs[i]?=some r/\∀z∈r.r,z<n/\Rch S z):=⟨Y,C,fun z u=>⟨by rw[f.out.2.2.1];exact(f.out.1.rr r (List.mem_of_getElem? C)).2 z u,Rch.rule i r x z a6 C P f.out.2.2.2.1 u⟩⟩
   have F:Hid (LR2 w wr h S p o b n fd s l k r 0):=J.out.open r;have a3:Hid (YB w wr h S p va vc o a4 a5 b):=y;have b9:Hid (h.ra=some ⟨rb,ro,none⟩):=D
   have K:(i:Int)<(S.rs.length:Int):=by omega
   have b8:(k:Int)<(m:Int):=by omega
   clear y J a Y C P D E G;generalize S.rs.length=rn at b0 a7 U O K;generalize h.rc=rc at U O
   obtain⟨t,v⟩:∃t,Hid (r.r.length=t):=⟨_,rfl⟩
   rw[v.out]at b4 b7 g1
   obtain⟨wo,d2⟩:∃wo,wo=wr:=⟨_,rfl⟩
   subst wr;go_wp2_with fail;clear d1 g1 U
   go_loopg [25] t (fun kx s25 wr=>∃d:Nat,s25=.int .i64 d/\d<=t/\t - d<=kx/\Hid (LR2 w wr h S p o b n fd s l k r d))
   case atStart=>exact⟨0,rfl,Nat.zero_le _,by omega,F⟩
   case round =>
    clear F a3;obtain⟨d,rfl,d0,c9,J⟩:=hrel
    by_cases N:d<t
    ·have A:(d:Int)<(t:Int):=by omega
     obtain⟨z,u⟩:∃z,r.r[d]?=some z:=⟨r.r[d]'(by rw[v.out];exact N),List.getElem?_eq_getElem _⟩
     obtain⟨d4,d7,c4,c7,y,-⟩:=J.out;obtain⟨b2,o2,b6,q1⟩:=vj (a2.out.below y.bel) u;subst b6;obtain⟨R,T⟩:=HR.out.2.2 z (List.mem_of_getElem? u);obtain⟨s0,s1,s2,s3,s4,s5,s6,s7⟩:=sbox y.bs
     have HZ:Hid (r.r[d]?=some z/\z<n/\Rch S z):=⟨u,R,T⟩
     have HC:Hid (Calls Tryz.prog 67 #[.agg (sC h S),.int .i64 (z:Int)] wr fun e w'=>e=.returned (.bool true)/\Below wr.heap.size wr w'):=a0.out wr z R;unfold sC at HC;clear y u T;go_wp2_with fail;refine HC.out.mono ?_;rintro e V ⟨rfl,H⟩;have JV:Hid (LR2 w V h S p o b n fd s l k r d):=J.out.below H;obtain⟨d5,d8,c5,c8,y3,-⟩:=JV.out
     have t3:V.cell? ⟨p.b3,0,none⟩=some (.pointer (some ⟨p.mb,0,none⟩)):=by rw[qe y3.bm];rfl
     clear y3 H HC J s0 s1 s2 s3 s4 s5 s6 s7 q1;go_wp2_with fail;refine(JV.out.mark HZ.out.1 HZ.out.2.1 HN.out HZ.out.2.2).mono ?_;rintro e V2 ⟨rfl,I⟩;have a1:Hid (LR2 w V2 h S p o b n fd s l k r (d+1)):=I;clear I JV t3;go_wp2_with fail;go_roundg (t - (d+1))
     case measure=>omega
     case rel=>exact⟨d+1,by simp,by omega,Nat.le_refl _,a1⟩
    ·have A:¬(d:Int)<(t:Int):=by omega
     have HF:Hid (LR w wr h S p o b n fd s l (k+1)):=by
      have:d=t:=by omega
      subst this;have j:=J.out;rw[<-v.out]at j;exact j.shut HR.out.1 HR.out.2.1
     clear J;go_wp2_with fail;go_roundg (m - (k+1))
     case measure=>omega
     case rel=>exact⟨k+1,by simp,by omega,Nat.le_refl _,HF⟩
  ·have HF:Hid (LR w wr h S p o b n fd s l m):=by
    have:k=m:=by omega
    subst this;exact J.out
   clear J;go_wp2_with fail;go_end0;exact⟨rfl,HF.out⟩
theorem Grd.new{W:World}{a g n:Nat}(h:W.ownsRow a 26 1 (.slice (some ⟨g,0,none⟩) n n) n (List.replicate n (.slice none 0 0))):Grd W a g (List.replicate n (none,0)) (List.replicate n []):=by
 refine⟨by simp,?_,?_,?_⟩
 ·rw[List.length_replicate]
  have e:grC (List.replicate n (none,0)) (List.replicate n [])=List.replicate n (.slice none 0 0):=by
   unfold grC;rw[List.zip_replicate,List.map_replicate,Nat.min_self];rfl
  rw[e];exact h
 ·intro x p l c i;have b:=List.mem_of_getElem? c;have d:=List.mem_of_getElem? i;rw[List.mem_replicate]at b d;rw[b.2,d.2];exact World.ownsRow_nil _ _ _ _
 ·intro x y p q k _ c _ f;have b:=List.mem_of_getElem? c;rw[List.mem_replicate]at b;rw[b.2]at f
  cases f
theorem qgl{n k:Nat}(h:GR (List.replicate n (none,0)) k):False:=by
 obtain⟨x,p,c,b⟩:=h;have a:=List.mem_of_getElem? c;rw[List.mem_replicate]at a;rw[a.2]at b
 cases b
theorem Mrk.mono{W:World}{b a g d j:Nat}{i:Option Addr}{fd:List Bool}{f:List Nat}(h:Mrk W b g d i j fd f)(c:a<=b):Mrk W a g d i j fd f :=
 ⟨h.box,zd h.fnd c,zd h.frs c,Nat.le_trans c h.new⟩
theorem qn8(V:World)(a n:Nat)(p:n<=1000)(h:a<=V.heap.size):∃b,(Instr.makeSlice 26 (.int .i64 (n:Int)) (.int .i64 (n:Int))).run Tryz.prog V=.ok (.slice (some ⟨V.heap.size,0,none⟩) n n) b/\b.ownsRow a 3 1 (.slice (some ⟨V.heap.size,0,none⟩) n n) n (intC (List.replicate n 0))/\Below V.heap.size V b:=by
 obtain⟨o,j,c,d,f⟩:=info_parts i3;obtain⟨w1,m,g,i⟩:=run_make_full (P:=Tryz.prog) V a 26 3 o _ 1 u29 j c d .i64 .i64 n (by rw[f];omega) (by unfold maxLen;omega) h
 have e:(madeCells (Value.int .i64 0).cells (n * 1)).toList=intC (List.replicate n 0):=by
  have e:(Value.int .i64 0).cells=#[.int .i64 0]:=rfl;rw[Nat.mul_one,e,toList_madeCells_one];unfold intC;rw[List.map_replicate]
 rw[e]at g;exact⟨w1,m,g,(Below.refl V.heap.size V).grown i (Nat.le_refl _) (fun k l=>by cases l)⟩
theorem qcj(V:World)(a n:Nat)(p:n<=1000)(h:a<=V.heap.size):∃b,(Instr.makeSlice 38 (.int .i64 (n:Int)) (.int .i64 (n:Int))).run Tryz.prog V=.ok (.slice (some ⟨V.heap.size,0,none⟩) n n) b/\Grd b a V.heap.size (List.replicate n (none,0)) (List.replicate n [])/\Below V.heap.size V b:=by
 obtain⟨o,j,c,d,f⟩:=info_parts i29;obtain⟨w1,m,g,i⟩:=run_make_full (P:=Tryz.prog) V a 38 26 o _ 1 u39 j c d .i64 .i64 n (by rw[f];omega) (by unfold maxLen;omega) h
 have e:(madeCells (Value.slice none 0 0).cells (n * 1)).toList=List.replicate n (.slice none 0 0):=by
  have e:(Value.slice none 0 0).cells=#[.slice none 0 0]:=rfl;rw[Nat.mul_one,e,toList_madeCells_one]
 rw[e]at g;exact⟨w1,m,Grd.new g,(Below.refl V.heap.size V).grown i (Nat.le_refl _) (fun k l=>by cases l)⟩
def rgt (S:Sp) (j:Nat):List Nat:=((S.rs[j]?).map (·.r)).getD []
theorem qj4{S:Sp}{j:Nat}{r:SR}(h:S.rs[j]?=some r):rgt S j=r.r:=by unfold rgt;rw[h];rfl
def cnt (S:Sp) (i k j x:Nat):Nat:=if 0<j/\j<i then (rgt S j).count x else if 0<j/\j=i then ((rgt S j).take k).count x else 0
def WtsK (S:Sp) (i k:Nat) (wt:List (List Nat)):Prop:=∀(x:Nat) (l:List Nat),wt[x]?=some l->∀j,l.count j=cnt S i k j x
theorem qn9(S:Sp)(n k:Nat):WtsK S 0 k (List.replicate n []):=by
 intro x l b j;have a:=List.mem_of_getElem? b;rw[List.mem_replicate]at a;rw[a.2];unfold cnt;rw[if_neg (by omega),if_neg (by omega)];rfl
theorem qoa{S:Sp}{a:List (List Nat)}(h:WtsK S 0 0 a):WtsK S 1 0 a:=by
 intro x l b j;rw[h x l b j];unfold cnt;rw[if_neg (by omega),if_neg (by omega),if_neg (by omega)]
 split
 ·simp
 ·rfl
theorem qob{S:Sp}{i k:Nat}{b:List (List Nat)}(h:WtsK S i k b)(f:(rgt S i).length<=k):WtsK S (i+1) 0 b:=by
 intro x l g j;rw[h x l g j];unfold cnt
 by_cases a:0<j
 ·by_cases c:j<i
  ·rw[if_pos ⟨a,c⟩,if_pos ⟨a,by omega⟩]
  ·rw[if_neg (by omega)]
   by_cases d:j=i
   ·subst d;rw[if_pos ⟨a,rfl⟩,if_pos ⟨a,by omega⟩,List.take_of_length_le f]
   ·rw[if_neg (by omega),if_neg (by omega)]
    split
    ·simp
    ·rfl
 ·rw[if_neg (by omega),if_neg (by omega),if_neg (by omega),if_neg (by omega)]
theorem qoc{S:Sp}{i k x:Nat}{d:List (List Nat)}{l:List Nat}(h:WtsK S i k d)(r:0<i)(q:(rgt S i)[k]?=some x)(p:d[x]?=some l):WtsK S i (k+1) (d.set x (l++[i])):=by
 intro y m b j;rw[List.getElem?_set]at b;have g:x<d.length:=(List.getElem?_eq_some_iff.1 p).1
 have step:∀y,cnt S i (k+1) j y=cnt S i k j y+if j=i/\x=y then 1 else 0:=by
  intro y;unfold cnt
  by_cases c:0<j/\j<i
  ·rw[if_pos c,if_pos c,if_neg (by omega),Nat.add_zero]
  ·rw[if_neg c,if_neg c]
   by_cases a:0<j/\j=i
   ·rw[if_pos a,if_pos a];obtain⟨-,rfl⟩:=a;rw[zn q,List.count_append]
    by_cases o:x=y
    ·subst o;simp
    ·simp[o]
   ·rw[if_neg a,if_neg a,if_neg (by omega)]
 rw[step y]
 by_cases n:x=y
 ·subst n;rw[if_pos rfl,if_pos g]at b
  cases b
  rw[List.count_append,h x l p j]
  by_cases f:j=i
  ·subst f;simp
  ·have:¬i=j:=fun e=>f e.symm
   simp[f,this]
 ·rw[if_neg n]at b;rw[h y m b j];simp[n]
theorem qpp{S:Sp}{d:List (List Nat)}(h:WtsK S S.rs.length 0 d):Wts S S.rs.length d:=by
 intro x l f j;rw[h x l f j];unfold cnt
 cases a:S.rs[j]? with
 | none =>
  have:¬j<S.rs.length:=by rw[List.getElem?_eq_none_iff]at a;omega
  rw[if_neg (by omega)]
  split
  ·simp
  ·rfl
 | some r =>
  simp only;rw[qj4 a];have c:j<S.rs.length:=(List.getElem?_eq_some_iff.1 a).1
  by_cases b:0<j
  ·rw[if_pos ⟨b,c⟩,if_pos ⟨b,c⟩]
  ·rw[if_neg (by omega),if_neg (by omega),if_neg (by omega)]
theorem qq3{S:Sp}{c:List (List Nat)}{x:Nat}{l:List Nat}(h:Wts S S.rs.length c)(f:c[x]?=some l):∀i∈l,0<i/\i<S.rs.length:=by
 intro i d;have a:0<l.count i:=List.count_pos_iff.2 d;rw[h x l f i]at a
 cases b:S.rs[i]? with
 | none=>rw[b]at a;simp at a
 | some r =>
  rw[b]at a;simp only at a
  split at a
  ·assumption
  ·omega
end Go.Proofs.YtngclmglmhiljaaGreatDoor
